/- What goes through the ascending lists of numbers. -/
import Derived.Test.YtljlkhaolfihjaaGreatDoorPgRa
import Derived.Test.YtljlkhaolfihjaaGreatDoorSpecR
import Derived.Test.YtljlkhaolfihjaaGreatDoorKitR
import Derived.Test.YtljlkhaolfihjaaGreatDoorPgP
namespace Go.Proofs.YtljlkhaolfihjaaGreatDoor
open Go.RowKit Go.Shelf

attribute [local go_sem] Oper.semAt_some

/-- All cells lie as they lay, but for one block. -/
structure CellsBut (n₀ : Nat) (G : Option Nat) (A C : World) : Prop where
  below : Below n₀ A C
  cells : ∀ (k : Nat) (c : Array Value) (t : TypeId) (fz : Nat × Nat), A.heap[k]? = some (.cells c t fz) → G ≠ some k → C.heap[k]? = some (.cells c t fz)
theorem CellsBut.refl (n₀ : Nat) (G : Option Nat) (A : World) : CellsBut n₀ G A A := ⟨Below.refl _ _, fun _ _ _ _ h _ => h⟩
theorem CellsBut.trans {n₀ : Nat} {G : Option Nat} {A C D : World} (h : CellsBut n₀ G A C) (k : CellsBut n₀ G C D) : CellsBut n₀ G A D := ⟨h.below.trans k.below, fun i c t fz hi hg => k.cells i c t fz (h.cells i c t fz hi hg) hg⟩
theorem CellsKept.but {n₀ : Nat} {A C : World} (h : CellsKept n₀ A C) (G : Option Nat) : CellsBut n₀ G A C := ⟨h.below, fun i c t fz hi _ => h.cells i c t fz hi⟩
theorem own_but {n₀ base n size : Nat} {e : TypeId} {G : Option Nat} {v : Value} {xs : List Value} {A C : World} (h : A.ownsRow base e size v n xs) (k : CellsBut n₀ G A C) (hG : ∀ g, v.ownBlock = some g → G ≠ some g) : C.ownsRow base e size v n xs := by
  refine ⟨h.1, ?_⟩
  rcases h.2 with h0 | ⟨g, cap, cur, rfl, hb, hg, h1, h2, h3, h4⟩
  · exact .inl h0
  · exact .inr ⟨g, cap, cur, rfl, hb, k.cells _ _ _ _ hg (hG g rfl), h1, h2, h3, h4⟩

/-- One number more has been appended, and the rest has been gone through. -/
theorem grow_step {n₀ base n : Nat} {e : TypeId} {v v' : Value} {xs : List Value} {y : Value} {o : Obj} {wr wn w1 : World} (hown : wr.ownsRow base e 1 v n xs) (hn : n₀ ≤ base) (hb : base ≤ wr.heap.size)
    (hgN : (wr.drew.alloc o).grownBy wn v.ownBlock) (hownK : wn.ownsRow base e 1 v n xs) (hblk : (∃ g cap, v = .slice (some ⟨g, 0, none⟩) n cap ∧ v' = .slice (some ⟨g, 0, none⟩) (n + 1) cap) ∨ ∃ g, v'.ownBlock = some g ∧ (wr.drew.alloc o).heap.size ≤ g)
    (hc : CellsBut n₀ v'.ownBlock wn w1) (ho1 : w1.ownsRow base e 1 v' (n + 1) (xs ++ [y])) : CellsBut n₀ v.ownBlock wr w1 ∧ w1.ownsRow base e 1 v n xs := by
  have hsz : (wr.drew.alloc o).heap.size = wr.heap.size + 1 := by simp
  have hne : ∀ k, k < wr.heap.size → v.ownBlock ≠ some k → v'.ownBlock ≠ some k := by
    intro k hk h1 h2
    rcases hblk with ⟨g, cap, rfl, rfl⟩ | ⟨g, h3, h4⟩
    · exact h1 h2
    · rw [h3] at h2
      have h5 : g = k := Option.some.inj h2
      omega
  constructor
  · refine ⟨?_, fun k c t fz hk hG => ?_⟩
    · refine Below.trans ?_ hc.below
      exact ((((Below.refl n₀ wr).drew).alloc (by simp; omega) o).grown hgN (by rw [hsz]; omega) fun k hk => Nat.le_trans hn (hown.lt k hk).1)
    · have hlt := (Array.getElem?_eq_some_iff.1 hk).1
      have h1 : (wr.drew.alloc o).heap[k]? = some (.cells c t fz) := (Below.heap_alloc wr.drew o k hlt).trans hk
      have h2 := (hgN.block k (by omega) (fun e => hG e.symm)).trans h1
      exact hc.cells _ _ _ _ h2 (hne k hlt hG)
  · rcases hblk with ⟨g, cap, rfl, rfl⟩ | ⟨g, h3, h4⟩
    · exact own_short ho1 (by have := hown.1; omega)
    · refine own_but hownK hc fun k hk e => ?_
      rw [h3] at e
      have h5 : g = k := Option.some.inj e
      have h6 := (hown.lt k hk).2
      omega

/-- What the closures of choices find in memory. -/
structure GrowW (Bs By Bn Bg l nn size : Nat) (W : World) : Prop where
  s : W.heap[Bs]? = some (.cells #[.int .i64 size] 3 (0, 0))
  y : W.heap[By]? = some (.cells #[.func (.yield l) #[] #[]] 57 (0, 0))
  n : W.heap[Bn]? = some (.cells #[.int .i64 nn] 3 (0, 0))
  g : W.heap[Bg]? = some (.cells #[.func (.func 92) #[] #[.pointer (some ⟨Bs, 0, none⟩), .pointer (some ⟨By, 0, none⟩), .pointer (some ⟨Bn, 0, none⟩), .pointer (some ⟨Bg, 0, none⟩)]] 151 (0, 0))
theorem GrowW.but {Bs By Bn Bg l nn size n₀ base : Nat} {G : Option Nat} {W W' : World} (h : GrowW Bs By Bn Bg l nn size W) (k : CellsBut n₀ G W W') (hG : ∀ g, G = some g → base ≤ g) (hb : Bs < base ∧ By < base ∧ Bn < base ∧ Bg < base) : GrowW Bs By Bn Bg l nn size W' := by
  refine ⟨k.cells _ _ _ _ h.s ?_, k.cells _ _ _ _ h.y ?_, k.cells _ _ _ _ h.n ?_, k.cells _ _ _ _ h.g ?_⟩ <;> (intro e; have := hG _ e; omega)

def GrowIY (n₀ N l : Nat) (J Jx : List (List Int) → World → Prop) : Prop :=
  ∀ m pre (v : Value) (x : List Int) W, W.ownsRow n₀ 3 1 v x.length (x.map (Value.int .i64)) → x.length ≤ 6 → J pre W → pre.length < N → YieldAt Fence.wide m Tryz.prog l #[v] W fun e W' =>
      (e = .returned (.bool true) ∧ J (pre ++ [x]) W' ∧ CellsKept n₀ W W') ∨ (e = .returned (.bool false) ∧ Jx (pre ++ [x]) W')
def GrowIPost (n₀ base : Nat) (J Jx : List (List Int) → World → Prop) (pre L : List (List Int)) (v : Value) (n : Nat) (ys : List Value) (W : World) (e : Ending) (W' : World) : Prop :=
  ∃ b : Bool, e = .returned (.bool b) ∧ (b = true → J (pre ++ L) W' ∧ CellsBut n₀ v.ownBlock W W' ∧ W'.ownsRow base 3 1 v n ys) ∧ (b = false → ∃ q, q <+: L ∧ Jx (pre ++ q) W')

set_option maxRecDepth 100000 in
set_option maxHeartbeats 1600000 in
theorem growI_base (l nn size Bs By Bn Bg n₀ B base N f : Nat) (J Jx : List (List Int) → World → Prop) (hY : GrowIY n₀ N l J Jx) (hJw : ∀ pre A C, J pre A → OwnStep B A C → J pre C) (hB : n₀ ≤ B) (hBb : B ≤ base) (hs : size ≤ 6)
    (xs : List Int) (v : Value) (pre : List (List Int)) (W : World) (hx : xs.length = size) (ho : W.ownsRow base 3 1 v xs.length (xs.map (Value.int .i64))) (hW : GrowW Bs By Bn Bg l nn size W) (hJ : J pre W) (hN : pre.length < N) (hbW : base ≤ W.heap.size) :
    Calls Tryz.prog 92 #[v, .int .i64 f, .pointer (some ⟨Bs, 0, none⟩), .pointer (some ⟨By, 0, none⟩), .pointer (some ⟨Bn, 0, none⟩), .pointer (some ⟨Bg, 0, none⟩)] W (GrowIPost n₀ base J Jx pre [xs] v xs.length (xs.map (Value.int .i64)) W) := by
  subst hx
  obtain ⟨c1, _⟩ := cells_at hW.s
  obtain ⟨c2, _⟩ := cells_at hW.y
  have c3 : W.drew.cell? ⟨By, 0, none⟩ = some (.func (.yield l) #[] #[]) := c2
  have hBy := (Array.getElem?_eq_some_iff.1 hW.y).1
  have QC := Lib.hid (clone_any base v xs.length xs W.drew rfl (by omega) ho)
  unfold ClonePost at QC
  have HYD : Hid (∀ v' W1, W1.ownsRow W.drew.heap.size 3 1 v' xs.length (xs.map (Value.int .i64)) → Below W.drew.heap.size W.drew W1 → ∃ fn tmps assign body, (Instr.yield l #[v']).run Tryz.prog W1 = .ok (.round l fn tmps assign body) W1 ∧
      RoundIn Fence.wide 9 Tryz.prog l fn tmps assign body W1 fun e W' => ∃ b : Bool, e = .returned (.bool b) ∧ (b = true → J (pre ++ [xs]) W' ∧ CellsBut n₀ v.ownBlock W W' ∧ W'.ownsRow base 3 1 v xs.length (xs.map (Value.int .i64))) ∧ (b = false → ∃ q, q <+: [xs] ∧ Jx (pre ++ q) W')) := Lib.hid fun v' W1 ho1 hb1 => by
    have hb2 : Below W.heap.size W W1 := ⟨hb1.os, hb1.tape, hb1.output, hb1.size, hb1.block⟩
    obtain ⟨fn, tmps, assign, body, hy, hR⟩ := hY 9 pre v' xs W1 (ho1.mono (by show n₀ ≤ W.heap.size; omega)) (by omega) (hJw _ _ _ hJ (OwnStep.of_below hb2 (by omega))) hN
    refine ⟨fn, tmps, assign, body, hy, RoundIn.mono hR ?_⟩
    rintro e W3 (⟨rfl, hJ3, hk3⟩ | ⟨rfl, hx3⟩)
    · have hk : CellsKept n₀ W W3 := (CellsKept.of_below hb2 (by omega)).trans hk3
      exact ⟨true, rfl, fun _ => ⟨hJ3, hk.but _, own_but ho (hk.but none) (fun g _ => by simp)⟩, fun h => (nomatch h)⟩
    · exact ⟨false, rfl, fun h => (nomatch h), fun _ => ⟨[xs], List.prefix_rfl, hx3⟩⟩
  unfold GrowIPost
  obtain ⟨A, c, rfl⟩ := own_form ho
  have hne : ((xs.length : Int) == (xs.length : Int)) = true := by simp
  have hmx : Tryz.prog.follows .mixedOrders = true := by kernel_rfl
  generalize xs.map (Value.int .i64) = ys at *
  generalize xs.length = sz at *
  clear hY hJ hW hJw ho
  refine (callsIn_wide (n := 10)).1 (callsIn_of_wp Tryz.func92 rfl trivial ?_ rfl)
  simp only [Tryz.ntmps92, List.size_toArray, List.length_cons, List.length_nil, Nat.reduceAdd, Nat.reduceSub, Array.replicate_succ, Array.replicate_zero, List.push_toArray, List.append_toArray, List.nil_append, List.cons_append]
  gi_wp2
  gi_region_with_o (first
    | (refine ⟨trivial, ?_⟩; refine (callsIn_wide.2 QC.out).mono ?_; rintro e w1 ⟨v', rfl, ho1, hb1⟩; obtain ⟨fn, tmps, asg, bd, hy, hR⟩ := HYD.out v' w1 ho1 hb1; have HR := Lib.hid hR; have c4 := (hb1.cell (p := ⟨By, 0, none⟩) hBy).trans c3; clear hR ho1 hb1)
    | (refine RoundIn.mono HR.out ?_; rintro e W3 ⟨b, rfl, hb3⟩)
    | fail "no")
  all_goals gi_wp2
  all_goals go_ret
  all_goals exact ⟨b, rfl, hb3⟩

theorem grow_own {Bs By Bn Bg l nn size B base n : Nat} {v : Value} {xs : List Value} {o : Obj} {wr wn : World} (h : GrowW Bs By Bn Bg l nn size wr) (hown : wr.ownsRow base 3 1 v n xs) (hB : B ≤ base) (hb : base ≤ wr.heap.size)
    (hgN : (wr.drew.alloc o).grownBy wn v.ownBlock) (hbx : Bs < base ∧ By < base ∧ Bn < base ∧ Bg < base) : GrowW Bs By Bn Bg l nn size wn ∧ OwnStep B wr wn ∧ base ≤ wn.heap.size := by
  have hsz : (wr.drew.alloc o).heap.size = wr.heap.size + 1 := by simp
  have hk : ∀ k, k < wr.heap.size → v.ownBlock ≠ some k → wn.heap[k]? = wr.heap[k]? := fun k hk hne =>
    (hgN.block k (by omega) (fun e => hne e.symm)).trans (Below.heap_alloc wr.drew o k hk)
  have hlo : ∀ k, k < base → v.ownBlock ≠ some k := fun k hk e => by have := (hown.lt k e).1; omega
  refine ⟨⟨(hk _ (by omega) (hlo _ hbx.1)).trans h.s, (hk _ (by omega) (hlo _ hbx.2.1)).trans h.y, (hk _ (by omega) (hlo _ hbx.2.2.1)).trans h.n, (hk _ (by omega) (hlo _ hbx.2.2.2)).trans h.g⟩, ⟨?_, fun k o' ho' hc => ?_⟩, ?_⟩
  · exact (((Below.refl B wr).drew).alloc (by simp; omega) o).grown hgN (by rw [hsz]; omega) fun k hk => Nat.le_trans hB (hown.lt k hk).1
  · refine (hk k (Array.getElem?_eq_some_iff.1 ho').1 fun e => ?_).trans ho'
    rcases hown.2 with ⟨rfl, _⟩ | ⟨g, cap, cur, rfl, _, hg, _⟩
    · cases e
    · have e2 : g = k := Option.some.inj e
      subst e2
      rw [ho'] at hg
      cases hg
      cases hc
  · have := hgN.size
    omega

set_option maxRecDepth 100000 in
set_option maxHeartbeats 6400000 in
theorem growI_any (l nn size Bs By Bn Bg n₀ B base N : Nat) (J Jx : List (List Int) → World → Prop) (hY : GrowIY n₀ N l J Jx) (hJw : ∀ pre A C, J pre A → OwnStep B A C → J pre C) (hB : n₀ ≤ B) (hBb : B ≤ base) (hs : size ≤ 6) (hnn : nn ≤ 6)
    (hbx : Bs < base ∧ By < base ∧ Bn < base ∧ Bg < base) :
    ∀ (d f : Nat) (xs : List Int) (v : Value) (pre : List (List Int)) (W : World), xs.length + d = size → f ≤ nn → W.ownsRow base 3 1 v xs.length (xs.map (Value.int .i64)) → GrowW Bs By Bn Bg l nn size W → J pre W → pre.length + (growI nn d xs f).length ≤ N → base ≤ W.heap.size →
    Calls Tryz.prog 92 #[v, .int .i64 f, .pointer (some ⟨Bs, 0, none⟩), .pointer (some ⟨By, 0, none⟩), .pointer (some ⟨Bn, 0, none⟩), .pointer (some ⟨Bg, 0, none⟩)] W (GrowIPost n₀ base J Jx pre (growI nn d xs f) v xs.length (xs.map (Value.int .i64)) W) := by
  obtain ⟨si, hi, hz0, hz1, hz2⟩ := info_parts infoInt
  intro d
  induction d with
  | zero =>
    intro f xs v pre W h1 h2 ho hW hJ hN hbW
    have h9 : (growI nn 0 xs f).length = 1 := rfl
    exact growI_base l nn size Bs By Bn Bg n₀ B base N f J Jx hY hJw hB hBb hs xs v pre W (by omega) ho hW hJ (by omega) hbW
  | succ d ih =>
    intro f xs v pre W h1 h2 ho hW hJ hN hbW
    have hne : ((xs.length : Int) == (size : Int)) = false := by rw [beq_eq_false_iff_ne]; omega
    obtain ⟨c1, _⟩ := cells_at hW.s
    have QI : Hid (∀ (j : Nat) (V : Value) (wn : World), f + j < nn → wn.ownsRow base 3 1 V (xs.length + 1) (xs.map (Value.int .i64) ++ [.int .i64 ((f + j : Nat) : Int)]) → GrowW Bs By Bn Bg l nn size wn → J (pre ++ growTo nn d xs f j) wn → base ≤ wn.heap.size →
        Calls Tryz.prog 92 #[V, .int .i64 (((f + j : Nat) : Int) + 1), .pointer (some ⟨Bs, 0, none⟩), .pointer (some ⟨By, 0, none⟩), .pointer (some ⟨Bn, 0, none⟩), .pointer (some ⟨Bg, 0, none⟩)] wn
          fun e w' => ∃ b : Bool, e = .returned (.bool b) ∧ (b = true → J (pre ++ growTo nn d xs f (j + 1)) w' ∧ CellsBut n₀ V.ownBlock wn w' ∧ w'.ownsRow base 3 1 V (xs.length + 1) (xs.map (Value.int .i64) ++ [.int .i64 ((f + j : Nat) : Int)])) ∧ (b = false → ∃ q, q <+: growI nn (d + 1) xs f ∧ Jx (pre ++ q) w')) := Lib.hid fun j V wn hj hoV hwn hJn hbn => by
      have e1 : (xs ++ [((f + j : Nat) : Int)]).length = xs.length + 1 := by simp
      have e2 : (xs ++ [((f + j : Nat) : Int)]).map (Value.int .i64) = xs.map (Value.int .i64) ++ [.int .i64 ((f + j : Nat) : Int)] := by simp
      have hst := growTo_succ nn d xs f j
      have hpr : growTo nn d xs f (j + 1) <+: growI nn (d + 1) xs f := by rw [← growTo_all]; exact growTo_pre nn d xs f (by omega)
      have q := ih (f + j + 1) (xs ++ [((f + j : Nat) : Int)]) V (pre ++ growTo nn d xs f j) wn (by rw [e1]; omega) (by omega) (by rw [e1, e2]; exact hoV) hwn hJn (by
        have h3 := hpr.length_le
        rw [hst, List.length_append] at h3
        rw [List.length_append]
        omega) hbn
      unfold GrowIPost at q
      rw [e1, e2, show ((f + j + 1 : Nat) : Int) = ((f + j : Nat) : Int) + 1 from by omega] at q
      refine q.mono ?_
      rintro e w' ⟨b, rfl, h3, h4⟩
      refine ⟨b, rfl, fun hb => ?_, fun hb => ?_⟩
      · obtain ⟨h5, h6, h7⟩ := h3 hb
        exact ⟨by rw [hst, ← List.append_assoc]; exact h5, h6, h7⟩
      · obtain ⟨q, hq, hx⟩ := h4 hb
        refine ⟨growTo nn d xs f j ++ q, ?_, by rw [← List.append_assoc]; exact hx⟩
        refine List.IsPrefix.trans ?_ hpr
        rw [hst]
        exact (List.prefix_append_right_inj _).2 hq
    have hJ0 : J (pre ++ growTo nn d xs f 0) W := by simpa [growTo] using hJ
    have HJE : Hid (∀ w, J (pre ++ growTo nn d xs f (nn - f)) w → J (pre ++ growI nn (d + 1) xs f) w) := Lib.hid fun w h => by rw [← growTo_all]; exact h
    unfold GrowIPost
    have HX : Hid (∀ w, (∃ q, q <+: growI nn (d + 1) xs f ∧ Jx (pre ++ q) w) → ∃ q, q <+: growI nn (d + 1) xs f ∧ Jx (pre ++ q) w) := Lib.hid fun _ h => h
    generalize hPX : (fun w => ∃ q, q <+: growI nn (d + 1) xs f ∧ Jx (pre ++ q) w) = PX at *
    have hPX2 : ∀ w, (∃ q, q <+: growI nn (d + 1) xs f ∧ Jx (pre ++ q) w) = PX w := fun w => by rw [← hPX]
    simp only [hPX2] at QI HX ⊢
    generalize hPJ : (fun j => J (pre ++ growTo nn d xs f j)) = PJ at *
    have hPJ2 : ∀ j, J (pre ++ growTo nn d xs f j) = PJ j := fun j => by rw [← hPJ]
    simp only [hPJ2] at QI HJE hJ0
    have HJW : Hid (∀ j A C, PJ j A → OwnStep B A C → PJ j C) := Lib.hid fun j A C h k => by rw [← hPJ] at h ⊢; exact hJw _ _ _ h k
    generalize hPE : J (pre ++ growI nn (d + 1) xs f) = PE at *
    generalize xs.map (Value.int .i64) = ys at *
    generalize hn : xs.length = n at *
    have hn6 : n + 1 ≤ 6 := by omega
    have HW := Lib.hid hW
    have HO := Lib.hid ho
    have HJ0 := Lib.hid hJ0
    clear hPX hPX2 hPJ hPJ2 hPE hJ hJ0 hJw hY ih hN HX hW ho h1 hn
    obtain ⟨A, c, rfl⟩ := own_form HO.out
    go_enter Tryz.func92, Tryz.ntmps92
    go_wp2_with fail
    go_loopw [9] (fun i wr => ∃ j : Nat, j ≤ nn - f ∧ i = .int .i64 ((f + j : Nat) : Int) ∧ PJ j wr ∧ CellsBut n₀ (Value.slice A n c).ownBlock W wr ∧ wr.ownsRow base 3 1 (.slice A n c) n ys ∧ base ≤ wr.heap.size) (fun i _ => nn - (intOf i).toNat)
    case atStart => exact ⟨0, Nat.zero_le _, rfl, HJ0.out, CellsBut.refl _ _ _, HO.out, hbW⟩
    case round =>
      obtain ⟨j, hj, rfl, hJj, hkp, hor, hbr⟩ := hrel
      have hWr := HW.out.but (base := base) hkp (fun g hg => (HO.out.lt g hg).1) hbx
      obtain ⟨d1, _⟩ := cells_at hWr.n
      by_cases hlt : f + j < nn
      · obtain ⟨d2, _⟩ := cells_at hWr.g
        have QJ := Lib.hid (fun V wn => QI.out j V wn hlt)
        have hJW := HJW.out j
        have HJJ := Lib.hid hJj
        have HKP := Lib.hid hkp
        have HOR := Lib.hid hor
        have HWR := Lib.hid hWr
        have a0 : (f + j : Nat) ≤ 6 := by omega
        have hjj : j < nn - f := by omega
        have hmes : nn - (f + j + 1) < nn - (f + j) := by omega
        generalize hAA : f + j = aa at *
        have a1 : IntKind.i64.wrap ((aa : Int) + 1) = (aa : Int) + 1 := IntWalk.i64_in _ (by omega)
        have a2 : (aa : Int) < (nn : Int) := by omega
        have HJW2 := Lib.hid hJW
        have d3 : wr.drew.cell? ⟨Bg, 0, none⟩ = some (.func (.func 92) #[] #[.pointer (some ⟨Bs, 0, none⟩), .pointer (some ⟨By, 0, none⟩), .pointer (some ⟨Bn, 0, none⟩), .pointer (some ⟨Bg, 0, none⟩)]) := d2
        clear hJW hJj hkp hor hWr QI HJW HW HO HJ0
        go_upto_region 6 with fail
        go_cut [32] (fun v wx => ∃ b : Bool, v = .bool (!b) ∧ (b = true → PJ (j + 1) wx ∧ CellsBut n₀ (Value.slice A n c).ownBlock wr wx ∧ wx.ownsRow base 3 1 (.slice A n c) n ys) ∧ (b = false → PX wx))
        case first =>
          have hs1 : (wr.drew.alloc (.cells #[.int .i64 (aa : Int)] 3)).heap[wr.heap.size]? = some (.cells #[.int .i64 (aa : Int)] 3 (0, 0)) := heap_alloc_new wr.drew _
          have d5 : (wr.alloc (.cells #[.int .i64 (aa : Int)] 3)).cell? ⟨Bg, 0, none⟩ = some (.func (.func 92) #[] #[.pointer (some ⟨Bs, 0, none⟩), .pointer (some ⟨By, 0, none⟩), .pointer (some ⟨Bn, 0, none⟩), .pointer (some ⟨Bg, 0, none⟩)]) :=
            (((Below.refl _ wr).alloc (Nat.le_refl _) _).cell (p := ⟨Bg, 0, none⟩) (World.block_lt_of_cell? _ _ d2)).trans d2
          go_region_law (first
            | (refine step_append_keep rfl _ _ 23 rfl base 3 si (.int .i64 0) 8 Tryz.underlying23 hi hz0 hz1 hz2 rfl _ n ys rfl ((own_drew HOR.out).alloc _) wr.heap.size 1 (.int .i64 (aa : Int)) rfl hs1 rfl (by unfold maxLen; omega) (by omega) (by simp; omega) ?_; intro v' wn hownN hgN hownK hblk; obtain ⟨V, vc, rfl⟩ := own_form hownN; obtain ⟨hgw, hstp, hbn⟩ := grow_own (o := .cells #[.int .i64 (aa : Int)] 3) HWR.out HOR.out hBb hbr hgN hbx; obtain ⟨d4, _⟩ := cells_at hgw.g; have qn := Lib.hid (QJ.out _ wn hownN hgw (HJW2.out _ _ HJJ.out hstp) hbn))
            | (go_simp; go_wp2_with ((refine qn.out.mono ?_; rintro e w1 ⟨b, rfl, hb1, hb2⟩)))
            | fail "no")
          all_goals
            go_wp2_with fail
            go_meet
            exact ⟨b, rfl, fun hb => by
              obtain ⟨h1, h2, h3⟩ := hb1 hb
              obtain ⟨h4, h5⟩ := grow_step (o := .cells #[.int .i64 (aa : Int)] 3) HOR.out (Nat.le_trans hB hBb) hbr hgN hownK hblk h2 h3
              exact ⟨h1, h4, h5⟩, hb2⟩
        case rest =>
          obtain ⟨b, rfl, hb1, hb2⟩ := hcut
          cases b with
          | true =>
            obtain ⟨hJ2, hk2, ho2⟩ := hb1 rfl
            have hk3 := HKP.out.trans hk2
            have hs3 := hk2.below.size
            clear hb1 hb2 hk2
            go_wp2_with fail
            go_roundw
            case rel => exact ⟨j + 1, by omega, by rw [← hAA]; go_num, hJ2, hk3, ho2, by omega⟩
            case measure => simp [intOf]; omega
          | false =>
            have hx := hb2 rfl
            clear hb1 hb2
            go_wp2_with fail
            go_ret
            exact ⟨false, rfl, fun h => (nomatch h), fun _ => hx⟩
      · have hjn : j = nn - f := by omega
        have hJe := HJE.out wr (by rw [← hjn]; exact hJj)
        have hjx : ¬ (((f + j : Nat) : Int) < (nn : Int)) := by omega
        clear hJj hjn hWr
        go_wp2_with fail
        go_ret
        exact .inr ⟨rfl, hJe, hkp, hor⟩
end Go.Proofs.YtljlkhaolfihjaaGreatDoor

/- The iterator of ascending lists of numbers. -/
namespace Go.Proofs.YtljlkhaolfihjaaGreatDoor
open Go.RowKit Go.Shelf

theorem choices_any (nn size : Nat) (w : World) : Calls Tryz.prog 58 #[.int .i64 nn, .int .i64 size] w fun e w' =>
    e = .returned (.func (.func 91) #[] #[.pointer (some ⟨w.heap.size + 1, 0, none⟩), .pointer (some ⟨w.heap.size, 0, none⟩)]) ∧ w' = (w.alloc (.cells #[.int .i64 nn] 3)).alloc (.cells #[.int .i64 size] 3) := by
  go_enter Tryz.func58, Tryz.ntmps58
  go_wp2_with fail
  go_ret
  exact ⟨rfl, rfl⟩

set_option maxRecDepth 100000 in
set_option maxHeartbeats 1600000 in
theorem choices1_any (l nn size Bs Bn n₀ N : Nat) (J Jx : List (List Int) → World → Prop) (W : World) (hY : GrowIY n₀ N l J Jx) (hJw : ∀ pre A C, J pre A → OwnStep W.heap.size A C → J pre C) (hs : size ≤ 6) (hnn : nn ≤ 6)
    (hBs : W.heap[Bs]? = some (.cells #[.int .i64 size] 3 (0, 0))) (hBn : W.heap[Bn]? = some (.cells #[.int .i64 nn] 3 (0, 0))) (hJ : J [] W) (hN : (subsL size 0 nn).length ≤ N) (hn0 : n₀ ≤ W.heap.size) :
    Calls Tryz.prog 91 #[.func (.yield l) #[] #[], .pointer (some ⟨Bs, 0, none⟩), .pointer (some ⟨Bn, 0, none⟩)] W fun e W' => (∃ v, e = .returned v) ∧ (J (subsL size 0 nn) W' ∨ ∃ q, q <+: subsL size 0 nn ∧ Jx q W') := by
  have hV : ∃ V : World, V = (W.alloc (.cells #[.func (.yield l) #[] #[]] 57)).alloc (.cells #[.func (.func 92) #[] #[.pointer (some ⟨Bs, 0, none⟩), .pointer (some ⟨W.heap.size, 0, none⟩), .pointer (some ⟨Bn, 0, none⟩), .pointer (some ⟨W.heap.size + 1, 0, none⟩)]] 151) := ⟨_, rfl⟩
  obtain ⟨V, hV⟩ := hV
  have hbV : Below W.heap.size W V := by rw [hV]; exact ((Below.refl _ _).alloc (Nat.le_refl _) _).alloc (by simp) _
  have hVs : V.heap.size = W.heap.size + 2 := by rw [hV]; simp
  have l1 := (Array.getElem?_eq_some_iff.1 hBs).1
  have l2 := (Array.getElem?_eq_some_iff.1 hBn).1
  have hcw : GrowW Bs W.heap.size Bn (W.heap.size + 1) l nn size V := by
    refine ⟨(hbV.block _ l1).trans hBs, ?_, (hbV.block _ l2).trans hBn, ?_⟩
    · rw [hV]; exact (Below.heap_alloc _ _ _ (by simp)).trans (heap_alloc_new W _)
    · have := heap_alloc_new (W.alloc (.cells #[.func (.yield l) #[] #[]] 57)) (.cells #[.func (.func 92) #[] #[.pointer (some ⟨Bs, 0, none⟩), .pointer (some ⟨W.heap.size, 0, none⟩), .pointer (some ⟨Bn, 0, none⟩), .pointer (some ⟨W.heap.size + 1, 0, none⟩)]] 151)
      rw [World.size_alloc] at this
      rw [hV]; exact this
  have hv0 := heap_alloc_new (W.alloc (.cells #[.func (.yield l) #[] #[]] 57)) (.cells #[.nilFunc] 151)
  rw [World.size_alloc] at hv0
  obtain ⟨v0, v1⟩ := cells_at hv0
  obtain ⟨m1, _⟩ := cells_at hcw.g
  have hbase : V.heap.size = W.heap.size + 2 := hVs
  have q := growI_any l nn size Bs W.heap.size Bn (W.heap.size + 1) n₀ W.heap.size (W.heap.size + 2) N J Jx hY hJw hn0 (by omega) hs hnn ⟨by omega, by omega, by omega, by omega⟩ size 0 [] (.slice none 0 0) [] V (by simp) (Nat.zero_le _) (World.ownsRow_nil _ _ _ _) hcw
    (hJw _ _ _ hJ (OwnStep.of_below hbV (Nat.le_refl _))) (by rw [growI_all]; simpa using hN) (by omega)
  rw [growI_all] at q
  unfold GrowIPost at q
  have Q := Lib.hid q
  clear q hY hJw hBs hBn hJ hN hv0 hcw
  generalize subsL size 0 nn = L at *
  go_enter Tryz.func91, Tryz.ntmps91
  go_wp2_with fail
  rw [← hV]
  go_wp2_with fail
  refine Q.out.mono ?_
  rintro e w3 ⟨b, rfl, h1, h2⟩
  go_wp2_with fail
  go_end0
  refine ⟨⟨_, rfl⟩, ?_⟩
  cases b with
  | true => exact .inl (h1 rfl).1
  | false =>
    obtain ⟨q, hq, hx⟩ := h2 rfl
    exact .inr ⟨q, hq, hx⟩

/-- What the iterator hands out. -/
abbrev Item := Value × List Int
def ItemOk (n₀ : Nat) (x : Item) (W : World) : Prop := W.ownsRow n₀ 3 1 x.1 x.2.length (x.2.map (Value.int .i64)) ∧ x.2.length ≤ 6
theorem ItemOk.kept {n₀ : Nat} {x : Item} {A C : World} (h : ItemOk n₀ x A) (k : CellsKept n₀ A C) : ItemOk n₀ x C := ⟨own_but h.1 (k.but none) (fun g _ => by simp), h.2⟩

theorem choices_writes (n nn size Bs Bn n₀ : Nat) (w : World) (hs : size ≤ 6) (hnn : nn ≤ 6)
    (hBs : w.heap[Bs]? = some (.cells #[.int .i64 size] 3 (0, 0))) (hBn : w.heap[Bn]? = some (.cells #[.int .i64 nn] 3 (0, 0))) :
    SeqWrites n Tryz.prog 91 #[.pointer (some ⟨Bs, 0, none⟩), .pointer (some ⟨Bn, 0, none⟩)] (fun x : Item => #[x.1]) (ItemOk n₀) n₀
      (fun ys => ys.map (·.2) = subsL size 0 nn) (fun pre => pre.map (·.2) <+: subsL size 0 nn) (subsL size 0 nn).length w := by
  intro l J Jx W hW hn0 hJ hY h0
  have q := choices1_any l nn size Bs Bn n₀ (subsL size 0 nn).length (fun L W => ∃ L' : List Item, L'.map (·.2) = L ∧ J L' W) (fun L W => ∃ L' : List Item, L'.map (·.2) = L ∧ Jx L' W) W ?_ ?_ hs hnn
    ((hW.block _ (Array.getElem?_eq_some_iff.1 hBs).1).trans hBs) ((hW.block _ (Array.getElem?_eq_some_iff.1 hBn).1).trans hBn) ⟨[], rfl, h0⟩ (Nat.le_refl _) hn0
  · refine (callsIn_wide.2 q).mono ?_
    rintro e W' ⟨hv, ⟨L', e', hj⟩ | ⟨pre, hp, L', e', hj⟩⟩
    · exact ⟨hv, .inl ⟨L', e', hj⟩⟩
    · exact ⟨hv, .inr ⟨L', by show L'.map (·.2) <+: _; rw [e']; exact hp, hj⟩⟩
  · rintro m pre v x W1 ho hx ⟨pre', rfl, hj⟩ hl
    obtain ⟨fn, tmps, assign, body, hy, hR⟩ := YieldAt.deep m (hY pre' ⟨v, x⟩ W1 hj ⟨ho, hx⟩ (by simpa using hl))
    refine ⟨fn, tmps, assign, body, hy, hR.mono fun e w' hr => ?_⟩
    rcases hr with ⟨he, hj', hk'⟩ | ⟨he, hx'⟩
    · exact .inl ⟨he, ⟨pre' ++ [⟨v, x⟩], by simp, hj'⟩, hk'⟩
    · exact .inr ⟨he, ⟨pre' ++ [⟨v, x⟩], by simp, hx'⟩⟩
  · rintro pre A C ⟨L', e, hj⟩ hb
    exact ⟨L', e, hJ L' A C hj hb⟩
end Go.Proofs.YtljlkhaolfihjaaGreatDoor
