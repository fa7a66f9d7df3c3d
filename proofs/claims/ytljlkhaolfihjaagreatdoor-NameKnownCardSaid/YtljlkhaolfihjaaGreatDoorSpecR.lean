/- All lists of so many numbers, ascending: a row whose cells are rows. -/
import Derived.Test.YtljlkhaolfihjaaGreatDoorRefY
import Derived.Test.YtljlkhaolfihjaaGreatDoorRefT
import Derived.Deep.AppendLies
namespace Go.Proofs.YtljlkhaolfihjaaGreatDoor
open Go.RowKit

/-- All ascending lists of so many numbers from f to n - 1, in lexicographic order. -/
def subsL : Nat → Nat → Nat → List (List Int)
  | 0, _, _ => [[]]
  | m + 1, f, n => (List.range (n - m - f)).flatMap fun d => (subsL m (f + d + 1) n).map (((f + d : Nat) : Int) :: ·)
theorem subsL_len (m : Nat) : ∀ f n, (subsL m f n).length ≤ 2 ^ (n - f) := by
  induction m with
  | zero => intro f n; show 1 ≤ _; exact Nat.one_le_two_pow
  | succ m ih =>
    intro f n
    unfold subsL
    rw [List.length_flatMap]
    have h1 : ((List.range (n - m - f)).map fun d => ((subsL m (f + d + 1) n).map (((f + d : Nat) : Int) :: ·)).length).sum ≤ ((List.range (n - m - f)).map fun d => 2 ^ (n - f - (d + 1))).sum := by
      refine sum_le _ _ _ fun d hd => ?_
      rw [List.length_map]
      have h2 := ih (f + d + 1) n
      rw [show n - (f + d + 1) = n - f - (d + 1) from by omega] at h2
      exact h2
    exact Nat.le_trans h1 (Nat.le_trans (Nat.le_add_right _ _) (pow_sum (n - f) (n - m - f) (by omega)))
theorem subsL_row (m : Nat) : ∀ f n x, x ∈ subsL m f n → x.length = m := by
  induction m with
  | zero => intro f n x h; rw [List.mem_singleton.1 h]; rfl
  | succ m ih =>
    intro f n x h
    obtain ⟨d, _, h⟩ := List.mem_flatMap.1 h
    obtain ⟨y, hy, rfl⟩ := List.mem_map.1 h
    rw [List.length_cons, ih _ _ _ hy]
def subsAt (m f n d : Nat) : List (List Int) := (subsL m (f + d + 1) n).map (((f + d : Nat) : Int) :: ·)
def subsFrom (m f n k : Nat) : List (List Int) := ((List.range (n - m - f)).drop k).flatMap (subsAt m f n)
theorem subsL_from (m f n : Nat) : subsL (m + 1) f n = subsFrom m f n 0 := rfl
theorem subsFrom_step (m f n k : Nat) (h : k < n - m - f) : subsFrom m f n k = subsAt m f n k ++ subsFrom m f n (k + 1) := by
  unfold subsFrom
  rw [List.drop_eq_getElem_cons (by simpa using h), List.flatMap_cons, List.getElem_range]
theorem subsFrom_end (m f n k : Nat) (h : n - m - f ≤ k) : subsFrom m f n k = [] := by
  unfold subsFrom; rw [List.drop_eq_nil_of_le (by simpa using h)]; rfl

/-! ### Rows of rows -/

theorem ints_one (r : List Int) : ∀ y, y ∈ r.map (Value.int .i64) → y.oneCell' = true := by
  intro y hy
  obtain ⟨x, _, rfl⟩ := List.mem_map.1 hy
  rfl

theorem infoInts : (Tryz.prog.info? 23).map (fun i => (i.zero, i.size, i.bytes)) = some (some (.slice none 0 0), 1, 24) := by kernel_rfl

/-- A row of numbers of one's own, not in block G. -/
def IntRow (w : World) (base : Nat) (G : Option Nat) (v : Value) (r : List Int) : Prop :=
  w.ownsRow base 3 1 v r.length (r.map (Value.int .i64)) ∧ ∀ g, v.ownBlock = some g → G ≠ some g
def IntRows (w : World) (base : Nat) (G : Option Nat) (vs : List Value) (L : List (List Int)) : Prop :=
  vs.length = L.length ∧ ∀ j (h : j < L.length), IntRow w base G (vs.getD j undef) L[j]
theorem IntRows.nil (w : World) (base : Nat) (G : Option Nat) : IntRows w base G [] [] := ⟨rfl, fun j h => absurd h (by simp)⟩
theorem IntRows.below {w w' : World} {base : Nat} {G : Option Nat} {vs : List Value} {L : List (List Int)} (h : IntRows w base G vs L) (hb : Below w.heap.size w w') : IntRows w' base G vs L :=
  ⟨h.1, fun j hj => ⟨own_below (h.2 j hj).1 hb, (h.2 j hj).2⟩⟩
theorem IntRows.mono {w : World} {base base' : Nat} {G : Option Nat} {vs : List Value} {L : List (List Int)} (h : IntRows w base G vs L) (hb : base' ≤ base) : IntRows w base' G vs L :=
  ⟨h.1, fun j hj => ⟨(h.2 j hj).1.mono hb, (h.2 j hj).2⟩⟩
/-- .. away from an elder block. -/
theorem IntRows.away {w : World} {base : Nat} {G G' : Option Nat} {vs : List Value} {L : List (List Int)} (h : IntRows w base G vs L) (hG : ∀ g, G' = some g → g < base) : IntRows w base G' vs L :=
  ⟨h.1, fun j hj => ⟨(h.2 j hj).1, fun g hg e => by
    have h1 := ((h.2 j hj).1.lt g hg).1
    have h2 := hG g e
    omega⟩⟩
theorem IntRows.snoc {w : World} {base : Nat} {G : Option Nat} {vs : List Value} {L : List (List Int)} {v : Value} {r : List Int} (h : IntRows w base G vs L) (hv : IntRow w base G v r) : IntRows w base G (vs ++ [v]) (L ++ [r]) := by
  obtain ⟨h1, h2⟩ := h
  refine ⟨by simp [h1], fun j hj => ?_⟩
  by_cases hl : j < L.length
  · rw [List.getElem_append_left hl, List.getD_eq_getElem?_getD, List.getElem?_append_left (by omega), ← List.getD_eq_getElem?_getD]
    exact h2 j hl
  · have e : j = L.length := by simp at hj; omega
    subst e
    rw [List.getElem_append_right (Nat.le_refl _), List.getD_eq_getElem?_getD, List.getElem?_append_right (by omega)]
    simp only [h1, Nat.sub_self]
    exact hv
/-- .. where another row has grown, in its own block or into a new one. -/
theorem IntRow.keep {w w1 w2 : World} {base g : Nat} {G : Option Nat} {v : Value} {r : List Int} {o : Obj} (h : IntRow w base G v r) (hb : Below w.heap.size w w1) (hg : (w1.alloc o).grownBy w2 G) (hgl : G = some g ∨ g = (w1.alloc o).heap.size) : IntRow w2 base (some g) v r := by
  obtain ⟨h1, h2⟩ := h
  refine ⟨((own_below h1 hb).alloc o).kept hg ?_, fun k hk e => ?_⟩
  · cases hv : v.ownBlock with
    | none => exact .inl rfl
    | some k => exact .inr fun e => h2 k hv e.symm
  · have e' : g = k := Option.some.inj e
    subst e'
    rcases hgl with hgl | hgl
    · exact h2 g hk hgl
    · have h3 := (h1.lt g hk).2
      have h4 := hb.size
      rw [World.size_alloc] at hgl
      omega
theorem IntRows.keep {w w1 w2 : World} {base g : Nat} {G : Option Nat} {vs : List Value} {L : List (List Int)} {o : Obj} (h : IntRows w base G vs L) (hb : Below w.heap.size w w1) (hg : (w1.alloc o).grownBy w2 G) (hgl : G = some g ∨ g = (w1.alloc o).heap.size) : IntRows w2 base (some g) vs L :=
  ⟨h.1, fun j hj => (h.2 j hj).keep hb hg hgl⟩

theorem IntRow.fresh {wr wn wm : World} {base g nn : Nat} {E : TypeId} {V v : Value} {us : List Value} {r : List Int} {o : Obj} (hown : wr.ownsRow base E 1 V nn us) (h : wn.ownsRow wr.heap.size 3 1 v r.length (r.map (Value.int .i64))) (hg : (wn.alloc o).grownBy wm V.ownBlock) (hat : V.ownBlock = some g ∨ g = (wn.alloc o).heap.size) (hb : base ≤ wr.heap.size) : IntRow wm base (some g) v r := by
  refine ⟨((h.mono hb).alloc o).kept hg ?_, fun k hk e => ?_⟩
  · cases hv : v.ownBlock with
    | none => exact .inl rfl
    | some k =>
      refine .inr fun e => ?_
      have h1 := (h.lt k hv).1
      have h2 := (hown.lt k e.symm).2
      omega
  · have e' : g = k := Option.some.inj e
    subst e'
    have h1 := h.lt g hk
    rcases hat with hat | hat
    · have h2 := (hown.lt g hat).2
      omega
    · rw [World.size_alloc] at hat
      omega

def SubsPost (L : List (List Int)) (w : World) (e : Ending) (w' : World) : Prop :=
  ∃ (o : Value) (vs : List Value), e = .returned o ∧ w'.ownsRow w.heap.size 23 1 o L.length vs ∧ IntRows w' w.heap.size o.ownBlock vs L ∧ Below w.heap.size w w'

set_option maxRecDepth 100000 in
set_option maxHeartbeats 3200000 in
theorem subsets_any (m : Nat) : ∀ (f n : Nat) (w : World), m ≤ 1000 → n ≤ 12 → f ≤ 1000 →
    Calls Tryz.prog 75 #[.int .i64 (f : Nat), .int .i64 (n : Nat), .int .i64 (m : Nat)] w (SubsPost (subsL m f n) w) := by
  obtain ⟨si, hi, hz0, hz1, hz2⟩ := info_parts infoInt
  obtain ⟨s2, hi2, hy0, hy1, hy2⟩ := info_parts infoInts
  induction m with
  | zero =>
    intro f n w _ _ _
    go_enter Tryz.func75, Tryz.ntmps75
    go_wp2
    go_ret
    refine ⟨_, [.slice none 0 0], rfl, World.ownsRow_lit w #[.slice none 0 0] 1 (Nat.le_refl _) (by unfold maxLen; omega) rfl, ⟨rfl, fun j hj => ?_⟩, (Below.refl _ _).alloc (Nat.le_refl _) _⟩
    have e : j = 0 := by have h1 : j < 1 := hj; omega
    subst e
    exact ⟨World.ownsRow_nil _ _ _ _, fun g hg => by cases hg⟩
  | succ m ih =>
    intro f n w hm hn hf
    have IH : Hid _ := ih
    have u0 : (((m + 1 : Nat) : Int) == 0) = false := by rw [beq_eq_false_iff_ne]; omega
    have u1 : IntKind.i64.wrap (((m + 1 : Nat) : Int) - 1) = (m : Int) := by rw [show (((m + 1 : Nat) : Int) - 1) = (m : Int) from by omega]; exact IntWalk.i64_in _ (by omega)
    have u3 : ((m + 1 : Nat) : Int) ≤ (m : Int) + 1 := by omega
    have u4 : (m : Int) + 1 ≤ ((m + 1 : Nat) : Int) := by omega
    have htl : (subsFrom m f n 0).length ≤ 4096 := by
      have h1 := subsL_len (m + 1) f n
      rw [subsL_from] at h1
      exact Nat.le_trans h1 (show (2 : Nat) ^ (n - f) ≤ 2 ^ 12 from Nat.pow_le_pow_right (by decide) (by omega))
    rw [subsL_from]
    generalize ((m + 1 : Nat) : Int) = M at u0 u1 u3 u4 ⊢
    generalize hZ : subsFrom m f n 0 = Z at *
    have HZ := Lib.hid hZ
    clear ih hZ
    go_enter Tryz.func75, Tryz.ntmps75
    go_wp2_with fail
    go_loopw [7, 8, 9, 10] (fun o i _ _ wr => ∃ (k : Nat) (xs : List (List Int)) (vs : List Value), k ≤ n - m - f ∧ i = .int .i64 ((f + k : Nat) : Int) ∧ xs ++ subsFrom m f n k = Z ∧ wr.ownsRow w.heap.size 23 1 o xs.length vs ∧ IntRows wr w.heap.size o.ownBlock vs xs ∧ Below w.heap.size w wr) (fun _ i _ _ _ => n - m - (intOf i).toNat)
    case atStart => exact ⟨0, [], [], Nat.zero_le _, rfl, HZ.out, World.ownsRow_nil _ _ _ _, IntRows.nil _ _ _, Below.refl _ _⟩
    case round =>
      obtain ⟨k, xs, vs, hk, rfl, hfr, hown, hrows, hb⟩ := hrel
      have HF := Lib.hid hfr
      clear hfr
      by_cases hlt : f + k + m < n
      · have j1 : IntKind.i64.wrap (((f + k : Nat) : Int) + 1) = ((f + k + 1 : Nat) : Int) := by rw [show (((f + k : Nat) : Int) + 1) = ((f + k + 1 : Nat) : Int) from by omega]; exact IntWalk.i64_in _ (by omega)
        have j9 : decide (((f + k : Nat) : Int) + M ≤ (n : Int)) = true := decide_eq_true (by omega)
        have j8 : ((f + k : Nat) : Int) + M ≤ (n : Int) := by omega
        have j10 : IntKind.i64.wrap (((f + k : Nat) : Int) + M) = ((f + k : Nat) : Int) + M := IntWalk.i64_in _ (by omega)
        have est := subsFrom_step m f n k (by omega)
        have eat : subsAt m f n k = (subsL m (f + k + 1) n).map (((f + k : Nat) : Int) :: ·) := rfl
        rw [est, eat] at HF
        have hLl : (subsL m (f + k + 1) n).length ≤ 4096 := Nat.le_trans (subsL_len m _ _) (show (2 : Nat) ^ (n - (f + k + 1)) ≤ 2 ^ 12 from Nat.pow_le_pow_right (by decide) (by omega))
        have hLr : ∀ j (h : j < (subsL m (f + k + 1) n).length), ((subsL m (f + k + 1) n)[j]).length ≤ 1000 := fun j h => by rw [subsL_row m _ _ _ (List.getElem_mem h)]; omega
        have qi := (fun W => IH.out (f + k + 1) n W (by omega) hn (by omega))
        rw [show ((f + k + 1 : Nat) : Int) = ((f + k : Nat) : Int) + 1 from by omega] at qi
        unfold SubsPost at qi
        have QI := Lib.hid qi
        clear qi
        have HLR := Lib.hid hLr
        generalize subsL m (f + k + 1) n = L at *
        have a0 : (0 : Int) ≤ ((f + k : Nat) : Int) := by omega
        have a1 : ((f + k : Nat) : Int) ≤ 12 := by omega
        generalize hAA : ((f + k : Nat) : Int) = AA at *
        clear est eat hLr
        go_wp2_with fail
        refine (QI.out _).mono ?_
        rintro e w2 ⟨ol, rv, rfl, hol, hrl, hb2⟩
        obtain ⟨OL, capl, rfl⟩ := own_form hol
        have hown2 := own_below hown hb2
        have hrows2 := hrows.below hb2
        have hbw2 := hb.trans (hb2.mono hb.size)
        have hol1 := hol.mono hb.size
        have hrl1 : IntRows w2 w.heap.size u7.ownBlock rv L := (hrl.away (fun g hg => (hown.lt g hg).2)).mono hb.size
        have hfar : ∀ g, u7.ownBlock = some g → (Value.slice OL L.length capl).ownBlock ≠ some g := by
          intro g h1 h2
          have g1 := (hown.lt g h1).2
          have g2 := (hol.lt g h2).1
          omega
        clear hown hrows hb hb2 hol hrl QI
        go_wp2_with fail
        go_loopw [7, 10] (fun o i wi => ∃ (j : Nat) (ys : List (List Int)) (us : List Value), j ≤ L.length ∧ i = .int .i64 j ∧ ys ++ ((L.drop j).map (AA :: ·) ++ subsFrom m f n (k + 1)) = Z ∧ wi.ownsRow w.heap.size 23 1 o ys.length us ∧ IntRows wi w.heap.size o.ownBlock us ys ∧ wi.ownsRow w.heap.size 23 1 (.slice OL L.length capl) L.length rv ∧ IntRows wi w.heap.size o.ownBlock rv L ∧ (∀ g, o.ownBlock = some g → (Value.slice OL L.length capl).ownBlock ≠ some g) ∧ Below w.heap.size w wi) (fun _ i _ => L.length - (intOf i).toNat)
        case atStart => exact ⟨0, xs, vs, Nat.zero_le _, rfl, HF.out, hown2, hrows2, hol1, hrl1, hfar, hbw2⟩
        case round =>
          obtain ⟨j, ys, us, hj, rfl, hfr, hown, hrows, hol, hrl, hfar, hb⟩ := hrel
          have HFI := Lib.hid hfr
          clear hfr hown2 hrows2 hol1 hrl1 hbw2
          obtain ⟨NA, nc, rfl⟩ := own_form hown
          by_cases hlj : j < L.length
          · obtain ⟨gl, capl', hv, hgl1, hgl2⟩ := hol.form (by omega)
            injection hv with hv1 hv2 hv3
            subst hv1 hv3
            have hyl : ys.length + 1 ≤ 4096 := by
              have h1 : Z.length = (ys ++ ((L.drop j).map (AA :: ·) ++ subsFrom m f n (k + 1))).length := by rw [HFI.out]
              simp at h1
              omega
            have hc := hol.cellAt j (by omega)
            have hrj := hrl.2 j hlj
            have hrlen := hrl.1
            have hgj : rv[j]? = some (rv.getD j undef) := by
              rw [List.getD_eq_getElem?_getD, List.getElem?_eq_getElem (by omega)]; rfl
            rw [hgj] at hc
            have hlr := HLR.out j hlj
            have e5 : ys ++ [AA :: L[j]] ++ ((L.drop (j + 1)).map (AA :: ·) ++ subsFrom m f n (k + 1)) = Z := by
              rw [← HFI.out, List.drop_eq_getElem_cons hlj, List.map_cons, List.append_assoc]
              rfl
            have E5 := Lib.hid e5
            have hrow := hrj.1
            generalize rv.getD j undef = u at *
            generalize L[j] = r at *
            have hlit := World.ownsRow_lit wr (#[.int .i64 AA] : Array Value) 1 (e := 3) (size := 1) (base := wr.heap.size) (Nat.le_refl _) (by unfold maxLen; omega) rfl
            have j5 : (0 : Int) ≤ (j : Int) := by omega
            have j6 : (j : Int) < (L.length : Int) := by omega
            have hws := hb.size
            have hca : (wr.alloc (.cells #[.int .i64 AA] 3)).cell? ⟨gl, j, none⟩ = some u := (((Below.refl _ wr).alloc (Nat.le_refl _) (.cells #[.int .i64 AA] 3)).cell (World.block_lt_of_cell? _ _ hc)).trans hc
            have HROWS := Lib.hid hrows
            have HRL := Lib.hid hrl
            have HFAR := Lib.hid hfar
            clear hrj hgj e5 HFI hrows hrl hfar
            go_wp2_with (at_builtin; first
              | (refine wpList_append_row _ rfl _ _ 23 rfl wr.heap.size 3 si (.int .i64 0) 8 Tryz.underlying23 hi hz0 hz1 hz2 rfl _ 1 [.int .i64 AA] rfl hlit _ _ r.length _ rfl (hrow.alloc _) (ints_one r) (by unfold maxLen; omega) (by omega) (by simp) ?_; intro v' wn hownN hgN; obtain ⟨vA, vc, rfl⟩ := own_form hownN; have hbN := below_append (w := wr) hlit (Below.refl _ _) ((Below.refl _ _).alloc (Nat.le_refl _) _) hgN; have hownN2 := own_below hown hbN; have hbNs := hbN.size)
              | (refine wpList_append_lies _ rfl _ _ 58 rfl w.heap.size 23 s2 (.slice none 0 0) 1 24 Tryz.underlying58 hi2 hy0 hy1 hy2 rfl (by decide) _ _ _ rfl (hownN2.alloc _) ⟨wn.heap.size, 0, none⟩ 1 1 [.slice vA (1 + r.length) vc] rfl rfl (cell_one_new _ _ _) (by simp [Value.oneCell']) (by decide) (by unfold maxLen; omega) (by omega) (by simp; omega) _ rfl ?_; intro g cap' wm hownM hgM hat hlt2))
            have hN2 : wn.ownsRow wr.heap.size 3 1 (.slice vA (1 + r.length) vc) (AA :: r).length ((AA :: r).map (Value.int .i64)) := by
              have e : (AA :: r).length = 1 + r.length := by simp; omega
              rw [e]; exact hownN
            have hfr := IntRow.fresh hown hN2 hgM hat hws
            have hK1 := HROWS.out.keep hbN hgM hat
            have hK2 := HRL.out.keep hbN hgM hat
            have holN := ((own_below hol hbN).alloc (.cells #[.slice vA (1 + r.length) vc] 23)).kept hgM (.inr fun e => HFAR.out gl e.symm rfl)
            have hfarN : ∀ g', (Value.slice (some ⟨g, 0, none⟩) (ys.length + 1) cap').ownBlock = some g' → (Value.slice (some ⟨gl, 0, none⟩) L.length capl).ownBlock ≠ some g' := by
              intro g' h1 h2
              have e1 : g = g' := Option.some.inj h1
              have e2 : gl = g' := Option.some.inj h2
              subst e1 e2
              rcases hat with h3 | h3
              · exact HFAR.out _ h3 rfl
              · simp at h3; omega
            have hbM : Below w.heap.size w wm := ((hb.trans (hbN.mono hws)).alloc (by omega) (.cells #[.slice vA (1 + r.length) vc] 23)).grown hgM (by simp; omega) fun g hg => (hown.lt g hg).1
            exact ⟨⟨j + 1, ys ++ [AA :: r], us ++ [.slice vA (1 + r.length) vc], by omega, by go_num, E5.out, by simpa using hownM, hK1.snoc hfr, holN, hK2, hfarN, hbM⟩, by simp [intOf]; omega⟩
          · have ej : L.drop j = [] := List.drop_eq_nil_of_le (by omega)
            have e5 : ys ++ subsFrom m f n (k + 1) = Z := by rw [← HFI.out, ej]; rfl
            have E5 := Lib.hid e5
            clear ej e5
            go_wp2_with fail
            go_roundw
            case rel => exact ⟨k + 1, ys, us, by omega, by rw [← hAA]; go_num, E5.out, hown, hrows, hb⟩
            case measure => simp [intOf]; omega
      · have ek : subsFrom m f n k = [] := subsFrom_end m f n k (by omega)
        have e0 : Z = xs := by rw [← HF.out, ek, List.append_nil]
        have E0 := Lib.hid e0
        have j9 : decide (((f + k : Nat) : Int) + M ≤ (n : Int)) = false := decide_eq_false (by omega)
        have j10 : IntKind.i64.wrap (((f + k : Nat) : Int) + M) = ((f + k : Nat) : Int) + M := IntWalk.i64_in _ (by omega)
        clear ek e0
        go_wp2_with fail
        go_ret
        exact ⟨_, vs, rfl, by rw [E0.out]; exact hown, by rw [E0.out]; exact hrows, hb⟩
end Go.Proofs.YtljlkhaolfihjaaGreatDoor

/- What goes through the ascending lists of numbers, in the order in which it grows them. -/
namespace Go.Proofs.YtljlkhaolfihjaaGreatDoor
open Go.RowKit

def growI (n : Nat) : Nat → List Int → Nat → List (List Int)
  | 0, pre, _ => [pre]
  | d + 1, pre, f => (List.range (n - f)).flatMap fun e => growI n d (pre ++ [((f + e : Nat) : Int)]) (f + e + 1)
def growTo (n d : Nat) (pre : List Int) (f j : Nat) : List (List Int) := (List.range j).flatMap fun e => growI n d (pre ++ [((f + e : Nat) : Int)]) (f + e + 1)
theorem growTo_succ (n d : Nat) (pre : List Int) (f j : Nat) : growTo n d pre f (j + 1) = growTo n d pre f j ++ growI n d (pre ++ [((f + j : Nat) : Int)]) (f + j + 1) := by
  unfold growTo
  rw [List.range_succ, List.flatMap_append]; simp
theorem growTo_all (n d : Nat) (pre : List Int) (f : Nat) : growTo n d pre f (n - f) = growI n (d + 1) pre f := rfl
theorem growTo_pre (n d : Nat) (pre : List Int) (f : Nat) {i j : Nat} (h : i ≤ j) : growTo n d pre f i <+: growTo n d pre f j := by
  obtain ⟨k, rfl⟩ : ∃ k, j = i + k := ⟨j - i, by omega⟩
  clear h
  induction k with
  | zero => exact List.prefix_refl _
  | succ k ih => rw [← Nat.add_assoc, growTo_succ]; exact ih.trans (List.prefix_append _ _)

theorem subsL_none (m : Nat) : ∀ f n, 1 ≤ m → n < f + m → subsL m f n = [] := by
  induction m with
  | zero => intro f n h; omega
  | succ m ih =>
    intro f n _ h
    unfold subsL
    rw [show n - m - f = 0 by omega]; rfl
theorem range_cut {α : Type} (a b : Nat) (h : a ≤ b) (g : Nat → List α) (hg : ∀ e, a ≤ e → e < b → g e = []) : (List.range b).flatMap g = (List.range a).flatMap g := by
  obtain ⟨k, rfl⟩ : ∃ k, b = a + k := ⟨b - a, by omega⟩
  clear h
  induction k with
  | zero => rfl
  | succ k ih =>
    rw [← Nat.add_assoc, List.range_succ, List.flatMap_append, ih fun e h1 h2 => hg e h1 (by omega)]
    simp [hg (a + k) (by omega) (by omega)]
theorem growI_eq (n d : Nat) : ∀ pre f, growI n d pre f = (subsL d f n).map (pre ++ ·) := by
  induction d with
  | zero => intro pre f; simp [growI, subsL]
  | succ d ih =>
    intro pre f
    show (List.range (n - f)).flatMap _ = _
    rw [range_cut (n - d - f) (n - f) (by omega) _ fun e h1 h2 => ?_]
    · unfold subsL
      rw [List.map_flatMap]
      congr 1
      funext e
      rw [ih, List.map_map]
      congr 1
      funext x
      simp
    · rw [ih, subsL_none d _ _ (by omega) (by omega)]; rfl
theorem growI_all (n size : Nat) : growI n size [] 0 = subsL size 0 n := by rw [growI_eq]; simp
end Go.Proofs.YtljlkhaolfihjaaGreatDoor
