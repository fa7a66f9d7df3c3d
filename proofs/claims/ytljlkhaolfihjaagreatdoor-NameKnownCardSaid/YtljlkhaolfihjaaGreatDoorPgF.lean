/- What one use of a rule makes, as the program goes through it: the iterator. -/
import Derived.Test.YtljlkhaolfihjaaGreatDoorPgD
import Derived.RangeFuncBox
import Derived.RangeFuncLeaves
import Derived.RangeFuncBound
import Derived.Shelf.Abstract
import Derived.Shelf.RegionOpen
import Derived.OwnWalkIn
import Derived.TacticsInMore
import Derived.LoopNIn
import Derived.LoopIn
namespace Go.Proofs.YtljlkhaolfihjaaGreatDoor
open Go.RowKit Go.Shelf

attribute [local go_sem] Oper.semAt_some

/-- What a round keeps for an iterator: what lay below a bound, some blocks, and all blocks of some types. -/
structure KpX (n₀ : Nat) (Bs : List Nat) (Ts : List TypeId) (W W' : World) : Prop where
  below : Below n₀ W W'
  block : ∀ b, b ∈ Bs → W'.heap[b]? = W.heap[b]?
  typed : ∀ (k : Nat) (c : Array Value) (t : TypeId) fz, t ∈ Ts → W.heap[k]? = some (.cells c t fz) → W'.heap[k]? = some (.cells c t fz)
theorem KpX.refl (n₀ : Nat) (Bs : List Nat) (Ts : List TypeId) (W : World) : KpX n₀ Bs Ts W W := ⟨Below.refl _ _, fun _ _ => rfl, fun _ _ _ _ _ h => h⟩
theorem KpX.trans {n₀ : Nat} {Bs : List Nat} {Ts : List TypeId} {A B C : World} (h : KpX n₀ Bs Ts A B) (k : KpX n₀ Bs Ts B C) : KpX n₀ Bs Ts A C :=
  ⟨h.below.trans k.below, fun b hb => (k.block b hb).trans (h.block b hb), fun i c t fz ht hi => k.typed i c t fz ht (h.typed i c t fz ht hi)⟩
theorem KpX.of_below {n₀ : Nat} {Bs : List Nat} {Ts : List TypeId} {A B : World} (h : Below A.heap.size A B) (hn : n₀ ≤ A.heap.size) (hb : ∀ b, b ∈ Bs → b < A.heap.size) : KpX n₀ Bs Ts A B :=
  ⟨h.mono hn, fun b hb' => h.block b (hb b hb'), fun k _ _ _ _ hk => (h.block k (Array.getElem?_eq_some_iff.1 hk).1).trans hk⟩
theorem KpX.putObj {n₀ : Nat} {Bs : List Nat} {Ts : List TypeId} {B : Nat} (hn : n₀ ≤ B) (hb : ∀ b, b ∈ Bs → b < B) (W : World) (l : Nat) (o o' : Obj) (hl : B ≤ l) (h : W.heap[l]? = some o) (ho : o.isCells = false) : KpX n₀ Bs Ts W (W.putObj l o') := by
  have hg := grownBy_putObj' W l o'
  have hlt := (Array.getElem?_eq_some_iff.1 h).1
  refine ⟨(Below.refl n₀ W).grown hg (by omega) (fun k e => by cases e; omega), fun b hb' => hg.block b (by have := hb b hb'; omega) (fun e => by have := hb b hb'; cases e; omega), fun k c t fz _ hk => (hg.block k (Array.getElem?_eq_some_iff.1 hk).1 (fun e => ?_)).trans hk⟩
  cases e
  rw [h] at hk
  cases hk
  cases ho

theorem KpX.grown {n₀ : Nat} {Bs : List Nat} {Ts : List TypeId} {W W' : World} {row : Option Nat} (hg : W.grownBy W' row) (hn : n₀ ≤ W.heap.size) (hb : ∀ b, b ∈ Bs → b < W.heap.size)
    (hr : ∀ r, row = some r → n₀ ≤ r ∧ r ∉ Bs ∧ ∀ c t fz, t ∈ Ts → W.heap[r]? ≠ some (.cells c t fz)) : KpX n₀ Bs Ts W W' := by
  refine ⟨(Below.refl n₀ W).grown hg hn (fun k e => (hr k e).1), fun b hb' => hg.block b (hb b hb') (fun e => (hr b e.symm).2.1 hb'), fun k c t fz ht hk => (hg.block k (Array.getElem?_eq_some_iff.1 hk).1 (fun e => ?_)).trans hk⟩
  exact (hr k e.symm).2.2 c t fz ht hk
/-- The block of an owned row. -/
theorem own_block {W : World} {base : Nat} {e : TypeId} {size n : Nat} {v : Value} {xs : List Value} (h : W.ownsRow base e size v n xs) (g : Nat) (hg : v.ownBlock = some g) : ∃ c, W.heap[g]? = some (.cells c e (0, 0)) := by
  rcases h.2 with ⟨rfl, _⟩ | ⟨g', cap, cur, rfl, _, hgb, _⟩
  · simp [Value.ownBlock] at hg
  · obtain rfl : g' = g := by simpa [Value.ownBlock] using hg
    exact ⟨cur, hgb⟩

theorem YieldAt.deep {m : Nat} (m' : Nat) {P : Program} {l : Nat} {args : Array Value} {W : World} {R : Ending → World → Prop} (h : YieldAt Fence.wide m P l args W R) : YieldAt Fence.wide m' P l args W R := by
  obtain ⟨fn, tmps, assign, body, hy, hR⟩ := h
  exact ⟨fn, tmps, assign, body, hy, hR.1, fun c cs _ => hR.2 c cs (room_wide _)⟩

set_option maxRecDepth 100000 in
theorem fits_any (s : ByteArray) (w : World) : Calls Tryz.prog 101 #[.string s] w fun e w' => e = .returned (.bool (decide (1 ≤ s.size ∧ s.size ≤ 12))) ∧ w' = w := by
  by_cases h1 : 1 ≤ s.size
  · have b1 : decide ((s.size : Int) ≥ 1) = true := decide_eq_true (by omega)
    by_cases h2 : s.size ≤ 12
    · have b2 : decide ((s.size : Int) ≤ 12) = true := decide_eq_true (by omega)
      have e : decide (1 ≤ s.size ∧ s.size ≤ 12) = true := decide_eq_true ⟨h1, h2⟩
      have E := Lib.hid e
      clear e
      go_enter Tryz.func101, Tryz.ntmps101
      go_wp2_with fail
      go_ret
      exact ⟨ret_bool E.out.symm, rfl⟩
    · have b2 : decide ((s.size : Int) ≤ 12) = false := decide_eq_false (by omega)
      have e : decide (1 ≤ s.size ∧ s.size ≤ 12) = false := decide_eq_false (fun h => h2 h.2)
      have E := Lib.hid e
      clear e
      go_enter Tryz.func101, Tryz.ntmps101
      go_wp2_with fail
      go_ret
      exact ⟨ret_bool E.out.symm, rfl⟩
  · have b1 : decide ((s.size : Int) ≥ 1) = false := decide_eq_false (by omega)
    have e : decide (1 ≤ s.size ∧ s.size ≤ 12) = false := decide_eq_false (fun h => h1 h.1)
    have E := Lib.hid e
    clear e
    go_enter Tryz.func101, Tryz.ntmps101
    go_wp2_with fail
    go_ret
    exact ⟨ret_bool E.out.symm, rfl⟩

/-! ### One piece for another one, at each place -/

theorem pre_iff (s a : ByteArray) (i : Nat) : a.data.toList.isPrefixOf (s.data.toList.drop i) = decide ((s.extract i (i + a.size)).toList = a.toList) := by
  rw [Bool.eq_iff_iff, List.isPrefixOf_iff_prefix, decide_eq_true_iff, list_eq, ByteArray.data_extract, Array.toList_extract]
  rw [List.prefix_iff_eq_take, List.extract_eq_take_drop]
  rw [show i + a.size - i = a.data.toList.length by rw [size_list]; omega]
  exact eq_comm
theorem repTo_end (s a b : ByteArray) : repTo s a b (s.size + 1) = repL s a b := by
  unfold repL
  have h : ∀ d : Nat, s.size + 1 - a.size + d ≤ s.size + 1 → repTo s a b (s.size + 1 - a.size + d) = repTo s a b (s.size + 1 - a.size) := by
    intro d
    induction d with
    | zero => intro _; rfl
    | succ d ih =>
      intro hd
      rw [← Nat.add_assoc, repTo_succ, ih (by omega)]
      have : repAt s a b (s.size + 1 - a.size + d) = none := by
        unfold repAt
        rw [if_neg]
        intro h
        have h2 : (s.extract (s.size + 1 - a.size + d) (s.size + 1 - a.size + d + a.size)).size = a.size := by
          rw [show s.extract (s.size + 1 - a.size + d) (s.size + 1 - a.size + d + a.size) = a from bytes_inj h]
        rw [ByteArray.size_extract] at h2
        omega
      rw [this]; simp
  by_cases ha : a.size ≤ s.size + 1
  · have := h a.size (by omega)
    rwa [show s.size + 1 - a.size + a.size = s.size + 1 by omega] at this
  · have h0 : s.size + 1 - a.size = 0 := by omega
    have := h (s.size + 1) (by omega)
    rwa [show s.size + 1 - a.size + (s.size + 1) = s.size + 1 by omega] at this

theorem repTo_pre (s a b : ByteArray) (i : Nat) : ∀ m, i ≤ m → repTo s a b i <+: repTo s a b m := by
  intro m
  induction m with
  | zero => intro h; rw [show i = 0 by omega]; exact List.prefix_refl _
  | succ m ih =>
    intro h
    by_cases e : i = m + 1
    · rw [e]; exact List.prefix_refl _
    · rw [repTo_succ]; exact (ih (by omega)).trans (List.prefix_append _ _)

/-- What is made at a place. -/
def madeAt (s a b : ByteArray) (i : Nat) : ByteArray := s.extract 0 i ++ (b ++ s.extract (i + a.size) s.size)
theorem repAt_made (s a b : ByteArray) (i : Nat) : repAt s a b i = if a.data.toList.isPrefixOf (s.data.toList.drop i) && decide (1 ≤ (madeAt s a b i).size ∧ (madeAt s a b i).size ≤ 12) then some (madeAt s a b i) else none := by
  unfold repAt madeAt
  rw [pre_iff, ← ByteArray.append_assoc]
  by_cases h : (s.extract i (i + a.size)).toList = a.toList
  · rw [if_pos h, decide_eq_true h, Bool.true_and]
    by_cases h2 : 1 ≤ (s.extract 0 i ++ b ++ s.extract (i + a.size) s.size).size ∧ (s.extract 0 i ++ b ++ s.extract (i + a.size) s.size).size ≤ 12
    · rw [if_pos h2, if_pos (decide_eq_true h2)]
    · rw [if_neg h2, if_neg (by simp only [decide_eq_true_eq]; exact h2)]
  · rw [if_neg h, decide_eq_false h, Bool.false_and]; rfl

theorem cut_call (s a : ByteArray) (i : Nat) (_hi : i ≤ s.size) (v : Bool) (hv : a.data.toList.isPrefixOf (s.data.toList.drop i) = v) (W : World) :
    Calls Tryz.prog 124 #[.string (s.extract i s.size), .string a] W fun e w' => e = .returned (.tuple #[.string (if v then s.extract (i + a.size) s.size else s.extract i s.size), .bool v]) ∧ w' = W := by
  refine (Tryz.strings_CutPrefix _ _ _).mono fun e w' h => ⟨?_, h.2⟩
  rw [h.1]
  unfold Lib.trimPrefix Lib.hasPrefix
  rw [extract_drop, hv]
  cases v with
  | true =>
    refine ret_val ?_
    rw [if_pos rfl, if_pos rfl]
    congr 1
    have e2 : (⟨((s.data.toList.drop i).drop a.data.toList.length).toArray⟩ : ByteArray) = s.extract (i + a.size) s.size := by
      refine bytes_inj ?_
      rw [ByteArray.toList_eq, ByteArray.toList_eq, extract_drop, List.drop_drop, size_list]
    rw [e2]
  | false =>
    refine ret_val ?_
    rw [if_neg (by simp), if_neg (by simp)]
    have e2 : (⟨(s.data.toList.drop i).toArray⟩ : ByteArray) = s.extract i s.size := by
      refine bytes_inj ?_
      rw [ByteArray.toList_eq, ByteArray.toList_eq, extract_drop]
    rw [e2]

set_option maxRecDepth 100000 in
set_option maxHeartbeats 1600000 in
theorem rep_in (l n Bk By n₀ N : Nat) (Bs : List Nat) (k a b : ByteArray) (J Jx : List ByteArray → World → Prop) (hk : k.size ≤ 12) (ha : a.size ≤ 1000) (hb : b.size ≤ 1000) (hBk : Bk ∈ Bs)
    (hY : ∀ m pre x W, x.size ≤ 12 → J pre W → pre.length < N → YieldAt Fence.wide m Tryz.prog l #[.string x] W fun e W' =>
      (e = .returned (.bool true) ∧ J (pre ++ [x]) W' ∧ KpX n₀ Bs [116, 64] W W') ∨ (e = .returned (.bool false) ∧ Jx (pre ++ [x]) W'))
    (pre : List ByteArray) (W : World) (h1 : W.heap[Bk]? = some (.cells #[.string k] 82 (0, 0))) (h2 : W.heap[By]? = some (.cells #[.func (.yield l) #[] #[]] 116 (0, 0))) (hJ : J pre W) (hN : pre.length + (repL k a b).length ≤ N) :
    CallsIn Fence.wide n Tryz.prog 123 #[.string a, .string b, .pointer (some ⟨Bk, 0, none⟩), .pointer (some ⟨By, 0, none⟩)] W fun e W' =>
      (e = .returned (.bool true) ∧ J (pre ++ repL k a b) W' ∧ KpX n₀ Bs [116, 64] W W') ∨ (e = .returned (.bool false) ∧ ∃ q, q <+: repL k a b ∧ Jx (pre ++ q) W') := by
  have HN := Lib.hid hN
  have HY := Lib.hid hY
  have H1 := Lib.hid h1
  have H2 := Lib.hid h2
  have HJ := Lib.hid hJ
  have c1 : W.cell? ⟨Bk, 0, none⟩ = some (.string k) := by rw [Lib.cell_of_heap h1]; rfl
  clear hN hY h1 h2 hJ
  refine callsIn_of_wp Tryz.func123 rfl trivial ?_ rfl
  simp only [Tryz.ntmps123, List.size_toArray, List.length_cons, List.length_nil, Nat.reduceAdd, Nat.reduceSub, Array.replicate_succ, Array.replicate_zero, List.push_toArray, List.append_toArray, List.nil_append, List.cons_append]
  gi_wp2
  gi_loopw [14] (fun i wr => ∃ j : Nat, j ≤ k.size + 1 ∧ i = .int .i64 j ∧ J (pre ++ repTo k a b j) wr ∧ KpX n₀ Bs [116, 64] W wr) (fun i _ => k.size + 1 - (intOf i).toNat)
  case atStart => exact ⟨0, Nat.zero_le _, rfl, by simpa [repTo] using HJ.out, KpX.refl _ _ _ _⟩
  case round =>
    obtain ⟨j, hj, rfl, hJj, hkp⟩ := hrel
    have g1 : wr.cell? ⟨Bk, 0, none⟩ = some (.string k) := by rw [Lib.cell_of_heap ((hkp.block Bk hBk).trans H1.out)]; rfl
    have g2 : wr.cell? ⟨By, 0, none⟩ = some (.func (.yield l) #[] #[]) := by rw [Lib.cell_of_heap (hkp.typed By _ _ _ (by simp) H2.out)]; rfl
    by_cases hlt : j < k.size + 1
    · have j1 : (0 : Int) ≤ (j : Int) := by omega
      have j2 : (j : Int) ≤ (k.size : Int) := by omega
      cases hp : a.data.toList.isPrefixOf (k.data.toList.drop j) with
      | false =>
        have q := fun W => cut_call k a j (by omega) false hp W
        have en : repTo k a b (j + 1) = repTo k a b j := by rw [repTo_succ, repAt_made, hp]; simp
        have Q := Lib.hid q
        have EN := Lib.hid en
        clear q en hp
        gi_wp2_with (refine ⟨trivial, (fun h => (by cases h)), ?_⟩; gi_at_call 124; refine (callsIn_wide.2 (Q.out _)).mono ?_; rintro e w' ⟨rfl, rfl⟩)
        go_roundw
        case rel => exact ⟨j + 1, by omega, by go_num, by rw [EN.out]; exact hJj, hkp⟩
        case measure => simp [intOf]; omega
      | true =>
        have q := fun W => cut_call k a j (by omega) true hp W
        cases hf : decide (1 ≤ (madeAt k a b j).size ∧ (madeAt k a b j).size ≤ 12) with
        | false =>
          have en : repTo k a b (j + 1) = repTo k a b j := by rw [repTo_succ, repAt_made, hp, hf]; simp
          have f : ∀ W : World, Calls Tryz.prog 101 #[.string (k.extract 0 j ++ (b ++ k.extract (j + a.size) k.size))] W fun e w' => e = .returned (.bool false) ∧ w' = W := fun W => by
            have := fits_any (madeAt k a b j) W
            rw [hf] at this
            exact this
          have Q := Lib.hid q
          have EN := Lib.hid en
          have F := Lib.hid f
          clear q en hp hf f
          gi_wp2_with (first
            | (refine ⟨trivial, (fun h => (by cases h)), ?_⟩; gi_at_call 124; refine (callsIn_wide.2 (Q.out _)).mono ?_; rintro e w' ⟨rfl, rfl⟩)
            | (refine ⟨trivial, (fun h => (by cases h)), ?_⟩; gi_at_call 101; refine (callsIn_wide.2 (F.out _)).mono ?_; rintro e w' ⟨rfl, rfl⟩))
          refine ⟨fun _ h => (by cases h), ?_⟩
          gi_wp2
          go_roundw
          case rel => exact ⟨j + 1, by omega, by go_num, by rw [EN.out]; exact hJj, hkp⟩
          case measure => simp [intOf]; omega
        | true =>
          have en : repTo k a b (j + 1) = repTo k a b j ++ [madeAt k a b j] := by rw [repTo_succ, repAt_made, hp, hf]; simp
          have f : ∀ W : World, Calls Tryz.prog 101 #[.string (k.extract 0 j ++ (b ++ k.extract (j + a.size) k.size))] W fun e w' => e = .returned (.bool true) ∧ w' = W := fun W => by
            have := fits_any (madeAt k a b j) W
            rw [hf] at this
            exact this
          have hpre := repTo_pre k a b (j + 1) (k.size + 1) (by omega)
          rw [repTo_end] at hpre
          have hlen := hpre.length_le
          have hN2 := HN.out
          have hsz12 : (k.extract 0 j ++ (b ++ k.extract (j + a.size) k.size)).size ≤ 12 := (of_decide_eq_true hf).2
          obtain ⟨fn, tmps, assign, body, hy, hR⟩ := HY.out (n - 1) (pre ++ repTo k a b j) (k.extract 0 j ++ (b ++ k.extract (j + a.size) k.size)) wr hsz12 hJj (by
            rw [en] at hlen; simp only [List.length_append, List.length_singleton] at hlen ⊢; omega)
          have Q := Lib.hid q
          have EN := Lib.hid en
          have F := Lib.hid f
          have PRE := Lib.hid hpre
          have HR := Lib.hid hR
          clear q en hp hf f hpre hlen hN2 hR hsz12
          gi_wp2_with (first
            | (refine ⟨trivial, (fun h => (by cases h)), ?_⟩; gi_at_call 124; refine (callsIn_wide.2 (Q.out _)).mono ?_; rintro e w' ⟨rfl, rfl⟩)
            | (refine ⟨trivial, (fun h => (by cases h)), ?_⟩; gi_at_call 101; refine (callsIn_wide.2 (F.out _)).mono ?_; rintro e w' ⟨rfl, rfl⟩))
          refine ⟨(fun h => (by cases h)), ?_⟩
          refine HR.out.mono ?_
          rintro e W3 (⟨rfl, hJ3, hk3⟩ | ⟨rfl, hx3⟩)
          · gi_wp2
            go_roundw
            case rel => exact ⟨j + 1, by omega, by go_num, by rw [EN.out, ← List.append_assoc]; exact hJ3, hkp.trans hk3⟩
            case measure => simp [intOf]; omega
          · gi_wp2
            go_ret
            exact .inr ⟨rfl, repTo k a b (j + 1), PRE.out, by rw [EN.out, ← List.append_assoc]; exact hx3⟩
    · have hj' : j = k.size + 1 := by omega
      have e : repTo k a b j = repL k a b := by rw [hj']; exact repTo_end k a b
      rw [e] at hJj
      clear e hj'
      gi_wp2
      go_ret
      exact .inl ⟨rfl, hJj, hkp⟩

set_option maxRecDepth 100000 in
set_option maxHeartbeats 1600000 in
theorem uses1_in (l n Bk Br n₀ nn c : Nat) (Bs : List Nat) (A : Option Addr) (k : ByteArray) (rs : List (ByteArray × ByteArray)) (J Jx : List ByteArray → World → Prop) (W : World) (hk : k.size ≤ 12) (hs : Short100 rs) (hn : nn = rs.length) (hb : nn ≤ 1000) (hBk : Bk ∈ Bs)
    (hBs : ∀ b, b ∈ Bs → b < W.heap.size) (hn0 : n₀ ≤ W.heap.size) (hJ : AbidesFrom W.heap.size J)
    (hY : ∀ pre x W1, x.size ≤ 12 → J pre W1 → pre.length < (madeL rs k).length → YieldAt Fence.wide (n - 1) Tryz.prog l #[.string x] W1 fun e W' =>
      (e = .returned (.bool true) ∧ J (pre ++ [x]) W' ∧ KpX n₀ Bs [116, 64] W1 W') ∨ (e = .returned (.bool false) ∧ Jx (pre ++ [x]) W'))
    (h1 : W.heap[Bk]? = some (.cells #[.string k] 82 (0, 0))) (h2 : W.cell? ⟨Br, 0, none⟩ = some (.slice A nn c)) (hx : ∀ W', Below n₀ W W' → Cells W' A (ruleCells rs)) (h0 : J [] W) :
    CallsIn Fence.wide n Tryz.prog 122 #[.func (.yield l) #[] #[], .pointer (some ⟨Bk, 0, none⟩), .pointer (some ⟨Br, 0, none⟩)] W fun e W' => (∃ v, e = .returned v) ∧
      ((∃ ys, ys = madeL rs k ∧ J ys W') ∨ (∃ pre, pre <+: madeL rs k ∧ Jx pre W')) := by
  have HBr : Br < W.heap.size := World.block_lt_of_cell? W _ h2
  have g2 := (((Below.refl W.heap.size W).alloc (Nat.le_refl _) (.cells #[.func (.yield l) #[] #[]] 116)).cell (p := ⟨Br, 0, none⟩) HBr).trans h2
  have hal : ∀ pre A (o : Obj), J pre A → J pre (A.alloc o) := fun pre A o hj => hJ pre A (A.alloc o) none hj (World.grownBy_alloc A o none) (fun r e => by cases e)
  have k1 : KpX n₀ Bs [116, 64] W (W.alloc (.cells #[.func (.yield l) #[] #[]] 116)) := KpX.of_below ((Below.refl _ _).alloc (Nat.le_refl _) _) hn0 hBs
  have hBy := heap_alloc_new W (.cells #[.func (.yield l) #[] #[]] 116)
  have h1' := (k1.block Bk hBk).trans h1
  have hJ1 := hal [] W (.cells #[.func (.yield l) #[] #[]] 116) h0
  have hsz : (W.alloc (.cells #[.func (.yield l) #[] #[]] 116)).heap.size = W.heap.size + 1 := by simp
  have HY := Lib.hid hY
  have HX := Lib.hid hx
  have HS := Lib.hid hs
  have HN := Lib.hid hn
  have HAL := Lib.hid hal
  have H1 := Lib.hid h1'
  have HBY := Lib.hid hBy
  have HBS := Lib.hid hBs
  have HBK := Lib.hid hBk
  have HSZ := Lib.hid hsz
  clear hY hx hs hn hal h1 h1' hBy h2 hJ h0 hBs hBk hsz
  refine callsIn_of_wp Tryz.func122 rfl trivial ?_ rfl
  simp only [Tryz.ntmps122, List.size_toArray, List.length_cons, List.length_nil, Nat.reduceAdd, Nat.reduceSub, Array.replicate_succ, Array.replicate_zero, List.push_toArray, List.append_toArray, List.nil_append, List.cons_append]
  gi_wp2
  generalize W.alloc (.cells #[.func (.yield l) #[] #[]] 116) = V at *
  generalize hBY : W.heap.size = By at *
  gi_loopw [10] (fun i wr => ∃ j : Nat, j ≤ nn ∧ i = .int .i64 j ∧ J (madeL (rs.take j) k) wr ∧ KpX n₀ Bs [116, 64] V wr ∧ V.heap.size ≤ wr.heap.size) (fun i _ => nn - (intOf i).toNat)
  case atStart => exact ⟨0, Nat.zero_le _, rfl, hJ1, KpX.refl _ _ _ _, Nat.le_refl _⟩
  case round =>
    obtain ⟨j, hj, rfl, hJj, hkp, hvs⟩ := hrel
    by_cases hlt : j < nn
    · have hjs : j < rs.length := by rw [← HN.out]; exact hlt
      obtain ⟨b1, o1, rfl, c1, c2⟩ := (HX.out wr (k1.below.trans hkp.below)).rule j hjs
      obtain ⟨z1, z2⟩ := HS.out rs[j] (List.getElem_mem _)
      have est := madeL_step rs k j hjs
      have hle1 : (madeL (rs.take (j + 1)) k).length ≤ (madeL rs k).length := by
        have : madeL rs k = madeL (rs.take (j + 1)) k ++ madeL (rs.drop (j + 1)) k := by
          unfold madeL; rw [← List.flatMap_append, List.take_append_drop]
        rw [this]; simp
      have hpre1 : madeL (rs.take (j + 1)) k <+: madeL rs k := by
        have : madeL rs k = madeL (rs.take (j + 1)) k ++ madeL (rs.drop (j + 1)) k := by
          unfold madeL; rw [← List.flatMap_append, List.take_append_drop]
        rw [this]; exact List.prefix_append _ _
      generalize hX : rs[j] = X at *
      obtain ⟨X, Y⟩ := X
      simp only at c1 c2 z1 z2 est
      have kA : KpX n₀ Bs [116, 64] wr (wr.alloc (.cells #[.string X, .string Y] 64)) := KpX.of_below ((Below.refl _ _).alloc (Nat.le_refl _) _) (by have := HSZ.out; omega) (fun b hb' => by have := HBS.out b hb'; have := HSZ.out; omega)
      have hJA := HAL.out _ _ (.cells #[.string X, .string Y] 64) hJj
      have kV := hkp.trans kA
      have hR0 := heap_alloc_new wr (.cells #[.string X, .string Y] 64)
      have hlr : (madeL (rs.take j) k).length + (repL k X Y).length + (repL k Y X).length ≤ (madeL rs k).length := by
        rw [est] at hle1; simp only [List.length_append] at hle1; exact hle1
      have q1 := rep_in l (n - 1) Bk By n₀ (madeL rs k).length Bs k X Y J Jx hk z1 z2 HBK.out (fun m pre x W1 h12 hj hl => YieldAt.deep m (HY.out pre x W1 h12 hj hl)) _ _ ((kV.block Bk HBK.out).trans H1.out) (kV.typed By _ _ _ (by simp) HBY.out) hJA (by omega)
      have Q1 := Lib.hid q1
      have EST := Lib.hid est
      have HLR := Lib.hid hlr
      have PRE := Lib.hid hpre1
      have R0 := Lib.hid hR0
      clear q1 est hlr hpre1 hle1 hR0
      gi_wp2_with (fail)
      refine ⟨trivial, (fun h => (by cases h)), ?_⟩
      refine Q1.out.mono ?_
      rintro e W3 (⟨rfl, hJ3, hk3⟩ | ⟨rfl, q, hq, hx3⟩)
      · have hR3 := hk3.typed wr.heap.size _ _ _ (by simp) R0.out
        obtain ⟨c3, c4, _, _⟩ := block2_cells hR3
        have kW := kV.trans hk3
        have q2 := rep_in l (n - 1) Bk By n₀ (madeL rs k).length Bs k Y X J Jx hk z2 z1 HBK.out (fun m pre x W1 h12 hj hl => YieldAt.deep m (HY.out pre x W1 h12 hj hl)) _ _ ((kW.block Bk HBK.out).trans H1.out) (kW.typed By _ _ _ (by simp) HBY.out) hJ3 (by have := HLR.out; simp only [List.length_append]; omega)
        have Q2 := Lib.hid q2
        have hsz3 := hk3.below.size
        clear q2 hR3 Q1
        gi_wp2_with (fail)
        refine ⟨trivial, (fun h => (by cases h)), ?_⟩
        refine Q2.out.mono ?_
        rintro e W4 (⟨rfl, hJ4, hk4⟩ | ⟨rfl, q, hq, hx4⟩)
        · have hsz4 := hk4.below.size
          gi_wp2
          go_roundw
          case rel => exact ⟨j + 1, by omega, by go_num, by rw [EST.out]; exact hJ4, kW.trans hk4, by simp at hsz3; omega⟩
          case measure => simp [intOf]; omega
        · gi_wp2
          refine bodyPost_ret (results_none rfl _ _ _) rfl ?_
          refine ⟨⟨_, rfl⟩, .inr ⟨madeL (rs.take j) k ++ repL k X Y ++ q, ?_, hx4⟩⟩
          refine List.IsPrefix.trans ?_ PRE.out
          rw [EST.out]
          exact List.prefix_append_right_inj _ |>.2 hq
      · gi_wp2
        refine ⟨fun _ h => (by cases h), ?_⟩
        gi_wp2
        refine bodyPost_ret (results_none rfl _ _ _) rfl ?_
        refine ⟨⟨_, rfl⟩, .inr ⟨madeL (rs.take j) k ++ q, ?_, hx3⟩⟩
        refine List.IsPrefix.trans ?_ PRE.out
        rw [EST.out, List.append_assoc]
        exact (List.prefix_append_right_inj _).2 (hq.trans (List.prefix_append _ _))
    · have hjn : j = nn := by omega
      have e : rs.take j = rs := by rw [hjn, HN.out]; exact List.take_length
      rw [e] at hJj
      clear e hjn
      gi_wp2
      go_end0
      exact ⟨⟨_, rfl⟩, .inl ⟨_, rfl, hJj⟩⟩

/-- k.uses(rules): both are boxed; the function value captures the boxes. -/
theorem uses_any (k : ByteArray) (R : Value) (A : Option Addr) (n c : Nat) (hR : R = .slice A n c) (w : World) : Calls Tryz.prog 97 #[.string k, R] w fun e w' =>
    e = .returned (.func (.func 122) #[] #[.pointer (some ⟨w.heap.size, 0, none⟩), .pointer (some ⟨w.heap.size + 1, 0, none⟩)]) ∧ w' = (w.alloc (.cells #[.string k] 82)).alloc (.cells #[R] 46) := by
  subst hR
  go_enter Tryz.func97, Tryz.ntmps97
  go_wp2_with fail
  go_ret
  exact ⟨rfl, rfl⟩

/-- A string of at most twelve letters. -/
abbrev K12 := { x : ByteArray // x.size ≤ 12 }
/-- What k.uses(rules) hands back goes through all that one use makes, in its order. -/
theorem uses_stops (n Bk Br n₀ nn c : Nat) (Bs : List Nat) (A : Option Addr) (k : ByteArray) (rs : List (ByteArray × ByteArray)) (w : World) (hk : k.size ≤ 12) (hs : Short100 rs) (hn : nn = rs.length) (hb : nn ≤ 1000) (hBk : Bk ∈ Bs)
    (hBs : ∀ b, b ∈ Bs → b < w.heap.size) (hn0 : n₀ ≤ w.heap.size) (h1 : w.heap[Bk]? = some (.cells #[.string k] 82 (0, 0))) (h2 : w.cell? ⟨Br, 0, none⟩ = some (.slice A nn c)) (hx : ∀ W', Below n₀ w W' → Cells W' A (ruleCells rs)) :
    SeqStopsK Fence.wide n Tryz.prog 122 #[.pointer (some ⟨Bk, 0, none⟩), .pointer (some ⟨Br, 0, none⟩)] (fun x : K12 => #[Value.string x.1]) (KpX n₀ Bs [116, 64])
      (fun ys => ys.map (·.1) = madeL rs k) (fun pre => pre.map (·.1) <+: madeL rs k) (madeL rs k).length w := by
  intro l J Jx W hW hJ _ hY h0
  refine (uses1_in l n Bk Br n₀ nn c Bs A k rs (fun L W => ∃ L' : List K12, L'.map (·.1) = L ∧ J L' W) (fun L W => ∃ L' : List K12, L'.map (·.1) = L ∧ Jx L' W) W hk hs hn hb hBk (fun b hb' => Nat.lt_of_lt_of_le (hBs b hb') hW.size) (Nat.le_trans hn0 hW.size)
    (fun s A B row hs hg hr => by obtain ⟨L', e, hj⟩ := hs; exact ⟨L', e, hJ L' A B row hj hg hr⟩) ?_ ((hW.block Bk (hBs Bk hBk)).trans h1)
    ((hW.cell (p := ⟨Br, 0, none⟩) (World.block_lt_of_cell? w _ h2)).trans h2) (fun W' hb' => hx W' ((hW.mono hn0).trans hb')) ⟨[], rfl, h0⟩).mono ?_
  · rintro pre x W1 h12 ⟨pre', rfl, hj⟩ hl
    obtain ⟨fn, tmps, assign, body, hy, hR⟩ := hY pre' ⟨x, h12⟩ W1 hj (by simpa using hl)
    refine ⟨fn, tmps, assign, body, hy, hR.mono fun e w' hr => ?_⟩
    rcases hr with ⟨he, hj', hk'⟩ | ⟨he, hx'⟩
    · exact .inl ⟨he, ⟨pre' ++ [⟨x, h12⟩], by simp, hj'⟩, hk'⟩
    · exact .inr ⟨he, ⟨pre' ++ [⟨x, h12⟩], by simp, hx'⟩⟩
  · rintro e W' ⟨hv, ⟨ys, rfl, L', e', hj⟩ | ⟨pre, hp, L', e', hj⟩⟩
    · exact ⟨hv, .inl ⟨L', e', hj⟩⟩
    · exact ⟨hv, .inr ⟨L', by show L'.map (·.1) <+: madeL rs k; rw [e']; exact hp, hj⟩⟩
end Go.Proofs.YtljlkhaolfihjaaGreatDoor
