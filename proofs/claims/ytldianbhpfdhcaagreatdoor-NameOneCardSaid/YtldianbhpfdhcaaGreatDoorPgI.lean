/- The next string of a chain. -/
import Derived.Test.YtldianbhpfdhcaaGreatDoorPgH
import Derived.Test.YtldianbhpfdhcaaGreatDoorPgE
namespace Go.Proofs.YtldianbhpfdhcaaGreatDoor
open Go.RowKit Go.Shelf Go.Sort

attribute [local go_sem] Oper.semAt_some

def minLt (x m : ByteArray) : Bool := decide (Lib.compareBytes x.data.toList m.data.toList < 0)
theorem pick_min (d : Array ByteArray) : ∀ j, j < d.size → Lib.pickBy minLt d j = minStr (d.toList.take (j + 1))
  | 0, h => by
    obtain ⟨x, t, e⟩ : ∃ x t, d.toList = x :: t := by
      cases e : d.toList with
      | nil => rw [← Array.length_toList, e] at h; simp at h
      | cons x t => exact ⟨x, t, rfl⟩
    rw [e]
    show d[0]! = x
    rw [getElem!_pos d 0 h, ← Array.getElem_toList]
    simp [e]
  | j + 1, h => by
    have ih := pick_min d j (by omega)
    have hl : j + 1 < d.toList.length := by simpa using h
    have e : d.toList.take (j + 1 + 1) = d.toList.take (j + 1) ++ [d[j + 1]] := by
      rw [List.take_succ_eq_append_getElem hl]; simp
    obtain ⟨x, t, e2⟩ : ∃ x t, d.toList.take (j + 1) = x :: t := by
      cases e3 : d.toList with
      | nil => rw [e3] at hl; simp at hl
      | cons x t => exact ⟨x, t.take j, by simp⟩
    show (if minLt d[j + 1]! (Lib.pickBy minLt d j) then d[j + 1]! else Lib.pickBy minLt d j) = _
    rw [ih, e, e2, getElem!_pos d (j + 1) h]
    show _ = (t ++ [d[j + 1]]).foldl _ x
    rw [List.foldl_append]
    show _ = if Lib.compareBytes _ (minStr (x :: t)).data.toList < 0 then _ else (minStr (x :: t))
    unfold minLt
    by_cases hc : Lib.compareBytes d[j + 1].data.toList (minStr (x :: t)).data.toList < 0
    · rw [if_pos hc, decide_eq_true hc]; rfl
    · rw [if_neg hc, decide_eq_false hc]; rfl

theorem keyCmp_lays (blk off size : Nat) (w : World) : CmpLays1 Tryz.prog 121 #[] Value.string (fun a b : ByteArray => Lib.compareBytes a.data.toList b.data.toList) blk off size w := by
  intro k os dk _ x y
  refine (keyCmp_any x y _).mono fun e w' h => ⟨h.1, 0, #[], ?_⟩
  rw [h.2, grow_empty]; rfl

theorem minKey_any (G cap : Nat) (L : List ByteArray) (w : World) (base : Nat) (hL : L ≠ []) (hsz : L.length < 1000000) (hB : base ≤ w.heap.size) (h : w.ownsRow base 86 1 (.slice (some ⟨G, 0, none⟩) L.length cap) L.length (L.map Value.string)) :
    Calls Tryz.prog 129 #[.slice (some ⟨G, 0, none⟩) L.length cap, .func (.func 121) #[] #[]] w fun e w' => e = .returned (.string (minStr L)) ∧ Below base w w' ∧ ∀ (k : Nat) (o : Obj), w.heap[k]? = some o → o.isCells = false → w'.heap[k]? = some o := by
  obtain ⟨cG, hcG⟩ := own_block h G rfl
  have hG := (h.lt G rfl)
  have h0 : 0 < L.toArray.size := by cases L with
    | nil => exact absurd rfl hL
    | cons x t => simp
  have q := Any.slices_MinFunc_s Tryz.minKey Value.string (fun _ => rfl) (fun a b : ByteArray => Lib.compareBytes a.data.toList b.data.toList) 121 #[] G 0 cap L.toArray w
    (enters_of Tryz.func121 (by kernel_rfl) rfl) (keyCmp_lays G 0 _ w) (fun j hj => ?_) hG.2 (by simp; omega) h0
  · refine q.mono ?_
    rintro e w' ⟨rfl, n, os, rfl⟩
    refine ⟨?_, below_sortWorld _ _ _ _ _ _ _ _ hG.1 hB, ?_⟩
    rotate_left
    · intro k o hk ho
      have hkl := (Array.getElem?_eq_some_iff.1 hk).1
      have hne : k ≠ G := fun e => by
        subst e
        rw [hk] at hcG; cases hcG; cases ho
      show ((w.heap.modify G _) ++ os)[k]? = _
      rw [Array.getElem?_append_left (by simp; omega), Array.getElem?_modify, if_neg (fun e => hne e.symm)]
      exact hk
    have := pick_min L.toArray (L.toArray.size - 1) (by omega)
    unfold minLt at this
    rw [this, show L.toArray.size - 1 + 1 = L.length by simp; simp at h0; omega]
    simp
  · have hj1 : j < L.length := by simpa using hj
    refine ⟨?_, ?_⟩
    · rw [Nat.zero_add, h.cellAt j (by omega), List.getElem?_map, List.getElem?_eq_getElem hj1, getElem!_pos _ j hj]
      simp
    · rw [Nat.zero_add]; exact h.frozenAt j

def awayL (rs : List (ByteArray × ByteArray)) (goal : ByteArray) (n : Nat) (L : List ByteArray) : List ByteArray := L.filter fun m => metP rs goal m == some n
theorem awayL_snoc (rs : List (ByteArray × ByteArray)) (goal : ByteArray) (n : Nat) (L : List ByteArray) (x : ByteArray) (h : (metP rs goal x == some n) = true) : awayL rs goal n (L ++ [x]) = awayL rs goal n L ++ [x] := by
  unfold awayL
  rw [List.filter_append, List.filter_cons, h]; rfl
theorem awayL_skip (rs : List (ByteArray × ByteArray)) (goal : ByteArray) (n : Nat) (L : List ByteArray) (x : ByteArray) (h : (metP rs goal x == some n) = false) : awayL rs goal n (L ++ [x]) = awayL rs goal n L := by
  unfold awayL
  rw [List.filter_append, List.filter_cons, h]; simp
theorem awayL_len (rs : List (ByteArray × ByteArray)) (goal : ByteArray) (n : Nat) (L : List ByteArray) : (awayL rs goal n L).length ≤ L.length := List.length_filter_le _ _

theorem atInt {D : DU} {kl : Lit} {d : DU} {a b : Int} (h : D.atKey kl d = .lit (.int .i64 a)) (k : D.atKey kl d = .lit (.int .i64 b)) : b = a := by
  rw [h] at k
  injection k with k
  injection k with _ k
  exact k.symm

def valsK (xs : List K12) : List ByteArray := xs.map (·.1)
theorem valsK_snoc (xs : List K12) (x : K12) : valsK (xs ++ [x]) = valsK xs ++ [x.1] := by unfold valsK; rw [List.map_append]; rfl

/-- An append through a variable that lies below what is grown. -/
theorem app_through {n₀ B base size k m : Nat} {Bs : List Nat} {Ts : List TypeId} {W w2 : World} {t e : TypeId} {v v' : Value} {xs ys : List Value} {tmp : Obj} (hv : W.heap[B]? = some (.cells #[v] t (0, 0))) (hrow : W.ownsRow base e size v k xs) (hT : base ≤ W.heap.size) (hB : B < base) (hn : n₀ ≤ B)
    (hBs : ∀ b, b ∈ Bs → b < base ∧ b ≠ B) (ht : t ∉ Ts) (he : e ∉ Ts) (hown' : w2.ownsRow base e size v' m ys) (hgrow : (W.alloc tmp).grownBy w2 v.ownBlock) :
    KeepsOthers W (w2.setCell ⟨B, 0, none⟩ v') ∧ KpX n₀ Bs Ts W (w2.setCell ⟨B, 0, none⟩ v') ∧ (w2.setCell ⟨B, 0, none⟩ v').heap[B]? = some (.cells #[v'] t (0, 0)) ∧ (w2.setCell ⟨B, 0, none⟩ v').ownsRow base e size v' m ys ∧
    (∀ b, b < base → b ≠ B → (w2.setCell ⟨B, 0, none⟩ v').heap[b]? = W.heap[b]?) ∧ W.heap.size ≤ (w2.setCell ⟨B, 0, none⟩ v').heap.size := by
  have hne : ∀ r, v.ownBlock = some r → base ≤ r := fun r h => (hrow.lt r h).1
  have hg2b := own_block (hrow.alloc tmp)
  have hb12 := ((Below.refl base W).alloc hT tmp).grown hgrow (by simp; omega) (fun j hj => hne j hj)
  have hs2 := hb12.size
  have hsz : (w2.setCell ⟨B, 0, none⟩ v').heap.size = w2.heap.size := by simp [World.setCell]
  have hv2 := (hb12.block B hB).trans hv
  have k2 : KpX n₀ Bs Ts W (W.alloc tmp) := KpX.of_below ((Below.refl _ _).alloc (Nat.le_refl _) _) (by omega) (fun b hb' => by have := hBs b hb'; omega)
  have k3 : KpX n₀ Bs Ts (W.alloc tmp) w2 := KpX.grown hgrow (by simp; omega) (fun b hb' => by have := hBs b hb'; simp; omega) (fun r h => by
    have h1 := hne r h
    refine ⟨by omega, fun hh => (by have := hBs r hh; omega), fun c t' fz ht' hh => ?_⟩
    obtain ⟨c', hc'⟩ := hg2b r h
    rw [hh] at hc'
    injection hc' with hc'
    injection hc' with _ h3 _
    subst h3
    exact he ht')
  have k4 : KpX n₀ Bs Ts w2 (w2.setCell ⟨B, 0, none⟩ v') := KpX.grown (grownBy_setCell' _ _ _) (by omega) (fun b hb' => by have := hBs b hb'; omega) (fun r h => by
    injection h with h
    subst h
    refine ⟨by omega, fun hh => (hBs _ hh).2 rfl, fun c t' fz ht' hh => ?_⟩
    rw [hv2] at hh
    injection hh with hh
    injection hh with _ h3 _
    subst h3
    exact ht ht')
  refine ⟨((KeepsOthers.alloc W tmp).trans (KeepsOthers.of_grownBy hgrow fun j o ej hj => ?_)).trans (KeepsOthers.setCell _ _ _), (k2.trans k3).trans k4, Boxed.set _ hv2, hown'.kept (grownBy_setCell' w2 B v') (.inr (fun h => by have h1 := (hown'.lt _ h).1; omega)), fun b hb hbB => ?_, by rw [hsz]; exact hs2⟩
  · obtain ⟨c', hc'⟩ := hg2b j ej
    rw [hj] at hc'
    injection hc' with hc'
    rw [hc']; rfl
  · exact (Below.heap_setCell _ _ _ _ (by simpa using hbB)).trans (hb12.block b hb)

structure NextI (w : World) (R : Value) (B base n : Nat) (L : List ByteArray) (W : World) : Prop where
  p : W.heap[w.heap.size]? = some (.cells #[R, .map (some B)] 125 (0, 0))
  nb : W.heap[w.heap.size + 1]? = some (.cells #[.int .i64 n] 3 (0, 0))
  next : ∃ v : Value, W.heap[w.heap.size + 2]? = some (.cells #[v] 139 (0, 0)) ∧ W.ownsRow base 86 1 v L.length (L.map Value.string)
  below : Below w.heap.size w W
  size : base ≤ W.heap.size

theorem NextI.own {w : World} {R : Value} {B base n : Nat} {L : List ByteArray} {A C : World} {row : Option Nat} (hs : NextI w R B base n L A) (hg : A.grownBy C row) (hr : ∀ r, row = some r → w.heap.size ≤ r ∧ ∃ o : Obj, A.heap[r]? = some o ∧ o.isCells = false) : NextI w R B base n L C := by
  have hr2 : ∀ r, row = some r → ∃ o : Obj, A.heap[r]? = some o ∧ o.isCells = false := fun r e => (hr r e).2
  obtain ⟨v, h1, h2⟩ := hs.next
  exact ⟨cells_turn hs.p hg hr2, cells_turn hs.nb hg hr2, ⟨v, cells_turn h1 hg hr2, row_turn h2 hg hr2⟩, hs.below.grown hg hs.below.size (fun k e => (hr k e).1), Nat.le_trans hs.size hg.size⟩

set_option maxRecDepth 100000 in
set_option maxHeartbeats 4000000 in
theorem pathNext_any (A : Option Addr) (nn c B m n : Nat) (rs : List (ByteArray × ByteArray)) (goal k : ByteArray) (D : DU) (w : World) (hk : k.size ≤ 12) (hs : Short100 rs) (hn : nn = rs.length) (hb : nn ≤ 1000) (hx : Cells w A (ruleCells rs))
    (ho : OwnMet w B m D) (hM : MapIs (metP rs goal) D) (hne : awayL rs goal n (madeL rs k) ≠ []) (hn1 : n ≤ 1) :
    Calls Tryz.prog 95 #[.agg #[.slice A nn c, .map (some B)], .string k, .int .i64 n] w fun e w' =>
      e = .returned (.string (nextG rs goal k n)) ∧ Below w.heap.size w w' := by
  have hBlt := World.ownsMap.lt ho
  have hBV : Below w.heap.size w (((w.alloc (.cells #[.slice A nn c, .map (some B)] 125)).alloc (.cells #[.int .i64 n] 3)).alloc (.cells #[.slice none 0 0] 139)) := (((Below.refl _ w).alloc (Nat.le_refl _) _).alloc (by simp) _).alloc (by simp; omega) _
  have hV0 : (((w.alloc (.cells #[.slice A nn c, .map (some B)] 125)).alloc (.cells #[.int .i64 n] 3)).alloc (.cells #[.slice none 0 0] 139)).heap[w.heap.size]? = some (.cells #[.slice A nn c, .map (some B)] 125 (0, 0)) :=
    (Below.heap_alloc _ _ _ (by simp; omega)).trans ((Below.heap_alloc _ _ _ (by simp)).trans (heap_alloc_new w _))
  have hV1 : (((w.alloc (.cells #[.slice A nn c, .map (some B)] 125)).alloc (.cells #[.int .i64 n] 3)).alloc (.cells #[.slice none 0 0] 139)).heap[w.heap.size + 1]? = some (.cells #[.int .i64 n] 3 (0, 0)) := by
    refine (Below.heap_alloc _ _ _ (by simp)).trans ?_
    have := heap_alloc_new (w.alloc (.cells #[.slice A nn c, .map (some B)] 125)) (.cells #[.int .i64 n] 3)
    rwa [World.size_alloc] at this
  have hV2 : (((w.alloc (.cells #[.slice A nn c, .map (some B)] 125)).alloc (.cells #[.int .i64 n] 3)).alloc (.cells #[.slice none 0 0] 139)).heap[w.heap.size + 2]? = some (.cells #[.slice none 0 0] 139 (0, 0)) := by
    have := heap_alloc_new ((w.alloc (.cells #[.slice A nn c, .map (some B)] 125)).alloc (.cells #[.int .i64 n] 3)) (.cells #[.slice none 0 0] 139)
    rwa [World.size_alloc, World.size_alloc] at this
  have hVs : (((w.alloc (.cells #[.slice A nn c, .map (some B)] 125)).alloc (.cells #[.int .i64 n] 3)).alloc (.cells #[.slice none 0 0] 139)).heap.size = w.heap.size + 3 := by simp
  have HN := Lib.hid hn
  have HX := Lib.hid hx
  have HS := Lib.hid hs
  have HM := Lib.hid hM
  have HVS := Lib.hid hVs
  clear hn hx hs hM hVs
  refine (callsIn_wide (n := 10)).1 (callsIn_of_wp_marks Tryz.func95 rfl trivial ?_ rfl)
  simp only [Tryz.ntmps95, List.size_toArray, List.length_cons, List.length_nil, Nat.reduceAdd, Nat.reduceSub, Array.replicate_succ, Array.replicate_zero, List.push_toArray, List.append_toArray, List.nil_append, List.cons_append]
  gi_wp2_with (fail)
  generalize ((w.alloc (.cells #[.slice A nn c, .map (some B)] 125)).alloc (.cells #[.int .i64 n] 3)).alloc (.cells #[.slice none 0 0] 139) = V at *
  refine ⟨trivial, ?_⟩
  refine (callsIn_wide.2 (uses_any k _ A nn c rfl _)).mono ?_
  rintro e w' ⟨rfl, rfl⟩
  gi_wp2_with (fail)
  have hk1 : ((V.alloc (.cells #[.string k] 86)).alloc (.cells #[.slice A nn c] 45)).heap[V.heap.size]? = some (.cells #[.string k] 86 (0, 0)) := (Below.heap_alloc _ _ _ (by simp)).trans (heap_alloc_new V _)
  have hk2 : ((V.alloc (.cells #[.string k] 86)).alloc (.cells #[.slice A nn c] 45)).heap[V.heap.size + 1]? = some (.cells #[.slice A nn c] 45 (0, 0)) := by
    have := heap_alloc_new (V.alloc (.cells #[.string k] 86)) (.cells #[.slice A nn c] 45)
    rwa [World.size_alloc] at this
  have hbV : Below V.heap.size V ((V.alloc (.cells #[.string k] 86)).alloc (.cells #[.slice A nn c] 45)) := ((Below.refl _ V).alloc (Nat.le_refl _) _).alloc (by simp) _
  have hTs : ((V.alloc (.cells #[.string k] 86)).alloc (.cells #[.slice A nn c] 45)).heap.size = V.heap.size + 2 := by simp
  generalize (V.alloc (.cells #[.string k] 86)).alloc (.cells #[.slice A nn c] 45) = T at *
  have hBT := hBV.trans (hbV.mono (by have := HVS.out; omega))
  have hI0 : NextI w (.slice A nn c) B T.heap.size n [] T :=
    ⟨(hbV.block _ (by have := HVS.out; omega)).trans hV0, (hbV.block _ (by have := HVS.out; omega)).trans hV1, ⟨.slice none 0 0, (hbV.block _ (by have := HVS.out; omega)).trans hV2, World.ownsRow_nil _ _ _ _⟩, hBT, Nat.le_refl _⟩
  have HI0 := Lib.hid hI0
  have HK1 := Lib.hid hk1
  have HK2 := Lib.hid hk2
  have HTS := Lib.hid hTs
  have HO := Lib.hid ho
  clear hI0 hk1 hk2 hTs hV0 hV1 hV2 hbV hBV hBT ho
  generalize V.heap.size = Y at *
  refine wpIn_rangeFunc_ownG (α := K12) rfl (by decide) (gf := 156) (lb := #[.pointer (some ⟨Y, 0, none⟩), .pointer (some ⟨Y + 1, 0, none⟩)]) rfl trivial (enters_of Tryz.func156 (by kernel_rfl) rfl)
    (uses_stops _ Y (Y + 1) w.heap.size nn c [Y] A k rs T hk HS.out HN.out hb (by simp) (fun b hb' => by have := HTS.out; have := HVS.out; simp at hb'; omega) (by have := HTS.out; have := HVS.out; omega) HK1.out (cells_at HK2.out).1 (fun W' hW' => HX.out.below (HI0.out.below.trans hW')))
    KpX.trans (fun W l o o' hl h ho _ => KpX.putObj (B := T.heap.size) (by have := HTS.out; have := HVS.out; omega) (fun b hb' => by have := HTS.out; have := HVS.out; simp at hb'; omega) W l o o' hl h ho) (Below.refl _ _) (fun _ => rfl)
    (fun (xs : List K12) W => NextI w (.slice A nn c) B T.heap.size n (awayL rs goal n (valsK xs)) W)
    (fun _ _ _ => False)
    (fun (xs : List K12) A C row (hs : NextI _ _ _ _ _ _ _) hg hr => hs.own hg (fun r e => ⟨by have := (hr r e).1; have := HTS.out; have := HVS.out; omega, (hr r e).2⟩))
    (fun _ _ _ _ _ hs _ _ => hs)
    HI0.out ?frame1 ?assign ?body ?done ?stop
  case assign =>
    intro l x W K hK
    gi_wp2
    exact hK
  case body =>
    rintro l pre x W hI hlt
    have hkey2 := key_lit x.1 (by have := x.2; omega)
    have hhas2 := HM.out.has x.1
    have hoW := OwnMet.below HO.out hI.below
    obtain ⟨p0, p1, _, _⟩ := block2_cells hI.p
    obtain ⟨a1, a2⟩ := cells_at hI.nb
    cases hc2 : metP rs goal x.1 with
    | none =>
      rw [hc2] at hhas2
      have hsk := awayL_skip rs goal n (valsK pre) x.1 (by rw [hc2]; rfl)
      have HH := Lib.hid hhas2
      have HI := Lib.hid hI
      have HSK := Lib.hid hsk
      clear hc2 hhas2 hI hsk
      gi_wp2_with (gi_at_lookup; refine wpListIn_lookup_own_ok_int _ rfl _ _ 123 rfl 86 3 .i64 keyLaw Tryz.underlying123 Tryz.underlying3 (Tryz.zeroValue3 _) B m _ rfl hoW _ _ rfl hkey2 ?_; intro q hat hwc; rw [HH.out]; clear hat hwc)
      exact ⟨KeepsFrom.refl _ _, KpX.refl _ _ _ _, by show NextI _ _ _ _ _ (awayL _ _ _ (valsK (pre ++ [x]))) _; rw [valsK_snoc, HSK.out]; exact HI.out⟩
    | some u =>
      rw [hc2] at hhas2
      have hat0 := HM.out.at_ x.1 u hc2
      by_cases hun : u = n
      · subst hun
        have hsk := awayL_snoc rs goal u (valsK pre) x.1 (by rw [hc2]; simp)
        have hcn : (awayL rs goal u (valsK pre)).length ≤ 26001 := by
          have h0 := awayL_len rs goal u (valsK pre)
          have h1 := madeL_len rs k hk
          have h2 := HN.out
          have h3 : (valsK pre).length = pre.length := by unfold valsK; simp
          omega
        obtain ⟨v, hv, hrow⟩ := hI.next
        obtain ⟨si, hi, hz0', hz1, hz2⟩ := info_parts infoKey
        obtain ⟨n0, n1⟩ := cells_at hv
        have hts : Y + 2 = T.heap.size := HTS.out.symm
        have hvs1 : w.heap.size + 3 = Y := by have := HVS.out; omega
        have hT := hI.size
        obtain ⟨O, cap, rfl⟩ := own_form hrow
        have HH := Lib.hid hhas2
        have HI := Lib.hid hI
        have HSK := Lib.hid hsk
        have HTS2 := Lib.hid hts
        clear hc2 hhas2 hI hsk hts
        gi_wp2_with (first
          | (gi_at_lookup; refine wpListIn_lookup_own_ok_int _ rfl _ _ 123 rfl 86 3 .i64 keyLaw Tryz.underlying123 Tryz.underlying3 (Tryz.zeroValue3 _) B m _ rfl hoW _ _ rfl hkey2 ?_; intro q hat hwc; obtain rfl := atInt hat0 hat; rw [HH.out]; clear hat hwc)
          | (gi_at_builtin; refine wpListIn_append_own _ rfl _ _ 139 rfl T.heap.size 86 si (.string ByteArray.empty) 1 16 Tryz.underlying139 hi hz0' hz1 hz2 rfl (by decide) _ _ _ rfl (hrow.alloc _) ⟨W.heap.size, 0, none⟩ 1 1 [.string x.1] rfl rfl (cell_one_new _ _ _) (by simp [Value.oneCell']) (by unfold maxLen; omega) (by omega) (by simp; omega) ?_; intro v' w2 hown' hgrow2 _; obtain ⟨g', cap', rfl⟩ := ownsRow_succ hown'; have hb12 := ((Below.refl T.heap.size W).alloc hT (.cells #[.string x.1] 86)).grown hgrow2 (by simp; omega) (fun j hj => (hrow.lt j hj).1); have hv2 := (hb12.block _ (by have := HTS2.out; omega)).trans hv; obtain ⟨m1, m2⟩ := cells_at hv2))
        have hts := HTS2.out
        obtain ⟨hF, hK, hset, hr3, hoth, hsz⟩ := app_through (n₀ := w.heap.size) (B := w.heap.size + 2) (Bs := [Y]) (Ts := [138, 81]) hv hrow hT (by omega) (by omega) (fun b hb' => by simp at hb'; omega) (by decide) (by decide) hown' hgrow2
        refine ⟨hF.from _, hK, ?_⟩
        show NextI _ _ _ _ _ (awayL _ _ _ (valsK (pre ++ [x]))) _
        rw [valsK_snoc, HSK.out]
        refine ⟨(hoth _ (by omega) (by omega)).trans HI.out.p, (hoth _ (by omega) (by omega)).trans HI.out.nb, ⟨_, hset, ?_⟩, HI.out.below.trans hK.below, Nat.le_trans hT hsz⟩
        rw [List.length_append, List.map_append]
        exact hr3
      · have hsk := awayL_skip rs goal n (valsK pre) x.1 (by rw [hc2]; simpa using hun)
        have HH := Lib.hid hhas2
        have HI := Lib.hid hI
        have HSK := Lib.hid hsk
        have hz : ¬ ((u : Int) = (n : Int)) := by omega
        clear hc2 hhas2 hI hsk
        gi_wp2_with (gi_at_lookup; refine wpListIn_lookup_own_ok_int _ rfl _ _ 123 rfl 86 3 .i64 keyLaw Tryz.underlying123 Tryz.underlying3 (Tryz.zeroValue3 _) B m _ rfl hoW _ _ rfl hkey2 ?_; intro q hat hwc; obtain rfl := atInt hat0 hat; rw [HH.out]; clear hat hwc)
        exact ⟨KeepsFrom.refl _ _, KpX.refl _ _ _ _, by show NextI _ _ _ _ _ (awayL _ _ _ (valsK (pre ++ [x]))) _; rw [valsK_snoc, HSK.out]; exact HI.out⟩
  case done =>
    rintro E xs W hD hxs hI hK
    replace hI : NextI w (.slice A nn c) B T.heap.size n (awayL rs goal n (madeL rs k)) W := by
      rw [← hxs]; exact hI
    have hcn : (awayL rs goal n (madeL rs k)).length ≤ 26001 := by
      have h0 := awayL_len rs goal n (madeL rs k)
      have h1 := madeL_len rs k hk
      have h2 := HN.out
      omega
    obtain ⟨v, hv, hrow⟩ := hI.next
    obtain ⟨n0, n1⟩ := cells_at hv
    have hl : (awayL rs goal n (madeL rs k)).length = ((awayL rs goal n (madeL rs k)).length - 1) + 1 := by
      have : 0 < (awayL rs goal n (madeL rs k)).length := List.length_pos_iff.2 hne
      omega
    obtain ⟨g, cap, rfl⟩ : ∃ g cap, v = .slice (some ⟨g, 0, none⟩) (awayL rs goal n (madeL rs k)).length cap := by
      rw [hl] at hrow ⊢
      exact own_head hrow
    have q := minKey_any g cap _ W T.heap.size hne (by omega) hI.size hrow
    have Q := Lib.hid q
    have HI := Lib.hid hI
    have HK := Lib.hid hK
    have HNE := Lib.hid hne
    clear q hI hK hxs hrow hv hl hne
    gi_wp2_with (refine ⟨trivial, ?_⟩; refine (callsIn_wide.2 Q.out).mono ?_; rintro e w' ⟨rfl, hb, hkk⟩)
    refine ⟨by simp, .inl ⟨_, _, rfl, run_takeDeferred (hkk _ _ HK.out rfl), ?_⟩⟩
    have e1 := HTS.out
    have e2 := HVS.out
    have hbb := HI.out.below.trans (hb.mono (by omega))
    exact ⟨.string (minStr (awayL rs goal n (madeL rs k))), by simp [results, Tryz.results95, go_sem], rfl, hbb.grown (grownBy_putObj' w' E (.deferred Option.none)) hbb.size (fun j e => by injection e with e; omega)⟩
  case stop =>
    rintro E cd pre W _ _ h _
    exact h.elim
end Go.Proofs.YtldianbhpfdhcaaGreatDoor
