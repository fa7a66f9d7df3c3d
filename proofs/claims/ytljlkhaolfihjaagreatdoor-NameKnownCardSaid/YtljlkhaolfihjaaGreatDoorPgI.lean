/- The ways to a key: the spellings that were met. -/
import Derived.Test.YtljlkhaolfihjaaGreatDoorPgF
import Derived.Test.YtljlkhaolfihjaaGreatDoorPgSpecB
import Derived.Maps.OwnIn
import Derived.Maps.AppendAt
import Derived.Test.YtljlkhaolfihjaaGreatDoorPgE
namespace Go.Proofs.YtljlkhaolfihjaaGreatDoor
open Go.RowKit Go.Shelf

attribute [local go_sem] Oper.semAt_some

abbrev DU := DataW Unit
def kLit (x : ByteArray) : Lit := .string x.data.toList
theorem kLit_ne {x y : ByteArray} (h : x ≠ y) : kLit x ≠ kLit y := fun e => h (by
  unfold kLit at e
  injection e with e
  exact bytes_inj (by rw [ByteArray.toList_eq, ByteArray.toList_eq, e]))
/-- A map as it reads: which keys it has, and what they hold. -/
structure MapIs (M : ByteArray → Option Nat) (D : DU) : Prop where
  isMap : Maps.IsMap D
  has : ∀ x, Maps.has D (kLit x) = (M x).isSome
  at_ : ∀ x n, M x = some n → D.atKey (kLit x) (.lit (.int .i64 0)) = .lit (.int .i64 n)
theorem MapIs.put {M : ByteArray → Option Nat} {D : DU} (h : MapIs M D) (x : ByteArray) (n : Nat) : MapIs (fun y => if y = x then some n else M y) (D.put (kLit x) (.lit (.int .i64 n))) := by
  refine ⟨h.isMap.put _ _, fun y => ?_, fun y m hm => ?_⟩
  · by_cases e : y = x
    · subst e
      rw [Maps.has_put_same h.isMap (by trivial)]; simp
    · rw [Maps.has_put_other (kLit_ne e), h.has]; simp [e]
  · by_cases e : y = x
    · subst e
      rw [Maps.atKey_put_same h.isMap (by trivial)]
      simp at hm; rw [hm]
    · rw [Maps.atKey_put_other (kLit_ne e)]
      exact h.at_ y m (by simpa [e] using hm)
theorem MapIs.none : MapIs (fun _ => Option.none) (.map [] : DU) := ⟨Maps.isMap_empty, fun _ => rfl, fun _ _ h => by cases h⟩
theorem MapIs.congr {M M' : ByteArray → Option Nat} {D : DU} (h : MapIs M D) (e : ∀ x, M x = M' x) : MapIs M' D := by
  have : M = M' := funext e
  rwa [← this]

def metL (goal : ByteArray) (L : List ByteArray) (x : ByteArray) : Option Nat := if x = goal then some 0 else if L.any (fun y => decide (y = x)) then some 1 else Option.none
theorem metP_L (rs : List (ByteArray × ByteArray)) (goal x : ByteArray) : metP rs goal x = metL goal (madeL rs goal) x := rfl
theorem metL_hit (goal : ByteArray) (L : List ByteArray) (x : ByteArray) (h : (metL goal L x).isSome = true) : ∀ y, metL goal L y = metL goal (L ++ [x]) y := by
  intro y
  unfold metL at h ⊢
  by_cases e : y = goal
  · rw [if_pos e, if_pos e]
  · rw [if_neg e, if_neg e, List.any_append]
    by_cases e2 : x = y
    · subst e2
      rw [if_neg e] at h
      cases hc : L.any (fun y => decide (y = x)) with
      | true => simp
      | false => rw [hc] at h; simp at h
    · rw [List.any_cons, List.any_nil, decide_eq_false e2, Bool.or_false, Bool.or_false]
theorem metL_miss (goal : ByteArray) (L : List ByteArray) (x : ByteArray) (h : (metL goal L x).isSome = false) : ∀ y, (if y = x then some 1 else metL goal L y) = metL goal (L ++ [x]) y := by
  intro y
  unfold metL at h ⊢
  by_cases e : y = x
  · subst e
    rw [if_pos rfl]
    by_cases e2 : y = goal
    · rw [if_pos e2] at h; simp at h
    · rw [if_neg e2, List.any_append]; simp
  · rw [if_neg e, List.any_append]
    have : ¬ x = y := fun h => e h.symm
    rw [List.any_cons, List.any_nil, decide_eq_false this, Bool.or_false, Bool.or_false]

theorem keyLaw : Maps.Keyed Tryz.prog 82 := Maps.string_keyed Tryz.underlying82
theorem key_lit (x : ByteArray) (h : x.size ≤ 1000) : keyOf Tryz.prog 82 (.string x) = some (kLit x) := WideMaps.keyOf_string_mk Tryz.underlying82 (by unfold maxLen; omega)
abbrev OwnMet (w : World) (B n : Nat) (D : DU) : Prop := w.ownsMap Tryz.prog 82 (plainElem (H := Unit) Tryz.prog 3) B n D
theorem infoKey : (Tryz.prog.info? 82).map (fun i => (i.zero, i.size, i.bytes)) = some (some (.string ByteArray.empty), 1, 16) := by kernel_rfl

theorem cells_at {W : World} {B : Nat} {t : TypeId} {v : Value} (h : W.heap[B]? = some (.cells #[v] t (0, 0))) : W.cell? ⟨B, 0, none⟩ = some v ∧ W.frozen? ⟨B, 0, none⟩ = false := ⟨Boxed.cell h, Boxed.frozen h⟩

/-- What lies between two rounds of the way's search: the map of what was met, the next spellings, the rest as it was. -/
structure PathI (w : World) (goal : ByteArray) (R : Value) (Z base : Nat) (pre : List K12) (W : World) : Prop where
  next : ∃ (v : Value) (k : Nat) (xs : List Value), W.heap[Z + 1 + 1 + 1]? = some (.cells #[v] 117 (0, 0)) ∧ W.ownsRow base 82 1 v k xs ∧ k ≤ pre.length
  met : ∃ (D : DU) (m : Nat), OwnMet W (w.heap.size + 1) m D ∧ m ≤ pre.length + 1 ∧ MapIs (metL goal (pre.map (·.1))) D
  path : W.heap[Z]? = some (.cells #[R, .map (some (w.heap.size + 1))] 108 (0, 0))
  uses : W.heap[Z + 1 + 1]? = some (.cells #[.int .i64 1] 3 (0, 0))
  res : W.heap[w.heap.size]? = some (.cells #[.slice none 0 0, .map none] 108 (0, 0))
  below : Below w.heap.size w W
  size : base ≤ W.heap.size

theorem cells_turn {A C : World} {row : Option Nat} {b : Nat} {c : Array Value} {t : TypeId} {fz : Nat × Nat} (h : A.heap[b]? = some (.cells c t fz)) (hg : A.grownBy C row) (hr : ∀ r, row = some r → ∃ o : Obj, A.heap[r]? = some o ∧ o.isCells = false) : C.heap[b]? = some (.cells c t fz) := by
  refine (hg.block b (Array.getElem?_eq_some_iff.1 h).1 fun e => ?_).trans h
  obtain ⟨o, ho, hc⟩ := hr b e.symm
  rw [h] at ho; cases ho; cases hc
theorem row_turn {A C : World} {row : Option Nat} {base : Nat} {e : TypeId} {size n : Nat} {v : Value} {xs : List Value} (h : A.ownsRow base e size v n xs) (hg : A.grownBy C row) (hr : ∀ r, row = some r → ∃ o : Obj, A.heap[r]? = some o ∧ o.isCells = false) : C.ownsRow base e size v n xs := by
  refine h.kept hg ?_
  rcases h.2 with ⟨rfl, _⟩ | ⟨g, cap, cur, rfl, _, hgb, _⟩
  · exact .inl rfl
  · refine .inr fun e' => ?_
    obtain ⟨o, ho, hc⟩ := hr g (by simpa [Value.ownBlock] using e'.symm)
    rw [hgb] at ho; cases ho; cases hc

theorem pathI_own (w : World) (goal : ByteArray) (R : Value) (Z base B : Nat) (hB : w.heap.size + 1 < B) : OwnFrom B (PathI w goal R Z base) := by
  intro s A C row hs hg hr
  have hr2 : ∀ r, row = some r → ∃ o : Obj, A.heap[r]? = some o ∧ o.isCells = false := fun r e => (hr r e).2
  obtain ⟨v, k, xs, h1, h2, h3⟩ := hs.next
  obtain ⟨D, m, h4, h5, h6⟩ := hs.met
  exact ⟨⟨v, k, xs, cells_turn h1 hg hr2, row_turn h2 hg hr2, h3⟩, ⟨D, m, h4.kept hg (fun e => by have := (hr _ e.symm).1; omega), h5, h6⟩, cells_turn hs.path hg hr2, cells_turn hs.uses hg hr2, cells_turn hs.res hg hr2,
    hs.below.grown hg hs.below.size (fun k e => by have := (hr k e).1; omega), Nat.le_trans hs.size hg.size⟩

def PathPost (rs : List (ByteArray × ByteArray)) (goal : ByteArray) (R : Value) (w : World) (e : Ending) (w' : World) : Prop :=
  ∃ (B n : Nat) (D : DU), e = .returned (.agg #[R, .map (some B)]) ∧ OwnMet w' B n D ∧ MapIs (metP rs goal) D ∧ w.heap.size ≤ B ∧ Below w.heap.size w w'

set_option maxRecDepth 100000 in
set_option maxHeartbeats 4000000 in
theorem pathTo_any (A : Option Addr) (nn c : Nat) (rs : List (ByteArray × ByteArray)) (goal : ByteArray) (w : World) (hg : goal.size ≤ 12) (hs : Short100 rs) (hn : nn = rs.length) (hb : nn ≤ 1000) (hx : Cells w A (ruleCells rs)) :
    Calls Tryz.prog 67 #[.string goal, .slice A nn c] w (PathPost rs goal (.slice A nn c) w) := by
  have r0 : (w.alloc (.cells #[.slice none 0 0, .map none] 108)).heap[w.heap.size]? = some (.cells #[.slice none 0 0, .map none] 108 (0, 0)) := heap_alloc_new w _
  have hmm := @run_makeMap Tryz.prog
  have m0 := World.ownsMap_made (w.alloc (.cells #[.slice none 0 0, .map none] 108)) Tryz.prog 82 (plainElem (H := Unit) Tryz.prog 3)
  obtain ⟨wm, hrun, hown, hgm⟩ := m0.update (val := .int .i64 0) keyLaw Tryz.underlying106 (by unfold maxLen; omega) (key_lit goal (by omega)) (plainElem_int Tryz.underlying3 (by decide))
  have hB0 : Below w.heap.size w wm := (((Below.refl _ w).alloc (Nat.le_refl _) _).alloc (by simp) _).grown hgm (by simp; omega) (fun k e => by cases e; simp)
  have r1 := (hgm.block w.heap.size (by simp; omega) (by simp)).trans ((Below.heap_alloc _ _ _ (by simp)).trans r0)
  clear r0
  simp only [World.size_alloc, Nat.zero_add] at hrun hown hgm
  have hM0 : MapIs (metL goal []) ((.map [] : DU).put (kLit goal) (.lit (.int .i64 ((0 : Nat) : Int)))) := (MapIs.none.put goal 0).congr (fun x => by unfold metL; simp)
  have HN := Lib.hid hn
  have HX := Lib.hid hx
  have HS := Lib.hid hs
  have HOWN := Lib.hid hown
  have HM0 := Lib.hid hM0
  have HB0 := Lib.hid hB0
  have hz0 := hgm.size
  simp only [World.size_alloc] at hz0
  clear hn hx hs hown hM0 hB0 hgm m0
  refine (callsIn_wide (n := 10)).1 (callsIn_of_wp_marks Tryz.func67 rfl trivial ?_ rfl)
  simp only [Tryz.ntmps67, List.size_toArray, List.length_cons, List.length_nil, Nat.reduceAdd, Nat.reduceSub, Array.replicate_succ, Array.replicate_zero, List.push_toArray, List.append_toArray, List.nil_append, List.cons_append]
  gi_wp2
  refine wpIn_loop_rounds 2 ?_
  rw [roundsIn_succ]
  gi_wp2
  refine wpIn_loop_rounds 2 ?_
  rw [roundsIn_succ]
  gi_wp2_with (fail)
  have hV : Below wm.heap.size wm ((((wm.alloc (.cells #[.slice A nn c, .map (some (w.heap.size + 1))] 108)).alloc (.cells #[.string goal] 82)).alloc (.cells #[.int .i64 1] 3)).alloc (.cells #[.slice none 0 0] 117)) :=
    ((((Below.refl _ wm).alloc (Nat.le_refl _) _).alloc (by simp) _).alloc (by simp; omega) _).alloc (by simp; omega) _
  have hP : ((((wm.alloc (.cells #[.slice A nn c, .map (some (w.heap.size + 1))] 108)).alloc (.cells #[.string goal] 82)).alloc (.cells #[.int .i64 1] 3)).alloc (.cells #[.slice none 0 0] 117)).heap[wm.heap.size]? = some (.cells #[.slice A nn c, .map (some (w.heap.size + 1))] 108 (0, 0)) :=
    (Below.heap_alloc _ _ _ (by simp; omega)).trans ((Below.heap_alloc _ _ _ (by simp; omega)).trans ((Below.heap_alloc _ _ _ (by simp)).trans (heap_alloc_new wm _)))
  have hU : ((((wm.alloc (.cells #[.slice A nn c, .map (some (w.heap.size + 1))] 108)).alloc (.cells #[.string goal] 82)).alloc (.cells #[.int .i64 1] 3)).alloc (.cells #[.slice none 0 0] 117)).heap[wm.heap.size + 1 + 1]? = some (.cells #[.int .i64 1] 3 (0, 0)) := by
    refine (Below.heap_alloc _ _ _ (by simp)).trans ?_
    have := heap_alloc_new ((wm.alloc (.cells #[.slice A nn c, .map (some (w.heap.size + 1))] 108)).alloc (.cells #[.string goal] 82)) (.cells #[.int .i64 1] 3)
    rwa [World.size_alloc, World.size_alloc] at this
  have hNx : ((((wm.alloc (.cells #[.slice A nn c, .map (some (w.heap.size + 1))] 108)).alloc (.cells #[.string goal] 82)).alloc (.cells #[.int .i64 1] 3)).alloc (.cells #[.slice none 0 0] 117)).heap[wm.heap.size + 1 + 1 + 1]? = some (.cells #[.slice none 0 0] 117 (0, 0)) := by
    have := heap_alloc_new (((wm.alloc (.cells #[.slice A nn c, .map (some (w.heap.size + 1))] 108)).alloc (.cells #[.string goal] 82)).alloc (.cells #[.int .i64 1] 3)) (.cells #[.slice none 0 0] 117)
    rwa [World.size_alloc, World.size_alloc, World.size_alloc] at this
  have hMt : OwnMet ((((wm.alloc (.cells #[.slice A nn c, .map (some (w.heap.size + 1))] 108)).alloc (.cells #[.string goal] 82)).alloc (.cells #[.int .i64 1] 3)).alloc (.cells #[.slice none 0 0] 117)) (w.heap.size + 1) 1 ((.map [] : DU).put (kLit goal) (.lit (.int .i64 ((0 : Nat) : Int)))) := (((HOWN.out.alloc _).alloc _).alloc _).alloc _
  have hRV := (hV.block w.heap.size (by omega)).trans r1
  have hVs : ((((wm.alloc (.cells #[.slice A nn c, .map (some (w.heap.size + 1))] 108)).alloc (.cells #[.string goal] 82)).alloc (.cells #[.int .i64 1] 3)).alloc (.cells #[.slice none 0 0] 117)).heap.size = wm.heap.size + 4 := by simp
  have hBV := HB0.out.trans (hV.mono HB0.out.size)
  generalize (((wm.alloc (.cells #[.slice A nn c, .map (some (w.heap.size + 1))] 108)).alloc (.cells #[.string goal] 82)).alloc (.cells #[.int .i64 1] 3)).alloc (.cells #[.slice none 0 0] 117) = V at *
  generalize wm.heap.size = Z at *
  have HVS := Lib.hid hVs
  have HP := Lib.hid hP
  have HU := Lib.hid hU
  have HNX := Lib.hid hNx
  have HMT := Lib.hid hMt
  have HRV := Lib.hid hRV
  clear hRV r1
  clear hV hP hU hNx hMt hVs
  refine ⟨trivial, ?_⟩
  refine (callsIn_wide.2 (uses_any goal _ A nn c rfl _)).mono ?_
  rintro e w' ⟨rfl, rfl⟩
  gi_wp2_with (fail)
  have hk1 : ((V.alloc (.cells #[.string goal] 82)).alloc (.cells #[.slice A nn c] 46)).heap[V.heap.size]? = some (.cells #[.string goal] 82 (0, 0)) := (Below.heap_alloc _ _ _ (by simp)).trans (heap_alloc_new V _)
  have hk2 : ((V.alloc (.cells #[.string goal] 82)).alloc (.cells #[.slice A nn c] 46)).heap[V.heap.size + 1]? = some (.cells #[.slice A nn c] 46 (0, 0)) := by
    have := heap_alloc_new (V.alloc (.cells #[.string goal] 82)) (.cells #[.slice A nn c] 46)
    rwa [World.size_alloc] at this
  have hbV : Below V.heap.size V ((V.alloc (.cells #[.string goal] 82)).alloc (.cells #[.slice A nn c] 46)) := ((Below.refl _ V).alloc (Nat.le_refl _) _).alloc (by simp) _
  have hTs : ((V.alloc (.cells #[.string goal] 82)).alloc (.cells #[.slice A nn c] 46)).heap.size = V.heap.size + 2 := by simp
  have hMT2 : OwnMet ((V.alloc (.cells #[.string goal] 82)).alloc (.cells #[.slice A nn c] 46)) (w.heap.size + 1) 1 ((.map [] : DU).put (kLit goal) (.lit (.int .i64 ((0 : Nat) : Int)))) := (HMT.out.alloc _).alloc _
  generalize (V.alloc (.cells #[.string goal] 82)).alloc (.cells #[.slice A nn c] 46) = T at *
  generalize V.heap.size = Y at *
  have hBT := hBV.trans (hbV.mono (by have := HVS.out; omega))
  have hI0 : PathI w goal (.slice A nn c) Z T.heap.size [] T :=
    ⟨⟨.slice none 0 0, 0, [], (hbV.block _ (by have := HVS.out; omega)).trans HNX.out, World.ownsRow_nil _ _ _ _, Nat.le_refl _⟩, ⟨_, 1, hMT2, by simp, HM0.out⟩, (hbV.block _ (by have := HVS.out; omega)).trans HP.out, (hbV.block _ (by have := HVS.out; omega)).trans HU.out, (hbV.block _ (by have := HVS.out; omega)).trans HRV.out, hBT, Nat.le_refl _⟩
  have HI0 := Lib.hid hI0
  have HK1 := Lib.hid hk1
  have HK2 := Lib.hid hk2
  have HTS := Lib.hid hTs
  clear hI0 hk1 hk2 hMT2 hTs
  refine wpIn_rangeFunc_ownG (α := K12) rfl (by decide) (gf := 122) (lb := #[.pointer (some ⟨Y, 0, none⟩), .pointer (some ⟨Y + 1, 0, none⟩)]) rfl trivial (enters_of Tryz.func122 (by kernel_rfl) rfl)
    (uses_stops _ Y (Y + 1) w.heap.size nn c [Y] A goal rs T hg HS.out HN.out hb (by simp) (fun b hb' => by have := HTS.out; have := HVS.out; simp at hb'; omega) (by have := HTS.out; have := HVS.out; omega) HK1.out (cells_at HK2.out).1 (fun W' hW' => HX.out.below (hBT.trans hW')))
    KpX.trans (fun W l o o' hl h ho _ => KpX.putObj (B := T.heap.size) (by have := HTS.out; have := HVS.out; omega) (fun b hb' => by have := HTS.out; have := HVS.out; simp at hb'; omega) W l o o' hl h ho) (Below.refl _ _) (fun _ => rfl)
    (PathI w goal (.slice A nn c) Z T.heap.size) (fun _ _ _ => False) (pathI_own _ _ _ _ _ _ (by have := HTS.out; have := HVS.out; omega)) (fun _ _ _ _ _ hs _ _ => hs) HI0.out ?frame1 ?assign ?body ?done ?stop
  case assign =>
    intro l x W K hK
    gi_wp2
    exact hK
  case body =>
    rintro l pre x W ⟨⟨v, k, xs, hv, hrow, hk⟩, ⟨D, m, hown, hm, hM⟩, hP, hU, hR, hB, hSz⟩ hlt
    have hkey := key_lit x.1 (by have := x.2; omega)
    have hhas := hM.has x.1
    obtain ⟨p0, p1, _, _⟩ := block2_cells hP
    have hlen : pre.length ≤ 26001 := by
      have h1 := madeL_len rs goal hg
      have h2 := HN.out
      omega
    cases hc : (metL goal (pre.map (·.1)) x.1).isSome with
    | true =>
      rw [hc] at hhas
      have HH := Lib.hid hhas
      have HM := Lib.hid hM
      have HC := Lib.hid hc
      clear hhas hc hM
      gi_wp2_with (gi_at_lookup; refine wpListIn_lookup_own_ok_int _ rfl _ _ 106 rfl 82 3 .i64 keyLaw Tryz.underlying106 Tryz.underlying3 (Tryz.zeroValue3 _) (w.heap.size + 1) m _ rfl hown _ _ rfl hkey ?_; intro c hat hwc; rw [HH.out])
      exact ⟨KeepsFrom.refl _ _, KpX.refl _ _ _ _, ⟨v, k, xs, hv, hrow, by simp; omega⟩, ⟨D, m, hown, by simp; omega, HM.out.congr (by rw [List.map_append]; exact metL_hit _ _ _ HC.out)⟩, hP, hU, hR, hB, hSz⟩
    | false =>
      rw [hc] at hhas
      have HH := Lib.hid hhas
      have HM := Lib.hid hM
      have HC := Lib.hid hc
      clear hhas hc hM
      obtain ⟨si, hi, hz0', hz1, hz2⟩ := info_parts infoKey
      have hts : Y + 2 = T.heap.size := HTS.out.symm
      have hvs1 : Z + 4 ≤ Y := by have := HVS.out; omega
      obtain ⟨u0, _⟩ := cells_at hU
      have hmapb : ∀ r, some (w.heap.size + 1) = some r → ∃ o : Obj, W.heap[r]? = some o ∧ o.isCells = false := by
        obtain ⟨es, ck, hh, _⟩ := hown
        intro r e
        cases e
        exact ⟨_, hh, rfl⟩
      obtain ⟨O, cap, rfl⟩ := own_form hrow
      have HTS2 := Lib.hid hts
      have HMB := Lib.hid hmapb
      clear hts hmapb
      gi_wp2_with (first
        | (gi_at_lookup; refine wpListIn_lookup_own_ok_int _ rfl _ _ 106 rfl 82 3 .i64 keyLaw Tryz.underlying106 Tryz.underlying3 (Tryz.zeroValue3 _) (w.heap.size + 1) m _ rfl hown _ _ rfl hkey ?_; intro c hat hwc; rw [HH.out]; clear hat hwc)
        | (gi_at_mapUpdate; refine wpListIn_mapUpdate_own _ rfl _ _ _ 106 rfl 82 3 keyLaw Tryz.underlying106 _ (w.heap.size + 1) m _ rfl hown (by unfold maxLen; omega) _ _ _ rfl rfl hkey _ [] (plainElem_int Tryz.underlying3 (by decide)) ?_; intro w1 hown1 hgrow1; have hv1 := cells_turn hv hgrow1 HMB.out; have n0 := (cells_at hv1).1; have hrow1 := row_turn hrow hgrow1 HMB.out; have hs1 := hgrow1.size)
        | (gi_at_builtin; refine wpListIn_append_own _ rfl _ _ 117 rfl T.heap.size 82 si (.string ByteArray.empty) 1 16 Tryz.underlying117 hi hz0' hz1 hz2 rfl (by decide) _ _ _ rfl (hrow1.alloc _) ⟨w1.heap.size, 0, none⟩ 1 1 [.string x.1] rfl rfl (cell_one_new _ _ _) (by simp [Value.oneCell']) (by unfold maxLen; omega) (by omega) (by simp; omega) ?_; intro v' w2 hown' hgrow2 _; obtain ⟨g', cap', rfl⟩ := ownsRow_succ hown'; have hb12 := ((Below.refl T.heap.size w1).alloc (by omega) (.cells #[.string x.1] 82)).grown hgrow2 (by simp; omega) (fun j hj => (hrow1.lt j hj).1); have hv2 := (hb12.block _ (by have := HTS2.out; omega)).trans hv1; obtain ⟨n1, n2⟩ := cells_at hv2))
      have hs2 := hb12.size
      have hts := HTS2.out
      have hne : ∀ r, Value.ownBlock (.slice O k cap) = some r → T.heap.size ≤ r := fun r e => (hrow1.lt r e).1
      have hg2b := own_block (hrow1.alloc (.cells #[.string x.1] 82))
      have hmem : ∀ b, b ∈ [Y] → b < T.heap.size := fun b hb' => by simp at hb'; have := HTS2.out; omega
      have k1 : KpX w.heap.size [Y] [116, 64] W w1 := KpX.grown hgrow1 (by omega) (fun b hb' => by have := hmem b hb'; omega) (fun r e => by
        injection e with e
        subst e
        have h2 := HTS2.out
        refine ⟨by omega, fun hh => (by simp at hh; omega), fun c t fz _ hh => ?_⟩
        obtain ⟨o, ho, hc⟩ := HMB.out _ rfl
        rw [hh] at ho; cases ho; cases hc)
      have k2 : KpX w.heap.size [Y] [116, 64] w1 (w1.alloc (.cells #[.string x.1] 82)) := KpX.of_below ((Below.refl _ _).alloc (Nat.le_refl _) _) (by omega) (fun b hb' => by have := hmem b hb'; omega)
      have k3 : KpX w.heap.size [Y] [116, 64] (w1.alloc (.cells #[.string x.1] 82)) w2 := KpX.grown hgrow2 (by simp; omega) (fun b hb' => by have := hmem b hb'; simp; omega) (fun r e => by
        have h1 := hne r e
        refine ⟨by omega, fun hh => (by simp at hh; omega), fun c t fz ht hh => ?_⟩
        obtain ⟨c', hc'⟩ := hg2b r e
        rw [hh] at hc'
        injection hc' with hc'
        injection hc' with _ h3 _
        subst h3
        simp at ht)
      have k4 : KpX w.heap.size [Y] [116, 64] w2 (w2.setCell ⟨Z + 1 + 1 + 1, 0, none⟩ (.slice (some ⟨g', 0, none⟩) (k + 1) cap')) := KpX.grown (grownBy_setCell' _ _ _) (by omega) (fun b hb' => by have := hmem b hb'; omega) (fun r e => by
        injection e with e
        subst e
        refine ⟨by omega, fun hh => (by simp at hh; omega), fun c t fz ht hh => ?_⟩
        rw [hv2] at hh
        injection hh with hh
        injection hh with _ h3 _
        subst h3
        simp at ht)
      have hK := ((k1.trans k2).trans k3).trans k4
      have f1 : KeepsFrom T.heap.size W w1 := KeepsFrom.of_grownBy hgrow1 (fun j e => by injection e with e; omega)
      have f2 : KeepsFrom T.heap.size w1 w2 := ((KeepsOthers.alloc w1 (.cells #[.string x.1] 82)).trans (KeepsOthers.of_grownBy hgrow2 fun j o ej hj => by
        obtain ⟨c', hc'⟩ := hg2b j ej
        rw [hj] at hc'
        injection hc' with hc'
        rw [hc']; rfl)).from _
      have hF := (f1.trans f2).trans ((KeepsOthers.setCell w2 ⟨Z + 1 + 1 + 1, 0, none⟩ (.slice (some ⟨g', 0, none⟩) (k + 1) cap')).from _)
      have hm3 : OwnMet (w2.setCell ⟨Z + 1 + 1 + 1, 0, none⟩ (.slice (some ⟨g', 0, none⟩) (k + 1) cap')) (w.heap.size + 1) (m + 1) _ := ((hown1.alloc (.cells #[.string x.1] 82)).kept hgrow2 (fun e => by have := hne _ e.symm; have := HTS2.out; omega)).kept (grownBy_setCell' _ _ _) (fun e => by injection e with e; omega)
      have hr3 := hown'.kept (grownBy_setCell' w2 (Z + 1 + 1 + 1) (.slice (some ⟨g', 0, none⟩) (k + 1) cap')) (.inr (fun e => by have h1 := (hown'.lt _ e).1; omega))
      refine ⟨hF, hK, ⟨⟨_, k + 1, _, Boxed.set _ hv2, hr3, by simp; omega⟩, ⟨_, m + 1, hm3, by simp; omega, ?_⟩, ?_, ?_, ?_, hB.trans hK.below, ?_⟩⟩
      · refine (HM.out.put x.1 1).congr ?_
        rw [List.map_append]
        exact metL_miss _ _ _ HC.out
      · exact (Below.heap_setCell _ _ _ _ (by simp; omega)).trans ((hb12.block _ (by omega)).trans (cells_turn hP hgrow1 HMB.out))
      · exact (Below.heap_setCell _ _ _ _ (by simp)).trans ((hb12.block _ (by omega)).trans (cells_turn hU hgrow1 HMB.out))
      · exact (Below.heap_setCell _ _ _ _ (by simp; omega)).trans ((hb12.block _ (by omega)).trans (cells_turn hR hgrow1 HMB.out))
      · have := hF.size; omega
  case done =>
    rintro D xs W hD hxs ⟨⟨v, k, ys, hv, hrow, hk⟩, ⟨E, m, hown, hm, hM⟩, hP, hU, hR, hB, hSz⟩ hK
    rw [hxs] at hM
    obtain ⟨n0, _⟩ := cells_at hv
    obtain ⟨p0, p1, _, _⟩ := block2_cells hP
    obtain ⟨u0, _⟩ := cells_at hU
    have HM := Lib.hid hM
    have HW := Lib.hid hown
    clear hM hown hxs hrow
    gi_wp2
    rw [roundsIn_succ]
    gi_wp2_with (fail)
    have g1 : (W.alloc (.cells #[.int .i64 2] 3)).cell? ⟨W.heap.size, 0, none⟩ = some (.int .i64 2) := cell_one_new _ _ _ 0 _ rfl
    have hK2 := (Below.heap_alloc W (.cells #[.int .i64 2] 3) _ (Array.getElem?_eq_some_iff.1 hK).1).trans hK
    have hP2 := (Below.heap_alloc W (.cells #[.int .i64 2] 3) _ (Array.getElem?_eq_some_iff.1 hP).1).trans hP
    have hR2 := (Below.heap_alloc W (.cells #[.int .i64 2] 3) _ (Array.getElem?_eq_some_iff.1 hR).1).trans hR
    have hB2 := hB.alloc (o := .cells #[.int .i64 2] 3) hB.size
    have HW2 := Lib.hid (HW.out.alloc (.cells #[.int .i64 2] 3))
    clear hK hP hR hB HW n0 p0 p1 u0 hv hU
    generalize W.alloc (.cells #[.int .i64 2] 3) = X at *
    generalize W.heap.size = W1 at *
    obtain ⟨p0, p1, _, _⟩ := block2_cells hP2
    obtain ⟨q0, q1, q2, q3⟩ := block2_cells hR2
    clear hP2
    have HK := Lib.hid hK2
    have HR := Lib.hid hR2
    clear hK2 hR2
    rw [roundsIn_succ]
    gi_wp2_with (fail)
    have e1 := HTS.out
    have e2 := HVS.out
    have hr3 := Below.heap_setCell (X.setCell ⟨w.heap.size, 0, none⟩ (.slice A nn c)) ⟨w.heap.size, 1, none⟩ (.map (some (w.heap.size + 1))) D (by simp; omega)
    have hK3 := hr3.trans ((Below.heap_setCell X ⟨w.heap.size, 0, none⟩ (.slice A nn c) D (by simp; omega)).trans HK.out)
    refine ⟨by simp, .inl ⟨_, _, rfl, run_takeDeferred hK3, ?_⟩⟩
    have a1 := heap_setCell_same X w.heap.size 0 _ _ (.slice A nn c) HR.out
    have a2 := heap_setCell_same _ w.heap.size 1 _ _ (.map (some (w.heap.size + 1))) a1
    have hg1 := grownBy_setCell' X w.heap.size (.slice A nn c)
    have hg3 := grownBy_putObj' ((X.setCell ⟨w.heap.size, 0, none⟩ (.slice A nn c)).setCell ⟨w.heap.size, 1, none⟩ (.map (some (w.heap.size + 1)))) D (.deferred none)
    have a3 := (hg3.block w.heap.size (Array.getElem?_eq_some_iff.1 a2).1 (fun e => by injection e with e; omega)).trans a2
    refine ⟨_, results_cell_row rfl _ _ w.heap.size _ _ _ _ rfl a3 Tryz.underlying108 rfl (by kernel_rfl), ?_⟩
    refine ⟨w.heap.size + 1, m, E, rfl, ?_, (MapIs.congr HM.out (fun x => (metP_L rs goal x).symm)), by omega, ?_⟩
    · have hg2 : (X.setCell ⟨w.heap.size, 0, none⟩ (.slice A nn c)).grownBy ((X.setCell ⟨w.heap.size, 0, none⟩ (.slice A nn c)).setCell ⟨w.heap.size, 1, none⟩ (.map (some (w.heap.size + 1)))) (some w.heap.size) :=
        ⟨rfl, rfl, rfl, by simp [World.setCell], fun k _ hk => Below.heap_setCell _ _ _ _ (fun e => hk (by simp [e]))⟩
      exact ((HW2.out.kept hg1 (fun e => by injection e with e; omega)).kept hg2 (fun e => by injection e with e; omega)).kept hg3 (fun e => by injection e with e; omega)
    · have hbb := (hB2.setCell (p := ⟨w.heap.size, 0, none⟩) (Nat.le_refl _) (.slice A nn c)).setCell (p := ⟨w.heap.size, 1, none⟩) (Nat.le_refl _) (.map (some (w.heap.size + 1)))
      exact hbb.grown hg3 hbb.size (fun k e => by injection e with e; omega)
  case stop =>
    rintro D c pre W _ _ h _
    exact h.elim
end Go.Proofs.YtljlkhaolfihjaaGreatDoor

/- The fewest uses from a key, and the next string of a chain. -/
namespace Go.Proofs.YtljlkhaolfihjaaGreatDoor
open Go.RowKit Go.Shelf

attribute [local go_sem] Oper.semAt_some

theorem OwnMet.below {w W : World} {B n : Nat} {D : DU} (h : OwnMet w B n D) (hb : Below w.heap.size w W) : OwnMet W B n D := by
  have hlt := World.ownsMap.lt h
  obtain ⟨es, ck, hh, F, hs, hD⟩ := h
  exact ⟨es, ck, (hb.block _ hlt).trans hh, F, hs, hD⟩

structure UsesI (w : World) (R : Value) (B base : Nat) (v1 : Int) (v2 : Bool) (W : World) : Prop where
  p : W.heap[w.heap.size]? = some (.cells #[R, .map (some B)] 108 (0, 0))
  r1 : W.heap[w.heap.size + 1]? = some (.cells #[.int .i64 v1] 3 (0, 0))
  r2 : W.heap[w.heap.size + 2]? = some (.cells #[.bool v2] 4 (0, 0))
  below : Below w.heap.size w W
  size : base ≤ W.heap.size

theorem UsesI.own {w : World} {R : Value} {B base : Nat} {v1 : Int} {v2 : Bool} {A C : World} {row : Option Nat} (hs : UsesI w R B base v1 v2 A) (hg : A.grownBy C row) (hr : ∀ r, row = some r → w.heap.size ≤ r ∧ ∃ o : Obj, A.heap[r]? = some o ∧ o.isCells = false) : UsesI w R B base v1 v2 C := by
  have hr2 : ∀ r, row = some r → ∃ o : Obj, A.heap[r]? = some o ∧ o.isCells = false := fun r e => (hr r e).2
  exact ⟨cells_turn hs.p hg hr2, cells_turn hs.r1 hg hr2, cells_turn hs.r2 hg hr2, hs.below.grown hg hs.below.size (fun k e => (hr k e).1), Nat.le_trans hs.size hg.size⟩

theorem UsesI.set {w : World} {R : Value} {B base : Nat} {v1 : Int} {v2 : Bool} {W : World} (h : UsesI w R B base v1 v2 W) (u1 : Int) (u2 : Bool) :
    UsesI w R B base u1 u2 ((W.setCell ⟨w.heap.size + 1, 0, none⟩ (.int .i64 u1)).setCell ⟨w.heap.size + 2, 0, none⟩ (.bool u2)) := by
  have k1 := (Below.heap_setCell W ⟨w.heap.size + 1, 0, none⟩ (.int .i64 u1) (w.heap.size + 2) (by simp)).trans h.r2
  refine ⟨(Below.heap_setCell _ _ _ _ (by simp)).trans ((Below.heap_setCell _ _ _ _ (by simp)).trans h.p), (Below.heap_setCell _ _ _ _ (by simp)).trans (Boxed.set _ h.r1), Boxed.set _ k1, (h.below.setCell (by simp) _).setCell (by simp) _, ?_⟩
  have := h.size
  simpa [World.setCell] using this

theorem uses_res (E : Nat) (v1 : Int) (v2 : Bool) (w W : World) (R : Value) (B base : Nat) (tm : Array Value) (h1 : tm.getD 4 undef = .pointer (some ⟨w.heap.size + 1, 0, none⟩)) (h2 : tm.getD 5 undef = .pointer (some ⟨w.heap.size + 2, 0, none⟩))
    (h : UsesI w R B base v1 v2 W) (hE : w.heap.size + 2 < E) :
    (results Tryz.f65 tm).run Tryz.prog (W.putObj E (.deferred Option.none)) = .ok (.tuple #[.int .i64 v1, .bool v2]) (W.putObj E (.deferred Option.none)) := by
  have hg := grownBy_putObj' W E (.deferred Option.none)
  have a1 := (cells_at ((hg.block (w.heap.size + 1) (Array.getElem?_eq_some_iff.1 h.r1).1 (fun e => by injection e with e; omega)).trans h.r1)).1
  have a2 := (cells_at ((hg.block (w.heap.size + 2) (Array.getElem?_eq_some_iff.1 h.r2).1 (fun e => by injection e with e; omega)).trans h.r2)).1
  have h1' : tm[4]?.getD undef = .pointer (some ⟨w.heap.size + 1, 0, none⟩) := by simpa using h1
  have h2' : tm[5]?.getD undef = .pointer (some ⟨w.heap.size + 2, 0, none⟩) := by simpa using h2
  simp [results, Tryz.results65, go_sem, h1', h2', a1, a2]
theorem UsesI.end_ {E : Nat} {v1 : Int} {v2 : Bool} {w W : World} {R : Value} {B base : Nat} (h : UsesI w R B base v1 v2 W) (hE : w.heap.size ≤ E) : Below w.heap.size w (W.putObj E (.deferred Option.none)) :=
  h.below.grown (grownBy_putObj' W E (.deferred Option.none)) h.below.size (fun k e => by injection e with e; omega)

def anyMet (rs : List (ByteArray × ByteArray)) (goal : ByteArray) (L : List ByteArray) : Bool := L.any fun m => (metP rs goal m).isSome
theorem metP_val (rs : List (ByteArray × ByteArray)) (goal x : ByteArray) (n : Nat) (h : metP rs goal x = some n) : n ≤ 1 := by
  unfold metP at h
  split at h
  · injection h with h; omega
  · split at h
    · injection h with h; omega
    · cases h

set_option maxRecDepth 100000 in
set_option maxHeartbeats 4000000 in
theorem pathUses_any (A : Option Addr) (nn c B m : Nat) (rs : List (ByteArray × ByteArray)) (goal k : ByteArray) (D : DU) (w : World) (hk : k.size ≤ 12) (hs : Short100 rs) (hn : nn = rs.length) (hb : nn ≤ 1000) (hx : Cells w A (ruleCells rs))
    (ho : OwnMet w B m D) (hM : MapIs (metP rs goal) D) :
    Calls Tryz.prog 65 #[.agg #[.slice A nn c, .map (some B)], .string k] w fun e w' =>
      e = .returned (.tuple #[.int .i64 (((usesG rs goal k).getD 0 : Nat) : Int), .bool (usesG rs goal k).isSome]) ∧ Below w.heap.size w w' := by
  have hkey := key_lit k (by omega)
  have hBlt := World.ownsMap.lt ho
  have hBV : Below w.heap.size w (((w.alloc (.cells #[.slice A nn c, .map (some B)] 108)).alloc (.cells #[.int .i64 0] 3)).alloc (.cells #[.bool false] 4)) := (((Below.refl _ w).alloc (Nat.le_refl _) _).alloc (by simp) _).alloc (by simp; omega) _
  have hoV : OwnMet (((w.alloc (.cells #[.slice A nn c, .map (some B)] 108)).alloc (.cells #[.int .i64 0] 3)).alloc (.cells #[.bool false] 4)) B m D := OwnMet.below ho hBV
  have hV0 : (((w.alloc (.cells #[.slice A nn c, .map (some B)] 108)).alloc (.cells #[.int .i64 0] 3)).alloc (.cells #[.bool false] 4)).heap[w.heap.size]? = some (.cells #[.slice A nn c, .map (some B)] 108 (0, 0)) :=
    (Below.heap_alloc _ _ _ (by simp; omega)).trans ((Below.heap_alloc _ _ _ (by simp)).trans (heap_alloc_new w _))
  have hV1 : (((w.alloc (.cells #[.slice A nn c, .map (some B)] 108)).alloc (.cells #[.int .i64 0] 3)).alloc (.cells #[.bool false] 4)).heap[w.heap.size + 1]? = some (.cells #[.int .i64 0] 3 (0, 0)) := by
    refine (Below.heap_alloc _ _ _ (by simp)).trans ?_
    have := heap_alloc_new (w.alloc (.cells #[.slice A nn c, .map (some B)] 108)) (.cells #[.int .i64 0] 3)
    rwa [World.size_alloc] at this
  have hV2 : (((w.alloc (.cells #[.slice A nn c, .map (some B)] 108)).alloc (.cells #[.int .i64 0] 3)).alloc (.cells #[.bool false] 4)).heap[w.heap.size + 2]? = some (.cells #[.bool false] 4 (0, 0)) := by
    have := heap_alloc_new ((w.alloc (.cells #[.slice A nn c, .map (some B)] 108)).alloc (.cells #[.int .i64 0] 3)) (.cells #[.bool false] 4)
    rwa [World.size_alloc, World.size_alloc] at this
  have hVs : (((w.alloc (.cells #[.slice A nn c, .map (some B)] 108)).alloc (.cells #[.int .i64 0] 3)).alloc (.cells #[.bool false] 4)).heap.size = w.heap.size + 3 := by simp
  have hhas := hM.has k
  have HN := Lib.hid hn
  have HX := Lib.hid hx
  have HS := Lib.hid hs
  have HM := Lib.hid hM
  have HVS := Lib.hid hVs
  clear hn hx hs hM hVs
  refine (callsIn_wide (n := 10)).1 (callsIn_of_wp_marks Tryz.func65 rfl trivial ?_ rfl)
  simp only [Tryz.ntmps65, List.size_toArray, List.length_cons, List.length_nil, Nat.reduceAdd, Nat.reduceSub, Array.replicate_succ, Array.replicate_zero, List.push_toArray, List.append_toArray, List.nil_append, List.cons_append]
  cases hc : metP rs goal k with
  | some v =>
    rw [hc] at hhas
    have hat := HM.out.at_ k v hc
    have HU := Lib.hid (show usesG rs goal k = some v by unfold usesG; rw [hc])
    gi_wp2_with (gi_at_lookup; refine wpListIn_lookup_own_ok_int _ rfl _ _ 106 rfl 82 3 .i64 keyLaw Tryz.underlying106 Tryz.underlying3 (Tryz.zeroValue3 _) B m _ rfl hoV _ _ rfl hkey ?_; intro q hat2 hwc; rw [hhas])
    have hq : q = (v : Int) := by
      rw [hat] at hat2
      injection hat2 with h1
      injection h1 with _ h2
      exact h2.symm
    subst hq
    refine ⟨.tuple #[.int .i64 (v : Int), .bool true], by simp [results, Tryz.results65, go_sem], ⟨by rw [HU.out]; rfl, ?_⟩⟩
    exact (((Below.refl _ w).alloc (Nat.le_refl _) _).alloc (by simp) _).alloc (by simp; omega) _
  | none =>
    rw [hc] at hhas
    gi_wp2_with (gi_at_lookup; refine wpListIn_lookup_own_ok_int _ rfl _ _ 106 rfl 82 3 .i64 keyLaw Tryz.underlying106 Tryz.underlying3 (Tryz.zeroValue3 _) B m _ rfl hoV _ _ rfl hkey ?_; intro q hat2 hwc; rw [hhas]; clear hat2 hwc)
    generalize ((w.alloc (.cells #[.slice A nn c, .map (some B)] 108)).alloc (.cells #[.int .i64 0] 3)).alloc (.cells #[.bool false] 4) = V at *
    refine ⟨trivial, ?_⟩
    refine (callsIn_wide.2 (uses_any k _ A nn c rfl _)).mono ?_
    rintro e w' ⟨rfl, rfl⟩
    gi_wp2_with (fail)
    have hk1 : ((V.alloc (.cells #[.string k] 82)).alloc (.cells #[.slice A nn c] 46)).heap[V.heap.size]? = some (.cells #[.string k] 82 (0, 0)) := (Below.heap_alloc _ _ _ (by simp)).trans (heap_alloc_new V _)
    have hk2 : ((V.alloc (.cells #[.string k] 82)).alloc (.cells #[.slice A nn c] 46)).heap[V.heap.size + 1]? = some (.cells #[.slice A nn c] 46 (0, 0)) := by
      have := heap_alloc_new (V.alloc (.cells #[.string k] 82)) (.cells #[.slice A nn c] 46)
      rwa [World.size_alloc] at this
    have hbV : Below V.heap.size V ((V.alloc (.cells #[.string k] 82)).alloc (.cells #[.slice A nn c] 46)) := ((Below.refl _ V).alloc (Nat.le_refl _) _).alloc (by simp) _
    have hTs : ((V.alloc (.cells #[.string k] 82)).alloc (.cells #[.slice A nn c] 46)).heap.size = V.heap.size + 2 := by simp
    generalize (V.alloc (.cells #[.string k] 82)).alloc (.cells #[.slice A nn c] 46) = T at *
    have hBT := hBV.trans (hbV.mono (by have := HVS.out; omega))
    have hI0 : UsesI w (.slice A nn c) B T.heap.size 0 false T :=
      ⟨(hbV.block _ (by have := HVS.out; omega)).trans hV0, (hbV.block _ (by have := HVS.out; omega)).trans hV1, (hbV.block _ (by have := HVS.out; omega)).trans hV2, hBT, Nat.le_refl _⟩
    have HI0 := Lib.hid hI0
    have HK1 := Lib.hid hk1
    have HK2 := Lib.hid hk2
    have HTS := Lib.hid hTs
    have HO := Lib.hid ho
    have HC := Lib.hid hc
    clear hI0 hk1 hk2 hTs hV0 hV1 hV2 hoV hbV hBV hBT ho hc
    generalize V.heap.size = Y at *
    refine wpIn_rangeFunc_ownG (α := K12) rfl (by decide) (gf := 122) (lb := #[.pointer (some ⟨Y, 0, none⟩), .pointer (some ⟨Y + 1, 0, none⟩)]) rfl trivial (enters_of Tryz.func122 (by kernel_rfl) rfl)
      (uses_stops _ Y (Y + 1) w.heap.size nn c [Y] A k rs T hk HS.out HN.out hb (by simp) (fun b hb' => by have := HTS.out; have := HVS.out; simp at hb'; omega) (by have := HTS.out; have := HVS.out; omega) HK1.out (cells_at HK2.out).1 (fun W' hW' => HX.out.below (HI0.out.below.trans hW')))
      KpX.trans (fun W l o o' hl h ho _ => KpX.putObj (B := T.heap.size) (by have := HTS.out; have := HVS.out; omega) (fun b hb' => by have := HTS.out; have := HVS.out; simp at hb'; omega) W l o o' hl h ho) (Below.refl _ _) (fun _ => rfl)
      (fun xs W => UsesI w (.slice A nn c) B T.heap.size 0 false W ∧ anyMet rs goal (xs.map (·.1)) = false)
      (fun cd xs W => cd = .ret ∧ UsesI w (.slice A nn c) B T.heap.size 2 true W ∧ anyMet rs goal (xs.map (·.1)) = true)
      (fun xs A C row hs hg hr => ⟨hs.1.own hg (fun r e => ⟨by have := (hr r e).1; have := HTS.out; have := HVS.out; omega, (hr r e).2⟩), hs.2⟩)
      (fun cd xs A C row hs hg hr => ⟨hs.1, hs.2.1.own hg (fun r e => ⟨by have := (hr r e).1; have := HTS.out; have := HVS.out; omega, (hr r e).2⟩), hs.2.2⟩)
      ⟨HI0.out, rfl⟩ ?frame1 ?assign ?body ?done ?stop
    case assign =>
      intro l x W K hK
      gi_wp2
      exact hK
    case body =>
      rintro l pre x W ⟨hI, hpre⟩ hlt
      have hkey2 := key_lit x.1 (by have := x.2; omega)
      have hhas2 := HM.out.has x.1
      have hoW := OwnMet.below HO.out hI.below
      have hp := block2_cells hI.p
      obtain ⟨p0, p1, _, _⟩ := hp
      cases hc2 : (metP rs goal x.1).isSome with
      | false =>
        rw [hc2] at hhas2
        have HC2 := Lib.hid hc2
        have HH := Lib.hid hhas2
        have HI := Lib.hid hI
        clear hc2 hhas2 hI
        gi_wp2_with (gi_at_lookup; refine wpListIn_lookup_own_ok_int _ rfl _ _ 106 rfl 82 3 .i64 keyLaw Tryz.underlying106 Tryz.underlying3 (Tryz.zeroValue3 _) B m _ rfl hoW _ _ rfl hkey2 ?_; intro q hat hwc; rw [HH.out]; clear hat hwc)
        exact ⟨KeepsFrom.refl _ _, KpX.refl _ _ _ _, HI.out, by unfold anyMet at *; rw [List.map_append, List.any_append, hpre]; simp [HC2.out]⟩
      | true =>
        rw [hc2] at hhas2
        have HC2 := Lib.hid hc2
        have HH := Lib.hid hhas2
        obtain ⟨a1, a2⟩ := cells_at hI.r1
        obtain ⟨b1, b2⟩ := cells_at hI.r2
        have HI := Lib.hid hI
        clear hc2 hhas2 hI
        gi_wp2_with (gi_at_lookup; refine wpListIn_lookup_own_ok_int _ rfl _ _ 106 rfl 82 3 .i64 keyLaw Tryz.underlying106 Tryz.underlying3 (Tryz.zeroValue3 _) B m _ rfl hoW _ _ rfl hkey2 ?_; intro q hat hwc; rw [HH.out]; clear hat hwc)
        have i := HI.out.set 2 true
        exact ⟨((KeepsOthers.setCell W _ _).trans (KeepsOthers.setCell _ _ _)).from _, rfl, i, by unfold anyMet at *; rw [List.map_append, List.any_append, hpre]; simp [HC2.out]⟩
    case done =>
      rintro E xs W hD hxs ⟨hI, hno⟩ hK
      rw [hxs] at hno
      have hU : usesG rs goal k = Option.none := by
        unfold usesG
        rw [HC.out]
        have : ((madeL rs k).any fun m => (metP rs goal m).isSome) = false := hno
        rw [this]; rfl
      have i := hI.set 0 false
      obtain ⟨a1, a2⟩ := cells_at hI.r1
      obtain ⟨b1, b2⟩ := cells_at hI.r2
      have hK2 := (Below.heap_setCell (W.setCell ⟨w.heap.size + 1, 0, none⟩ (.int .i64 0)) ⟨w.heap.size + 2, 0, none⟩ (.bool false) E (by have := HTS.out; have := HVS.out; simp; omega)).trans ((Below.heap_setCell W ⟨w.heap.size + 1, 0, none⟩ (.int .i64 0) E (by have := HTS.out; have := HVS.out; simp; omega)).trans hK)
      have HK := Lib.hid hK2
      have HU := Lib.hid hU
      have IB := Lib.hid i
      clear hK hK2 hU i hI hno hxs
      gi_wp2_with (fail)
      refine ⟨by simp, .inl ⟨_, _, rfl, run_takeDeferred HK.out, ?_⟩⟩
      have e1 := HTS.out
      have e2 := HVS.out
      exact ⟨_, uses_res E 0 false w _ _ _ _ _ rfl rfl IB.out (by omega), by rw [HU.out]; rfl, IB.out.end_ (by omega)⟩
    case stop =>
      rintro E cd pre W hD hpre ⟨rfl, hI, hyes⟩ hK
      have hU : usesG rs goal k = some 2 := by
        unfold usesG
        rw [HC.out]
        have : ((madeL rs k).any fun m => (metP rs goal m).isSome) = true := by
          obtain ⟨t, ht⟩ := hpre
          rw [← ht, List.any_append]
          have : ((pre.map (·.1)).any fun m => (metP rs goal m).isSome) = true := hyes
          rw [this]; rfl
        rw [this]; rfl
      obtain ⟨c1, _⟩ := cells_at hI.r1
      obtain ⟨d1, _⟩ := cells_at hI.r2
      gi_wp2_with (fail)
      refine ⟨by simp, .inl ⟨_, _, rfl, run_takeDeferred hK, ?_⟩⟩
      have e1 := HTS.out
      have e2 := HVS.out
      exact ⟨_, uses_res E 2 true w _ _ _ _ _ rfl rfl hI (by omega), by rw [hU]; rfl, hI.end_ (by omega)⟩
end Go.Proofs.YtljlkhaolfihjaaGreatDoor

/- The next string of a chain. -/
namespace Go.Proofs.YtljlkhaolfihjaaGreatDoor
open Go.RowKit Go.Shelf Go.Sort

attribute [local go_sem] Oper.semAt_some

def minLt (x m : ByteArray) : Bool := decide (Lib.compareBytes x.data.toList m.data.toList < 0)
theorem pick_min (d : Array ByteArray) : ∀ j, j < d.size → Lib.pickBy minLt d j = minStr (d.toList.take (j + 1))
  | 0, h => by
    obtain ⟨x, t, e⟩ : ∃ x t, d.toList = x :: t := by
      cases e : d.toList with
      | nil => rw [← Array.length_toList, e] at h; simp at h
      | cons x t => exact ⟨x, t, rfl⟩
    rw [e]
    show d[0]! = x
    rw [getElem!_pos d 0 h, ← Array.getElem_toList]
    simp [e]
  | j + 1, h => by
    have ih := pick_min d j (by omega)
    have hl : j + 1 < d.toList.length := by simpa using h
    have e : d.toList.take (j + 1 + 1) = d.toList.take (j + 1) ++ [d[j + 1]] := by
      rw [List.take_succ_eq_append_getElem hl]; simp
    obtain ⟨x, t, e2⟩ : ∃ x t, d.toList.take (j + 1) = x :: t := by
      cases e3 : d.toList with
      | nil => rw [e3] at hl; simp at hl
      | cons x t => exact ⟨x, t.take j, by simp⟩
    show (if minLt d[j + 1]! (Lib.pickBy minLt d j) then d[j + 1]! else Lib.pickBy minLt d j) = _
    rw [ih, e, e2, getElem!_pos d (j + 1) h]
    show _ = (t ++ [d[j + 1]]).foldl _ x
    rw [List.foldl_append]
    show _ = if Lib.compareBytes _ (minStr (x :: t)).data.toList < 0 then _ else (minStr (x :: t))
    unfold minLt
    by_cases hc : Lib.compareBytes d[j + 1].data.toList (minStr (x :: t)).data.toList < 0
    · rw [if_pos hc, decide_eq_true hc]; rfl
    · rw [if_neg hc, decide_eq_false hc]; rfl

theorem keyCmp_lays (blk off size : Nat) (w : World) : CmpLays1 Tryz.prog 82 #[] Value.string (fun a b : ByteArray => Lib.compareBytes a.data.toList b.data.toList) blk off size w := by
  intro k os dk _ x y
  refine (keyCmp_any x y _).mono fun e w' h => ⟨h.1, 0, #[], ?_⟩
  rw [h.2, grow_empty]; rfl

theorem minKey_any (G cap : Nat) (L : List ByteArray) (w : World) (base : Nat) (hL : L ≠ []) (hsz : L.length < 1000000) (hB : base ≤ w.heap.size) (h : w.ownsRow base 82 1 (.slice (some ⟨G, 0, none⟩) L.length cap) L.length (L.map Value.string)) :
    Calls Tryz.prog 108 #[.slice (some ⟨G, 0, none⟩) L.length cap, .func (.func 82) #[] #[]] w fun e w' => e = .returned (.string (minStr L)) ∧ Below base w w' ∧ ∀ (k : Nat) (o : Obj), w.heap[k]? = some o → o.isCells = false → w'.heap[k]? = some o := by
  obtain ⟨cG, hcG⟩ := own_block h G rfl
  have hG := (h.lt G rfl)
  have h0 : 0 < L.toArray.size := by cases L with
    | nil => exact absurd rfl hL
    | cons x t => simp
  have q := Any.slices_MinFunc_s Tryz.minKey Value.string (fun _ => rfl) (fun a b : ByteArray => Lib.compareBytes a.data.toList b.data.toList) 82 #[] G 0 cap L.toArray w
    (enters_of Tryz.func82 (by kernel_rfl) rfl) (keyCmp_lays G 0 _ w) (fun j hj => ?_) hG.2 (by simp; omega) h0
  · refine q.mono ?_
    rintro e w' ⟨rfl, n, os, rfl⟩
    refine ⟨?_, below_sortWorld _ _ _ _ _ _ _ _ hG.1 hB, ?_⟩
    rotate_left
    · intro k o hk ho
      have hkl := (Array.getElem?_eq_some_iff.1 hk).1
      have hne : k ≠ G := fun e => by
        subst e
        rw [hk] at hcG; cases hcG; cases ho
      show ((w.heap.modify G _) ++ os)[k]? = _
      rw [Array.getElem?_append_left (by simp; omega), Array.getElem?_modify, if_neg (fun e => hne e.symm)]
      exact hk
    have := pick_min L.toArray (L.toArray.size - 1) (by omega)
    unfold minLt at this
    rw [this, show L.toArray.size - 1 + 1 = L.length by simp; simp at h0; omega]
    simp
  · have hj1 : j < L.length := by simpa using hj
    refine ⟨?_, ?_⟩
    · rw [Nat.zero_add, h.cellAt j (by omega), List.getElem?_map, List.getElem?_eq_getElem hj1, getElem!_pos _ j hj]
      simp
    · rw [Nat.zero_add]; exact h.frozenAt j

def awayL (rs : List (ByteArray × ByteArray)) (goal : ByteArray) (n : Nat) (L : List ByteArray) : List ByteArray := L.filter fun m => metP rs goal m == some n
theorem awayL_snoc (rs : List (ByteArray × ByteArray)) (goal : ByteArray) (n : Nat) (L : List ByteArray) (x : ByteArray) (h : (metP rs goal x == some n) = true) : awayL rs goal n (L ++ [x]) = awayL rs goal n L ++ [x] := by
  unfold awayL
  rw [List.filter_append, List.filter_cons, h]; rfl
theorem awayL_skip (rs : List (ByteArray × ByteArray)) (goal : ByteArray) (n : Nat) (L : List ByteArray) (x : ByteArray) (h : (metP rs goal x == some n) = false) : awayL rs goal n (L ++ [x]) = awayL rs goal n L := by
  unfold awayL
  rw [List.filter_append, List.filter_cons, h]; simp
theorem awayL_len (rs : List (ByteArray × ByteArray)) (goal : ByteArray) (n : Nat) (L : List ByteArray) : (awayL rs goal n L).length ≤ L.length := List.length_filter_le _ _

theorem atInt {D : DU} {kl : Lit} {d : DU} {a b : Int} (h : D.atKey kl d = .lit (.int .i64 a)) (k : D.atKey kl d = .lit (.int .i64 b)) : b = a := by
  rw [h] at k
  injection k with k
  injection k with _ k
  exact k.symm

def valsK (xs : List K12) : List ByteArray := xs.map (·.1)
theorem valsK_snoc (xs : List K12) (x : K12) : valsK (xs ++ [x]) = valsK xs ++ [x.1] := by unfold valsK; rw [List.map_append]; rfl

/-- An append through a variable that lies below what is grown. -/
theorem app_through {n₀ B base size k m : Nat} {Bs : List Nat} {Ts : List TypeId} {W w2 : World} {t e : TypeId} {v v' : Value} {xs ys : List Value} {tmp : Obj} (hv : W.heap[B]? = some (.cells #[v] t (0, 0))) (hrow : W.ownsRow base e size v k xs) (hT : base ≤ W.heap.size) (hB : B < base) (hn : n₀ ≤ B)
    (hBs : ∀ b, b ∈ Bs → b < base ∧ b ≠ B) (ht : t ∉ Ts) (he : e ∉ Ts) (hown' : w2.ownsRow base e size v' m ys) (hgrow : (W.alloc tmp).grownBy w2 v.ownBlock) :
    KeepsOthers W (w2.setCell ⟨B, 0, none⟩ v') ∧ KpX n₀ Bs Ts W (w2.setCell ⟨B, 0, none⟩ v') ∧ (w2.setCell ⟨B, 0, none⟩ v').heap[B]? = some (.cells #[v'] t (0, 0)) ∧ (w2.setCell ⟨B, 0, none⟩ v').ownsRow base e size v' m ys ∧
    (∀ b, b < base → b ≠ B → (w2.setCell ⟨B, 0, none⟩ v').heap[b]? = W.heap[b]?) ∧ W.heap.size ≤ (w2.setCell ⟨B, 0, none⟩ v').heap.size := by
  have hne : ∀ r, v.ownBlock = some r → base ≤ r := fun r h => (hrow.lt r h).1
  have hg2b := own_block (hrow.alloc tmp)
  have hb12 := ((Below.refl base W).alloc hT tmp).grown hgrow (by simp; omega) (fun j hj => hne j hj)
  have hs2 := hb12.size
  have hsz : (w2.setCell ⟨B, 0, none⟩ v').heap.size = w2.heap.size := by simp [World.setCell]
  have hv2 := (hb12.block B hB).trans hv
  have k2 : KpX n₀ Bs Ts W (W.alloc tmp) := KpX.of_below ((Below.refl _ _).alloc (Nat.le_refl _) _) (by omega) (fun b hb' => by have := hBs b hb'; omega)
  have k3 : KpX n₀ Bs Ts (W.alloc tmp) w2 := KpX.grown hgrow (by simp; omega) (fun b hb' => by have := hBs b hb'; simp; omega) (fun r h => by
    have h1 := hne r h
    refine ⟨by omega, fun hh => (by have := hBs r hh; omega), fun c t' fz ht' hh => ?_⟩
    obtain ⟨c', hc'⟩ := hg2b r h
    rw [hh] at hc'
    injection hc' with hc'
    injection hc' with _ h3 _
    subst h3
    exact he ht')
  have k4 : KpX n₀ Bs Ts w2 (w2.setCell ⟨B, 0, none⟩ v') := KpX.grown (grownBy_setCell' _ _ _) (by omega) (fun b hb' => by have := hBs b hb'; omega) (fun r h => by
    injection h with h
    subst h
    refine ⟨by omega, fun hh => (hBs _ hh).2 rfl, fun c t' fz ht' hh => ?_⟩
    rw [hv2] at hh
    injection hh with hh
    injection hh with _ h3 _
    subst h3
    exact ht ht')
  refine ⟨((KeepsOthers.alloc W tmp).trans (KeepsOthers.of_grownBy hgrow fun j o ej hj => ?_)).trans (KeepsOthers.setCell _ _ _), (k2.trans k3).trans k4, Boxed.set _ hv2, hown'.kept (grownBy_setCell' w2 B v') (.inr (fun h => by have h1 := (hown'.lt _ h).1; omega)), fun b hb hbB => ?_, by rw [hsz]; exact hs2⟩
  · obtain ⟨c', hc'⟩ := hg2b j ej
    rw [hj] at hc'
    injection hc' with hc'
    rw [hc']; rfl
  · exact (Below.heap_setCell _ _ _ _ (by simpa using hbB)).trans (hb12.block b hb)

structure NextI (w : World) (R : Value) (B base n : Nat) (L : List ByteArray) (W : World) : Prop where
  p : W.heap[w.heap.size]? = some (.cells #[R, .map (some B)] 108 (0, 0))
  nb : W.heap[w.heap.size + 1]? = some (.cells #[.int .i64 n] 3 (0, 0))
  next : ∃ v : Value, W.heap[w.heap.size + 2]? = some (.cells #[v] 117 (0, 0)) ∧ W.ownsRow base 82 1 v L.length (L.map Value.string)
  below : Below w.heap.size w W
  size : base ≤ W.heap.size

theorem NextI.own {w : World} {R : Value} {B base n : Nat} {L : List ByteArray} {A C : World} {row : Option Nat} (hs : NextI w R B base n L A) (hg : A.grownBy C row) (hr : ∀ r, row = some r → w.heap.size ≤ r ∧ ∃ o : Obj, A.heap[r]? = some o ∧ o.isCells = false) : NextI w R B base n L C := by
  have hr2 : ∀ r, row = some r → ∃ o : Obj, A.heap[r]? = some o ∧ o.isCells = false := fun r e => (hr r e).2
  obtain ⟨v, h1, h2⟩ := hs.next
  exact ⟨cells_turn hs.p hg hr2, cells_turn hs.nb hg hr2, ⟨v, cells_turn h1 hg hr2, row_turn h2 hg hr2⟩, hs.below.grown hg hs.below.size (fun k e => (hr k e).1), Nat.le_trans hs.size hg.size⟩

set_option maxRecDepth 100000 in
set_option maxHeartbeats 4000000 in
theorem pathNext_any (A : Option Addr) (nn c B m n : Nat) (rs : List (ByteArray × ByteArray)) (goal k : ByteArray) (D : DU) (w : World) (hk : k.size ≤ 12) (hs : Short100 rs) (hn : nn = rs.length) (hb : nn ≤ 1000) (hx : Cells w A (ruleCells rs))
    (ho : OwnMet w B m D) (hM : MapIs (metP rs goal) D) (hne : awayL rs goal n (madeL rs k) ≠ []) (hn1 : n ≤ 1) :
    Calls Tryz.prog 76 #[.agg #[.slice A nn c, .map (some B)], .string k, .int .i64 n] w fun e w' =>
      e = .returned (.string (nextG rs goal k n)) ∧ Below w.heap.size w w' := by
  have hBlt := World.ownsMap.lt ho
  have hBV : Below w.heap.size w (((w.alloc (.cells #[.slice A nn c, .map (some B)] 108)).alloc (.cells #[.int .i64 n] 3)).alloc (.cells #[.slice none 0 0] 117)) := (((Below.refl _ w).alloc (Nat.le_refl _) _).alloc (by simp) _).alloc (by simp; omega) _
  have hV0 : (((w.alloc (.cells #[.slice A nn c, .map (some B)] 108)).alloc (.cells #[.int .i64 n] 3)).alloc (.cells #[.slice none 0 0] 117)).heap[w.heap.size]? = some (.cells #[.slice A nn c, .map (some B)] 108 (0, 0)) :=
    (Below.heap_alloc _ _ _ (by simp; omega)).trans ((Below.heap_alloc _ _ _ (by simp)).trans (heap_alloc_new w _))
  have hV1 : (((w.alloc (.cells #[.slice A nn c, .map (some B)] 108)).alloc (.cells #[.int .i64 n] 3)).alloc (.cells #[.slice none 0 0] 117)).heap[w.heap.size + 1]? = some (.cells #[.int .i64 n] 3 (0, 0)) := by
    refine (Below.heap_alloc _ _ _ (by simp)).trans ?_
    have := heap_alloc_new (w.alloc (.cells #[.slice A nn c, .map (some B)] 108)) (.cells #[.int .i64 n] 3)
    rwa [World.size_alloc] at this
  have hV2 : (((w.alloc (.cells #[.slice A nn c, .map (some B)] 108)).alloc (.cells #[.int .i64 n] 3)).alloc (.cells #[.slice none 0 0] 117)).heap[w.heap.size + 2]? = some (.cells #[.slice none 0 0] 117 (0, 0)) := by
    have := heap_alloc_new ((w.alloc (.cells #[.slice A nn c, .map (some B)] 108)).alloc (.cells #[.int .i64 n] 3)) (.cells #[.slice none 0 0] 117)
    rwa [World.size_alloc, World.size_alloc] at this
  have hVs : (((w.alloc (.cells #[.slice A nn c, .map (some B)] 108)).alloc (.cells #[.int .i64 n] 3)).alloc (.cells #[.slice none 0 0] 117)).heap.size = w.heap.size + 3 := by simp
  have HN := Lib.hid hn
  have HX := Lib.hid hx
  have HS := Lib.hid hs
  have HM := Lib.hid hM
  have HVS := Lib.hid hVs
  clear hn hx hs hM hVs
  refine (callsIn_wide (n := 10)).1 (callsIn_of_wp_marks Tryz.func76 rfl trivial ?_ rfl)
  simp only [Tryz.ntmps76, List.size_toArray, List.length_cons, List.length_nil, Nat.reduceAdd, Nat.reduceSub, Array.replicate_succ, Array.replicate_zero, List.push_toArray, List.append_toArray, List.nil_append, List.cons_append]
  gi_wp2_with (fail)
  generalize ((w.alloc (.cells #[.slice A nn c, .map (some B)] 108)).alloc (.cells #[.int .i64 n] 3)).alloc (.cells #[.slice none 0 0] 117) = V at *
  refine ⟨trivial, ?_⟩
  refine (callsIn_wide.2 (uses_any k _ A nn c rfl _)).mono ?_
  rintro e w' ⟨rfl, rfl⟩
  gi_wp2_with (fail)
  have hk1 : ((V.alloc (.cells #[.string k] 82)).alloc (.cells #[.slice A nn c] 46)).heap[V.heap.size]? = some (.cells #[.string k] 82 (0, 0)) := (Below.heap_alloc _ _ _ (by simp)).trans (heap_alloc_new V _)
  have hk2 : ((V.alloc (.cells #[.string k] 82)).alloc (.cells #[.slice A nn c] 46)).heap[V.heap.size + 1]? = some (.cells #[.slice A nn c] 46 (0, 0)) := by
    have := heap_alloc_new (V.alloc (.cells #[.string k] 82)) (.cells #[.slice A nn c] 46)
    rwa [World.size_alloc] at this
  have hbV : Below V.heap.size V ((V.alloc (.cells #[.string k] 82)).alloc (.cells #[.slice A nn c] 46)) := ((Below.refl _ V).alloc (Nat.le_refl _) _).alloc (by simp) _
  have hTs : ((V.alloc (.cells #[.string k] 82)).alloc (.cells #[.slice A nn c] 46)).heap.size = V.heap.size + 2 := by simp
  generalize (V.alloc (.cells #[.string k] 82)).alloc (.cells #[.slice A nn c] 46) = T at *
  have hBT := hBV.trans (hbV.mono (by have := HVS.out; omega))
  have hI0 : NextI w (.slice A nn c) B T.heap.size n [] T :=
    ⟨(hbV.block _ (by have := HVS.out; omega)).trans hV0, (hbV.block _ (by have := HVS.out; omega)).trans hV1, ⟨.slice none 0 0, (hbV.block _ (by have := HVS.out; omega)).trans hV2, World.ownsRow_nil _ _ _ _⟩, hBT, Nat.le_refl _⟩
  have HI0 := Lib.hid hI0
  have HK1 := Lib.hid hk1
  have HK2 := Lib.hid hk2
  have HTS := Lib.hid hTs
  have HO := Lib.hid ho
  clear hI0 hk1 hk2 hTs hV0 hV1 hV2 hbV hBV hBT ho
  generalize V.heap.size = Y at *
  refine wpIn_rangeFunc_ownG (α := K12) rfl (by decide) (gf := 122) (lb := #[.pointer (some ⟨Y, 0, none⟩), .pointer (some ⟨Y + 1, 0, none⟩)]) rfl trivial (enters_of Tryz.func122 (by kernel_rfl) rfl)
    (uses_stops _ Y (Y + 1) w.heap.size nn c [Y] A k rs T hk HS.out HN.out hb (by simp) (fun b hb' => by have := HTS.out; have := HVS.out; simp at hb'; omega) (by have := HTS.out; have := HVS.out; omega) HK1.out (cells_at HK2.out).1 (fun W' hW' => HX.out.below (HI0.out.below.trans hW')))
    KpX.trans (fun W l o o' hl h ho _ => KpX.putObj (B := T.heap.size) (by have := HTS.out; have := HVS.out; omega) (fun b hb' => by have := HTS.out; have := HVS.out; simp at hb'; omega) W l o o' hl h ho) (Below.refl _ _) (fun _ => rfl)
    (fun (xs : List K12) W => NextI w (.slice A nn c) B T.heap.size n (awayL rs goal n (valsK xs)) W)
    (fun _ _ _ => False)
    (fun (xs : List K12) A C row (hs : NextI _ _ _ _ _ _ _) hg hr => hs.own hg (fun r e => ⟨by have := (hr r e).1; have := HTS.out; have := HVS.out; omega, (hr r e).2⟩))
    (fun _ _ _ _ _ hs _ _ => hs)
    HI0.out ?frame1 ?assign ?body ?done ?stop
  case assign =>
    intro l x W K hK
    gi_wp2
    exact hK
  case body =>
    rintro l pre x W hI hlt
    have hkey2 := key_lit x.1 (by have := x.2; omega)
    have hhas2 := HM.out.has x.1
    have hoW := OwnMet.below HO.out hI.below
    obtain ⟨p0, p1, _, _⟩ := block2_cells hI.p
    obtain ⟨a1, a2⟩ := cells_at hI.nb
    cases hc2 : metP rs goal x.1 with
    | none =>
      rw [hc2] at hhas2
      have hsk := awayL_skip rs goal n (valsK pre) x.1 (by rw [hc2]; rfl)
      have HH := Lib.hid hhas2
      have HI := Lib.hid hI
      have HSK := Lib.hid hsk
      clear hc2 hhas2 hI hsk
      gi_wp2_with (gi_at_lookup; refine wpListIn_lookup_own_ok_int _ rfl _ _ 106 rfl 82 3 .i64 keyLaw Tryz.underlying106 Tryz.underlying3 (Tryz.zeroValue3 _) B m _ rfl hoW _ _ rfl hkey2 ?_; intro q hat hwc; rw [HH.out]; clear hat hwc)
      exact ⟨KeepsFrom.refl _ _, KpX.refl _ _ _ _, by show NextI _ _ _ _ _ (awayL _ _ _ (valsK (pre ++ [x]))) _; rw [valsK_snoc, HSK.out]; exact HI.out⟩
    | some u =>
      rw [hc2] at hhas2
      have hat0 := HM.out.at_ x.1 u hc2
      by_cases hun : u = n
      · subst hun
        have hsk := awayL_snoc rs goal u (valsK pre) x.1 (by rw [hc2]; simp)
        have hcn : (awayL rs goal u (valsK pre)).length ≤ 26001 := by
          have h0 := awayL_len rs goal u (valsK pre)
          have h1 := madeL_len rs k hk
          have h2 := HN.out
          have h3 : (valsK pre).length = pre.length := by unfold valsK; simp
          omega
        obtain ⟨v, hv, hrow⟩ := hI.next
        obtain ⟨si, hi, hz0', hz1, hz2⟩ := info_parts infoKey
        obtain ⟨n0, n1⟩ := cells_at hv
        have hts : Y + 2 = T.heap.size := HTS.out.symm
        have hvs1 : w.heap.size + 3 = Y := by have := HVS.out; omega
        have hT := hI.size
        obtain ⟨O, cap, rfl⟩ := own_form hrow
        have HH := Lib.hid hhas2
        have HI := Lib.hid hI
        have HSK := Lib.hid hsk
        have HTS2 := Lib.hid hts
        clear hc2 hhas2 hI hsk hts
        gi_wp2_with (first
          | (gi_at_lookup; refine wpListIn_lookup_own_ok_int _ rfl _ _ 106 rfl 82 3 .i64 keyLaw Tryz.underlying106 Tryz.underlying3 (Tryz.zeroValue3 _) B m _ rfl hoW _ _ rfl hkey2 ?_; intro q hat hwc; obtain rfl := atInt hat0 hat; rw [HH.out]; clear hat hwc)
          | (gi_at_builtin; refine wpListIn_append_own _ rfl _ _ 117 rfl T.heap.size 82 si (.string ByteArray.empty) 1 16 Tryz.underlying117 hi hz0' hz1 hz2 rfl (by decide) _ _ _ rfl (hrow.alloc _) ⟨W.heap.size, 0, none⟩ 1 1 [.string x.1] rfl rfl (cell_one_new _ _ _) (by simp [Value.oneCell']) (by unfold maxLen; omega) (by omega) (by simp; omega) ?_; intro v' w2 hown' hgrow2 _; obtain ⟨g', cap', rfl⟩ := ownsRow_succ hown'; have hb12 := ((Below.refl T.heap.size W).alloc hT (.cells #[.string x.1] 82)).grown hgrow2 (by simp; omega) (fun j hj => (hrow.lt j hj).1); have hv2 := (hb12.block _ (by have := HTS2.out; omega)).trans hv; obtain ⟨m1, m2⟩ := cells_at hv2))
        have hts := HTS2.out
        obtain ⟨hF, hK, hset, hr3, hoth, hsz⟩ := app_through (n₀ := w.heap.size) (B := w.heap.size + 2) (Bs := [Y]) (Ts := [116, 64]) hv hrow hT (by omega) (by omega) (fun b hb' => by simp at hb'; omega) (by decide) (by decide) hown' hgrow2
        refine ⟨hF.from _, hK, ?_⟩
        show NextI _ _ _ _ _ (awayL _ _ _ (valsK (pre ++ [x]))) _
        rw [valsK_snoc, HSK.out]
        refine ⟨(hoth _ (by omega) (by omega)).trans HI.out.p, (hoth _ (by omega) (by omega)).trans HI.out.nb, ⟨_, hset, ?_⟩, HI.out.below.trans hK.below, Nat.le_trans hT hsz⟩
        rw [List.length_append, List.map_append]
        exact hr3
      · have hsk := awayL_skip rs goal n (valsK pre) x.1 (by rw [hc2]; simpa using hun)
        have HH := Lib.hid hhas2
        have HI := Lib.hid hI
        have HSK := Lib.hid hsk
        have hz : ¬ ((u : Int) = (n : Int)) := by omega
        clear hc2 hhas2 hI hsk
        gi_wp2_with (gi_at_lookup; refine wpListIn_lookup_own_ok_int _ rfl _ _ 106 rfl 82 3 .i64 keyLaw Tryz.underlying106 Tryz.underlying3 (Tryz.zeroValue3 _) B m _ rfl hoW _ _ rfl hkey2 ?_; intro q hat hwc; obtain rfl := atInt hat0 hat; rw [HH.out]; clear hat hwc)
        exact ⟨KeepsFrom.refl _ _, KpX.refl _ _ _ _, by show NextI _ _ _ _ _ (awayL _ _ _ (valsK (pre ++ [x]))) _; rw [valsK_snoc, HSK.out]; exact HI.out⟩
  case done =>
    rintro E xs W hD hxs hI hK
    replace hI : NextI w (.slice A nn c) B T.heap.size n (awayL rs goal n (madeL rs k)) W := by
      rw [← hxs]; exact hI
    have hcn : (awayL rs goal n (madeL rs k)).length ≤ 26001 := by
      have h0 := awayL_len rs goal n (madeL rs k)
      have h1 := madeL_len rs k hk
      have h2 := HN.out
      omega
    obtain ⟨v, hv, hrow⟩ := hI.next
    obtain ⟨n0, n1⟩ := cells_at hv
    have hl : (awayL rs goal n (madeL rs k)).length = ((awayL rs goal n (madeL rs k)).length - 1) + 1 := by
      have : 0 < (awayL rs goal n (madeL rs k)).length := List.length_pos_iff.2 hne
      omega
    obtain ⟨g, cap, rfl⟩ : ∃ g cap, v = .slice (some ⟨g, 0, none⟩) (awayL rs goal n (madeL rs k)).length cap := by
      rw [hl] at hrow ⊢
      exact own_head hrow
    have q := minKey_any g cap _ W T.heap.size hne (by omega) hI.size hrow
    have Q := Lib.hid q
    have HI := Lib.hid hI
    have HK := Lib.hid hK
    have HNE := Lib.hid hne
    clear q hI hK hxs hrow hv hl hne
    gi_wp2_with (refine ⟨trivial, ?_⟩; refine (callsIn_wide.2 Q.out).mono ?_; rintro e w' ⟨rfl, hb, hkk⟩)
    refine ⟨by simp, .inl ⟨_, _, rfl, run_takeDeferred (hkk _ _ HK.out rfl), ?_⟩⟩
    have e1 := HTS.out
    have e2 := HVS.out
    have hbb := HI.out.below.trans (hb.mono (by omega))
    exact ⟨.string (minStr (awayL rs goal n (madeL rs k))), by simp [results, Tryz.results76, go_sem], rfl, hbb.grown (grownBy_putObj' w' E (.deferred Option.none)) hbb.size (fun j e => by injection e with e; omega)⟩
  case stop =>
    rintro E cd pre W _ _ h _
    exact h.elim
end Go.Proofs.YtljlkhaolfihjaaGreatDoor
