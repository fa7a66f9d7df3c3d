/- The fewest uses from a key, and the next string of a chain. -/
import Derived.Test.YtldianbhpfdhcaaGreatDoorPgG
namespace Go.Proofs.YtldianbhpfdhcaaGreatDoor
open Go.RowKit Go.Shelf

attribute [local go_sem] Oper.semAt_some

theorem OwnMet.below {w W : World} {B n : Nat} {D : DU} (h : OwnMet w B n D) (hb : Below w.heap.size w W) : OwnMet W B n D := by
  have hlt := World.ownsMap.lt h
  obtain ⟨es, ck, hh, F, hs, hD⟩ := h
  exact ⟨es, ck, (hb.block _ hlt).trans hh, F, hs, hD⟩

structure UsesI (w : World) (R : Value) (B base : Nat) (v1 : Int) (v2 : Bool) (W : World) : Prop where
  p : W.heap[w.heap.size]? = some (.cells #[R, .map (some B)] 125 (0, 0))
  r1 : W.heap[w.heap.size + 1]? = some (.cells #[.int .i64 v1] 3 (0, 0))
  r2 : W.heap[w.heap.size + 2]? = some (.cells #[.bool v2] 4 (0, 0))
  below : Below w.heap.size w W
  size : base ≤ W.heap.size

theorem UsesI.own {w : World} {R : Value} {B base : Nat} {v1 : Int} {v2 : Bool} {A C : World} {row : Option Nat} (hs : UsesI w R B base v1 v2 A) (hg : A.grownBy C row) (hr : ∀ r, row = some r → w.heap.size ≤ r ∧ ∃ o : Obj, A.heap[r]? = some o ∧ o.isCells = false) : UsesI w R B base v1 v2 C := by
  have hr2 : ∀ r, row = some r → ∃ o : Obj, A.heap[r]? = some o ∧ o.isCells = false := fun r e => (hr r e).2
  exact ⟨cells_turn hs.p hg hr2, cells_turn hs.r1 hg hr2, cells_turn hs.r2 hg hr2, hs.below.grown hg hs.below.size (fun k e => (hr k e).1), Nat.le_trans hs.size hg.size⟩

theorem UsesI.set {w : World} {R : Value} {B base : Nat} {v1 : Int} {v2 : Bool} {W : World} (h : UsesI w R B base v1 v2 W) (u1 : Int) (u2 : Bool) :
    UsesI w R B base u1 u2 ((W.setCell ⟨w.heap.size + 1, 0, none⟩ (.int .i64 u1)).setCell ⟨w.heap.size + 2, 0, none⟩ (.bool u2)) := by
  have k1 := (Below.heap_setCell W ⟨w.heap.size + 1, 0, none⟩ (.int .i64 u1) (w.heap.size + 2) (by simp)).trans h.r2
  refine ⟨(Below.heap_setCell _ _ _ _ (by simp)).trans ((Below.heap_setCell _ _ _ _ (by simp)).trans h.p), (Below.heap_setCell _ _ _ _ (by simp)).trans (Boxed.set _ h.r1), Boxed.set _ k1, (h.below.setCell (by simp) _).setCell (by simp) _, ?_⟩
  have := h.size
  simpa [World.setCell] using this

theorem uses_res (E : Nat) (v1 : Int) (v2 : Bool) (w W : World) (R : Value) (B base : Nat) (tm : Array Value) (h1 : tm.getD 4 undef = .pointer (some ⟨w.heap.size + 1, 0, none⟩)) (h2 : tm.getD 5 undef = .pointer (some ⟨w.heap.size + 2, 0, none⟩))
    (h : UsesI w R B base v1 v2 W) (hE : w.heap.size + 2 < E) :
    (results Tryz.f94 tm).run Tryz.prog (W.putObj E (.deferred Option.none)) = .ok (.tuple #[.int .i64 v1, .bool v2]) (W.putObj E (.deferred Option.none)) := by
  have hg := grownBy_putObj' W E (.deferred Option.none)
  have a1 := (cells_at ((hg.block (w.heap.size + 1) (Array.getElem?_eq_some_iff.1 h.r1).1 (fun e => by injection e with e; omega)).trans h.r1)).1
  have a2 := (cells_at ((hg.block (w.heap.size + 2) (Array.getElem?_eq_some_iff.1 h.r2).1 (fun e => by injection e with e; omega)).trans h.r2)).1
  have h1' : tm[4]?.getD undef = .pointer (some ⟨w.heap.size + 1, 0, none⟩) := by simpa using h1
  have h2' : tm[5]?.getD undef = .pointer (some ⟨w.heap.size + 2, 0, none⟩) := by simpa using h2
  simp [results, Tryz.results94, go_sem, h1', h2', a1, a2]
theorem UsesI.end_ {E : Nat} {v1 : Int} {v2 : Bool} {w W : World} {R : Value} {B base : Nat} (h : UsesI w R B base v1 v2 W) (hE : w.heap.size ≤ E) : Below w.heap.size w (W.putObj E (.deferred Option.none)) :=
  h.below.grown (grownBy_putObj' W E (.deferred Option.none)) h.below.size (fun k e => by injection e with e; omega)

def anyMet (rs : List (ByteArray × ByteArray)) (goal : ByteArray) (L : List ByteArray) : Bool := L.any fun m => (metP rs goal m).isSome
theorem metP_val (rs : List (ByteArray × ByteArray)) (goal x : ByteArray) (n : Nat) (h : metP rs goal x = some n) : n ≤ 1 := by
  unfold metP at h
  split at h
  · injection h with h; omega
  · split at h
    · injection h with h; omega
    · cases h

set_option maxRecDepth 100000 in
set_option maxHeartbeats 4000000 in
theorem pathUses_any (A : Option Addr) (nn c B m : Nat) (rs : List (ByteArray × ByteArray)) (goal k : ByteArray) (D : DU) (w : World) (hk : k.size ≤ 12) (hs : Short100 rs) (hn : nn = rs.length) (hb : nn ≤ 1000) (hx : Cells w A (ruleCells rs))
    (ho : OwnMet w B m D) (hM : MapIs (metP rs goal) D) :
    Calls Tryz.prog 94 #[.agg #[.slice A nn c, .map (some B)], .string k] w fun e w' =>
      e = .returned (.tuple #[.int .i64 (((usesG rs goal k).getD 0 : Nat) : Int), .bool (usesG rs goal k).isSome]) ∧ Below w.heap.size w w' := by
  have hkey := key_lit k (by omega)
  have hBlt := World.ownsMap.lt ho
  have hBV : Below w.heap.size w (((w.alloc (.cells #[.slice A nn c, .map (some B)] 125)).alloc (.cells #[.int .i64 0] 3)).alloc (.cells #[.bool false] 4)) := (((Below.refl _ w).alloc (Nat.le_refl _) _).alloc (by simp) _).alloc (by simp; omega) _
  have hoV : OwnMet (((w.alloc (.cells #[.slice A nn c, .map (some B)] 125)).alloc (.cells #[.int .i64 0] 3)).alloc (.cells #[.bool false] 4)) B m D := OwnMet.below ho hBV
  have hV0 : (((w.alloc (.cells #[.slice A nn c, .map (some B)] 125)).alloc (.cells #[.int .i64 0] 3)).alloc (.cells #[.bool false] 4)).heap[w.heap.size]? = some (.cells #[.slice A nn c, .map (some B)] 125 (0, 0)) :=
    (Below.heap_alloc _ _ _ (by simp; omega)).trans ((Below.heap_alloc _ _ _ (by simp)).trans (heap_alloc_new w _))
  have hV1 : (((w.alloc (.cells #[.slice A nn c, .map (some B)] 125)).alloc (.cells #[.int .i64 0] 3)).alloc (.cells #[.bool false] 4)).heap[w.heap.size + 1]? = some (.cells #[.int .i64 0] 3 (0, 0)) := by
    refine (Below.heap_alloc _ _ _ (by simp)).trans ?_
    have := heap_alloc_new (w.alloc (.cells #[.slice A nn c, .map (some B)] 125)) (.cells #[.int .i64 0] 3)
    rwa [World.size_alloc] at this
  have hV2 : (((w.alloc (.cells #[.slice A nn c, .map (some B)] 125)).alloc (.cells #[.int .i64 0] 3)).alloc (.cells #[.bool false] 4)).heap[w.heap.size + 2]? = some (.cells #[.bool false] 4 (0, 0)) := by
    have := heap_alloc_new ((w.alloc (.cells #[.slice A nn c, .map (some B)] 125)).alloc (.cells #[.int .i64 0] 3)) (.cells #[.bool false] 4)
    rwa [World.size_alloc, World.size_alloc] at this
  have hVs : (((w.alloc (.cells #[.slice A nn c, .map (some B)] 125)).alloc (.cells #[.int .i64 0] 3)).alloc (.cells #[.bool false] 4)).heap.size = w.heap.size + 3 := by simp
  have hhas := hM.has k
  have HN := Lib.hid hn
  have HX := Lib.hid hx
  have HS := Lib.hid hs
  have HM := Lib.hid hM
  have HVS := Lib.hid hVs
  clear hn hx hs hM hVs
  refine (callsIn_wide (n := 10)).1 (callsIn_of_wp_marks Tryz.func94 rfl trivial ?_ rfl)
  simp only [Tryz.ntmps94, List.size_toArray, List.length_cons, List.length_nil, Nat.reduceAdd, Nat.reduceSub, Array.replicate_succ, Array.replicate_zero, List.push_toArray, List.append_toArray, List.nil_append, List.cons_append]
  cases hc : metP rs goal k with
  | some v =>
    rw [hc] at hhas
    have hat := HM.out.at_ k v hc
    have HU := Lib.hid (show usesG rs goal k = some v by unfold usesG; rw [hc])
    gi_wp2_with (gi_at_lookup; refine wpListIn_lookup_own_ok_int _ rfl _ _ 123 rfl 86 3 .i64 keyLaw Tryz.underlying123 Tryz.underlying3 (Tryz.zeroValue3 _) B m _ rfl hoV _ _ rfl hkey ?_; intro q hat2 hwc; rw [hhas])
    have hq : q = (v : Int) := by
      rw [hat] at hat2
      injection hat2 with h1
      injection h1 with _ h2
      exact h2.symm
    subst hq
    refine ⟨.tuple #[.int .i64 (v : Int), .bool true], by simp [results, Tryz.results94, go_sem], ⟨by rw [HU.out]; rfl, ?_⟩⟩
    exact (((Below.refl _ w).alloc (Nat.le_refl _) _).alloc (by simp) _).alloc (by simp; omega) _
  | none =>
    rw [hc] at hhas
    gi_wp2_with (gi_at_lookup; refine wpListIn_lookup_own_ok_int _ rfl _ _ 123 rfl 86 3 .i64 keyLaw Tryz.underlying123 Tryz.underlying3 (Tryz.zeroValue3 _) B m _ rfl hoV _ _ rfl hkey ?_; intro q hat2 hwc; rw [hhas]; clear hat2 hwc)
    generalize ((w.alloc (.cells #[.slice A nn c, .map (some B)] 125)).alloc (.cells #[.int .i64 0] 3)).alloc (.cells #[.bool false] 4) = V at *
    refine ⟨trivial, ?_⟩
    refine (callsIn_wide.2 (uses_any k _ A nn c rfl _)).mono ?_
    rintro e w' ⟨rfl, rfl⟩
    gi_wp2_with (fail)
    have hk1 : ((V.alloc (.cells #[.string k] 86)).alloc (.cells #[.slice A nn c] 45)).heap[V.heap.size]? = some (.cells #[.string k] 86 (0, 0)) := (Below.heap_alloc _ _ _ (by simp)).trans (heap_alloc_new V _)
    have hk2 : ((V.alloc (.cells #[.string k] 86)).alloc (.cells #[.slice A nn c] 45)).heap[V.heap.size + 1]? = some (.cells #[.slice A nn c] 45 (0, 0)) := by
      have := heap_alloc_new (V.alloc (.cells #[.string k] 86)) (.cells #[.slice A nn c] 45)
      rwa [World.size_alloc] at this
    have hbV : Below V.heap.size V ((V.alloc (.cells #[.string k] 86)).alloc (.cells #[.slice A nn c] 45)) := ((Below.refl _ V).alloc (Nat.le_refl _) _).alloc (by simp) _
    have hTs : ((V.alloc (.cells #[.string k] 86)).alloc (.cells #[.slice A nn c] 45)).heap.size = V.heap.size + 2 := by simp
    generalize (V.alloc (.cells #[.string k] 86)).alloc (.cells #[.slice A nn c] 45) = T at *
    have hBT := hBV.trans (hbV.mono (by have := HVS.out; omega))
    have hI0 : UsesI w (.slice A nn c) B T.heap.size 0 false T :=
      ⟨(hbV.block _ (by have := HVS.out; omega)).trans hV0, (hbV.block _ (by have := HVS.out; omega)).trans hV1, (hbV.block _ (by have := HVS.out; omega)).trans hV2, hBT, Nat.le_refl _⟩
    have HI0 := Lib.hid hI0
    have HK1 := Lib.hid hk1
    have HK2 := Lib.hid hk2
    have HTS := Lib.hid hTs
    have HO := Lib.hid ho
    have HC := Lib.hid hc
    clear hI0 hk1 hk2 hTs hV0 hV1 hV2 hoV hbV hBV hBT ho hc
    generalize V.heap.size = Y at *
    refine wpIn_rangeFunc_ownG (α := K12) rfl (by decide) (gf := 156) (lb := #[.pointer (some ⟨Y, 0, none⟩), .pointer (some ⟨Y + 1, 0, none⟩)]) rfl trivial (enters_of Tryz.func156 (by kernel_rfl) rfl)
      (uses_stops _ Y (Y + 1) w.heap.size nn c [Y] A k rs T hk HS.out HN.out hb (by simp) (fun b hb' => by have := HTS.out; have := HVS.out; simp at hb'; omega) (by have := HTS.out; have := HVS.out; omega) HK1.out (cells_at HK2.out).1 (fun W' hW' => HX.out.below (HI0.out.below.trans hW')))
      KpX.trans (fun W l o o' hl h ho _ => KpX.putObj (B := T.heap.size) (by have := HTS.out; have := HVS.out; omega) (fun b hb' => by have := HTS.out; have := HVS.out; simp at hb'; omega) W l o o' hl h ho) (Below.refl _ _) (fun _ => rfl)
      (fun xs W => UsesI w (.slice A nn c) B T.heap.size 0 false W ∧ anyMet rs goal (xs.map (·.1)) = false)
      (fun cd xs W => cd = .ret ∧ UsesI w (.slice A nn c) B T.heap.size 2 true W ∧ anyMet rs goal (xs.map (·.1)) = true)
      (fun xs A C row hs hg hr => ⟨hs.1.own hg (fun r e => ⟨by have := (hr r e).1; have := HTS.out; have := HVS.out; omega, (hr r e).2⟩), hs.2⟩)
      (fun cd xs A C row hs hg hr => ⟨hs.1, hs.2.1.own hg (fun r e => ⟨by have := (hr r e).1; have := HTS.out; have := HVS.out; omega, (hr r e).2⟩), hs.2.2⟩)
      ⟨HI0.out, rfl⟩ ?frame1 ?assign ?body ?done ?stop
    case assign =>
      intro l x W K hK
      gi_wp2
      exact hK
    case body =>
      rintro l pre x W ⟨hI, hpre⟩ hlt
      have hkey2 := key_lit x.1 (by have := x.2; omega)
      have hhas2 := HM.out.has x.1
      have hoW := OwnMet.below HO.out hI.below
      have hp := block2_cells hI.p
      obtain ⟨p0, p1, _, _⟩ := hp
      cases hc2 : (metP rs goal x.1).isSome with
      | false =>
        rw [hc2] at hhas2
        have HC2 := Lib.hid hc2
        have HH := Lib.hid hhas2
        have HI := Lib.hid hI
        clear hc2 hhas2 hI
        gi_wp2_with (gi_at_lookup; refine wpListIn_lookup_own_ok_int _ rfl _ _ 123 rfl 86 3 .i64 keyLaw Tryz.underlying123 Tryz.underlying3 (Tryz.zeroValue3 _) B m _ rfl hoW _ _ rfl hkey2 ?_; intro q hat hwc; rw [HH.out]; clear hat hwc)
        exact ⟨KeepsFrom.refl _ _, KpX.refl _ _ _ _, HI.out, by unfold anyMet at *; rw [List.map_append, List.any_append, hpre]; simp [HC2.out]⟩
      | true =>
        rw [hc2] at hhas2
        have HC2 := Lib.hid hc2
        have HH := Lib.hid hhas2
        obtain ⟨a1, a2⟩ := cells_at hI.r1
        obtain ⟨b1, b2⟩ := cells_at hI.r2
        have HI := Lib.hid hI
        clear hc2 hhas2 hI
        gi_wp2_with (gi_at_lookup; refine wpListIn_lookup_own_ok_int _ rfl _ _ 123 rfl 86 3 .i64 keyLaw Tryz.underlying123 Tryz.underlying3 (Tryz.zeroValue3 _) B m _ rfl hoW _ _ rfl hkey2 ?_; intro q hat hwc; rw [HH.out]; clear hat hwc)
        have i := HI.out.set 2 true
        exact ⟨((KeepsOthers.setCell W _ _).trans (KeepsOthers.setCell _ _ _)).from _, rfl, i, by unfold anyMet at *; rw [List.map_append, List.any_append, hpre]; simp [HC2.out]⟩
    case done =>
      rintro E xs W hD hxs ⟨hI, hno⟩ hK
      rw [hxs] at hno
      have hU : usesG rs goal k = Option.none := by
        unfold usesG
        rw [HC.out]
        have : ((madeL rs k).any fun m => (metP rs goal m).isSome) = false := hno
        rw [this]; rfl
      have i := hI.set 0 false
      obtain ⟨a1, a2⟩ := cells_at hI.r1
      obtain ⟨b1, b2⟩ := cells_at hI.r2
      have hK2 := (Below.heap_setCell (W.setCell ⟨w.heap.size + 1, 0, none⟩ (.int .i64 0)) ⟨w.heap.size + 2, 0, none⟩ (.bool false) E (by have := HTS.out; have := HVS.out; simp; omega)).trans ((Below.heap_setCell W ⟨w.heap.size + 1, 0, none⟩ (.int .i64 0) E (by have := HTS.out; have := HVS.out; simp; omega)).trans hK)
      have HK := Lib.hid hK2
      have HU := Lib.hid hU
      have IB := Lib.hid i
      clear hK hK2 hU i hI hno hxs
      gi_wp2_with (fail)
      refine ⟨by simp, .inl ⟨_, _, rfl, run_takeDeferred HK.out, ?_⟩⟩
      have e1 := HTS.out
      have e2 := HVS.out
      exact ⟨_, uses_res E 0 false w _ _ _ _ _ rfl rfl IB.out (by omega), by rw [HU.out]; rfl, IB.out.end_ (by omega)⟩
    case stop =>
      rintro E cd pre W hD hpre ⟨rfl, hI, hyes⟩ hK
      have hU : usesG rs goal k = some 2 := by
        unfold usesG
        rw [HC.out]
        have : ((madeL rs k).any fun m => (metP rs goal m).isSome) = true := by
          obtain ⟨t, ht⟩ := hpre
          rw [← ht, List.any_append]
          have : ((pre.map (·.1)).any fun m => (metP rs goal m).isSome) = true := hyes
          rw [this]; rfl
        rw [this]; rfl
      obtain ⟨c1, _⟩ := cells_at hI.r1
      obtain ⟨d1, _⟩ := cells_at hI.r2
      gi_wp2_with (fail)
      refine ⟨by simp, .inl ⟨_, _, rfl, run_takeDeferred hK, ?_⟩⟩
      have e1 := HTS.out
      have e2 := HVS.out
      exact ⟨_, uses_res E 2 true w _ _ _ _ _ rfl rfl hI (by omega), by rw [hU]; rfl, hI.end_ (by omega)⟩
end Go.Proofs.YtldianbhpfdhcaaGreatDoor
