/- Shortest and Fit of any list, any index, any width. -/
import Derived.Test.YtlhiekeolmgilaaGreatDoorPzC
import Derived.Test.YtlhiekeolmgilaaGreatDoorPgS
import Derived.Test.YtlhiekeolmgilaaGreatDoorSpecX
namespace Go.Proofs.YtlhiekeolmgilaaGreatDoor
open Go.RowKit Go.Shelf

/-- What beginLine gives where it gives no line. -/
def LineErr (c : Int) (w : World) (e : Ending) (w' : World) : Prop :=
  e = .returned (.tuple #[.agg #[.string ⟨#[]⟩, .slice none 0 0], .int .i64 c]) ∧ Below w.heap.size w w'

set_option maxRecDepth 100000 in
set_option maxHeartbeats 1600000 in
theorem beginLine_list (A : Option Addr) (n c : Nat) (i : Int) (ss : List ByteArray) (w : World) (hL : LaidErr w) (hn : n = ss.length) (hv : listErr ss ≠ 0) (hx : Cells w A (ss.map Value.string)) :
    Calls Tryz.prog 92 #[.slice A n c, .int .i64 i] w (LineErr (listErr ss) w) := by
  have Q := Lib.hid (fun W h => readList_err A n c ss W hn hv h)
  have HX := Lib.hid hx
  have HL := Lib.hid hL
  generalize listErr ss = E at *
  clear hn hv hx hL
  unfold LineErr
  have hbV : Below w.heap.size w (w.alloc (.cells #[.string ⟨#[]⟩, .slice none 0 0] 134)) := (Below.refl _ _).alloc (Nat.le_refl _) _
  have hr := heap_alloc_new w (.cells #[.string ⟨#[]⟩, .slice none 0 0] 134)
  have hVs : (w.alloc (.cells #[.string ⟨#[]⟩, .slice none 0 0] 134)).heap.size = w.heap.size + 1 := by simp
  go_enter Tryz.func92, Tryz.ntmps92
  go_wp2_with fail
  generalize w.alloc (.cells #[.string ⟨#[]⟩, .slice none 0 0] 134) = V at *
  refine (Q.out _ (HX.out.below hbV)).mono ?_
  rintro e w1 ⟨rfl, hb1⟩
  have hb2 := hbV.trans (hb1.mono hbV.size)
  have hr1 := (hb1.block _ (by omega)).trans hr
  clear Q hr hbV
  go_wp2_with fail
  refine (codeOf_err E _ (HL.out.below hb2)).mono ?_
  rintro e w2 ⟨rfl, hb3⟩
  have hb4 := hb2.trans (hb3.mono hb2.size)
  have hr2 := (hb3.block _ (Array.getElem?_eq_some_iff.1 hr1).1).trans hr1
  obtain ⟨c0, c1, f0, f1⟩ := block2_cells hr2
  obtain ⟨z0, z1, _, _⟩ := block2_cells (block2 hr2 (.string ⟨#[]⟩) (.slice none 0 0))
  have hbb := (hb4.setCell (p := ⟨w.heap.size, 0, none⟩) (Nat.le_refl _) (.string ⟨#[]⟩)).setCell (p := ⟨w.heap.size, 1, none⟩) (Nat.le_refl _) (.slice none 0 0)
  have Z0 := Lib.hid z0
  have Z1 := Lib.hid z1
  clear z0 z1 hb1 hb3 hr1
  go_wp2_with fail
  have z0 := Z0.out
  have z1 := Z1.out
  exact bodyPost_ret (v := .tuple #[.agg #[.string ⟨#[]⟩, .slice none 0 0], .int .i64 E]) (by simp [results, Tryz.results92, go_sem, z0, z1]) rfl ⟨rfl, hbb⟩

set_option maxRecDepth 100000 in
set_option maxHeartbeats 1600000 in
theorem beginLine_at (A : Option Addr) (n c : Nat) (i : Int) (ss : List ByteArray) (w : World) (hn : n = ss.length) (hb : n ≤ 6) (hv : AllOk ss) (hx : Cells w A (ss.map Value.string)) (hi : i < 0 ∨ (n : Int) ≤ i) :
    Calls Tryz.prog 92 #[.slice A n c, .int .i64 i] w (LineErr 3 w) := by
  have Q := Lib.hid (fun W h => readList_ok A n c ss W hn hb hv h)
  have HX := Lib.hid hx
  have HN := Lib.hid hn
  clear hn hv hx
  unfold LineErr
  have hbV : Below w.heap.size w (w.alloc (.cells #[.string ⟨#[]⟩, .slice none 0 0] 134)) := (Below.refl _ _).alloc (Nat.le_refl _) _
  have hr := heap_alloc_new w (.cells #[.string ⟨#[]⟩, .slice none 0 0] 134)
  have hVs : (w.alloc (.cells #[.string ⟨#[]⟩, .slice none 0 0] 134)).heap.size = w.heap.size + 1 := by simp
  go_enter Tryz.func92, Tryz.ntmps92
  go_wp2_with fail
  generalize w.alloc (.cells #[.string ⟨#[]⟩, .slice none 0 0] 134) = V at *
  refine (Q.out _ (HX.out.below hbV)).mono ?_
  rintro e w1 ⟨o, rfl, ho, hb1⟩
  rw [← HN.out] at ho
  obtain ⟨O, cap, rfl⟩ := own_form ho
  have hb2 := hbV.trans (hb1.mono hbV.size)
  have hr1 := (hb1.block _ (by omega)).trans hr
  obtain ⟨c0, c1, f0, f1⟩ := block2_cells hr1
  obtain ⟨z0, z1, _, _⟩ := block2_cells (block2 hr1 (.string ⟨#[]⟩) (.slice none 0 0))
  have hbb := (hb2.setCell (p := ⟨w.heap.size, 0, none⟩) (Nat.le_refl _) (.string ⟨#[]⟩)).setCell (p := ⟨w.heap.size, 1, none⟩) (Nat.le_refl _) (.slice none 0 0)
  have Z0 := Lib.hid z0
  have Z1 := Lib.hid z1
  clear z0 z1 Q hr hbV ho hb1
  by_cases h0 : i < 0
  · have d0 : decide (i < 0) = true := decide_eq_true h0
    go_wp2_with fail
    have z0 := Z0.out
    have z1 := Z1.out
    exact bodyPost_ret (v := .tuple #[.agg #[.string ⟨#[]⟩, .slice none 0 0], .int .i64 3]) (by simp [results, Tryz.results92, go_sem, z0, z1]) rfl ⟨rfl, hbb⟩
  · have h1 : (n : Int) ≤ i := by omega
    have d0 : decide (i < 0) = false := decide_eq_false h0
    have d1 : decide ((n : Int) ≤ i) = true := decide_eq_true h1
    go_wp2_with fail
    have z0 := Z0.out
    have z1 := Z1.out
    exact bodyPost_ret (v := .tuple #[.agg #[.string ⟨#[]⟩, .slice none 0 0], .int .i64 3]) (by simp [results, Tryz.results92, go_sem, z0, z1]) rfl ⟨rfl, hbb⟩

set_option maxRecDepth 100000 in
set_option maxHeartbeats 800000 in
theorem Shortest_none (A : Option Addr) (n c : Nat) (i E : Int) (w : World) (hE : E ≠ 0) (Q : Hid (∀ W, Below w.heap.size w W → Calls Tryz.prog 92 #[.slice A n c, .int .i64 i] W (LineErr E W))) :
    Calls Tryz.prog 45 #[.slice A n c, .int .i64 i] w (StrErrPost (ByteArray.empty, E) w) := by
  have m1 : (E != 0) = true := by simp [hE]
  unfold StrErrPost
  unfold LineErr at Q
  go_enter Tryz.func45, Tryz.ntmps45
  go_wp2_with fail
  refine (Q.out _ (Below.refl _ _)).mono ?_
  rintro e w1 ⟨rfl, hb1⟩
  have hb2 := hb1.alloc (o := .cells #[.string ⟨#[]⟩, .slice none 0 0] 134) hb1.size
  go_wp2_with fail
  go_ret2
  exact ⟨rfl, hb2⟩
set_option maxRecDepth 100000 in
set_option maxHeartbeats 800000 in
theorem Fit_none (A : Option Addr) (n c : Nat) (i wd E : Int) (w : World) (hE : E ≠ 0) (Q : Hid (∀ W, Below w.heap.size w W → Calls Tryz.prog 92 #[.slice A n c, .int .i64 i] W (LineErr E W))) :
    Calls Tryz.prog 46 #[.slice A n c, .int .i64 i, .int .i64 wd] w (StrErrPost (ByteArray.empty, E) w) := by
  have m1 : (E != 0) = true := by simp [hE]
  unfold StrErrPost
  unfold LineErr at Q
  go_enter Tryz.func46, Tryz.ntmps46
  go_wp2_with fail
  refine (Q.out _ (Below.refl _ _)).mono ?_
  rintro e w1 ⟨rfl, hb1⟩
  have hb2 := hb1.alloc (o := .cells #[.string ⟨#[]⟩, .slice none 0 0] 134) hb1.size
  go_wp2_with fail
  go_ret2
  exact ⟨rfl, hb2⟩

set_option maxRecDepth 100000 in
set_option maxHeartbeats 800000 in
theorem Fit_wide (A : Option Addr) (n c i : Nat) (wd : Int) (ss : List ByteArray) (w : World) (hn : n = ss.length) (hb : n ≤ 6) (hv : AllOk ss) (hx : Cells w A (ss.map Value.string)) (hi : i < n) (hw : wd < 1 ∨ (((keyS (ss.getD i ByteArray.empty)).size : Nat) : Int) ≤ wd) :
    Calls Tryz.prog 46 #[.slice A n c, .int .i64 i, .int .i64 wd] w (StrErrPost (if wd < 1 then (ByteArray.empty, 1) else (keyS (ss.getD i ByteArray.empty), 0)) w) := by
  have QB := Lib.hid (beginLine_ok A n c i ss w hn hb hv hx hi)
  unfold LinePost at QB
  unfold StrErrPost
  generalize othersB ss i = os at *
  generalize keyS (ss.getD i ByteArray.empty) = K at *
  clear hn hv hx
  by_cases h1 : wd < 1
  · rw [if_pos h1]
    have d1 : decide (wd < 1) = true := decide_eq_true h1
    go_enter Tryz.func46, Tryz.ntmps46
    go_wp2_with fail
    refine QB.out.mono ?_
    rintro e w1 ⟨B, n2, c2, rfl, hn2, hcs, hb1⟩
    subst hn2
    have hb2 := hb1.alloc (o := .cells #[.string K, .slice B os.length c2] 134) hb1.size
    clear hcs
    go_wp2_with fail
    go_ret2
    exact ⟨rfl, hb2⟩
  · rw [if_neg h1]
    have h2 : (K.size : Int) ≤ wd := by
      rcases hw with h | h
      · exact absurd h h1
      · exact h
    have d1 : decide (wd < 1) = false := decide_eq_false h1
    have d2 : decide ((K.size : Int) ≤ wd) = true := decide_eq_true h2
    go_enter Tryz.func46, Tryz.ntmps46
    go_wp2_with fail
    refine QB.out.mono ?_
    rintro e w1 ⟨B, n2, c2, rfl, hn2, hcs, hb1⟩
    subst hn2
    have hb2 := hb1.alloc (o := .cells #[.string K, .slice B os.length c2] 134) hb1.size
    have hr := heap_alloc_new w1 (.cells #[.string K, .slice B os.length c2] 134)
    obtain ⟨p0, p1, _, _⟩ := block2_cells hr
    clear hcs hr
    go_wp2_with fail
    go_ret2
    exact ⟨rfl, hb2⟩

theorem found_ans {p : List UInt8 × Int} {f : FuncId} {args : Array Value} {w : World} (h : Calls Tryz.prog f args w (FoundPost p w)) : Calls Tryz.prog f args w (StrErrPost (⟨p.1.toArray⟩, p.2) w) := by
  refine h.mono ?_
  rintro e w' ⟨s, h1, rfl, hb⟩
  refine ⟨?_, hb⟩
  rw [← h1]
theorem pShortest_any (A : Option Addr) (n c : Nat) (ss : List ByteArray) (i : Int) (w : World) (hL : LaidErr w) (hn : n = ss.length) (hx : Cells w A (ss.map Value.string)) :
    Calls Tryz.prog 45 #[.slice A n c, .int .i64 i] w (StrErrPost (shortestP ss i) w) := by
  by_cases h : listErr ss = 0
  · obtain ⟨l6, hok⟩ := list_facts h
    by_cases hi : i < 0 ∨ (n : Int) ≤ i
    · have e : shortestP ss i = (ByteArray.empty, 3) := by unfold shortestP; rw [if_pos h, if_pos (by rw [← hn]; exact hi)]
      rw [e]
      exact Shortest_none A n c i 3 w (by decide) (Lib.hid fun W hW => beginLine_at A n c i ss W hn (by omega) hok (hx.below hW) hi)
    · obtain ⟨k, rfl⟩ : ∃ k : Nat, i = (k : Int) := ⟨i.toNat, by omega⟩
      have hk : k < ss.length := by omega
      rw [shortest_eq ss k hk h]
      exact found_ans (Shortest_ok A n c k ss w hn (by omega) hok hx (by omega))
  · have e : shortestP ss i = (ByteArray.empty, listErr ss) := by unfold shortestP; rw [if_neg h]
    rw [e]
    exact Shortest_none A n c i _ w h (Lib.hid fun W hW => beginLine_list A n c i ss W (hL.below hW) hn h (hx.below hW))
theorem pFit_any (A : Option Addr) (n c : Nat) (ss : List ByteArray) (i width : Int) (w : World) (hL : LaidErr w) (hn : n = ss.length) (hx : Cells w A (ss.map Value.string)) :
    Calls Tryz.prog 46 #[.slice A n c, .int .i64 i, .int .i64 width] w (StrErrPost (fitP ss i width) w) := by
  by_cases h : listErr ss = 0
  · obtain ⟨l6, hok⟩ := list_facts h
    by_cases hi : i < 0 ∨ (n : Int) ≤ i
    · have e : fitP ss i width = (ByteArray.empty, 3) := by unfold fitP; rw [if_pos h, if_pos (by rw [← hn]; exact hi)]
      rw [e]
      exact Fit_none A n c i width 3 w (by decide) (Lib.hid fun W hW => beginLine_at A n c i ss W hn (by omega) hok (hx.below hW) hi)
    · obtain ⟨k, rfl⟩ : ∃ k : Nat, i = (k : Int) := ⟨i.toNat, by omega⟩
      have hk : k < ss.length := by omega
      have hg : ss.getD k ByteArray.empty = ss[k] := by rw [List.getD_eq_getElem?_getD, List.getElem?_eq_getElem hk]; rfl
      have e0 : fitP ss (k : Int) width = fitAt ss (keyS ss[k]) width := by
        unfold fitP
        rw [if_pos h, if_neg (by omega), show ((k : Int)).toNat = k from by omega, List.getElem?_eq_getElem hk]
        rfl
      by_cases hw : width < 1 ∨ ((keyS ss[k]).size : Int) ≤ width
      · have q := Fit_wide A n c k width ss w hn (by omega) hok hx (by omega) (by rw [hg]; exact hw)
        rw [hg] at q
        have e : fitP ss (k : Int) width = if width < 1 then (ByteArray.empty, 1) else (keyS ss[k], 0) := by
          rw [e0]
          unfold fitAt
          by_cases h1 : width < 1
          · rw [if_pos h1, if_pos h1]
          · rw [if_neg h1, if_neg h1, if_pos (by rcases hw with hw | hw; · exact absurd hw h1
                                                 · exact hw)]
        rw [e]
        exact q
      · obtain ⟨wd, rfl⟩ : ∃ wd : Nat, width = (wd : Int) := ⟨width.toNat, by omega⟩
        rw [fit_eq ss k wd hk h (by omega)]
        exact found_ans (Fit_ok A n c k wd ss w hn (by omega) hok hx (by omega) (by omega) (by rw [hg]; omega))
  · have e : fitP ss i width = (ByteArray.empty, listErr ss) := by unfold fitP; rw [if_neg h]
    rw [e]
    exact Fit_none A n c i width _ w h (Lib.hid fun W hW => beginLine_list A n c i ss W (hL.below hW) hn h (hx.below hW))
end Go.Proofs.YtlhiekeolmgilaaGreatDoor
