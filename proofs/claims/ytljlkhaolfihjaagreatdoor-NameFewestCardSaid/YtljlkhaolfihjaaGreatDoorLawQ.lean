/- The fewest names at a wrong place are found: plain facts. -/
import Derived.Test.YtljlkhaolfihjaaGreatDoorPgRe
import Derived.Test.YtljlkhaolfihjaaGreatDoorSpecC
import Derived.Test.YtljlkhaolfihjaaGreatDoorPzC
import Derived.Test.YtljlkhaolfihjaaGreatDoorPgS
import Derived.Test.YtljlkhaolfihjaaGreatDoorLawI
import Derived.Test.YtljlkhaolfihjaaGreatDoorKitU
import Derived.Test.YtljlkhaolfihjaaGreatDoorPgJ
namespace Go.Proofs.YtljlkhaolfihjaaGreatDoor
open Go.RowKit

theorem withoutFrom_all (q : List Int) (ss : List ByteArray) : ∀ k, (∀ j, k ≤ j → j < k + ss.length → (j : Int) ∈ q) → withoutFrom q k ss = [] := by
  induction ss with
  | nil => intro k _; rfl
  | cons s t ih =>
    intro k h
    unfold withoutFrom
    have h1 : hasB q (k : Int) = true := by
      unfold hasB
      simpa using h k (Nat.le_refl _) (by simp)
    rw [if_pos h1]
    exact ih (k + 1) fun j h2 h3 => h j (by omega) (by simp only [List.length_cons]; omega)
theorem subsL_full (n : Nat) : ∀ f, ∃ x, x ∈ subsL n f (f + n) ∧ ∀ j, f ≤ j → j < f + n → (j : Int) ∈ x := by
  induction n with
  | zero => intro f; exact ⟨[], by simp [subsL], fun j h1 h2 => by omega⟩
  | succ n ih =>
    intro f
    obtain ⟨x, hx, hj⟩ := ih (f + 1)
    refine ⟨(f : Int) :: x, ?_, fun j h1 h2 => ?_⟩
    · unfold subsL
      refine List.mem_flatMap.2 ⟨0, List.mem_range.2 (by omega), List.mem_map.2 ⟨x, ?_, by simp⟩⟩
      rw [show f + 0 + 1 = f + 1 from by omega, show f + (n + 1) = f + 1 + n from by omega]
      exact hx
    · by_cases e : j = f
      · subst e; simp
      · exact List.mem_cons_of_mem _ (hj j (by omega) (by omega))
theorem fine_all (ss : List ByteArray) : ∃ x, x ∈ allI ss.length (List.range (ss.length + 1)) ∧ fineI ss x = true := by
  obtain ⟨x, hx, hj⟩ := subsL_full ss.length 0
  refine ⟨x, ?_, ?_⟩
  · unfold allI
    rw [List.mem_flatten]
    exact ⟨subsL ss.length 0 ss.length, List.mem_map.2 ⟨ss.length, List.mem_range.2 (by omega), rfl⟩, by simpa using hx⟩
  · unfold fineI
    rw [withoutFrom_all x ss 0 fun j h1 h2 => hj j h1 (by simpa using h2)]
    rfl
/-- The lists of fewer numbers. -/
def lessI (nn k : Nat) : List (List Int) := allI nn (List.range k)
theorem lessI_succ (nn k : Nat) : lessI nn (k + 1) = lessI nn k ++ subsL k 0 nn := by
  unfold lessI allI
  rw [List.range_succ, List.map_append, List.flatten_append]; simp
theorem lessI_pre (nn : Nat) {k m : Nat} (h : k ≤ m) : lessI nn k <+: lessI nn m := by
  obtain ⟨d, rfl⟩ : ∃ d, m = k + d := ⟨m - k, by omega⟩
  clear h
  induction d with
  | zero => exact List.prefix_refl _
  | succ d ih => rw [← Nat.add_assoc, lessI_succ]; exact ih.trans (List.prefix_append _ _)
theorem find_none_of {α : Type} {p : α → Bool} {L : List α} (h : ∀ x, x ∈ L → p x = false) : L.find? p = none := by
  rw [List.find?_eq_none]
  intro x hx
  rw [h x hx]; decide
/-- The first one that is fine, met in the order of a law. -/
theorem wrong_first {ss : List ByteArray} {k i : Nat} (hk : k ≤ ss.length) (hi : i < (subsL k 0 ss.length).length) (h1 : ∀ x, x ∈ lessI ss.length k → fineI ss x = false) (h2 : ∀ x, x ∈ (subsL k 0 ss.length).take i → fineI ss x = false) (h3 : fineI ss (subsL k 0 ss.length)[i] = true) : wrongX ss = (subsL k 0 ss.length)[i] := by
  unfold wrongX
  have hp := lessI_pre ss.length (show k + 1 ≤ ss.length + 1 by omega)
  obtain ⟨t, ht⟩ := hp
  show ((lessI ss.length (ss.length + 1)).find? (fineI ss)).getD [] = _
  have e1 : (subsL k 0 ss.length).find? (fineI ss) = some (subsL k 0 ss.length)[i] := by
    conv => lhs; rw [← List.take_append_drop i (subsL k 0 ss.length)]
    rw [List.find?_append, find_none_of h2, List.drop_eq_getElem_cons hi, List.find?_cons, h3]
    rfl
  rw [← ht, List.find?_append, lessI_succ, List.find?_append, find_none_of h1, e1]
  rfl
theorem wrong_some {ss : List ByteArray} (h : ∀ x, x ∈ lessI ss.length (ss.length + 1) → fineI ss x = false) : False := by
  obtain ⟨x, hx, hf⟩ := fine_all ss
  rw [h x hx] at hf
  cases hf
theorem take_false {α : Type} {p : α → Bool} {L : List α} {i : Nat} (hi : i < L.length) (h : ∀ x, x ∈ L.take i → p x = false) (h2 : p L[i] = false) : ∀ x, x ∈ L.take (i + 1) → p x = false := by
  intro x hx
  rw [List.take_succ_eq_append_getElem hi] at hx
  rcases List.mem_append.1 hx with hx | hx
  · exact h x hx
  · rw [List.mem_singleton.1 hx]; exact h2
theorem withoutFrom_sub (q : List Int) (ss : List ByteArray) : ∀ k s, s ∈ withoutFrom q k ss → s ∈ ss := by
  induction ss with
  | nil => intro k s h; exact h
  | cons a t ih =>
    intro k s h
    unfold withoutFrom at h
    split at h
    · exact List.mem_cons_of_mem _ (ih _ _ h)
    · rcases List.mem_cons.1 h with h | h
      · rw [h]; simp
      · exact List.mem_cons_of_mem _ (ih _ _ h)
end Go.Proofs.YtljlkhaolfihjaaGreatDoor

/- Abbreviations that can be mistaken, as the laws ask. -/
namespace Go.Proofs.YtljlkhaolfihjaaGreatDoor
open Go.RowKit

theorem any_take' {α : Type} (p : α → Bool) (l : List α) (k : Nat) (hk : k < l.length) : (l.take (k + 1)).any p = ((l.take k).any p || p l[k]) := by
  rw [List.take_succ_eq_append_getElem hk, List.any_append]; simp

def BoolsPost (b : Bool) (w : World) (e : Ending) (w' : World) : Prop := e = .returned (.tuple #[.bool b, .bool true]) ∧ Below w.heap.size w w'

end Go.Proofs.YtljlkhaolfihjaaGreatDoor

/- Shortest and Fit of any list, any index, any width. -/
namespace Go.Proofs.YtljlkhaolfihjaaGreatDoor
open Go.RowKit Go.Shelf

/-- What beginLine gives where it gives no line. -/
def LineErr (c : Int) (w : World) (e : Ending) (w' : World) : Prop :=
  e = .returned (.tuple #[.agg #[.string ⟨#[]⟩, .slice none 0 0], .int .i64 c]) ∧ Below w.heap.size w w'

set_option maxRecDepth 100000 in
set_option maxHeartbeats 1600000 in
theorem beginLine_list (A : Option Addr) (n c : Nat) (i : Int) (ss : List ByteArray) (w : World) (hL : LaidErr w) (hn : n = ss.length) (hv : listErr ss ≠ 0) (hx : Cells w A (ss.map Value.string)) :
    Calls Tryz.prog 72 #[.slice A n c, .int .i64 i] w (LineErr (listErr ss) w) := by
  have Q := Lib.hid (fun W h => readList_err A n c ss W hn hv h)
  have HX := Lib.hid hx
  have HL := Lib.hid hL
  generalize listErr ss = E at *
  clear hn hv hx hL
  unfold LineErr
  have hbV : Below w.heap.size w (w.alloc (.cells #[.string ⟨#[]⟩, .slice none 0 0] 119)) := (Below.refl _ _).alloc (Nat.le_refl _) _
  have hr := heap_alloc_new w (.cells #[.string ⟨#[]⟩, .slice none 0 0] 119)
  have hVs : (w.alloc (.cells #[.string ⟨#[]⟩, .slice none 0 0] 119)).heap.size = w.heap.size + 1 := by simp
  go_enter Tryz.func72, Tryz.ntmps72
  go_wp2_with fail
  generalize w.alloc (.cells #[.string ⟨#[]⟩, .slice none 0 0] 119) = V at *
  refine (Q.out _ (HX.out.below hbV)).mono ?_
  rintro e w1 ⟨rfl, hb1⟩
  have hb2 := hbV.trans (hb1.mono hbV.size)
  have hr1 := (hb1.block _ (by omega)).trans hr
  clear Q hr hbV
  go_wp2_with fail
  refine (codeOf_err E _ (HL.out.below hb2)).mono ?_
  rintro e w2 ⟨rfl, hb3⟩
  have hb4 := hb2.trans (hb3.mono hb2.size)
  have hr2 := (hb3.block _ (Array.getElem?_eq_some_iff.1 hr1).1).trans hr1
  obtain ⟨c0, c1, f0, f1⟩ := block2_cells hr2
  obtain ⟨z0, z1, _, _⟩ := block2_cells (block2 hr2 (.string ⟨#[]⟩) (.slice none 0 0))
  have hbb := (hb4.setCell (p := ⟨w.heap.size, 0, none⟩) (Nat.le_refl _) (.string ⟨#[]⟩)).setCell (p := ⟨w.heap.size, 1, none⟩) (Nat.le_refl _) (.slice none 0 0)
  have Z0 := Lib.hid z0
  have Z1 := Lib.hid z1
  clear z0 z1 hb1 hb3 hr1
  go_wp2_with fail
  have z0 := Z0.out
  have z1 := Z1.out
  exact bodyPost_ret (v := .tuple #[.agg #[.string ⟨#[]⟩, .slice none 0 0], .int .i64 E]) (by simp [results, Tryz.results72, go_sem, z0, z1]) rfl ⟨rfl, hbb⟩

set_option maxRecDepth 100000 in
set_option maxHeartbeats 1600000 in
theorem beginLine_at (A : Option Addr) (n c : Nat) (i : Int) (ss : List ByteArray) (w : World) (hn : n = ss.length) (hb : n ≤ 6) (hv : AllOk ss) (hx : Cells w A (ss.map Value.string)) (hi : i < 0 ∨ (n : Int) ≤ i) :
    Calls Tryz.prog 72 #[.slice A n c, .int .i64 i] w (LineErr 3 w) := by
  have Q := Lib.hid (fun W h => readList_ok A n c ss W hn hb hv h)
  have HX := Lib.hid hx
  have HN := Lib.hid hn
  clear hn hv hx
  unfold LineErr
  have hbV : Below w.heap.size w (w.alloc (.cells #[.string ⟨#[]⟩, .slice none 0 0] 119)) := (Below.refl _ _).alloc (Nat.le_refl _) _
  have hr := heap_alloc_new w (.cells #[.string ⟨#[]⟩, .slice none 0 0] 119)
  have hVs : (w.alloc (.cells #[.string ⟨#[]⟩, .slice none 0 0] 119)).heap.size = w.heap.size + 1 := by simp
  go_enter Tryz.func72, Tryz.ntmps72
  go_wp2_with fail
  generalize w.alloc (.cells #[.string ⟨#[]⟩, .slice none 0 0] 119) = V at *
  refine (Q.out _ (HX.out.below hbV)).mono ?_
  rintro e w1 ⟨o, rfl, ho, hb1⟩
  rw [← HN.out] at ho
  obtain ⟨O, cap, rfl⟩ := own_form ho
  have hb2 := hbV.trans (hb1.mono hbV.size)
  have hr1 := (hb1.block _ (by omega)).trans hr
  obtain ⟨c0, c1, f0, f1⟩ := block2_cells hr1
  obtain ⟨z0, z1, _, _⟩ := block2_cells (block2 hr1 (.string ⟨#[]⟩) (.slice none 0 0))
  have hbb := (hb2.setCell (p := ⟨w.heap.size, 0, none⟩) (Nat.le_refl _) (.string ⟨#[]⟩)).setCell (p := ⟨w.heap.size, 1, none⟩) (Nat.le_refl _) (.slice none 0 0)
  have Z0 := Lib.hid z0
  have Z1 := Lib.hid z1
  clear z0 z1 Q hr hbV ho hb1
  by_cases h0 : i < 0
  · have d0 : decide (i < 0) = true := decide_eq_true h0
    go_wp2_with fail
    have z0 := Z0.out
    have z1 := Z1.out
    exact bodyPost_ret (v := .tuple #[.agg #[.string ⟨#[]⟩, .slice none 0 0], .int .i64 3]) (by simp [results, Tryz.results72, go_sem, z0, z1]) rfl ⟨rfl, hbb⟩
  · have h1 : (n : Int) ≤ i := by omega
    have d0 : decide (i < 0) = false := decide_eq_false h0
    have d1 : decide ((n : Int) ≤ i) = true := decide_eq_true h1
    go_wp2_with fail
    have z0 := Z0.out
    have z1 := Z1.out
    exact bodyPost_ret (v := .tuple #[.agg #[.string ⟨#[]⟩, .slice none 0 0], .int .i64 3]) (by simp [results, Tryz.results72, go_sem, z0, z1]) rfl ⟨rfl, hbb⟩

set_option maxRecDepth 100000 in
set_option maxHeartbeats 800000 in
theorem Shortest_none (A : Option Addr) (n c : Nat) (i E : Int) (w : World) (hE : E ≠ 0) (Q : Hid (∀ W, Below w.heap.size w W → Calls Tryz.prog 72 #[.slice A n c, .int .i64 i] W (LineErr E W))) :
    Calls Tryz.prog 33 #[.slice A n c, .int .i64 i] w (StrErrPost (ByteArray.empty, E) w) := by
  have m1 : (E != 0) = true := by simp [hE]
  unfold StrErrPost
  unfold LineErr at Q
  go_enter Tryz.func33, Tryz.ntmps33
  go_wp2_with fail
  refine (Q.out _ (Below.refl _ _)).mono ?_
  rintro e w1 ⟨rfl, hb1⟩
  have hb2 := hb1.alloc (o := .cells #[.string ⟨#[]⟩, .slice none 0 0] 119) hb1.size
  go_wp2_with fail
  go_ret2
  exact ⟨rfl, hb2⟩
set_option maxRecDepth 100000 in
set_option maxHeartbeats 800000 in
theorem Fit_none (A : Option Addr) (n c : Nat) (i wd E : Int) (w : World) (hE : E ≠ 0) (Q : Hid (∀ W, Below w.heap.size w W → Calls Tryz.prog 72 #[.slice A n c, .int .i64 i] W (LineErr E W))) :
    Calls Tryz.prog 34 #[.slice A n c, .int .i64 i, .int .i64 wd] w (StrErrPost (ByteArray.empty, E) w) := by
  have m1 : (E != 0) = true := by simp [hE]
  unfold StrErrPost
  unfold LineErr at Q
  go_enter Tryz.func34, Tryz.ntmps34
  go_wp2_with fail
  refine (Q.out _ (Below.refl _ _)).mono ?_
  rintro e w1 ⟨rfl, hb1⟩
  have hb2 := hb1.alloc (o := .cells #[.string ⟨#[]⟩, .slice none 0 0] 119) hb1.size
  go_wp2_with fail
  go_ret2
  exact ⟨rfl, hb2⟩

set_option maxRecDepth 100000 in
set_option maxHeartbeats 800000 in
theorem Fit_wide (A : Option Addr) (n c i : Nat) (wd : Int) (ss : List ByteArray) (w : World) (hn : n = ss.length) (hb : n ≤ 6) (hv : AllOk ss) (hx : Cells w A (ss.map Value.string)) (hi : i < n) (hw : wd < 1 ∨ (((keyS (ss.getD i ByteArray.empty)).size : Nat) : Int) ≤ wd) :
    Calls Tryz.prog 34 #[.slice A n c, .int .i64 i, .int .i64 wd] w (StrErrPost (if wd < 1 then (ByteArray.empty, 1) else (keyS (ss.getD i ByteArray.empty), 0)) w) := by
  have QB := Lib.hid (beginLine_ok A n c i ss w hn hb hv hx hi)
  unfold LinePost at QB
  unfold StrErrPost
  generalize othersB ss i = os at *
  generalize keyS (ss.getD i ByteArray.empty) = K at *
  clear hn hv hx
  by_cases h1 : wd < 1
  · rw [if_pos h1]
    have d1 : decide (wd < 1) = true := decide_eq_true h1
    go_enter Tryz.func34, Tryz.ntmps34
    go_wp2_with fail
    refine QB.out.mono ?_
    rintro e w1 ⟨B, n2, c2, rfl, hn2, hcs, hb1⟩
    subst hn2
    have hb2 := hb1.alloc (o := .cells #[.string K, .slice B os.length c2] 119) hb1.size
    clear hcs
    go_wp2_with fail
    go_ret2
    exact ⟨rfl, hb2⟩
  · rw [if_neg h1]
    have h2 : (K.size : Int) ≤ wd := by
      rcases hw with h | h
      · exact absurd h h1
      · exact h
    have d1 : decide (wd < 1) = false := decide_eq_false h1
    have d2 : decide ((K.size : Int) ≤ wd) = true := decide_eq_true h2
    go_enter Tryz.func34, Tryz.ntmps34
    go_wp2_with fail
    refine QB.out.mono ?_
    rintro e w1 ⟨B, n2, c2, rfl, hn2, hcs, hb1⟩
    subst hn2
    have hb2 := hb1.alloc (o := .cells #[.string K, .slice B os.length c2] 119) hb1.size
    have hr := heap_alloc_new w1 (.cells #[.string K, .slice B os.length c2] 119)
    obtain ⟨p0, p1, _, _⟩ := block2_cells hr
    clear hcs hr
    go_wp2_with fail
    go_ret2
    exact ⟨rfl, hb2⟩

theorem found_ans {p : List UInt8 × Int} {f : FuncId} {args : Array Value} {w : World} (h : Calls Tryz.prog f args w (FoundPost p w)) : Calls Tryz.prog f args w (StrErrPost (⟨p.1.toArray⟩, p.2) w) := by
  refine h.mono ?_
  rintro e w' ⟨s, h1, rfl, hb⟩
  refine ⟨?_, hb⟩
  rw [← h1]
theorem pShortest_any (A : Option Addr) (n c : Nat) (ss : List ByteArray) (i : Int) (w : World) (hL : LaidErr w) (hn : n = ss.length) (hx : Cells w A (ss.map Value.string)) :
    Calls Tryz.prog 33 #[.slice A n c, .int .i64 i] w (StrErrPost (shortestP ss i) w) := by
  by_cases h : listErr ss = 0
  · obtain ⟨l6, hok⟩ := list_facts h
    by_cases hi : i < 0 ∨ (n : Int) ≤ i
    · have e : shortestP ss i = (ByteArray.empty, 3) := by unfold shortestP; rw [if_pos h, if_pos (by rw [← hn]; exact hi)]
      rw [e]
      exact Shortest_none A n c i 3 w (by decide) (Lib.hid fun W hW => beginLine_at A n c i ss W hn (by omega) hok (hx.below hW) hi)
    · obtain ⟨k, rfl⟩ : ∃ k : Nat, i = (k : Int) := ⟨i.toNat, by omega⟩
      have hk : k < ss.length := by omega
      rw [shortest_eq ss k hk h]
      exact found_ans (Shortest_ok A n c k ss w hn (by omega) hok hx (by omega))
  · have e : shortestP ss i = (ByteArray.empty, listErr ss) := by unfold shortestP; rw [if_neg h]
    rw [e]
    exact Shortest_none A n c i _ w h (Lib.hid fun W hW => beginLine_list A n c i ss W (hL.below hW) hn h (hx.below hW))
theorem pFit_any (A : Option Addr) (n c : Nat) (ss : List ByteArray) (i width : Int) (w : World) (hL : LaidErr w) (hn : n = ss.length) (hx : Cells w A (ss.map Value.string)) :
    Calls Tryz.prog 34 #[.slice A n c, .int .i64 i, .int .i64 width] w (StrErrPost (fitP ss i width) w) := by
  by_cases h : listErr ss = 0
  · obtain ⟨l6, hok⟩ := list_facts h
    by_cases hi : i < 0 ∨ (n : Int) ≤ i
    · have e : fitP ss i width = (ByteArray.empty, 3) := by unfold fitP; rw [if_pos h, if_pos (by rw [← hn]; exact hi)]
      rw [e]
      exact Fit_none A n c i width 3 w (by decide) (Lib.hid fun W hW => beginLine_at A n c i ss W hn (by omega) hok (hx.below hW) hi)
    · obtain ⟨k, rfl⟩ : ∃ k : Nat, i = (k : Int) := ⟨i.toNat, by omega⟩
      have hk : k < ss.length := by omega
      have hg : ss.getD k ByteArray.empty = ss[k] := by rw [List.getD_eq_getElem?_getD, List.getElem?_eq_getElem hk]; rfl
      have e0 : fitP ss (k : Int) width = fitAt ss (keyS ss[k]) width := by
        unfold fitP
        rw [if_pos h, if_neg (by omega), show ((k : Int)).toNat = k from by omega, List.getElem?_eq_getElem hk]
        rfl
      by_cases hw : width < 1 ∨ ((keyS ss[k]).size : Int) ≤ width
      · have q := Fit_wide A n c k width ss w hn (by omega) hok hx (by omega) (by rw [hg]; exact hw)
        rw [hg] at q
        have e : fitP ss (k : Int) width = if width < 1 then (ByteArray.empty, 1) else (keyS ss[k], 0) := by
          rw [e0]
          unfold fitAt
          by_cases h1 : width < 1
          · rw [if_pos h1, if_pos h1]
          · rw [if_neg h1, if_neg h1, if_pos (by rcases hw with hw | hw; · exact absurd hw h1
                                                 · exact hw)]
        rw [e]
        exact q
      · obtain ⟨wd, rfl⟩ : ∃ wd : Nat, width = (wd : Int) := ⟨width.toNat, by omega⟩
        rw [fit_eq ss k wd hk h (by omega)]
        exact found_ans (Fit_ok A n c k wd ss w hn (by omega) hok hx (by omega) (by omega) (by rw [hg]; omega))
  · have e : fitP ss i width = (ByteArray.empty, listErr ss) := by unfold fitP; rw [if_neg h]
    rw [e]
    exact Fit_none A n c i width _ w h (Lib.hid fun W hW => beginLine_list A n c i ss W (hL.below hW) hn h (hx.below hW))
end Go.Proofs.YtljlkhaolfihjaaGreatDoor

/- What is set in a column has at most its width, and a wider one never has fewer letters: the walk. -/
namespace Go.Proofs.YtljlkhaolfihjaaGreatDoor
open Go.RowKit

theorem list_ok {ss : List ByteArray} (h6 : ss.length ≤ 6) (hv : AllOk ss) : listErr ss = 0 := by
  unfold listErr
  rw [if_neg (by omega)]
  have : ∀ t : List ByteArray, AllOk t → firstErr t = 0 := by
    intro t
    induction t with
    | nil => intro _; rfl
    | cons s t ih =>
      intro h
      unfold firstErr
      rw [if_pos (h s (by simp))]
      exact ih fun x hx => h x (by simp [hx])
  exact this ss hv
theorem fit_call {A : Option Addr} {n c i wd : Nat} {ss : List ByteArray} {W0 : World} {p : List UInt8 × Int} (hL : LaidErr W0) (hn : n = ss.length) (h6 : ss.length ≤ 6) (hv : AllOk ss) (hx : Cells W0 A (ss.map Value.string)) (hi : i < ss.length) (hp : fitG ss i (wd + 1) = p) (W : World) (hW : Below W0.heap.size W0 W) :
    Calls Tryz.prog 34 #[.slice A n c, .int .i64 i, .int .i64 ((wd : Int) + 1)] W fun e w' => e = .returned (.tuple #[.string ⟨p.1.toArray⟩, .int .i64 p.2]) ∧ Below W.heap.size W w' := by
  subst hp
  have q := pFit_any A n c ss (i : Int) ((wd : Int) + 1) W (hL.below hW) hn (hx.below hW)
  have e := fit_eq ss i (wd + 1) hi (list_ok h6 hv) (by omega)
  rw [show ((wd + 1 : Nat) : Int) = (wd : Int) + 1 from by omega] at e
  rw [e] at q
  exact q
theorem point_len {a : List UInt8} : ((⟨(a ++ [46]).toArray⟩ : ByteArray).size) = a.length + 1 := by
  show (a ++ [46]).toArray.size = _
  simp
theorem point_ne {a : List UInt8} {K : ByteArray} (h : ∀ c, c ∈ K.data.toList → Sp.latin c = true) : ((⟨(a ++ [46]).toArray⟩ : ByteArray).toList == K.toList) = false := by
  rw [beq_eq_false_iff_ne, ByteArray.toList_eq, ByteArray.toList_eq]
  intro e
  have h1 : (46 : UInt8) ∈ K.data.toList := by rw [← e]; simp
  have := h 46 h1
  exact absurd this (by decide)

end Go.Proofs.YtljlkhaolfihjaaGreatDoor

/- All abbreviations of a key, as a law lists them: the walk. -/
namespace Go.Proofs.YtljlkhaolfihjaaGreatDoor
open Go.RowKit

set_option maxRecDepth 100000 in
theorem Subsets_any (n m : Nat) (w : World) (hm : m ≤ 1000) (hn : n ≤ 12) : Calls Tryz.prog 36 #[.int .i64 (n : Nat), .int .i64 (m : Nat)] w (SubsPost (subsL m 0 n) w) := by
  have q := subsets_any m 0 n w hm hn (by omega)
  have Q := Lib.hid (show Calls Tryz.prog 75 #[.int .i64 0, .int .i64 (n : Nat), .int .i64 (m : Nat)] w (SubsPost (subsL m 0 n) w) from q)
  clear q
  generalize (n : Int) = a at *
  generalize (m : Int) = b at *
  go_enter Tryz.func36, Tryz.ntmps36
  go_wp2_with fail
  refine Q.out.mono ?_
  rintro e w' h
  unfold SubsPost at h
  obtain ⟨o, vs, rfl, h1, h2, h3⟩ := h
  go_wp2_with fail
  go_ret
  exact ⟨_, vs, rfl, h1, h2, h3⟩

theorem own_cap {w : World} {base n m cap size g : Nat} {e : TypeId} {xs : List Value} (h : w.ownsRow base e size (.slice (some ⟨g, 0, none⟩) m cap) n xs) : n ≤ cap := by
  rcases h.2 with ⟨hv, _⟩ | ⟨g', cap', cur, hv, _, _, h1, _⟩
  · cases hv
  · injection hv with h2 h3 h4
    omega
theorem cells_take {w : World} {G : Nat} {xs : List ByteArray} (h : Cells w (some ⟨G, 0, none⟩) (xs.map Value.string)) (a : Nat) : Cells w (some ⟨G, 0, none⟩) ((xs.take a).map Value.string) := fun i hi => by
  have hi2 : i < a ∧ i < xs.length := by simp at hi; omega
  obtain ⟨b, off, e, hc⟩ := h i (by simpa using hi2.2)
  refine ⟨b, off, e, ?_⟩
  rw [hc, List.getD_eq_getElem?_getD, List.getD_eq_getElem?_getD, List.getElem?_map, List.getElem?_map, List.getElem?_take, if_pos hi2.1]
theorem cells_drop {w : World} {G : Nat} {xs : List ByteArray} (h : Cells w (some ⟨G, 0, none⟩) (xs.map Value.string)) (a : Nat) : Cells w (some ⟨G, a, none⟩) ((xs.drop a).map Value.string) := fun i hi => by
  have hi2 : a + i < xs.length := by simp at hi; omega
  obtain ⟨b, off, e, hc⟩ := h (a + i) (by simpa using hi2)
  injection e with e
  injection e with e1 e2 _
  subst e1 e2
  refine ⟨_, _, rfl, ?_⟩
  rw [Nat.zero_add] at hc
  rw [hc, List.getD_eq_getElem?_getD, List.getD_eq_getElem?_getD, List.getElem?_map, List.getElem?_map, List.getElem?_drop]
theorem cells_dropI {w : World} {G nc : Nat} {xs : List ByteArray} (h : Cells w (some ⟨G, 0, none⟩) (xs.map Value.string)) (a : Nat) (hc : xs.length ≤ nc) : Cells w (if nc = a then some ⟨G, 0, none⟩ else some ⟨G, a, none⟩) ((xs.drop a).map Value.string) := by
  by_cases e : nc = a
  · rw [if_pos e, List.drop_eq_nil_of_le (by omega)]
    exact fun i hi => absurd hi (by simp)
  · rw [if_neg e]; exact cells_drop h a

def AbbrsPost (k : ByteArray) (m : Nat) (w : World) (e : Ending) (w' : World) : Prop :=
  ∃ (o : Value) (xs : List ByteArray), e = .returned o ∧ w'.ownsRow w.heap.size 9 1 o xs.length (xs.map Value.string) ∧ Rises xs ∧ (∀ x : ByteArray, x ∈ xs ↔ x.data.toList ∈ cutsG k.data.toList (m + 1)) ∧ xs.length ≤ 4096 ∧ Below w.heap.size w w'

def strOf (c : UInt8) (t : List UInt8) (r : List Int) : ByteArray := ⟨(c :: pickT t r).toArray⟩
theorem strOf_list (c : UInt8) (t : List UInt8) (r : List Int) : (strOf c t r).data.toList = c :: pickT t r := rfl
theorem strOf_size (c : UInt8) (t : List UInt8) (r : List Int) : (strOf c t r).size = r.length + 1 := by
  show (c :: pickT t r).toArray.size = _
  simp [pickT]
theorem strOf_zero {k : ByteArray} {c : UInt8} {t : List UInt8} (h : k.data.toList = c :: t) : k.extract 0 1 = strOf c t [] := bz_inj (by
  rw [ext_list, h]; rfl)
theorem strOf_step {k : ByteArray} {c : UInt8} {t : List UInt8} (h : k.data.toList = c :: t) (r : List Int) (j p : Nat) (hj : j < r.length) (hp : r[j] = (p : Int)) (hpk : p < t.length) :
    strOf c t (r.take j) ++ k.extract (p + 1) (p + 2) = strOf c t (r.take (j + 1)) := bz_inj (by
  rw [ByteArray.data_append, Array.toList_append, ext_list, h, strOf_list, strOf_list, List.take_succ_eq_append_getElem hj, hp]
  show c :: pickT t (r.take j) ++ (t.drop p).take (p + 2 - (p + 1)) = c :: pickT t (r.take j ++ [(p : Int)])
  rw [show p + 2 - (p + 1) = 1 from by omega, List.drop_eq_getElem_cons hpk]
  unfold pickT
  rw [List.map_append, List.map_cons, Int.toNat_natCast, List.getD_eq_getElem?_getD, List.getElem?_eq_getElem hpk]
  rfl)

end Go.Proofs.YtljlkhaolfihjaaGreatDoor

/- Without the names of Wrong the others are in order, and without fewer, or as many that come before, they are not: the walk. -/
namespace Go.Proofs.YtljlkhaolfihjaaGreatDoor
open Go.RowKit Go.Shelf

set_option maxRecDepth 100000 in
set_option maxHeartbeats 6400000 in
theorem NameFewest_any (A : Option Addr) (n c : Nat) (w : World) (_ : LaidErr w) (hn : n ≤ 1000000000000000000) (hx : NumsIn w A n) :
    Calls Tryz.prog 6 #[.slice A n c] w (TruePost w) := by
  have HX := Lib.hid hx
  clear hx
  go_enter Tryz.func6, Tryz.ntmps6
  go_wp2_with fail
  refine (NewDice_any A n c _ hn HX.out).mono ?_
  rintro e w2 ⟨rfl, hd2, b3⟩
  generalize hDD : w.heap.size = D at hd2
  have hD : w.heap.size ≤ D := Nat.le_of_eq hDD
  clear hDD
  go_wp2_with fail
  refine (NamesOf_any D _ 6 3 _ hd2 (by decide) (by decide) (by decide) (by decide)).mono ?_
  rintro e w4 ⟨o, sa, rfl, hl4, ho4, hlike4, hd4, hg4⟩
  have b5 := b3.grown hg4 b3.size fun k hk => by cases hk; exact hD
  obtain ⟨O, capo, rfl⟩ := own_form ho4
  have CO := Lib.hid (cells_own ho4)
  have hl6 : sa.length ≤ 6 := by omega
  have HM : Hid (∀ i (h : i < sa.length), Made6 sa[i]) := Lib.hid fun i h => by
    have hk := hlike4 _ (List.getElem_mem h)
    exact ⟨hk.1, by have := hk.2.1; omega, hk.2.2⟩
  have hok : AllOk sa := made_all HM.out
  have hle := list_ok hl6 hok
  have HV := Lib.hid hok
  have QW := Lib.hid (Wrong_ok O sa.length capo sa w4 rfl hle CO.out)
  unfold WrongAns at QW
  rw [hle] at QW
  have HWL : Hid (wrongL sa = wrongX sa) := Lib.hid (by unfold wrongL; rw [if_pos hle])
  clear hlike4 hd4 hg4 hl4 ho4 hok hle hd2 b3
  go_wp2_with fail
  refine QW.out.mono ?_
  rintro e w5 ⟨v, rfl, hov, hw6, hb5⟩
  obtain ⟨AV, cv, rfl⟩ := own_form hov
  have CV := Lib.hid (cells_own hov)
  have C5 := Lib.hid (CO.out.below hb5)
  have b6 := b5.trans (hb5.mono b5.size)
  clear hov hb5 QW b5 CO
  go_wp2_with fail
  go_loopw [6, 7, 8, 9, 10] (fun kv _ _ _ _ wr => ∃ k : Nat, k ≤ sa.length + 1 ∧ kv = .int .i64 k ∧ Hid (∀ x, x ∈ lessI sa.length k → fineI sa x = false) ∧ Below w5.heap.size w5 wr) (fun kv _ _ _ _ _ => sa.length + 1 - (intOf kv).toNat)
  case atStart => exact ⟨0, Nat.zero_le _, rfl, Lib.hid (fun x hx => by simp [lessI, allI] at hx), Below.refl _ _⟩
  case round =>
    obtain ⟨k, hk, rfl, hless, t0⟩ := hrel
    by_cases hkl : k ≤ sa.length
    · have j1 : (k : Int) ≤ (sa.length : Int) := by omega
      have QS := Lib.hid (Subsets_any sa.length k wr (by omega) (by omega))
      unfold SubsPost at QS
      have hsl : (subsL k 0 sa.length).length ≤ 4096 := Nat.le_trans (subsL_len k 0 sa.length) (show (2 : Nat) ^ (sa.length - 0) ≤ 2 ^ 12 from Nat.pow_le_pow_right (by decide) (by omega))
      have HR : Hid (∀ i (h : i < (subsL k 0 sa.length).length), ((subsL k 0 sa.length)[i]).length ≤ 6) := Lib.hid fun i h => by rw [subsL_row k 0 sa.length _ (List.getElem_mem h)]; omega
      have HWF : Hid (∀ i (h : i < (subsL k 0 sa.length).length), (∀ x, x ∈ (subsL k 0 sa.length).take i → fineI sa x = false) → fineI sa (subsL k 0 sa.length)[i] = true → wrongL sa = (subsL k 0 sa.length)[i]) := Lib.hid fun i h h2 h3 => by
        rw [HWL.out]; exact wrong_first hkl h hless.out h2 h3
      have HNX : Hid ((∀ x, x ∈ subsL k 0 sa.length → fineI sa x = false) → ∀ x, x ∈ lessI sa.length (k + 1) → fineI sa x = false) := Lib.hid fun h x hx => by
        rw [lessI_succ] at hx
        rcases List.mem_append.1 hx with hx | hx
        · exact hless.out x hx
        · exact h x hx
      generalize subsL k 0 sa.length = S at *
      clear hless
      go_wp2_with fail
      refine QS.out.mono ?_
      rintro e w6 ⟨ol, vs, rfl, hol, hrl, hb6⟩
      obtain ⟨AL, cl, rfl⟩ := own_form hol
      have CL := Lib.hid (IntLists.of hol hrl)
      have t1 := t0.trans (hb6.mono t0.size)
      have ht1 := t1.size
      clear QS hol hrl hb6 t0
      go_wp2_with fail
      go_loopw [8, 9, 10] (fun iv _ _ wi => ∃ i : Nat, i ≤ S.length ∧ iv = .int .i64 i ∧ Hid (∀ x, x ∈ S.take i → fineI sa x = false) ∧ Below w6.heap.size w6 wi) (fun iv _ _ _ => S.length - (intOf iv).toNat)
      case atStart => exact ⟨0, Nat.zero_le _, rfl, Lib.hid (fun x hx => by simp at hx), Below.refl _ _⟩
      case round =>
        obtain ⟨i, hi, rfl, hno, t2⟩ := hrel
        by_cases hil : i < S.length
        · obtain ⟨b1, o1, Ai, ci, rfl, c1, c2⟩ := (CL.out.below t2) i hil
          have hri := HR.out i hil
          have HHIT := Lib.hid (HWF.out i hil hno.out)
          have HMISS := Lib.hid (take_false (p := fineI sa) hil hno.out)
          have t3 := t1.trans (t2.mono ht1)
          have q := Without_any O Ai sa.length capo (S[i]).length ci sa S[i] wr rfl rfl (by omega) (by omega) (C5.out.below t3) c2
          unfold WithoutPost at q
          have QWO := Lib.hid q
          have hlw := withoutFrom_len S[i] sa 0
          have QLO := Lib.hid (fun (B : Option Addr) (c : Nat) W (hW : Cells W B ((withoutFrom S[i] 0 sa).map Value.string)) => lawOrder_any B (withoutFrom S[i] 0 sa).length c (withoutFrom S[i] 0 sa) W rfl (by omega) (fun s hs => HV.out s (withoutFrom_sub _ _ _ s hs)) hW)
          have hfi : fineI sa S[i] = ordB (withoutFrom S[i] 0 sa) := rfl
          have C2 := Lib.hid c2
          generalize S[i] = X at *
          generalize withoutFrom X 0 sa = RS at *
          rw [← hfi] at QLO
          have i0 : (0 : Int) ≤ (i : Int) := by omega
          have i1 : (i : Int) < (S.length : Int) := by omega
          clear q c2 hno hfi
          cases hfx : fineI sa X with
          | true =>
            have hwx := HHIT.out hfx
            rw [hfx] at QLO
            have QEQ := Lib.hid (fun W (hW : Below wr.heap.size wr W) => EqInts_any AV Ai (wrongL sa).length X.length cv ci (wrongL sa) X W rfl rfl (by omega) (CV.out.below (t3.trans (hW.mono t3.size))) (C2.out.below hW))
            unfold EqPost at QEQ
            rw [decide_eq_true hwx] at QEQ
            generalize wrongL sa = WL at *
            clear HHIT HMISS hfx hwx
            go_wp2_with fail
            refine QWO.out.mono ?_
            rintro e w7 ⟨o7, rfl, ho7, hb7⟩
            obtain ⟨A7, c7, rfl⟩ := own_form ho7
            have C7 := Lib.hid (cells_own ho7)
            clear ho7 QWO
            go_wp2_with fail
            refine (QLO.out A7 c7 _ C7.out).mono ?_
            rintro e w8 ⟨rfl, hb8⟩
            have t4 := hb7.trans (hb8.mono hb7.size)
            have c8 := (t4.cell (World.block_lt_of_cell? _ _ c1)).trans c1
            clear hb7 hb8 QLO C7
            go_wp2_with fail
            refine (QEQ.out _ t4).mono ?_
            rintro e w9 ⟨rfl, kd, rfl⟩
            have t5 := t4.trans ((Drew.below ⟨kd, rfl⟩ w8.heap.size).mono t4.size)
            generalize w8.drewN kd = w9 at *
            go_wp2_with fail
            refine (spelling_at _ (b6.trans ((t3.trans (t5.mono t3.size)).mono b6.size))).mono ?_
            rintro e wz ⟨rfl, hbz⟩
            go_wp2_with fail
            go_ret
            exact ⟨rfl, hbz⟩
          | false =>
            have hms := HMISS.out hfx
            have HMS := Lib.hid hms
            rw [hfx] at QLO
            clear HHIT HMISS hfx hms
            go_wp2_with fail
            refine QWO.out.mono ?_
            rintro e w7 ⟨o7, rfl, ho7, hb7⟩
            obtain ⟨A7, c7, rfl⟩ := own_form ho7
            have C7 := Lib.hid (cells_own ho7)
            clear ho7 QWO
            go_wp2_with fail
            refine (QLO.out A7 c7 _ C7.out).mono ?_
            rintro e w8 ⟨rfl, hb8⟩
            have t4 := t2.trans ((hb7.trans (hb8.mono hb7.size)).mono t2.size)
            clear hb7 hb8 QLO C7
            go_wp2_with fail
            go_roundw
            case rel => exact ⟨i + 1, by omega, by go_num, HMS, t4⟩
            case measure => simp [intOf]; omega
        · have hall : Hid (∀ x, x ∈ lessI sa.length (k + 1) → fineI sa x = false) := Lib.hid (HNX.out fun x hx => hno.out x (by rw [List.take_of_length_le (by omega)]; exact hx))
          clear hno HNX
          go_wp2_with fail
          go_roundw
          case rel => exact ⟨k + 1, by omega, by go_num, hall, t1.trans (t2.mono ht1)⟩
          case measure => simp [intOf]; omega
    · have hkk : k = sa.length + 1 := by omega
      exact (wrong_some (by rw [← hkk]; exact hless.out)).elim
end Go.Proofs.YtljlkhaolfihjaaGreatDoor
