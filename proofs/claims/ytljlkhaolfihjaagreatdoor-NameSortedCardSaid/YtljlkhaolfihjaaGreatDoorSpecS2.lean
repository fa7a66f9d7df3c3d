/- The fewest names at a wrong place are found: plain facts. -/
import Derived.Test.YtljlkhaolfihjaaGreatDoorPgRe
import Derived.Test.YtljlkhaolfihjaaGreatDoorLawL
import Derived.Test.YtljlkhaolfihjaaGreatDoorSpecS
import Derived.Test.YtljlkhaolfihjaaGreatDoorPzC
import Derived.Test.YtljlkhaolfihjaaGreatDoorPgS
import Derived.Test.YtljlkhaolfihjaaGreatDoorLawI
import Derived.Test.YtljlkhaolfihjaaGreatDoorKitU
import Derived.Test.YtljlkhaolfihjaaGreatDoorPgJ
namespace Go.Proofs.YtljlkhaolfihjaaGreatDoor
open Go.RowKit

theorem withoutFrom_all (q : List Int) (ss : List ByteArray) : ∀ k, (∀ j, k ≤ j → j < k + ss.length → (j : Int) ∈ q) → withoutFrom q k ss = [] := by
  induction ss with
  | nil => intro k _; rfl
  | cons s t ih =>
    intro k h
    unfold withoutFrom
    have h1 : hasB q (k : Int) = true := by
      unfold hasB
      simpa using h k (Nat.le_refl _) (by simp)
    rw [if_pos h1]
    exact ih (k + 1) fun j h2 h3 => h j (by omega) (by simp only [List.length_cons]; omega)
theorem subsL_full (n : Nat) : ∀ f, ∃ x, x ∈ subsL n f (f + n) ∧ ∀ j, f ≤ j → j < f + n → (j : Int) ∈ x := by
  induction n with
  | zero => intro f; exact ⟨[], by simp [subsL], fun j h1 h2 => by omega⟩
  | succ n ih =>
    intro f
    obtain ⟨x, hx, hj⟩ := ih (f + 1)
    refine ⟨(f : Int) :: x, ?_, fun j h1 h2 => ?_⟩
    · unfold subsL
      refine List.mem_flatMap.2 ⟨0, List.mem_range.2 (by omega), List.mem_map.2 ⟨x, ?_, by simp⟩⟩
      rw [show f + 0 + 1 = f + 1 from by omega, show f + (n + 1) = f + 1 + n from by omega]
      exact hx
    · by_cases e : j = f
      · subst e; simp
      · exact List.mem_cons_of_mem _ (hj j (by omega) (by omega))
theorem fine_all (ss : List ByteArray) : ∃ x, x ∈ allI ss.length (List.range (ss.length + 1)) ∧ fineI ss x = true := by
  obtain ⟨x, hx, hj⟩ := subsL_full ss.length 0
  refine ⟨x, ?_, ?_⟩
  · unfold allI
    rw [List.mem_flatten]
    exact ⟨subsL ss.length 0 ss.length, List.mem_map.2 ⟨ss.length, List.mem_range.2 (by omega), rfl⟩, by simpa using hx⟩
  · unfold fineI
    rw [withoutFrom_all x ss 0 fun j h1 h2 => hj j h1 (by simpa using h2)]
    rfl
/-- The lists of fewer numbers. -/
def lessI (nn k : Nat) : List (List Int) := allI nn (List.range k)
theorem lessI_succ (nn k : Nat) : lessI nn (k + 1) = lessI nn k ++ subsL k 0 nn := by
  unfold lessI allI
  rw [List.range_succ, List.map_append, List.flatten_append]; simp
theorem lessI_pre (nn : Nat) {k m : Nat} (h : k ≤ m) : lessI nn k <+: lessI nn m := by
  obtain ⟨d, rfl⟩ : ∃ d, m = k + d := ⟨m - k, by omega⟩
  clear h
  induction d with
  | zero => exact List.prefix_refl _
  | succ d ih => rw [← Nat.add_assoc, lessI_succ]; exact ih.trans (List.prefix_append _ _)
theorem find_none_of {α : Type} {p : α → Bool} {L : List α} (h : ∀ x, x ∈ L → p x = false) : L.find? p = none := by
  rw [List.find?_eq_none]
  intro x hx
  rw [h x hx]; decide
/-- The first one that is fine, met in the order of a law. -/
theorem wrong_first {ss : List ByteArray} {k i : Nat} (hk : k ≤ ss.length) (hi : i < (subsL k 0 ss.length).length) (h1 : ∀ x, x ∈ lessI ss.length k → fineI ss x = false) (h2 : ∀ x, x ∈ (subsL k 0 ss.length).take i → fineI ss x = false) (h3 : fineI ss (subsL k 0 ss.length)[i] = true) : wrongX ss = (subsL k 0 ss.length)[i] := by
  unfold wrongX
  have hp := lessI_pre ss.length (show k + 1 ≤ ss.length + 1 by omega)
  obtain ⟨t, ht⟩ := hp
  show ((lessI ss.length (ss.length + 1)).find? (fineI ss)).getD [] = _
  have e1 : (subsL k 0 ss.length).find? (fineI ss) = some (subsL k 0 ss.length)[i] := by
    conv => lhs; rw [← List.take_append_drop i (subsL k 0 ss.length)]
    rw [List.find?_append, find_none_of h2, List.drop_eq_getElem_cons hi, List.find?_cons, h3]
    rfl
  rw [← ht, List.find?_append, lessI_succ, List.find?_append, find_none_of h1, e1]
  rfl
theorem wrong_some {ss : List ByteArray} (h : ∀ x, x ∈ lessI ss.length (ss.length + 1) → fineI ss x = false) : False := by
  obtain ⟨x, hx, hf⟩ := fine_all ss
  rw [h x hx] at hf
  cases hf
theorem take_false {α : Type} {p : α → Bool} {L : List α} {i : Nat} (hi : i < L.length) (h : ∀ x, x ∈ L.take i → p x = false) (h2 : p L[i] = false) : ∀ x, x ∈ L.take (i + 1) → p x = false := by
  intro x hx
  rw [List.take_succ_eq_append_getElem hi] at hx
  rcases List.mem_append.1 hx with hx | hx
  · exact h x hx
  · rw [List.mem_singleton.1 hx]; exact h2
theorem withoutFrom_sub (q : List Int) (ss : List ByteArray) : ∀ k s, s ∈ withoutFrom q k ss → s ∈ ss := by
  induction ss with
  | nil => intro k s h; exact h
  | cons a t ih =>
    intro k s h
    unfold withoutFrom at h
    split at h
    · exact List.mem_cons_of_mem _ (ih _ _ h)
    · rcases List.mem_cons.1 h with h | h
      · rw [h]; simp
      · exact List.mem_cons_of_mem _ (ih _ _ h)
end Go.Proofs.YtljlkhaolfihjaaGreatDoor

/- Abbreviations that can be mistaken, as the laws ask. -/
namespace Go.Proofs.YtljlkhaolfihjaaGreatDoor
open Go.RowKit

theorem any_take' {α : Type} (p : α → Bool) (l : List α) (k : Nat) (hk : k < l.length) : (l.take (k + 1)).any p = ((l.take k).any p || p l[k]) := by
  rw [List.take_succ_eq_append_getElem hk, List.any_append]; simp

def BoolsPost (b : Bool) (w : World) (e : Ending) (w' : World) : Prop := e = .returned (.tuple #[.bool b, .bool true]) ∧ Below w.heap.size w w'

end Go.Proofs.YtljlkhaolfihjaaGreatDoor

/- Shortest and Fit of any list, any index, any width. -/
namespace Go.Proofs.YtljlkhaolfihjaaGreatDoor
open Go.RowKit Go.Shelf

/-- What beginLine gives where it gives no line. -/
def LineErr (c : Int) (w : World) (e : Ending) (w' : World) : Prop :=
  e = .returned (.tuple #[.agg #[.string ⟨#[]⟩, .slice none 0 0], .int .i64 c]) ∧ Below w.heap.size w w'

set_option maxRecDepth 100000 in
set_option maxHeartbeats 1600000 in
theorem beginLine_list (A : Option Addr) (n c : Nat) (i : Int) (ss : List ByteArray) (w : World) (hL : LaidErr w) (hn : n = ss.length) (hv : listErr ss ≠ 0) (hx : Cells w A (ss.map Value.string)) :
    Calls Tryz.prog 72 #[.slice A n c, .int .i64 i] w (LineErr (listErr ss) w) := by
  have Q := Lib.hid (fun W h => readList_err A n c ss W hn hv h)
  have HX := Lib.hid hx
  have HL := Lib.hid hL
  generalize listErr ss = E at *
  clear hn hv hx hL
  unfold LineErr
  have hbV : Below w.heap.size w (w.alloc (.cells #[.string ⟨#[]⟩, .slice none 0 0] 119)) := (Below.refl _ _).alloc (Nat.le_refl _) _
  have hr := heap_alloc_new w (.cells #[.string ⟨#[]⟩, .slice none 0 0] 119)
  have hVs : (w.alloc (.cells #[.string ⟨#[]⟩, .slice none 0 0] 119)).heap.size = w.heap.size + 1 := by simp
  go_enter Tryz.func72, Tryz.ntmps72
  go_wp2_with fail
  generalize w.alloc (.cells #[.string ⟨#[]⟩, .slice none 0 0] 119) = V at *
  refine (Q.out _ (HX.out.below hbV)).mono ?_
  rintro e w1 ⟨rfl, hb1⟩
  have hb2 := hbV.trans (hb1.mono hbV.size)
  have hr1 := (hb1.block _ (by omega)).trans hr
  clear Q hr hbV
  go_wp2_with fail
  refine (codeOf_err E _ (HL.out.below hb2)).mono ?_
  rintro e w2 ⟨rfl, hb3⟩
  have hb4 := hb2.trans (hb3.mono hb2.size)
  have hr2 := (hb3.block _ (Array.getElem?_eq_some_iff.1 hr1).1).trans hr1
  obtain ⟨c0, c1, f0, f1⟩ := block2_cells hr2
  obtain ⟨z0, z1, _, _⟩ := block2_cells (block2 hr2 (.string ⟨#[]⟩) (.slice none 0 0))
  have hbb := (hb4.setCell (p := ⟨w.heap.size, 0, none⟩) (Nat.le_refl _) (.string ⟨#[]⟩)).setCell (p := ⟨w.heap.size, 1, none⟩) (Nat.le_refl _) (.slice none 0 0)
  have Z0 := Lib.hid z0
  have Z1 := Lib.hid z1
  clear z0 z1 hb1 hb3 hr1
  go_wp2_with fail
  have z0 := Z0.out
  have z1 := Z1.out
  exact bodyPost_ret (v := .tuple #[.agg #[.string ⟨#[]⟩, .slice none 0 0], .int .i64 E]) (by simp [results, Tryz.results72, go_sem, z0, z1]) rfl ⟨rfl, hbb⟩

set_option maxRecDepth 100000 in
set_option maxHeartbeats 1600000 in
theorem beginLine_at (A : Option Addr) (n c : Nat) (i : Int) (ss : List ByteArray) (w : World) (hn : n = ss.length) (hb : n ≤ 6) (hv : AllOk ss) (hx : Cells w A (ss.map Value.string)) (hi : i < 0 ∨ (n : Int) ≤ i) :
    Calls Tryz.prog 72 #[.slice A n c, .int .i64 i] w (LineErr 3 w) := by
  have Q := Lib.hid (fun W h => readList_ok A n c ss W hn hb hv h)
  have HX := Lib.hid hx
  have HN := Lib.hid hn
  clear hn hv hx
  unfold LineErr
  have hbV : Below w.heap.size w (w.alloc (.cells #[.string ⟨#[]⟩, .slice none 0 0] 119)) := (Below.refl _ _).alloc (Nat.le_refl _) _
  have hr := heap_alloc_new w (.cells #[.string ⟨#[]⟩, .slice none 0 0] 119)
  have hVs : (w.alloc (.cells #[.string ⟨#[]⟩, .slice none 0 0] 119)).heap.size = w.heap.size + 1 := by simp
  go_enter Tryz.func72, Tryz.ntmps72
  go_wp2_with fail
  generalize w.alloc (.cells #[.string ⟨#[]⟩, .slice none 0 0] 119) = V at *
  refine (Q.out _ (HX.out.below hbV)).mono ?_
  rintro e w1 ⟨o, rfl, ho, hb1⟩
  rw [← HN.out] at ho
  obtain ⟨O, cap, rfl⟩ := own_form ho
  have hb2 := hbV.trans (hb1.mono hbV.size)
  have hr1 := (hb1.block _ (by omega)).trans hr
  obtain ⟨c0, c1, f0, f1⟩ := block2_cells hr1
  obtain ⟨z0, z1, _, _⟩ := block2_cells (block2 hr1 (.string ⟨#[]⟩) (.slice none 0 0))
  have hbb := (hb2.setCell (p := ⟨w.heap.size, 0, none⟩) (Nat.le_refl _) (.string ⟨#[]⟩)).setCell (p := ⟨w.heap.size, 1, none⟩) (Nat.le_refl _) (.slice none 0 0)
  have Z0 := Lib.hid z0
  have Z1 := Lib.hid z1
  clear z0 z1 Q hr hbV ho hb1
  by_cases h0 : i < 0
  · have d0 : decide (i < 0) = true := decide_eq_true h0
    go_wp2_with fail
    have z0 := Z0.out
    have z1 := Z1.out
    exact bodyPost_ret (v := .tuple #[.agg #[.string ⟨#[]⟩, .slice none 0 0], .int .i64 3]) (by simp [results, Tryz.results72, go_sem, z0, z1]) rfl ⟨rfl, hbb⟩
  · have h1 : (n : Int) ≤ i := by omega
    have d0 : decide (i < 0) = false := decide_eq_false h0
    have d1 : decide ((n : Int) ≤ i) = true := decide_eq_true h1
    go_wp2_with fail
    have z0 := Z0.out
    have z1 := Z1.out
    exact bodyPost_ret (v := .tuple #[.agg #[.string ⟨#[]⟩, .slice none 0 0], .int .i64 3]) (by simp [results, Tryz.results72, go_sem, z0, z1]) rfl ⟨rfl, hbb⟩

set_option maxRecDepth 100000 in
set_option maxHeartbeats 800000 in
theorem Shortest_none (A : Option Addr) (n c : Nat) (i E : Int) (w : World) (hE : E ≠ 0) (Q : Hid (∀ W, Below w.heap.size w W → Calls Tryz.prog 72 #[.slice A n c, .int .i64 i] W (LineErr E W))) :
    Calls Tryz.prog 33 #[.slice A n c, .int .i64 i] w (StrErrPost (ByteArray.empty, E) w) := by
  have m1 : (E != 0) = true := by simp [hE]
  unfold StrErrPost
  unfold LineErr at Q
  go_enter Tryz.func33, Tryz.ntmps33
  go_wp2_with fail
  refine (Q.out _ (Below.refl _ _)).mono ?_
  rintro e w1 ⟨rfl, hb1⟩
  have hb2 := hb1.alloc (o := .cells #[.string ⟨#[]⟩, .slice none 0 0] 119) hb1.size
  go_wp2_with fail
  go_ret2
  exact ⟨rfl, hb2⟩
set_option maxRecDepth 100000 in
set_option maxHeartbeats 800000 in
theorem Fit_none (A : Option Addr) (n c : Nat) (i wd E : Int) (w : World) (hE : E ≠ 0) (Q : Hid (∀ W, Below w.heap.size w W → Calls Tryz.prog 72 #[.slice A n c, .int .i64 i] W (LineErr E W))) :
    Calls Tryz.prog 34 #[.slice A n c, .int .i64 i, .int .i64 wd] w (StrErrPost (ByteArray.empty, E) w) := by
  have m1 : (E != 0) = true := by simp [hE]
  unfold StrErrPost
  unfold LineErr at Q
  go_enter Tryz.func34, Tryz.ntmps34
  go_wp2_with fail
  refine (Q.out _ (Below.refl _ _)).mono ?_
  rintro e w1 ⟨rfl, hb1⟩
  have hb2 := hb1.alloc (o := .cells #[.string ⟨#[]⟩, .slice none 0 0] 119) hb1.size
  go_wp2_with fail
  go_ret2
  exact ⟨rfl, hb2⟩

set_option maxRecDepth 100000 in
set_option maxHeartbeats 800000 in
theorem Fit_wide (A : Option Addr) (n c i : Nat) (wd : Int) (ss : List ByteArray) (w : World) (hn : n = ss.length) (hb : n ≤ 6) (hv : AllOk ss) (hx : Cells w A (ss.map Value.string)) (hi : i < n) (hw : wd < 1 ∨ (((keyS (ss.getD i ByteArray.empty)).size : Nat) : Int) ≤ wd) :
    Calls Tryz.prog 34 #[.slice A n c, .int .i64 i, .int .i64 wd] w (StrErrPost (if wd < 1 then (ByteArray.empty, 1) else (keyS (ss.getD i ByteArray.empty), 0)) w) := by
  have QB := Lib.hid (beginLine_ok A n c i ss w hn hb hv hx hi)
  unfold LinePost at QB
  unfold StrErrPost
  generalize othersB ss i = os at *
  generalize keyS (ss.getD i ByteArray.empty) = K at *
  clear hn hv hx
  by_cases h1 : wd < 1
  · rw [if_pos h1]
    have d1 : decide (wd < 1) = true := decide_eq_true h1
    go_enter Tryz.func34, Tryz.ntmps34
    go_wp2_with fail
    refine QB.out.mono ?_
    rintro e w1 ⟨B, n2, c2, rfl, hn2, hcs, hb1⟩
    subst hn2
    have hb2 := hb1.alloc (o := .cells #[.string K, .slice B os.length c2] 119) hb1.size
    clear hcs
    go_wp2_with fail
    go_ret2
    exact ⟨rfl, hb2⟩
  · rw [if_neg h1]
    have h2 : (K.size : Int) ≤ wd := by
      rcases hw with h | h
      · exact absurd h h1
      · exact h
    have d1 : decide (wd < 1) = false := decide_eq_false h1
    have d2 : decide ((K.size : Int) ≤ wd) = true := decide_eq_true h2
    go_enter Tryz.func34, Tryz.ntmps34
    go_wp2_with fail
    refine QB.out.mono ?_
    rintro e w1 ⟨B, n2, c2, rfl, hn2, hcs, hb1⟩
    subst hn2
    have hb2 := hb1.alloc (o := .cells #[.string K, .slice B os.length c2] 119) hb1.size
    have hr := heap_alloc_new w1 (.cells #[.string K, .slice B os.length c2] 119)
    obtain ⟨p0, p1, _, _⟩ := block2_cells hr
    clear hcs hr
    go_wp2_with fail
    go_ret2
    exact ⟨rfl, hb2⟩

theorem found_ans {p : List UInt8 × Int} {f : FuncId} {args : Array Value} {w : World} (h : Calls Tryz.prog f args w (FoundPost p w)) : Calls Tryz.prog f args w (StrErrPost (⟨p.1.toArray⟩, p.2) w) := by
  refine h.mono ?_
  rintro e w' ⟨s, h1, rfl, hb⟩
  refine ⟨?_, hb⟩
  rw [← h1]
theorem pShortest_any (A : Option Addr) (n c : Nat) (ss : List ByteArray) (i : Int) (w : World) (hL : LaidErr w) (hn : n = ss.length) (hx : Cells w A (ss.map Value.string)) :
    Calls Tryz.prog 33 #[.slice A n c, .int .i64 i] w (StrErrPost (shortestP ss i) w) := by
  by_cases h : listErr ss = 0
  · obtain ⟨l6, hok⟩ := list_facts h
    by_cases hi : i < 0 ∨ (n : Int) ≤ i
    · have e : shortestP ss i = (ByteArray.empty, 3) := by unfold shortestP; rw [if_pos h, if_pos (by rw [← hn]; exact hi)]
      rw [e]
      exact Shortest_none A n c i 3 w (by decide) (Lib.hid fun W hW => beginLine_at A n c i ss W hn (by omega) hok (hx.below hW) hi)
    · obtain ⟨k, rfl⟩ : ∃ k : Nat, i = (k : Int) := ⟨i.toNat, by omega⟩
      have hk : k < ss.length := by omega
      rw [shortest_eq ss k hk h]
      exact found_ans (Shortest_ok A n c k ss w hn (by omega) hok hx (by omega))
  · have e : shortestP ss i = (ByteArray.empty, listErr ss) := by unfold shortestP; rw [if_neg h]
    rw [e]
    exact Shortest_none A n c i _ w h (Lib.hid fun W hW => beginLine_list A n c i ss W (hL.below hW) hn h (hx.below hW))
theorem pFit_any (A : Option Addr) (n c : Nat) (ss : List ByteArray) (i width : Int) (w : World) (hL : LaidErr w) (hn : n = ss.length) (hx : Cells w A (ss.map Value.string)) :
    Calls Tryz.prog 34 #[.slice A n c, .int .i64 i, .int .i64 width] w (StrErrPost (fitP ss i width) w) := by
  by_cases h : listErr ss = 0
  · obtain ⟨l6, hok⟩ := list_facts h
    by_cases hi : i < 0 ∨ (n : Int) ≤ i
    · have e : fitP ss i width = (ByteArray.empty, 3) := by unfold fitP; rw [if_pos h, if_pos (by rw [← hn]; exact hi)]
      rw [e]
      exact Fit_none A n c i width 3 w (by decide) (Lib.hid fun W hW => beginLine_at A n c i ss W hn (by omega) hok (hx.below hW) hi)
    · obtain ⟨k, rfl⟩ : ∃ k : Nat, i = (k : Int) := ⟨i.toNat, by omega⟩
      have hk : k < ss.length := by omega
      have hg : ss.getD k ByteArray.empty = ss[k] := by rw [List.getD_eq_getElem?_getD, List.getElem?_eq_getElem hk]; rfl
      have e0 : fitP ss (k : Int) width = fitAt ss (keyS ss[k]) width := by
        unfold fitP
        rw [if_pos h, if_neg (by omega), show ((k : Int)).toNat = k from by omega, List.getElem?_eq_getElem hk]
        rfl
      by_cases hw : width < 1 ∨ ((keyS ss[k]).size : Int) ≤ width
      · have q := Fit_wide A n c k width ss w hn (by omega) hok hx (by omega) (by rw [hg]; exact hw)
        rw [hg] at q
        have e : fitP ss (k : Int) width = if width < 1 then (ByteArray.empty, 1) else (keyS ss[k], 0) := by
          rw [e0]
          unfold fitAt
          by_cases h1 : width < 1
          · rw [if_pos h1, if_pos h1]
          · rw [if_neg h1, if_neg h1, if_pos (by rcases hw with hw | hw; · exact absurd hw h1
                                                 · exact hw)]
        rw [e]
        exact q
      · obtain ⟨wd, rfl⟩ : ∃ wd : Nat, width = (wd : Int) := ⟨width.toNat, by omega⟩
        rw [fit_eq ss k wd hk h (by omega)]
        exact found_ans (Fit_ok A n c k wd ss w hn (by omega) hok hx (by omega) (by omega) (by rw [hg]; omega))
  · have e : fitP ss i width = (ByteArray.empty, listErr ss) := by unfold fitP; rw [if_neg h]
    rw [e]
    exact Fit_none A n c i width _ w h (Lib.hid fun W hW => beginLine_list A n c i ss W (hL.below hW) hn h (hx.below hW))
end Go.Proofs.YtljlkhaolfihjaaGreatDoor

/- What is set in a column has at most its width, and a wider one never has fewer letters: the walk. -/
namespace Go.Proofs.YtljlkhaolfihjaaGreatDoor
open Go.RowKit

theorem list_ok {ss : List ByteArray} (h6 : ss.length ≤ 6) (hv : AllOk ss) : listErr ss = 0 := by
  unfold listErr
  rw [if_neg (by omega)]
  have : ∀ t : List ByteArray, AllOk t → firstErr t = 0 := by
    intro t
    induction t with
    | nil => intro _; rfl
    | cons s t ih =>
      intro h
      unfold firstErr
      rw [if_pos (h s (by simp))]
      exact ih fun x hx => h x (by simp [hx])
  exact this ss hv
theorem fit_call {A : Option Addr} {n c i wd : Nat} {ss : List ByteArray} {W0 : World} {p : List UInt8 × Int} (hL : LaidErr W0) (hn : n = ss.length) (h6 : ss.length ≤ 6) (hv : AllOk ss) (hx : Cells W0 A (ss.map Value.string)) (hi : i < ss.length) (hp : fitG ss i (wd + 1) = p) (W : World) (hW : Below W0.heap.size W0 W) :
    Calls Tryz.prog 34 #[.slice A n c, .int .i64 i, .int .i64 ((wd : Int) + 1)] W fun e w' => e = .returned (.tuple #[.string ⟨p.1.toArray⟩, .int .i64 p.2]) ∧ Below W.heap.size W w' := by
  subst hp
  have q := pFit_any A n c ss (i : Int) ((wd : Int) + 1) W (hL.below hW) hn (hx.below hW)
  have e := fit_eq ss i (wd + 1) hi (list_ok h6 hv) (by omega)
  rw [show ((wd + 1 : Nat) : Int) = (wd : Int) + 1 from by omega] at e
  rw [e] at q
  exact q
theorem point_len {a : List UInt8} : ((⟨(a ++ [46]).toArray⟩ : ByteArray).size) = a.length + 1 := by
  show (a ++ [46]).toArray.size = _
  simp
theorem point_ne {a : List UInt8} {K : ByteArray} (h : ∀ c, c ∈ K.data.toList → Sp.latin c = true) : ((⟨(a ++ [46]).toArray⟩ : ByteArray).toList == K.toList) = false := by
  rw [beq_eq_false_iff_ne, ByteArray.toList_eq, ByteArray.toList_eq]
  intro e
  have h1 : (46 : UInt8) ∈ K.data.toList := by rw [← e]; simp
  have := h 46 h1
  exact absurd this (by decide)

end Go.Proofs.YtljlkhaolfihjaaGreatDoor

/- All abbreviations of a key, as a law lists them: the walk. -/
namespace Go.Proofs.YtljlkhaolfihjaaGreatDoor
open Go.RowKit

set_option maxRecDepth 100000 in
theorem Subsets_any (n m : Nat) (w : World) (hm : m ≤ 1000) (hn : n ≤ 12) : Calls Tryz.prog 36 #[.int .i64 (n : Nat), .int .i64 (m : Nat)] w (SubsPost (subsL m 0 n) w) := by
  have q := subsets_any m 0 n w hm hn (by omega)
  have Q := Lib.hid (show Calls Tryz.prog 75 #[.int .i64 0, .int .i64 (n : Nat), .int .i64 (m : Nat)] w (SubsPost (subsL m 0 n) w) from q)
  clear q
  generalize (n : Int) = a at *
  generalize (m : Int) = b at *
  go_enter Tryz.func36, Tryz.ntmps36
  go_wp2_with fail
  refine Q.out.mono ?_
  rintro e w' h
  unfold SubsPost at h
  obtain ⟨o, vs, rfl, h1, h2, h3⟩ := h
  go_wp2_with fail
  go_ret
  exact ⟨_, vs, rfl, h1, h2, h3⟩

theorem own_cap {w : World} {base n m cap size g : Nat} {e : TypeId} {xs : List Value} (h : w.ownsRow base e size (.slice (some ⟨g, 0, none⟩) m cap) n xs) : n ≤ cap := by
  rcases h.2 with ⟨hv, _⟩ | ⟨g', cap', cur, hv, _, _, h1, _⟩
  · cases hv
  · injection hv with h2 h3 h4
    omega
theorem cells_take {w : World} {G : Nat} {xs : List ByteArray} (h : Cells w (some ⟨G, 0, none⟩) (xs.map Value.string)) (a : Nat) : Cells w (some ⟨G, 0, none⟩) ((xs.take a).map Value.string) := fun i hi => by
  have hi2 : i < a ∧ i < xs.length := by simp at hi; omega
  obtain ⟨b, off, e, hc⟩ := h i (by simpa using hi2.2)
  refine ⟨b, off, e, ?_⟩
  rw [hc, List.getD_eq_getElem?_getD, List.getD_eq_getElem?_getD, List.getElem?_map, List.getElem?_map, List.getElem?_take, if_pos hi2.1]
theorem cells_drop {w : World} {G : Nat} {xs : List ByteArray} (h : Cells w (some ⟨G, 0, none⟩) (xs.map Value.string)) (a : Nat) : Cells w (some ⟨G, a, none⟩) ((xs.drop a).map Value.string) := fun i hi => by
  have hi2 : a + i < xs.length := by simp at hi; omega
  obtain ⟨b, off, e, hc⟩ := h (a + i) (by simpa using hi2)
  injection e with e
  injection e with e1 e2 _
  subst e1 e2
  refine ⟨_, _, rfl, ?_⟩
  rw [Nat.zero_add] at hc
  rw [hc, List.getD_eq_getElem?_getD, List.getD_eq_getElem?_getD, List.getElem?_map, List.getElem?_map, List.getElem?_drop]
theorem cells_dropI {w : World} {G nc : Nat} {xs : List ByteArray} (h : Cells w (some ⟨G, 0, none⟩) (xs.map Value.string)) (a : Nat) (hc : xs.length ≤ nc) : Cells w (if nc = a then some ⟨G, 0, none⟩ else some ⟨G, a, none⟩) ((xs.drop a).map Value.string) := by
  by_cases e : nc = a
  · rw [if_pos e, List.drop_eq_nil_of_le (by omega)]
    exact fun i hi => absurd hi (by simp)
  · rw [if_neg e]; exact cells_drop h a

def AbbrsPost (k : ByteArray) (m : Nat) (w : World) (e : Ending) (w' : World) : Prop :=
  ∃ (o : Value) (xs : List ByteArray), e = .returned o ∧ w'.ownsRow w.heap.size 9 1 o xs.length (xs.map Value.string) ∧ Rises xs ∧ (∀ x : ByteArray, x ∈ xs ↔ x.data.toList ∈ cutsG k.data.toList (m + 1)) ∧ xs.length ≤ 4096 ∧ Below w.heap.size w w'

def strOf (c : UInt8) (t : List UInt8) (r : List Int) : ByteArray := ⟨(c :: pickT t r).toArray⟩
theorem strOf_list (c : UInt8) (t : List UInt8) (r : List Int) : (strOf c t r).data.toList = c :: pickT t r := rfl
theorem strOf_size (c : UInt8) (t : List UInt8) (r : List Int) : (strOf c t r).size = r.length + 1 := by
  show (c :: pickT t r).toArray.size = _
  simp [pickT]
theorem strOf_zero {k : ByteArray} {c : UInt8} {t : List UInt8} (h : k.data.toList = c :: t) : k.extract 0 1 = strOf c t [] := bz_inj (by
  rw [ext_list, h]; rfl)
theorem strOf_step {k : ByteArray} {c : UInt8} {t : List UInt8} (h : k.data.toList = c :: t) (r : List Int) (j p : Nat) (hj : j < r.length) (hp : r[j] = (p : Int)) (hpk : p < t.length) :
    strOf c t (r.take j) ++ k.extract (p + 1) (p + 2) = strOf c t (r.take (j + 1)) := bz_inj (by
  rw [ByteArray.data_append, Array.toList_append, ext_list, h, strOf_list, strOf_list, List.take_succ_eq_append_getElem hj, hp]
  show c :: pickT t (r.take j) ++ (t.drop p).take (p + 2 - (p + 1)) = c :: pickT t (r.take j ++ [(p : Int)])
  rw [show p + 2 - (p + 1) = 1 from by omega, List.drop_eq_getElem_cons hpk]
  unfold pickT
  rw [List.map_append, List.map_cons, Int.toNat_natCast, List.getD_eq_getElem?_getD, List.getElem?_eq_getElem hpk]
  rfl)

end Go.Proofs.YtljlkhaolfihjaaGreatDoor

/- A list that is sorted: the place of each name, and no name at a wrong place. -/
namespace Go.Proofs.YtljlkhaolfihjaaGreatDoor
open Go.RowKit

theorem made_eq {x y : ByteArray} (hx : Made6 x) (hy : Made6 y) (h : cmpSpell (spellOf x) (spellOf y) = 0) : x = y := by
  have e : spellOf x = spellOf y := cmpS_zero h
  rcases line_cases x y hx.2.2 hy.2.2 hx.1 hy.1 with h1 | h1 | h1 | h1 | h1
  · rw [h] at h1; exact absurd h1.1 (by decide)
  · rw [h] at h1; exact absurd h1.1 (by decide)
  · rw [h] at h1; exact absurd h1.1 (by decide)
  · rw [h] at h1; exact absurd h1.1 (by decide)
  · exact bytes_inj (by simpa using h1.2.2.1)
/-- In order, all of them. -/
def Asc2 (T : List ByteArray) : Prop := ∀ a b, a < b → b < T.length → cmpAt T a b ≤ 0
theorem asc_ord {T : List ByteArray} (h : Asc2 T) : ordB T = true := ord_true fun i hi => by
  have h1 := h i (i + 1) (by omega) hi
  have h2 : cmpAt T (i + 1) i = - cmpAt T i (i + 1) := cmpS_anti _ _
  omega
theorem place_sorted {T : List ByteArray} (h : Asc2 T) (hm : ∀ i (h : i < T.length), Made6 T[i]) {i f : Nat} (hi : i < T.length) (hf : f ≤ i) (h1 : ∀ j (hj : j < T.length), f ≤ j → j ≤ i → T[j] = T[i]) (h2 : f = 0 ∨ ∃ h9 : f - 1 < T.length, T[f - 1] ≠ T[i]) : placeN T T[i] = f := by
  have e : ∀ j (hj : j < T.length), cmpT T (spellOf T[i]) j = cmpAt T j i := fun j hj => by
    unfold cmpT cmpAt; rw [getD_at T i hi]
  refine place_eq T T[i] f (by omega) (fun j hj => ?_) (fun j h3 h4 => ?_)
  · have hf0 : f - 1 < T.length := by omega
    have hs : cmpT T (spellOf T[i]) (f - 1) < 0 := by
      rw [e _ hf0]
      have h5 := h (f - 1) i (by omega) hi
      rcases h2 with h2 | ⟨h9, h2⟩
      · omega
      · have h6 : cmpAt T (f - 1) i ≠ 0 := fun h7 => h2 (made_eq (hm _ hf0) (hm _ hi) (by
          unfold cmpAt at h7; rw [getD_at T _ hf0, getD_at T _ hi] at h7; exact h7))
        omega
    exact ord_mono (asc_ord h) (spellOf T[i]) j (f - 1) (by omega) hf0 hs
  · rw [e _ h4]
    by_cases h5 : j ≤ i
    · have h6 := h1 j h4 h3 h5
      unfold cmpAt
      rw [getD_at T _ h4, getD_at T _ hi, h6, cmpS_self]
      exact Int.le_refl _
    · have h7 := h i j (by omega) h4
      have h8 : cmpAt T j i = - cmpAt T i j := cmpS_anti _ _
      omega
theorem without_none (ss : List ByteArray) : ∀ k, withoutFrom [] k ss = ss := by
  induction ss with
  | nil => intro k; rfl
  | cons s t ih =>
    intro k
    unfold withoutFrom
    rw [if_neg (by simp [hasB]), ih]
theorem wrong_none {T : List ByteArray} (h : ordB T = true) : wrongX T = [] := by
  have hs : subsL 0 0 T.length = [[]] := rfl
  exact wrong_first (ss := T) (k := 0) (i := 0) (Nat.zero_le _) (by rw [hs]; decide) (fun x hx => by simp [lessI, allI] at hx) (fun x hx => by simp at hx) (by
    show ordB (withoutFrom [] 0 T) = true
    rw [without_none]; exact h)

/-- The names in the order of some indices. -/
def named (sa : List ByteArray) (N : List Nat) : List ByteArray := N.map fun i => sa.getD i ByteArray.empty
theorem named_len (sa : List ByteArray) (N : List Nat) : (named sa N).length = N.length := by unfold named; simp
theorem named_at (sa : List ByteArray) (N : List Nat) (i : Nat) (h : i < N.length) : (named sa N).getD i ByteArray.empty = sa.getD N[i] ByteArray.empty := by
  unfold named; rw [List.getD_eq_getElem?_getD, List.getElem?_map, List.getElem?_eq_getElem h]; rfl
theorem named_cmp (sa : List ByteArray) (N : List Nat) (i j : Nat) (hi : i < N.length) (hj : j < N.length) : cmpAt (named sa N) i j = cmpAt sa N[i] N[j] := by
  unfold cmpAt; rw [named_at _ _ _ hi, named_at _ _ _ hj]
theorem named_pair {sa : List ByteArray} {N : List Nat} (h : N.Pairwise fun x y => cmpAt sa x y < 0 ∨ (cmpAt sa x y = 0 ∧ x < y)) {i j : Nat} (hij : i < j) (hj : j < N.length) : cmpAt (named sa N) i j < 0 ∨ (cmpAt (named sa N) i j = 0 ∧ N[i] < N[j]) := by
  rw [named_cmp sa N i j (by omega) hj]
  exact List.pairwise_iff_getElem.1 h i j (by omega) hj hij
theorem named_asc {sa : List ByteArray} {N : List Nat} (h : N.Pairwise fun x y => cmpAt sa x y < 0 ∨ (cmpAt sa x y = 0 ∧ x < y)) : Asc2 (named sa N) := fun a b hab hb => by
  rw [named_len] at hb
  rcases named_pair h hab hb with h1 | ⟨h1, _⟩ <;> omega
theorem named_step (sa : List ByteArray) (N : List Nat) (k : Nat) (hk : k < N.length) (hb : N[k] < sa.length) : named sa (N.take (k + 1)) = named sa (N.take k) ++ [sa[N[k]]] := by
  unfold named
  rw [List.take_succ_eq_append_getElem hk, List.map_append]
  simp [List.getElem?_eq_getElem hb]
end Go.Proofs.YtljlkhaolfihjaaGreatDoor
