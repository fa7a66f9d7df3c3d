/- The fewest names at a wrong place are found: plain facts. -/
import Derived.Test.YtljlkhaolfihjaaGreatDoorPgRe
import Derived.Test.YtljlkhaolfihjaaGreatDoorSpecC
import Derived.Test.YtljlkhaolfihjaaGreatDoorPzC
import Derived.Test.YtljlkhaolfihjaaGreatDoorPgS
import Derived.Test.YtljlkhaolfihjaaGreatDoorPgTa
import Derived.Test.YtljlkhaolfihjaaGreatDoorKitU
import Derived.Test.YtljlkhaolfihjaaGreatDoorPgJ
import Derived.Test.YtljlkhaolfihjaaGreatDoorSpecZ
import Derived.Test.YtljlkhaolfihjaaGreatDoorPgSq
import Derived.Test.YtljlkhaolfihjaaGreatDoorRefL
import Derived.Test.YtljlkhaolfihjaaGreatDoorPgSr
namespace Go.Proofs.YtljlkhaolfihjaaGreatDoor
open Go.RowKit

theorem withoutFrom_all (q : List Int) (ss : List ByteArray) : ∀ k, (∀ j, k ≤ j → j < k + ss.length → (j : Int) ∈ q) → withoutFrom q k ss = [] := by
  induction ss with
  | nil => intro k _; rfl
  | cons s t ih =>
    intro k h
    unfold withoutFrom
    have h1 : hasB q (k : Int) = true := by
      unfold hasB
      simpa using h k (Nat.le_refl _) (by simp)
    rw [if_pos h1]
    exact ih (k + 1) fun j h2 h3 => h j (by omega) (by simp only [List.length_cons]; omega)
theorem subsL_full (n : Nat) : ∀ f, ∃ x, x ∈ subsL n f (f + n) ∧ ∀ j, f ≤ j → j < f + n → (j : Int) ∈ x := by
  induction n with
  | zero => intro f; exact ⟨[], by simp [subsL], fun j h1 h2 => by omega⟩
  | succ n ih =>
    intro f
    obtain ⟨x, hx, hj⟩ := ih (f + 1)
    refine ⟨(f : Int) :: x, ?_, fun j h1 h2 => ?_⟩
    · unfold subsL
      refine List.mem_flatMap.2 ⟨0, List.mem_range.2 (by omega), List.mem_map.2 ⟨x, ?_, by simp⟩⟩
      rw [show f + 0 + 1 = f + 1 from by omega, show f + (n + 1) = f + 1 + n from by omega]
      exact hx
    · by_cases e : j = f
      · subst e; simp
      · exact List.mem_cons_of_mem _ (hj j (by omega) (by omega))
theorem fine_all (ss : List ByteArray) : ∃ x, x ∈ allI ss.length (List.range (ss.length + 1)) ∧ fineI ss x = true := by
  obtain ⟨x, hx, hj⟩ := subsL_full ss.length 0
  refine ⟨x, ?_, ?_⟩
  · unfold allI
    rw [List.mem_flatten]
    exact ⟨subsL ss.length 0 ss.length, List.mem_map.2 ⟨ss.length, List.mem_range.2 (by omega), rfl⟩, by simpa using hx⟩
  · unfold fineI
    rw [withoutFrom_all x ss 0 fun j h1 h2 => hj j h1 (by simpa using h2)]
    rfl
/-- The lists of fewer numbers. -/
def lessI (nn k : Nat) : List (List Int) := allI nn (List.range k)
theorem lessI_succ (nn k : Nat) : lessI nn (k + 1) = lessI nn k ++ subsL k 0 nn := by
  unfold lessI allI
  rw [List.range_succ, List.map_append, List.flatten_append]; simp
theorem lessI_pre (nn : Nat) {k m : Nat} (h : k ≤ m) : lessI nn k <+: lessI nn m := by
  obtain ⟨d, rfl⟩ : ∃ d, m = k + d := ⟨m - k, by omega⟩
  clear h
  induction d with
  | zero => exact List.prefix_refl _
  | succ d ih => rw [← Nat.add_assoc, lessI_succ]; exact ih.trans (List.prefix_append _ _)
theorem find_none_of {α : Type} {p : α → Bool} {L : List α} (h : ∀ x, x ∈ L → p x = false) : L.find? p = none := by
  rw [List.find?_eq_none]
  intro x hx
  rw [h x hx]; decide
/-- The first one that is fine, met in the order of a law. -/
theorem wrong_first {ss : List ByteArray} {k i : Nat} (hk : k ≤ ss.length) (hi : i < (subsL k 0 ss.length).length) (h1 : ∀ x, x ∈ lessI ss.length k → fineI ss x = false) (h2 : ∀ x, x ∈ (subsL k 0 ss.length).take i → fineI ss x = false) (h3 : fineI ss (subsL k 0 ss.length)[i] = true) : wrongX ss = (subsL k 0 ss.length)[i] := by
  unfold wrongX
  have hp := lessI_pre ss.length (show k + 1 ≤ ss.length + 1 by omega)
  obtain ⟨t, ht⟩ := hp
  show ((lessI ss.length (ss.length + 1)).find? (fineI ss)).getD [] = _
  have e1 : (subsL k 0 ss.length).find? (fineI ss) = some (subsL k 0 ss.length)[i] := by
    conv => lhs; rw [← List.take_append_drop i (subsL k 0 ss.length)]
    rw [List.find?_append, find_none_of h2, List.drop_eq_getElem_cons hi, List.find?_cons, h3]
    rfl
  rw [← ht, List.find?_append, lessI_succ, List.find?_append, find_none_of h1, e1]
  rfl
theorem wrong_some {ss : List ByteArray} (h : ∀ x, x ∈ lessI ss.length (ss.length + 1) → fineI ss x = false) : False := by
  obtain ⟨x, hx, hf⟩ := fine_all ss
  rw [h x hx] at hf
  cases hf
theorem take_false {α : Type} {p : α → Bool} {L : List α} {i : Nat} (hi : i < L.length) (h : ∀ x, x ∈ L.take i → p x = false) (h2 : p L[i] = false) : ∀ x, x ∈ L.take (i + 1) → p x = false := by
  intro x hx
  rw [List.take_succ_eq_append_getElem hi] at hx
  rcases List.mem_append.1 hx with hx | hx
  · exact h x hx
  · rw [List.mem_singleton.1 hx]; exact h2
theorem withoutFrom_sub (q : List Int) (ss : List ByteArray) : ∀ k s, s ∈ withoutFrom q k ss → s ∈ ss := by
  induction ss with
  | nil => intro k s h; exact h
  | cons a t ih =>
    intro k s h
    unfold withoutFrom at h
    split at h
    · exact List.mem_cons_of_mem _ (ih _ _ h)
    · rcases List.mem_cons.1 h with h | h
      · rw [h]; simp
      · exact List.mem_cons_of_mem _ (ih _ _ h)
end Go.Proofs.YtljlkhaolfihjaaGreatDoor

/- Abbreviations that can be mistaken, as the laws ask. -/
namespace Go.Proofs.YtljlkhaolfihjaaGreatDoor
open Go.RowKit

theorem any_take' {α : Type} (p : α → Bool) (l : List α) (k : Nat) (hk : k < l.length) : (l.take (k + 1)).any p = ((l.take k).any p || p l[k]) := by
  rw [List.take_succ_eq_append_getElem hk, List.any_append]; simp

def BoolsPost (b : Bool) (w : World) (e : Ending) (w' : World) : Prop := e = .returned (.tuple #[.bool b, .bool true]) ∧ Below w.heap.size w w'

end Go.Proofs.YtljlkhaolfihjaaGreatDoor

/- Shortest and Fit of any list, any index, any width. -/
namespace Go.Proofs.YtljlkhaolfihjaaGreatDoor
open Go.RowKit Go.Shelf

/-- What beginLine gives where it gives no line. -/
def LineErr (c : Int) (w : World) (e : Ending) (w' : World) : Prop :=
  e = .returned (.tuple #[.agg #[.string ⟨#[]⟩, .slice none 0 0], .int .i64 c]) ∧ Below w.heap.size w w'

set_option maxRecDepth 100000 in
set_option maxHeartbeats 1600000 in
theorem beginLine_list (A : Option Addr) (n c : Nat) (i : Int) (ss : List ByteArray) (w : World) (hL : LaidErr w) (hn : n = ss.length) (hv : listErr ss ≠ 0) (hx : Cells w A (ss.map Value.string)) :
    Calls Tryz.prog 72 #[.slice A n c, .int .i64 i] w (LineErr (listErr ss) w) := by
  have Q := Lib.hid (fun W h => readList_err A n c ss W hn hv h)
  have HX := Lib.hid hx
  have HL := Lib.hid hL
  generalize listErr ss = E at *
  clear hn hv hx hL
  unfold LineErr
  have hbV : Below w.heap.size w (w.alloc (.cells #[.string ⟨#[]⟩, .slice none 0 0] 119)) := (Below.refl _ _).alloc (Nat.le_refl _) _
  have hr := heap_alloc_new w (.cells #[.string ⟨#[]⟩, .slice none 0 0] 119)
  have hVs : (w.alloc (.cells #[.string ⟨#[]⟩, .slice none 0 0] 119)).heap.size = w.heap.size + 1 := by simp
  go_enter Tryz.func72, Tryz.ntmps72
  go_wp2_with fail
  generalize w.alloc (.cells #[.string ⟨#[]⟩, .slice none 0 0] 119) = V at *
  refine (Q.out _ (HX.out.below hbV)).mono ?_
  rintro e w1 ⟨rfl, hb1⟩
  have hb2 := hbV.trans (hb1.mono hbV.size)
  have hr1 := (hb1.block _ (by omega)).trans hr
  clear Q hr hbV
  go_wp2_with fail
  refine (codeOf_err E _ (HL.out.below hb2)).mono ?_
  rintro e w2 ⟨rfl, hb3⟩
  have hb4 := hb2.trans (hb3.mono hb2.size)
  have hr2 := (hb3.block _ (Array.getElem?_eq_some_iff.1 hr1).1).trans hr1
  obtain ⟨c0, c1, f0, f1⟩ := block2_cells hr2
  obtain ⟨z0, z1, _, _⟩ := block2_cells (block2 hr2 (.string ⟨#[]⟩) (.slice none 0 0))
  have hbb := (hb4.setCell (p := ⟨w.heap.size, 0, none⟩) (Nat.le_refl _) (.string ⟨#[]⟩)).setCell (p := ⟨w.heap.size, 1, none⟩) (Nat.le_refl _) (.slice none 0 0)
  have Z0 := Lib.hid z0
  have Z1 := Lib.hid z1
  clear z0 z1 hb1 hb3 hr1
  go_wp2_with fail
  have z0 := Z0.out
  have z1 := Z1.out
  exact bodyPost_ret (v := .tuple #[.agg #[.string ⟨#[]⟩, .slice none 0 0], .int .i64 E]) (by simp [results, Tryz.results72, go_sem, z0, z1]) rfl ⟨rfl, hbb⟩

set_option maxRecDepth 100000 in
set_option maxHeartbeats 1600000 in
theorem beginLine_at (A : Option Addr) (n c : Nat) (i : Int) (ss : List ByteArray) (w : World) (hn : n = ss.length) (hb : n ≤ 6) (hv : AllOk ss) (hx : Cells w A (ss.map Value.string)) (hi : i < 0 ∨ (n : Int) ≤ i) :
    Calls Tryz.prog 72 #[.slice A n c, .int .i64 i] w (LineErr 3 w) := by
  have Q := Lib.hid (fun W h => readList_ok A n c ss W hn hb hv h)
  have HX := Lib.hid hx
  have HN := Lib.hid hn
  clear hn hv hx
  unfold LineErr
  have hbV : Below w.heap.size w (w.alloc (.cells #[.string ⟨#[]⟩, .slice none 0 0] 119)) := (Below.refl _ _).alloc (Nat.le_refl _) _
  have hr := heap_alloc_new w (.cells #[.string ⟨#[]⟩, .slice none 0 0] 119)
  have hVs : (w.alloc (.cells #[.string ⟨#[]⟩, .slice none 0 0] 119)).heap.size = w.heap.size + 1 := by simp
  go_enter Tryz.func72, Tryz.ntmps72
  go_wp2_with fail
  generalize w.alloc (.cells #[.string ⟨#[]⟩, .slice none 0 0] 119) = V at *
  refine (Q.out _ (HX.out.below hbV)).mono ?_
  rintro e w1 ⟨o, rfl, ho, hb1⟩
  rw [← HN.out] at ho
  obtain ⟨O, cap, rfl⟩ := own_form ho
  have hb2 := hbV.trans (hb1.mono hbV.size)
  have hr1 := (hb1.block _ (by omega)).trans hr
  obtain ⟨c0, c1, f0, f1⟩ := block2_cells hr1
  obtain ⟨z0, z1, _, _⟩ := block2_cells (block2 hr1 (.string ⟨#[]⟩) (.slice none 0 0))
  have hbb := (hb2.setCell (p := ⟨w.heap.size, 0, none⟩) (Nat.le_refl _) (.string ⟨#[]⟩)).setCell (p := ⟨w.heap.size, 1, none⟩) (Nat.le_refl _) (.slice none 0 0)
  have Z0 := Lib.hid z0
  have Z1 := Lib.hid z1
  clear z0 z1 Q hr hbV ho hb1
  by_cases h0 : i < 0
  · have d0 : decide (i < 0) = true := decide_eq_true h0
    go_wp2_with fail
    have z0 := Z0.out
    have z1 := Z1.out
    exact bodyPost_ret (v := .tuple #[.agg #[.string ⟨#[]⟩, .slice none 0 0], .int .i64 3]) (by simp [results, Tryz.results72, go_sem, z0, z1]) rfl ⟨rfl, hbb⟩
  · have h1 : (n : Int) ≤ i := by omega
    have d0 : decide (i < 0) = false := decide_eq_false h0
    have d1 : decide ((n : Int) ≤ i) = true := decide_eq_true h1
    go_wp2_with fail
    have z0 := Z0.out
    have z1 := Z1.out
    exact bodyPost_ret (v := .tuple #[.agg #[.string ⟨#[]⟩, .slice none 0 0], .int .i64 3]) (by simp [results, Tryz.results72, go_sem, z0, z1]) rfl ⟨rfl, hbb⟩

set_option maxRecDepth 100000 in
set_option maxHeartbeats 800000 in
theorem Shortest_none (A : Option Addr) (n c : Nat) (i E : Int) (w : World) (hE : E ≠ 0) (Q : Hid (∀ W, Below w.heap.size w W → Calls Tryz.prog 72 #[.slice A n c, .int .i64 i] W (LineErr E W))) :
    Calls Tryz.prog 33 #[.slice A n c, .int .i64 i] w (StrErrPost (ByteArray.empty, E) w) := by
  have m1 : (E != 0) = true := by simp [hE]
  unfold StrErrPost
  unfold LineErr at Q
  go_enter Tryz.func33, Tryz.ntmps33
  go_wp2_with fail
  refine (Q.out _ (Below.refl _ _)).mono ?_
  rintro e w1 ⟨rfl, hb1⟩
  have hb2 := hb1.alloc (o := .cells #[.string ⟨#[]⟩, .slice none 0 0] 119) hb1.size
  go_wp2_with fail
  go_ret2
  exact ⟨rfl, hb2⟩
set_option maxRecDepth 100000 in
set_option maxHeartbeats 800000 in
theorem Fit_none (A : Option Addr) (n c : Nat) (i wd E : Int) (w : World) (hE : E ≠ 0) (Q : Hid (∀ W, Below w.heap.size w W → Calls Tryz.prog 72 #[.slice A n c, .int .i64 i] W (LineErr E W))) :
    Calls Tryz.prog 34 #[.slice A n c, .int .i64 i, .int .i64 wd] w (StrErrPost (ByteArray.empty, E) w) := by
  have m1 : (E != 0) = true := by simp [hE]
  unfold StrErrPost
  unfold LineErr at Q
  go_enter Tryz.func34, Tryz.ntmps34
  go_wp2_with fail
  refine (Q.out _ (Below.refl _ _)).mono ?_
  rintro e w1 ⟨rfl, hb1⟩
  have hb2 := hb1.alloc (o := .cells #[.string ⟨#[]⟩, .slice none 0 0] 119) hb1.size
  go_wp2_with fail
  go_ret2
  exact ⟨rfl, hb2⟩

set_option maxRecDepth 100000 in
set_option maxHeartbeats 800000 in
theorem Fit_wide (A : Option Addr) (n c i : Nat) (wd : Int) (ss : List ByteArray) (w : World) (hn : n = ss.length) (hb : n ≤ 6) (hv : AllOk ss) (hx : Cells w A (ss.map Value.string)) (hi : i < n) (hw : wd < 1 ∨ (((keyS (ss.getD i ByteArray.empty)).size : Nat) : Int) ≤ wd) :
    Calls Tryz.prog 34 #[.slice A n c, .int .i64 i, .int .i64 wd] w (StrErrPost (if wd < 1 then (ByteArray.empty, 1) else (keyS (ss.getD i ByteArray.empty), 0)) w) := by
  have QB := Lib.hid (beginLine_ok A n c i ss w hn hb hv hx hi)
  unfold LinePost at QB
  unfold StrErrPost
  generalize othersB ss i = os at *
  generalize keyS (ss.getD i ByteArray.empty) = K at *
  clear hn hv hx
  by_cases h1 : wd < 1
  · rw [if_pos h1]
    have d1 : decide (wd < 1) = true := decide_eq_true h1
    go_enter Tryz.func34, Tryz.ntmps34
    go_wp2_with fail
    refine QB.out.mono ?_
    rintro e w1 ⟨B, n2, c2, rfl, hn2, hcs, hb1⟩
    subst hn2
    have hb2 := hb1.alloc (o := .cells #[.string K, .slice B os.length c2] 119) hb1.size
    clear hcs
    go_wp2_with fail
    go_ret2
    exact ⟨rfl, hb2⟩
  · rw [if_neg h1]
    have h2 : (K.size : Int) ≤ wd := by
      rcases hw with h | h
      · exact absurd h h1
      · exact h
    have d1 : decide (wd < 1) = false := decide_eq_false h1
    have d2 : decide ((K.size : Int) ≤ wd) = true := decide_eq_true h2
    go_enter Tryz.func34, Tryz.ntmps34
    go_wp2_with fail
    refine QB.out.mono ?_
    rintro e w1 ⟨B, n2, c2, rfl, hn2, hcs, hb1⟩
    subst hn2
    have hb2 := hb1.alloc (o := .cells #[.string K, .slice B os.length c2] 119) hb1.size
    have hr := heap_alloc_new w1 (.cells #[.string K, .slice B os.length c2] 119)
    obtain ⟨p0, p1, _, _⟩ := block2_cells hr
    clear hcs hr
    go_wp2_with fail
    go_ret2
    exact ⟨rfl, hb2⟩

theorem found_ans {p : List UInt8 × Int} {f : FuncId} {args : Array Value} {w : World} (h : Calls Tryz.prog f args w (FoundPost p w)) : Calls Tryz.prog f args w (StrErrPost (⟨p.1.toArray⟩, p.2) w) := by
  refine h.mono ?_
  rintro e w' ⟨s, h1, rfl, hb⟩
  refine ⟨?_, hb⟩
  rw [← h1]
theorem pShortest_any (A : Option Addr) (n c : Nat) (ss : List ByteArray) (i : Int) (w : World) (hL : LaidErr w) (hn : n = ss.length) (hx : Cells w A (ss.map Value.string)) :
    Calls Tryz.prog 33 #[.slice A n c, .int .i64 i] w (StrErrPost (shortestP ss i) w) := by
  by_cases h : listErr ss = 0
  · obtain ⟨l6, hok⟩ := list_facts h
    by_cases hi : i < 0 ∨ (n : Int) ≤ i
    · have e : shortestP ss i = (ByteArray.empty, 3) := by unfold shortestP; rw [if_pos h, if_pos (by rw [← hn]; exact hi)]
      rw [e]
      exact Shortest_none A n c i 3 w (by decide) (Lib.hid fun W hW => beginLine_at A n c i ss W hn (by omega) hok (hx.below hW) hi)
    · obtain ⟨k, rfl⟩ : ∃ k : Nat, i = (k : Int) := ⟨i.toNat, by omega⟩
      have hk : k < ss.length := by omega
      rw [shortest_eq ss k hk h]
      exact found_ans (Shortest_ok A n c k ss w hn (by omega) hok hx (by omega))
  · have e : shortestP ss i = (ByteArray.empty, listErr ss) := by unfold shortestP; rw [if_neg h]
    rw [e]
    exact Shortest_none A n c i _ w h (Lib.hid fun W hW => beginLine_list A n c i ss W (hL.below hW) hn h (hx.below hW))
theorem pFit_any (A : Option Addr) (n c : Nat) (ss : List ByteArray) (i width : Int) (w : World) (hL : LaidErr w) (hn : n = ss.length) (hx : Cells w A (ss.map Value.string)) :
    Calls Tryz.prog 34 #[.slice A n c, .int .i64 i, .int .i64 width] w (StrErrPost (fitP ss i width) w) := by
  by_cases h : listErr ss = 0
  · obtain ⟨l6, hok⟩ := list_facts h
    by_cases hi : i < 0 ∨ (n : Int) ≤ i
    · have e : fitP ss i width = (ByteArray.empty, 3) := by unfold fitP; rw [if_pos h, if_pos (by rw [← hn]; exact hi)]
      rw [e]
      exact Fit_none A n c i width 3 w (by decide) (Lib.hid fun W hW => beginLine_at A n c i ss W hn (by omega) hok (hx.below hW) hi)
    · obtain ⟨k, rfl⟩ : ∃ k : Nat, i = (k : Int) := ⟨i.toNat, by omega⟩
      have hk : k < ss.length := by omega
      have hg : ss.getD k ByteArray.empty = ss[k] := by rw [List.getD_eq_getElem?_getD, List.getElem?_eq_getElem hk]; rfl
      have e0 : fitP ss (k : Int) width = fitAt ss (keyS ss[k]) width := by
        unfold fitP
        rw [if_pos h, if_neg (by omega), show ((k : Int)).toNat = k from by omega, List.getElem?_eq_getElem hk]
        rfl
      by_cases hw : width < 1 ∨ ((keyS ss[k]).size : Int) ≤ width
      · have q := Fit_wide A n c k width ss w hn (by omega) hok hx (by omega) (by rw [hg]; exact hw)
        rw [hg] at q
        have e : fitP ss (k : Int) width = if width < 1 then (ByteArray.empty, 1) else (keyS ss[k], 0) := by
          rw [e0]
          unfold fitAt
          by_cases h1 : width < 1
          · rw [if_pos h1, if_pos h1]
          · rw [if_neg h1, if_neg h1, if_pos (by rcases hw with hw | hw; · exact absurd hw h1
                                                 · exact hw)]
        rw [e]
        exact q
      · obtain ⟨wd, rfl⟩ : ∃ wd : Nat, width = (wd : Int) := ⟨width.toNat, by omega⟩
        rw [fit_eq ss k wd hk h (by omega)]
        exact found_ans (Fit_ok A n c k wd ss w hn (by omega) hok hx (by omega) (by omega) (by rw [hg]; omega))
  · have e : fitP ss i width = (ByteArray.empty, listErr ss) := by unfold fitP; rw [if_neg h]
    rw [e]
    exact Fit_none A n c i width _ w h (Lib.hid fun W hW => beginLine_list A n c i ss W (hL.below hW) hn h (hx.below hW))
end Go.Proofs.YtljlkhaolfihjaaGreatDoor

/- What is set in a column has at most its width, and a wider one never has fewer letters: the walk. -/
namespace Go.Proofs.YtljlkhaolfihjaaGreatDoor
open Go.RowKit

theorem list_ok {ss : List ByteArray} (h6 : ss.length ≤ 6) (hv : AllOk ss) : listErr ss = 0 := by
  unfold listErr
  rw [if_neg (by omega)]
  have : ∀ t : List ByteArray, AllOk t → firstErr t = 0 := by
    intro t
    induction t with
    | nil => intro _; rfl
    | cons s t ih =>
      intro h
      unfold firstErr
      rw [if_pos (h s (by simp))]
      exact ih fun x hx => h x (by simp [hx])
  exact this ss hv
theorem fit_call {A : Option Addr} {n c i wd : Nat} {ss : List ByteArray} {W0 : World} {p : List UInt8 × Int} (hL : LaidErr W0) (hn : n = ss.length) (h6 : ss.length ≤ 6) (hv : AllOk ss) (hx : Cells W0 A (ss.map Value.string)) (hi : i < ss.length) (hp : fitG ss i (wd + 1) = p) (W : World) (hW : Below W0.heap.size W0 W) :
    Calls Tryz.prog 34 #[.slice A n c, .int .i64 i, .int .i64 ((wd : Int) + 1)] W fun e w' => e = .returned (.tuple #[.string ⟨p.1.toArray⟩, .int .i64 p.2]) ∧ Below W.heap.size W w' := by
  subst hp
  have q := pFit_any A n c ss (i : Int) ((wd : Int) + 1) W (hL.below hW) hn (hx.below hW)
  have e := fit_eq ss i (wd + 1) hi (list_ok h6 hv) (by omega)
  rw [show ((wd + 1 : Nat) : Int) = (wd : Int) + 1 from by omega] at e
  rw [e] at q
  exact q
theorem point_len {a : List UInt8} : ((⟨(a ++ [46]).toArray⟩ : ByteArray).size) = a.length + 1 := by
  show (a ++ [46]).toArray.size = _
  simp
theorem point_ne {a : List UInt8} {K : ByteArray} (h : ∀ c, c ∈ K.data.toList → Sp.latin c = true) : ((⟨(a ++ [46]).toArray⟩ : ByteArray).toList == K.toList) = false := by
  rw [beq_eq_false_iff_ne, ByteArray.toList_eq, ByteArray.toList_eq]
  intro e
  have h1 : (46 : UInt8) ∈ K.data.toList := by rw [← e]; simp
  have := h 46 h1
  exact absurd this (by decide)

end Go.Proofs.YtljlkhaolfihjaaGreatDoor

/- All abbreviations of a key, as a law lists them: the walk. -/
namespace Go.Proofs.YtljlkhaolfihjaaGreatDoor
open Go.RowKit

set_option maxRecDepth 100000 in
theorem Subsets_any (n m : Nat) (w : World) (hm : m ≤ 1000) (hn : n ≤ 12) : Calls Tryz.prog 36 #[.int .i64 (n : Nat), .int .i64 (m : Nat)] w (SubsPost (subsL m 0 n) w) := by
  have q := subsets_any m 0 n w hm hn (by omega)
  have Q := Lib.hid (show Calls Tryz.prog 75 #[.int .i64 0, .int .i64 (n : Nat), .int .i64 (m : Nat)] w (SubsPost (subsL m 0 n) w) from q)
  clear q
  generalize (n : Int) = a at *
  generalize (m : Int) = b at *
  go_enter Tryz.func36, Tryz.ntmps36
  go_wp2_with fail
  refine Q.out.mono ?_
  rintro e w' h
  unfold SubsPost at h
  obtain ⟨o, vs, rfl, h1, h2, h3⟩ := h
  go_wp2_with fail
  go_ret
  exact ⟨_, vs, rfl, h1, h2, h3⟩

theorem own_cap {w : World} {base n m cap size g : Nat} {e : TypeId} {xs : List Value} (h : w.ownsRow base e size (.slice (some ⟨g, 0, none⟩) m cap) n xs) : n ≤ cap := by
  rcases h.2 with ⟨hv, _⟩ | ⟨g', cap', cur, hv, _, _, h1, _⟩
  · cases hv
  · injection hv with h2 h3 h4
    omega
theorem cells_take {w : World} {G : Nat} {xs : List ByteArray} (h : Cells w (some ⟨G, 0, none⟩) (xs.map Value.string)) (a : Nat) : Cells w (some ⟨G, 0, none⟩) ((xs.take a).map Value.string) := fun i hi => by
  have hi2 : i < a ∧ i < xs.length := by simp at hi; omega
  obtain ⟨b, off, e, hc⟩ := h i (by simpa using hi2.2)
  refine ⟨b, off, e, ?_⟩
  rw [hc, List.getD_eq_getElem?_getD, List.getD_eq_getElem?_getD, List.getElem?_map, List.getElem?_map, List.getElem?_take, if_pos hi2.1]
theorem cells_drop {w : World} {G : Nat} {xs : List ByteArray} (h : Cells w (some ⟨G, 0, none⟩) (xs.map Value.string)) (a : Nat) : Cells w (some ⟨G, a, none⟩) ((xs.drop a).map Value.string) := fun i hi => by
  have hi2 : a + i < xs.length := by simp at hi; omega
  obtain ⟨b, off, e, hc⟩ := h (a + i) (by simpa using hi2)
  injection e with e
  injection e with e1 e2 _
  subst e1 e2
  refine ⟨_, _, rfl, ?_⟩
  rw [Nat.zero_add] at hc
  rw [hc, List.getD_eq_getElem?_getD, List.getD_eq_getElem?_getD, List.getElem?_map, List.getElem?_map, List.getElem?_drop]
theorem cells_dropI {w : World} {G nc : Nat} {xs : List ByteArray} (h : Cells w (some ⟨G, 0, none⟩) (xs.map Value.string)) (a : Nat) (hc : xs.length ≤ nc) : Cells w (if nc = a then some ⟨G, 0, none⟩ else some ⟨G, a, none⟩) ((xs.drop a).map Value.string) := by
  by_cases e : nc = a
  · rw [if_pos e, List.drop_eq_nil_of_le (by omega)]
    exact fun i hi => absurd hi (by simp)
  · rw [if_neg e]; exact cells_drop h a

def AbbrsPost (k : ByteArray) (m : Nat) (w : World) (e : Ending) (w' : World) : Prop :=
  ∃ (o : Value) (xs : List ByteArray), e = .returned o ∧ w'.ownsRow w.heap.size 9 1 o xs.length (xs.map Value.string) ∧ Rises xs ∧ (∀ x : ByteArray, x ∈ xs ↔ x.data.toList ∈ cutsG k.data.toList (m + 1)) ∧ xs.length ≤ 4096 ∧ Below w.heap.size w w'

def strOf (c : UInt8) (t : List UInt8) (r : List Int) : ByteArray := ⟨(c :: pickT t r).toArray⟩
theorem strOf_list (c : UInt8) (t : List UInt8) (r : List Int) : (strOf c t r).data.toList = c :: pickT t r := rfl
theorem strOf_size (c : UInt8) (t : List UInt8) (r : List Int) : (strOf c t r).size = r.length + 1 := by
  show (c :: pickT t r).toArray.size = _
  simp [pickT]
theorem strOf_zero {k : ByteArray} {c : UInt8} {t : List UInt8} (h : k.data.toList = c :: t) : k.extract 0 1 = strOf c t [] := bz_inj (by
  rw [ext_list, h]; rfl)
theorem strOf_step {k : ByteArray} {c : UInt8} {t : List UInt8} (h : k.data.toList = c :: t) (r : List Int) (j p : Nat) (hj : j < r.length) (hp : r[j] = (p : Int)) (hpk : p < t.length) :
    strOf c t (r.take j) ++ k.extract (p + 1) (p + 2) = strOf c t (r.take (j + 1)) := bz_inj (by
  rw [ByteArray.data_append, Array.toList_append, ext_list, h, strOf_list, strOf_list, List.take_succ_eq_append_getElem hj, hp]
  show c :: pickT t (r.take j) ++ (t.drop p).take (p + 2 - (p + 1)) = c :: pickT t (r.take j ++ [(p : Int)])
  rw [show p + 2 - (p + 1) = 1 from by omega, List.drop_eq_getElem_cons hpk]
  unfold pickT
  rw [List.map_append, List.map_cons, Int.toNat_natCast, List.getD_eq_getElem?_getD, List.getElem?_eq_getElem hpk]
  rfl)

end Go.Proofs.YtljlkhaolfihjaaGreatDoor

/- The sorting of names is stable. Nothing of the program's code. -/
namespace Go.Proofs.YtljlkhaolfihjaaGreatDoor

section
variable {α : Type} [Inhabited α] (lt lt2 : α → α → Bool) (key : α → Nat)

theorem inner_same (h2 : ∀ x y, key y < key x → lt2 x y = lt x y) : ∀ (i : Nat) (d : Array α), i < d.size → (∀ p, p < i → key d[p]! < key d[i]!) → Sort.insInner lt 0 i d = Sort.insInner lt2 0 i d := by
  intro i
  induction i with
  | zero => intro d _ _; rfl
  | succ i ih =>
    intro d hi hp
    unfold Sort.insInner
    rw [h2 _ _ (hp i (by omega))]
    split
    · have hs : (Sort.swp d (i + 1) i).size = d.size := Sort.swp_size _ _ _
      refine ih _ (by rw [hs]; omega) fun p hpi => ?_
      have e1 := Sort.swp_get d (i := i + 1) (j := i) hi (by omega) p
      have e2 := Sort.swp_get d (i := i + 1) (j := i) hi (by omega) i
      rw [e1, e2]
      rw [if_neg (by omega), if_neg (by omega), if_pos rfl]
      exact hp p (by omega)
    · rfl
theorem inner_mem : ∀ (i : Nat) (d : Array α), i < d.size → (Sort.insInner lt 0 i d).size = d.size ∧ (∀ q, i < q → (Sort.insInner lt 0 i d)[q]! = d[q]!) ∧ ∀ p, p ≤ i → ∃ p', p' ≤ i ∧ (Sort.insInner lt 0 i d)[p]! = d[p']! := by
  intro i
  induction i with
  | zero => intro d _; exact ⟨rfl, fun _ _ => rfl, fun p hp => ⟨p, hp, rfl⟩⟩
  | succ i ih =>
    intro d hi
    unfold Sort.insInner
    split
    · have hs : (Sort.swp d (i + 1) i).size = d.size := Sort.swp_size _ _ _
      have hg := Sort.swp_get d (i := i + 1) (j := i) hi (by omega)
      obtain ⟨h1, h2, h3⟩ := ih (Sort.swp d (i + 1) i) (by rw [hs]; omega)
      refine ⟨h1.trans hs, fun q hq => ?_, fun p hp => ?_⟩
      · rw [h2 q (by omega), hg, if_neg (by omega), if_neg (by omega)]
      · by_cases e : p = i + 1
        · subst e
          rw [h2 (i + 1) (by omega), hg, if_neg (by omega), if_pos rfl]
          exact ⟨i, by omega, rfl⟩
        · obtain ⟨p', hp', e2⟩ := h3 p (by omega)
          rw [e2, hg]
          by_cases e3 : p' = i
          · rw [if_pos e3]; exact ⟨i + 1, by omega, rfl⟩
          · rw [if_neg e3, if_neg (by omega)]; exact ⟨p', by omega, rfl⟩
    · exact ⟨rfl, fun _ _ => rfl, fun p hp => ⟨p, hp, rfl⟩⟩

theorem insF_same (h2 : ∀ x y, key y < key x → lt2 x y = lt x y) : ∀ (k i : Nat) (d : Array α), i + k ≤ d.size → (∀ p q, p < i → i ≤ q → q < d.size → key d[p]! < key d[q]!) → (∀ p q, i ≤ p → p < q → q < d.size → key d[p]! < key d[q]!) → insF lt k i d = insF lt2 k i d := by
  intro k
  induction k with
  | zero => intro i d _ _ _; rfl
  | succ k ih =>
    intro i d hd h3 h4
    unfold insF
    obtain ⟨m1, m2, m3⟩ := inner_mem lt i d (by omega)
    rw [← inner_same lt lt2 key h2 i d (by omega) fun p hp => h3 p i hp (Nat.le_refl _) (by omega)]
    refine ih (i + 1) _ (by rw [m1]; omega) (fun p q hp hq hqs => ?_) (fun p q hp hpq hqs => ?_)
    · rw [m1] at hqs
      obtain ⟨p', hp', e⟩ := m3 p (by omega)
      rw [e, m2 q (by omega)]
      by_cases e2 : p' = i
      · rw [e2]; exact h4 i q (Nat.le_refl _) (by omega) hqs
      · exact h3 p' q (by omega) (by omega) hqs
    · rw [m1] at hqs
      rw [m2 p (by omega), m2 q (by omega)]
      exact h4 p q (by omega) hpq hqs
end

def ltC (ks : List Spell) (m : Nat) (i j : Fin (m + 1)) : Bool := decide (cmpSpell (ks.getD i.val (ByteArray.empty, 0)) (ks.getD j.val (ByteArray.empty, 0)) < 0)
def ltS (ks : List Spell) (m : Nat) (i j : Fin (m + 1)) : Bool := ltC ks m i j || (!ltC ks m j i && decide (i.val < j.val))
theorem cmpS_zero {a b : Spell} (h : cmpSpell a b = 0) : a = b := by
  unfold cmpSpell at h
  split at h
  · rename_i h1
    obtain ⟨a1, a2⟩ := a
    obtain ⟨b1, b2⟩ := b
    have e1 := cmpB_eq _ _ h1
    have e2 := (cmpI_eq _ _).1 h
    dsimp only at e1 e2
    subst e2
    rw [show a1 = b1 from ByteArray.ext (Array.toList_inj.1 e1)]
  · rename_i h1
    exact absurd h h1
theorem cmpS_self (a : Spell) : cmpSpell a a = 0 := by
  have := cmpS_anti a a
  omega
theorem ltS_iff (ks : List Spell) (m : Nat) (i j : Fin (m + 1)) : ltS ks m i j = true ↔ cmpSpell (ks.getD i.val (ByteArray.empty, 0)) (ks.getD j.val (ByteArray.empty, 0)) = -1 ∨ (cmpSpell (ks.getD i.val (ByteArray.empty, 0)) (ks.getD j.val (ByteArray.empty, 0)) = 0 ∧ i.val < j.val) := by
  unfold ltS ltC
  rw [cmpS_anti (ks.getD i.val (ByteArray.empty, 0)) (ks.getD j.val (ByteArray.empty, 0))]
  have hv := cmpS_vals (ks.getD i.val (ByteArray.empty, 0)) (ks.getD j.val (ByteArray.empty, 0))
  simp only [Bool.or_eq_true, Bool.and_eq_true, Bool.not_eq_true', decide_eq_true_eq, decide_eq_false_iff_not]
  omega
theorem ltS_swo (ks : List Spell) (m : Nat) : Sort.SWO (ltS ks m) := by
  refine ⟨fun x => ?_, fun x y z h k => ?_, fun x y z h k => ?_⟩
  · rw [← Bool.not_eq_true, ltS_iff, cmpS_self]; omega
  · rw [ltS_iff] at *
    rcases h with h | ⟨h, h'⟩
    · rcases k with k | ⟨k, _⟩
      · exact .inl (cmpS_trans _ _ _ h k)
      · rw [← cmpS_zero k]; exact .inl h
    · rw [cmpS_zero h]
      rcases k with k | ⟨k, k'⟩
      · exact .inl k
      · exact .inr ⟨k, by omega⟩
  · rw [← Bool.not_eq_true, ltS_iff] at *
    intro hk
    have a1 := cmpS_anti (ks.getD x.val (ByteArray.empty, 0)) (ks.getD y.val (ByteArray.empty, 0))
    have a2 := cmpS_anti (ks.getD y.val (ByteArray.empty, 0)) (ks.getD z.val (ByteArray.empty, 0))
    have a3 := cmpS_anti (ks.getD x.val (ByteArray.empty, 0)) (ks.getD z.val (ByteArray.empty, 0))
    have v1 := cmpS_vals (ks.getD x.val (ByteArray.empty, 0)) (ks.getD y.val (ByteArray.empty, 0))
    have v2 := cmpS_vals (ks.getD y.val (ByteArray.empty, 0)) (ks.getD z.val (ByteArray.empty, 0))
    by_cases e1 : cmpSpell (ks.getD x.val (ByteArray.empty, 0)) (ks.getD y.val (ByteArray.empty, 0)) = 0
    · rw [cmpS_zero e1] at hk
      omega
    · by_cases e2 : cmpSpell (ks.getD y.val (ByteArray.empty, 0)) (ks.getD z.val (ByteArray.empty, 0)) = 0
      · rw [← cmpS_zero e2] at hk
        omega
      · have t := cmpS_trans (ks.getD z.val (ByteArray.empty, 0)) (ks.getD y.val (ByteArray.empty, 0)) (ks.getD x.val (ByteArray.empty, 0)) (by omega) (by omega)
        have a4 := cmpS_anti (ks.getD z.val (ByteArray.empty, 0)) (ks.getD x.val (ByteArray.empty, 0))
        omega

theorem sortM_facts (ks : List Spell) (m : Nat) : (sortM ks m).Perm (List.ofFn (n := m + 1) id) ∧ (sortM ks m).Pairwise fun x y => ltS ks m y x = false := by
  have hsz : (Array.ofFn (n := m + 1) (id : Fin (m + 1) → Fin (m + 1))).size = m + 1 := by simp
  have hk : ∀ p, p < m + 1 → (Array.ofFn (n := m + 1) (id : Fin (m + 1) → Fin (m + 1)))[p]!.val = p := fun p hp => by
    rw [getElem!_pos _ p (by rw [hsz]; exact hp), Array.getElem_ofFn]; rfl
  have e : sortM ks m = (Sort.insertionSort (ltS ks m) (Array.ofFn (n := m + 1) id) 0 (m + 1)).toList := by
    unfold sortM Sort.insertionSort
    rw [outer_F _ (m + 1) m 1 _ (by omega)]
    show (insF (ltC ks m) m 1 _).toList = _
    rw [insF_same (ltC ks m) (ltS ks m) (fun x => x.val) (fun x y h => by
      show (ltC ks m x y || (!ltC ks m y x && decide (x.val < y.val))) = ltC ks m x y
      rw [decide_eq_false (by omega)]; simp) m 1 _ (by rw [hsz]; omega) (fun p q hp hq hqs => ?_) (fun p q hp hpq hqs => ?_)]
    · rw [hsz] at hqs
      show (Array.ofFn (n := m + 1) (id : Fin (m + 1) → Fin (m + 1)))[p]!.val < (Array.ofFn (n := m + 1) (id : Fin (m + 1) → Fin (m + 1)))[q]!.val
      rw [hk p (by omega), hk q hqs]; omega
    · rw [hsz] at hqs
      show (Array.ofFn (n := m + 1) (id : Fin (m + 1) → Fin (m + 1)))[p]!.val < (Array.ofFn (n := m + 1) (id : Fin (m + 1) → Fin (m + 1)))[q]!.val
      rw [hk p (by omega), hk q hqs]; omega
  rw [e]
  obtain ⟨⟨h1, _, h3⟩, h4⟩ := Sort.insertionSort_holds (lt := ltS ks m) (ltS_swo ks m) (Array.ofFn (n := m + 1) id) 0 (m + 1) (by omega) (by rw [hsz]; exact Nat.le_refl _)
  have hd : (Sort.insertionSort (ltS ks m) (Array.ofFn (n := m + 1) id) 0 (m + 1)).size = m + 1 := by rw [h1, hsz]
  refine ⟨?_, ?_⟩
  · have e1 : ∀ (β : Type) (d : Array β) (k : Nat), d.size = k → d.extract 0 k = d := by rintro β d k rfl; exact Array.extract_size
    rw [e1 _ _ _ hd, e1 _ _ _ hsz] at h3
    simpa using h3
  · rw [List.pairwise_iff_getElem]
    intro i j hi hj hij
    have := h4 i j (Nat.zero_le _) hij (by simpa [hd] using hj)
    rw [getElem!_pos _ j (by simpa using hj), getElem!_pos _ i (by simpa using hi)] at this
    simpa using this

/-- The indices of Sort: each once; in the order of the names, the same name by its index. -/
theorem sortG_facts (ss : List ByteArray) : ∃ N : List Nat, sortG (ss.map spellOf) = N.map (fun i : Nat => (i : Int)) ∧ N.Perm (List.range ss.length) ∧ N.Pairwise fun x y => cmpAt ss x y < 0 ∨ (cmpAt ss x y = 0 ∧ x < y) := by
  cases hm : ss.length with
  | zero =>
    have : ss = [] := List.eq_nil_of_length_eq_zero hm
    subst this
    exact ⟨[], rfl, List.Perm.refl _, List.Pairwise.nil⟩
  | succ m =>
    obtain ⟨h1, h2⟩ := sortM_facts (ss.map spellOf) m
    refine ⟨(sortM (ss.map spellOf) m).map (·.val), ?_, ?_, ?_⟩
    · rw [sortG_eq _ m (by simpa using hm), List.map_map]; rfl
    · refine (h1.map _).trans ?_
      rw [List.map_ofFn]
      have e : List.ofFn (n := m + 1) ((fun x => x.val) ∘ id) = List.range (m + 1) := by
        apply List.ext_getElem
        · simp
        · intro i h3 h4; rw [List.getElem_ofFn, List.getElem_range]; rfl
      rw [e]
    · have hn : (sortM (ss.map spellOf) m).Nodup := by
        rw [h1.nodup_iff]
        rw [List.nodup_iff_pairwise_ne, List.pairwise_iff_getElem]
        intro i j hi hj hij e
        rw [List.getElem_ofFn, List.getElem_ofFn] at e
        have e2 := congrArg Fin.val e
        dsimp only [id] at e2
        omega
      rw [List.pairwise_map]
      refine (h2.and hn).imp ?_
      rintro x y ⟨h3, h4⟩
      rw [← Bool.not_eq_true, ltS_iff] at h3
      have hx : x.val < ss.length := by rw [hm]; exact x.isLt
      have hy : y.val < ss.length := by rw [hm]; exact y.isLt
      have e : cmpAt ss x.val y.val = cmpSpell ((ss.map spellOf).getD x.val (ByteArray.empty, 0)) ((ss.map spellOf).getD y.val (ByteArray.empty, 0)) := by
        unfold cmpAt
        rw [getD_at ss _ hx, getD_at ss _ hy, spell_getD ss _ hx, spell_getD ss _ hy]
      have a1 := cmpS_anti ((ss.map spellOf).getD x.val (ByteArray.empty, 0)) ((ss.map spellOf).getD y.val (ByteArray.empty, 0))
      have v1 := cmpS_vals ((ss.map spellOf).getD x.val (ByteArray.empty, 0)) ((ss.map spellOf).getD y.val (ByteArray.empty, 0))
      have hne : x.val ≠ y.val := fun e => h4 (Fin.ext e)
      rw [e]
      omega
end Go.Proofs.YtljlkhaolfihjaaGreatDoor

/- A list that is sorted: the place of each name, and no name at a wrong place. -/
namespace Go.Proofs.YtljlkhaolfihjaaGreatDoor
open Go.RowKit

theorem made_eq {x y : ByteArray} (hx : Made6 x) (hy : Made6 y) (h : cmpSpell (spellOf x) (spellOf y) = 0) : x = y := by
  have e : spellOf x = spellOf y := cmpS_zero h
  rcases line_cases x y hx.2.2 hy.2.2 hx.1 hy.1 with h1 | h1 | h1 | h1 | h1
  · rw [h] at h1; exact absurd h1.1 (by decide)
  · rw [h] at h1; exact absurd h1.1 (by decide)
  · rw [h] at h1; exact absurd h1.1 (by decide)
  · rw [h] at h1; exact absurd h1.1 (by decide)
  · exact bytes_inj (by simpa using h1.2.2.1)
/-- In order, all of them. -/
def Asc2 (T : List ByteArray) : Prop := ∀ a b, a < b → b < T.length → cmpAt T a b ≤ 0
theorem asc_ord {T : List ByteArray} (h : Asc2 T) : ordB T = true := ord_true fun i hi => by
  have h1 := h i (i + 1) (by omega) hi
  have h2 : cmpAt T (i + 1) i = - cmpAt T i (i + 1) := cmpS_anti _ _
  omega
theorem place_sorted {T : List ByteArray} (h : Asc2 T) (hm : ∀ i (h : i < T.length), Made6 T[i]) {i f : Nat} (hi : i < T.length) (hf : f ≤ i) (h1 : ∀ j (hj : j < T.length), f ≤ j → j ≤ i → T[j] = T[i]) (h2 : f = 0 ∨ ∃ h9 : f - 1 < T.length, T[f - 1] ≠ T[i]) : placeN T T[i] = f := by
  have e : ∀ j (hj : j < T.length), cmpT T (spellOf T[i]) j = cmpAt T j i := fun j hj => by
    unfold cmpT cmpAt; rw [getD_at T i hi]
  refine place_eq T T[i] f (by omega) (fun j hj => ?_) (fun j h3 h4 => ?_)
  · have hf0 : f - 1 < T.length := by omega
    have hs : cmpT T (spellOf T[i]) (f - 1) < 0 := by
      rw [e _ hf0]
      have h5 := h (f - 1) i (by omega) hi
      rcases h2 with h2 | ⟨h9, h2⟩
      · omega
      · have h6 : cmpAt T (f - 1) i ≠ 0 := fun h7 => h2 (made_eq (hm _ hf0) (hm _ hi) (by
          unfold cmpAt at h7; rw [getD_at T _ hf0, getD_at T _ hi] at h7; exact h7))
        omega
    exact ord_mono (asc_ord h) (spellOf T[i]) j (f - 1) (by omega) hf0 hs
  · rw [e _ h4]
    by_cases h5 : j ≤ i
    · have h6 := h1 j h4 h3 h5
      unfold cmpAt
      rw [getD_at T _ h4, getD_at T _ hi, h6, cmpS_self]
      exact Int.le_refl _
    · have h7 := h i j (by omega) h4
      have h8 : cmpAt T j i = - cmpAt T i j := cmpS_anti _ _
      omega
theorem without_none (ss : List ByteArray) : ∀ k, withoutFrom [] k ss = ss := by
  induction ss with
  | nil => intro k; rfl
  | cons s t ih =>
    intro k
    unfold withoutFrom
    rw [if_neg (by simp [hasB]), ih]
theorem wrong_none {T : List ByteArray} (h : ordB T = true) : wrongX T = [] := by
  have hs : subsL 0 0 T.length = [[]] := rfl
  exact wrong_first (ss := T) (k := 0) (i := 0) (Nat.zero_le _) (by rw [hs]; decide) (fun x hx => by simp [lessI, allI] at hx) (fun x hx => by simp at hx) (by
    show ordB (withoutFrom [] 0 T) = true
    rw [without_none]; exact h)

/-- The names in the order of some indices. -/
def named (sa : List ByteArray) (N : List Nat) : List ByteArray := N.map fun i => sa.getD i ByteArray.empty
theorem named_len (sa : List ByteArray) (N : List Nat) : (named sa N).length = N.length := by unfold named; simp
theorem named_at (sa : List ByteArray) (N : List Nat) (i : Nat) (h : i < N.length) : (named sa N).getD i ByteArray.empty = sa.getD N[i] ByteArray.empty := by
  unfold named; rw [List.getD_eq_getElem?_getD, List.getElem?_map, List.getElem?_eq_getElem h]; rfl
theorem named_cmp (sa : List ByteArray) (N : List Nat) (i j : Nat) (hi : i < N.length) (hj : j < N.length) : cmpAt (named sa N) i j = cmpAt sa N[i] N[j] := by
  unfold cmpAt; rw [named_at _ _ _ hi, named_at _ _ _ hj]
theorem named_pair {sa : List ByteArray} {N : List Nat} (h : N.Pairwise fun x y => cmpAt sa x y < 0 ∨ (cmpAt sa x y = 0 ∧ x < y)) {i j : Nat} (hij : i < j) (hj : j < N.length) : cmpAt (named sa N) i j < 0 ∨ (cmpAt (named sa N) i j = 0 ∧ N[i] < N[j]) := by
  rw [named_cmp sa N i j (by omega) hj]
  exact List.pairwise_iff_getElem.1 h i j (by omega) hj hij
theorem named_asc {sa : List ByteArray} {N : List Nat} (h : N.Pairwise fun x y => cmpAt sa x y < 0 ∨ (cmpAt sa x y = 0 ∧ x < y)) : Asc2 (named sa N) := fun a b hab hb => by
  rw [named_len] at hb
  rcases named_pair h hab hb with h1 | ⟨h1, _⟩ <;> omega
theorem named_step (sa : List ByteArray) (N : List Nat) (k : Nat) (hk : k < N.length) (hb : N[k] < sa.length) : named sa (N.take (k + 1)) = named sa (N.take k) ++ [sa[N[k]]] := by
  unfold named
  rw [List.take_succ_eq_append_getElem hk, List.map_append]
  simp [List.getElem?_eq_getElem hb]
end Go.Proofs.YtljlkhaolfihjaaGreatDoor

/- The order of a list as the reference counts it. Nothing of the program's code. -/
namespace Go.Proofs.YtljlkhaolfihjaaGreatDoor

def before2 (ss : List ByteArray) (x y : Nat) : Prop := cmpAt ss x y < 0 ∨ (cmpAt ss x y = 0 ∧ x < y)
theorem cmpAt_anti (ss : List ByteArray) (x y : Nat) : cmpAt ss y x = - cmpAt ss x y := cmpS_anti _ _
theorem hit_iff (ss : List ByteArray) (i k : Nat) (hi : i < ss.length) (hk : k < ss.length) : hitB ss i k = true ↔ before2 ss k i := by
  unfold hitB before2
  rw [at_get ss k hk, at_get ss i hi, cmp_before, cmp_before]
  have e1 : cmpAt ss k i = cmpSpell (spellOf ss[k]) (spellOf ss[i]) := by unfold cmpAt; rw [getD_at ss _ hk, getD_at ss _ hi]
  have e2 := cmpS_anti (spellOf ss[k]) (spellOf ss[i])
  rw [e1, e2]
  simp only [Bool.or_eq_true, Bool.and_eq_true, Bool.not_eq_true', decide_eq_true_eq, decide_eq_false_iff_not]
  omega
theorem rank_at {ss : List ByteArray} {N : List Nat} (h1 : N.Perm (List.range ss.length)) (h2 : N.Pairwise fun x y => before2 ss x y) {p : Nat} (hp : p < N.length) : rank ss N[p] = p := by
  have hm : ∀ x, x ∈ N → x < ss.length := fun x hx => List.mem_range.1 (h1.mem_iff.1 hx)
  unfold rank
  rw [← h1.countP_eq]
  have hNp := hm _ (List.getElem_mem hp)
  have ht : (N.take p).countP (hitB ss N[p]) = p := by
    have hl : (N.take p).length = p := by rw [List.length_take]; omega
    rw [List.countP_eq_length.2, hl]
    intro x hx
    obtain ⟨q, hq, rfl⟩ := List.mem_iff_getElem.1 hx
    rw [List.getElem_take]
    rw [hl] at hq
    exact (hit_iff ss _ _ hNp (hm _ (List.getElem_mem _))).2 (List.pairwise_iff_getElem.1 h2 q p (by omega) hp hq)
  have hd : (N.drop p).countP (hitB ss N[p]) = 0 := by
    rw [List.countP_eq_zero]
    intro x hx
    obtain ⟨q, hq, rfl⟩ := List.mem_iff_getElem.1 hx
    rw [List.getElem_drop]
    rw [List.length_drop] at hq
    rw [hit_iff ss _ _ hNp (hm _ (List.getElem_mem _))]
    intro hb
    unfold before2 at hb
    by_cases e : q = 0
    · subst e
      have := cmpAt_anti ss N[p] N[p]
      simp only [Nat.add_zero] at hb
      omega
    · have h3 := List.pairwise_iff_getElem.1 h2 p (p + q) hp (by omega) (by omega)
      unfold before2 at h3
      have := cmpAt_anti ss N[p] N[p + q]
      omega
  have e3 : (N.take p ++ N.drop p).countP (hitB ss N[p]) = (N.take p).countP (hitB ss N[p]) + (N.drop p).countP (hitB ss N[p]) := List.countP_append
  rw [List.take_append_drop, ht, hd] at e3
  exact e3

theorem fold_other (r : Nat → Nat) : ∀ (L : List Nat) (o : List Int) (p : Nat), (∀ i, i ∈ L → r i ≠ p) → (L.foldl (fun o i => o.set (r i) (i : Int)) o)[p]? = o[p]?
  | [], _, _, _ => rfl
  | a :: t, o, p, h => by
    rw [List.foldl_cons, fold_other r t _ p fun i hi => h i (by simp [hi]), List.getElem?_set_ne (h a (by simp))]
theorem fold_at (r : Nat → Nat) : ∀ (L : List Nat) (o : List Int), (∀ i, i ∈ L → r i < o.length) → L.Pairwise (fun x y => r x ≠ r y) → ∀ i, i ∈ L → (L.foldl (fun o i => o.set (r i) (i : Int)) o)[r i]? = some (i : Int)
  | [], _, _, _, i, hi => by cases hi
  | a :: t, o, h, hd, i, hi => by
    rw [List.foldl_cons]
    have hd2 := List.pairwise_cons.1 hd
    rcases List.mem_cons.1 hi with rfl | hi
    · rw [fold_other r t _ _ fun k hk e => hd2.1 k hk e.symm, List.getElem?_set_self (h i (by simp))]
    · exact fold_at r t _ (fun k hk => by rw [List.length_set]; exact h k (by simp [hk])) hd2.2 i hi

theorem sort_eq (ss : List ByteArray) : sortG (ss.map spellOf) = sortTo ss ss.length := by
  obtain ⟨N, h0, h1, h2⟩ := sortG_facts ss
  have hl : N.length = ss.length := by rw [h1.length_eq, List.length_range]
  rw [h0]
  apply List.ext_getElem?
  intro p
  by_cases hp : p < N.length
  · have hr := rank_at h1 h2 hp
    have hN : N[p] ∈ List.range ss.length := h1.mem_iff.1 (List.getElem_mem hp)
    have hinj : (List.range ss.length).Pairwise (fun x y => rank ss x ≠ rank ss y) := by
      rw [List.pairwise_iff_getElem]
      intro i j hi hj hij e
      rw [List.getElem_range, List.getElem_range] at e
      rw [List.length_range] at hi hj
      obtain ⟨a, ha, ea⟩ := List.mem_iff_getElem.1 (h1.mem_iff.2 (List.mem_range.2 hi))
      obtain ⟨b, hb, eb⟩ := List.mem_iff_getElem.1 (h1.mem_iff.2 (List.mem_range.2 hj))
      have r1 := rank_at h1 h2 ha
      have r2 := rank_at h1 h2 hb
      rw [ea] at r1
      rw [eb] at r2
      have : a = b := by omega
      subst this
      omega
    have hf := fold_at (rank ss) (List.range ss.length) (List.replicate ss.length 0) (fun i hi => by rw [List.length_replicate]; exact rank_lt ss i (List.mem_range.1 hi)) hinj N[p] hN
    rw [hr] at hf
    rw [List.getElem?_map, List.getElem?_eq_getElem hp]
    exact hf.symm
  · rw [List.getElem?_eq_none (by rw [List.length_map]; omega), List.getElem?_eq_none (by rw [sortTo_len]; omega)]
theorem sortP_eq (ss : List ByteArray) : sortP ss = sortL ss := by
  unfold sortP sortL
  split
  · exact sort_eq ss
  · rfl
end Go.Proofs.YtljlkhaolfihjaaGreatDoor
