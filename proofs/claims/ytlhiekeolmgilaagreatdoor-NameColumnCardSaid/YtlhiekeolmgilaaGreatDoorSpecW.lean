/- Abbreviations that lose a letter; which names one stands for. Nothing of the program's code. -/
import Derived.Test.YtlhiekeolmgilaaGreatDoorRefK
namespace Go.Proofs.YtlhiekeolmgilaaGreatDoor

theorem part_sub : ∀ (s t : List UInt8), partB s t = true ↔ s.Sublist t
  | [], t => by simp [partB]
  | a :: s, [] => by simp [partB]
  | a :: s, c :: t => by
    unfold partB
    by_cases h : c = a
    · subst h
      rw [if_pos rfl, part_sub s t]
      exact List.cons_sublist_cons.symm
    · rw [if_neg h, part_sub (a :: s) t]
      constructor
      · exact fun h => h.cons c
      · intro h1
        cases h1 with
        | cons _ h2 => exact h2
        | cons_cons _ _ => exact absurd rfl h

theorem abbr_erase {l k : List UInt8} {i : Nat} (h1 : 1 ≤ i) (hi : i < l.length) (h : abbrB l k = true) : abbrB (l.eraseIdx i) k = true := by
  unfold abbrB at *
  simp only [Bool.and_eq_true, decide_eq_true_eq] at *
  obtain ⟨a1, a2, a3⟩ := h
  refine ⟨?_, ?_, ?_⟩
  · rw [List.length_eraseIdx_of_lt hi]; omega
  · rw [← a2]
    cases l with
    | nil => simp at hi
    | cons c t =>
      cases i with
      | zero => omega
      | succ i => rfl
  · rw [part_sub] at *
    exact (List.eraseIdx_sublist l i).trans a3

theorem stands_mem (a : List UInt8) : ∀ (ss : List ByteArray) (k : Nat) (x : Int), x ∈ standsFrom a k ss ↔ ∃ i, ∃ h : i < ss.length, x = ((k + i : Nat) : Int) ∧ shortB a ss[i].data.toList = true
  | [], k, x => by simp [standsFrom]
  | s :: t, k, x => by
    unfold standsFrom
    have ih := stands_mem a t (k + 1) x
    constructor
    · intro hx
      split at hx
      · rename_i hs
        rcases List.mem_cons.1 hx with rfl | hx
        · exact ⟨0, by simp, by simp, hs⟩
        · obtain ⟨i, hi, e, hb⟩ := ih.1 hx
          exact ⟨i + 1, by simp; omega, by omega, hb⟩
      · obtain ⟨i, hi, e, hb⟩ := ih.1 hx
        exact ⟨i + 1, by simp; omega, by omega, hb⟩
    · rintro ⟨i, hi, e, hb⟩
      cases i with
      | zero =>
        have hs : shortB a s.data.toList = true := hb
        rw [if_pos hs]
        simp [e]
      | succ i =>
        have hm := ih.2 ⟨i, by simpa using hi, by omega, hb⟩
        split
        · exact List.mem_cons_of_mem _ hm
        · exact hm
theorem stands_len (a : List UInt8) : ∀ (ss : List ByteArray) (k : Nat), (standsFrom a k ss).length ≤ ss.length
  | [], _ => Nat.le_refl _
  | s :: t, k => by
    unfold standsFrom
    have := stands_len a t (k + 1)
    split <;> simp <;> omega

/-- The letters and the point. -/
theorem short_of {l : List UInt8} (h1 : 1 ≤ l.length) (h2 : l.length ≤ 12) (h3 : ∀ c, c ∈ l → Sp.latin c = true) : shortErr (l ++ [46]) = 0 := by
  unfold shortErr lettersB
  rw [if_pos]
  refine ⟨by simp, ?_⟩
  rw [List.dropLast_concat]
  simp only [Bool.and_eq_true, decide_eq_true_eq, List.all_eq_true]
  exact ⟨by omega, h3⟩
theorem short_letters (l : List UInt8) (n : List UInt8) : shortB (l ++ [46]) n = abbrB l (Sp.key n) := by
  unfold shortB
  rw [List.dropLast_concat]
end Go.Proofs.YtlhiekeolmgilaaGreatDoor
