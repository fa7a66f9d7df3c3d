/- The places of near names, one after the other. Nothing of the program's code. -/
import Derived.Test.YtlhiekeolmgilaaGreatDoorSpecN
namespace Go.Proofs.YtlhiekeolmgilaaGreatDoor

theorem ltU_swo (uu : List (Option Nat)) : Sort.SWO (ltU uu) := by
  refine ⟨fun x => ?_, fun x y z h k => ?_, fun x y z h k => ?_⟩
  all_goals
    unfold ltU at *
    simp only [decide_eq_true_eq, decide_eq_false_iff_not] at *
    omega
theorem withU_step (uu : List (Option Nat)) (n j : Nat) : withU uu n (j + 1) = withU uu n j ++ (if uu.getD j none = some n then [j] else []) := by
  unfold withU
  rw [List.range_succ, List.filter_append]
  congr 1
  by_cases h : uu.getD j none = some n
  · rw [if_pos h]
    have h2 : (uu.getD j none == some n) = true := beq_iff_eq.2 h
    simp only [List.filter_cons, h2]; rfl
  · rw [if_neg h]
    have h2 : (uu.getD j none == some n) = false := beq_eq_false_iff_ne.2 h
    simp only [List.filter_cons, h2]; rfl
theorem withU_pre (uu : List (Option Nat)) (n j : Nat) : ∀ d, ∃ r, withU uu n (j + d) = withU uu n j ++ r
  | 0 => ⟨[], by simp⟩
  | d + 1 => by
    obtain ⟨r, hr⟩ := withU_pre uu n j d
    exact ⟨r ++ (if uu.getD (j + d) none = some n then [j + d] else []), by rw [← Nat.add_assoc, withU_step, hr, List.append_assoc]⟩
theorem withU_nil (uu : List (Option Nat)) (n : Nat) : withU uu n 0 = [] := rfl

/-- The places of all names with fewer uses. -/
def lessU (uu : List (Option Nat)) : Nat → List Nat
  | 0 => []
  | 1 => withU uu 0 uu.length
  | 2 => withU uu 0 uu.length ++ withU uu 1 uu.length
  | _ => nearO uu
/-- .. and of those with as many uses, up to a place. -/
def doneU (uu : List (Option Nat)) (n i : Nat) : List Nat := lessU uu n ++ (if n ≤ 2 then withU uu n i else [])
theorem doneU_zero (uu : List (Option Nat)) : doneU uu 0 0 = [] := rfl
theorem doneU_end (uu : List (Option Nat)) : doneU uu 3 0 = nearO uu := by
  unfold doneU
  rw [if_neg (by decide), List.append_nil]
  rfl
theorem doneU_next (uu : List (Option Nat)) (n : Nat) (h : n ≤ 2) : doneU uu (n + 1) 0 = doneU uu n uu.length := by
  have h3 : n = 0 ∨ n = 1 ∨ n = 2 := by omega
  rcases h3 with rfl | rfl | rfl
  · show withU uu 0 uu.length ++ withU uu 1 0 = [] ++ withU uu 0 uu.length
    rw [withU_nil, List.append_nil]; rfl
  · show (withU uu 0 uu.length ++ withU uu 1 uu.length) ++ withU uu 2 0 = withU uu 0 uu.length ++ withU uu 1 uu.length
    rw [withU_nil, List.append_nil]
  · rw [doneU_end]
    show nearO uu = (withU uu 0 uu.length ++ withU uu 1 uu.length) ++ withU uu 2 uu.length
    rw [List.append_assoc]; rfl
theorem doneU_pre (uu : List (Option Nat)) (n i : Nat) (h : n ≤ 2) (hi : i ≤ uu.length) : ∃ r, nearO uu = doneU uu n i ++ r := by
  have h3 : n = 0 ∨ n = 1 ∨ n = 2 := by omega
  obtain ⟨r, hr⟩ := withU_pre uu n i (uu.length - i)
  rw [Nat.add_sub_cancel' hi] at hr
  rcases h3 with rfl | rfl | rfl
  · refine ⟨r ++ (withU uu 1 uu.length ++ withU uu 2 uu.length), ?_⟩
    show nearO uu = ([] ++ withU uu 0 i) ++ _
    unfold nearO
    rw [hr]; simp
  · refine ⟨r ++ withU uu 2 uu.length, ?_⟩
    show nearO uu = (withU uu 0 uu.length ++ withU uu 1 i) ++ _
    unfold nearO
    rw [hr]; simp
  · refine ⟨r, ?_⟩
    show nearO uu = ((withU uu 0 uu.length ++ withU uu 1 uu.length) ++ withU uu 2 i) ++ _
    unfold nearO
    rw [hr]; simp
theorem doneU_miss (uu : List (Option Nat)) (n i : Nat) (h : uu.getD i none ≠ some n) : doneU uu n (i + 1) = doneU uu n i := by
  unfold doneU
  rw [withU_step, if_neg h, List.append_nil]
theorem doneU_hit (uu : List (Option Nat)) (n i : Nat) (hn : n ≤ 2) (hi : i < uu.length) (h : uu.getD i none = some n) :
    doneU uu n (i + 1) = doneU uu n i ++ [i] ∧ (doneU uu n i).length < (nearO uu).length ∧ (nearO uu).getD (doneU uu n i).length 0 = i := by
  have h1 : doneU uu n (i + 1) = doneU uu n i ++ [i] := by
    unfold doneU
    rw [withU_step, if_pos h, if_pos hn, if_pos hn, List.append_assoc]
  obtain ⟨r, hr⟩ := doneU_pre uu n (i + 1) hn (by omega)
  rw [h1] at hr
  refine ⟨h1, ?_, ?_⟩
  · rw [hr]; simp
  · rw [hr, List.getD_eq_getElem?_getD, List.append_assoc, List.getElem?_append_right (Nat.le_refl _)]
    simp
end Go.Proofs.YtlhiekeolmgilaaGreatDoor
