/- Which names are near, in their order. Nothing of the program's code. -/
import Derived.Test.YtlhiekeolmgilaaGreatDoorSpecY
import Derived.Test.YtlhiekeolmgilaaGreatDoorSpecU
namespace Go.Proofs.YtlhiekeolmgilaaGreatDoor

/-- The uses to each name of a list, if any; the places of those that are near. -/
def uOf (us : List (Option Nat)) (i : Nat) : Nat := (us.getD i none).getD 0
def ltU (us : List (Option Nat)) (i j : Nat) : Bool := decide (uOf us i < uOf us j)
def nearAt (us : List (Option Nat)) (j : Nat) : List Nat := (List.range j).filter fun i => (us.getD i none).isSome
def nearS (us : List (Option Nat)) : List Nat := sortNat (ltU us) (nearAt us us.length)
/-- The places below j with so many uses; all of them in their order. -/
def withU (us : List (Option Nat)) (n j : Nat) : List Nat := (List.range j).filter fun i => us.getD i none == some n
def nearO (us : List (Option Nat)) : List Nat := withU us 0 us.length ++ (withU us 1 us.length ++ withU us 2 us.length)

def allU : Nat → List (List (Option Nat))
  | 0 => [[]]
  | n + 1 => (allU n).flatMap fun t => [none :: t, some 0 :: t, some 1 :: t, some 2 :: t]
theorem mem_allU : ∀ (us : List (Option Nat)), (∀ u, u ∈ us → ∀ n, u = some n → n ≤ 2) → us ∈ allU us.length
  | [], _ => List.mem_singleton.2 rfl
  | u :: t, h => by
    unfold allU
    refine List.mem_flatMap.2 ⟨t, mem_allU t (fun v hv => h v (by simp [hv])), ?_⟩
    cases u with
    | none => simp
    | some n =>
      have := h (some n) (by simp) n rfl
      have h3 : n = 0 ∨ n = 1 ∨ n = 2 := by omega
      rcases h3 with rfl | rfl | rfl <;> simp
set_option maxRecDepth 100000 in
theorem near_few : ((List.range 5).all fun n => (allU n).all fun us => decide (nearS us = nearO us)) = true := by decide +kernel
set_option maxRecDepth 100000 in
theorem near_600 : ((allU 4).all fun t => decide (nearS (t ++ [none, none]) = nearO (t ++ [none, none]))) = true := by decide +kernel
set_option maxRecDepth 100000 in
theorem near_601 : ((allU 4).all fun t => decide (nearS (t ++ [none, some 0]) = nearO (t ++ [none, some 0]))) = true := by decide +kernel
set_option maxRecDepth 100000 in
theorem near_602 : ((allU 4).all fun t => decide (nearS (t ++ [none, some 1]) = nearO (t ++ [none, some 1]))) = true := by decide +kernel
set_option maxRecDepth 100000 in
theorem near_603 : ((allU 4).all fun t => decide (nearS (t ++ [none, some 2]) = nearO (t ++ [none, some 2]))) = true := by decide +kernel
set_option maxRecDepth 100000 in
theorem near_610 : ((allU 4).all fun t => decide (nearS (t ++ [some 0, none]) = nearO (t ++ [some 0, none]))) = true := by decide +kernel
set_option maxRecDepth 100000 in
theorem near_611 : ((allU 4).all fun t => decide (nearS (t ++ [some 0, some 0]) = nearO (t ++ [some 0, some 0]))) = true := by decide +kernel
set_option maxRecDepth 100000 in
theorem near_612 : ((allU 4).all fun t => decide (nearS (t ++ [some 0, some 1]) = nearO (t ++ [some 0, some 1]))) = true := by decide +kernel
set_option maxRecDepth 100000 in
theorem near_613 : ((allU 4).all fun t => decide (nearS (t ++ [some 0, some 2]) = nearO (t ++ [some 0, some 2]))) = true := by decide +kernel
set_option maxRecDepth 100000 in
theorem near_620 : ((allU 4).all fun t => decide (nearS (t ++ [some 1, none]) = nearO (t ++ [some 1, none]))) = true := by decide +kernel
set_option maxRecDepth 100000 in
theorem near_621 : ((allU 4).all fun t => decide (nearS (t ++ [some 1, some 0]) = nearO (t ++ [some 1, some 0]))) = true := by decide +kernel
set_option maxRecDepth 100000 in
theorem near_622 : ((allU 4).all fun t => decide (nearS (t ++ [some 1, some 1]) = nearO (t ++ [some 1, some 1]))) = true := by decide +kernel
set_option maxRecDepth 100000 in
theorem near_623 : ((allU 4).all fun t => decide (nearS (t ++ [some 1, some 2]) = nearO (t ++ [some 1, some 2]))) = true := by decide +kernel
set_option maxRecDepth 100000 in
theorem near_630 : ((allU 4).all fun t => decide (nearS (t ++ [some 2, none]) = nearO (t ++ [some 2, none]))) = true := by decide +kernel
set_option maxRecDepth 100000 in
theorem near_631 : ((allU 4).all fun t => decide (nearS (t ++ [some 2, some 0]) = nearO (t ++ [some 2, some 0]))) = true := by decide +kernel
set_option maxRecDepth 100000 in
theorem near_632 : ((allU 4).all fun t => decide (nearS (t ++ [some 2, some 1]) = nearO (t ++ [some 2, some 1]))) = true := by decide +kernel
set_option maxRecDepth 100000 in
theorem near_633 : ((allU 4).all fun t => decide (nearS (t ++ [some 2, some 2]) = nearO (t ++ [some 2, some 2]))) = true := by decide +kernel
set_option maxRecDepth 100000 in
theorem near_50 : ((allU 4).all fun t => decide (nearS (t ++ [none]) = nearO (t ++ [none]))) = true := by decide +kernel
set_option maxRecDepth 100000 in
theorem near_51 : ((allU 4).all fun t => decide (nearS (t ++ [some 0]) = nearO (t ++ [some 0]))) = true := by decide +kernel
set_option maxRecDepth 100000 in
theorem near_52 : ((allU 4).all fun t => decide (nearS (t ++ [some 1]) = nearO (t ++ [some 1]))) = true := by decide +kernel
set_option maxRecDepth 100000 in
theorem near_53 : ((allU 4).all fun t => decide (nearS (t ++ [some 2]) = nearO (t ++ [some 2]))) = true := by decide +kernel
theorem vals4 {u : Option Nat} (h : ∀ n, u = some n → n ≤ 2) : u = none ∨ u = some 0 ∨ u = some 1 ∨ u = some 2 := by
  cases u with
  | none => exact .inl rfl
  | some n =>
    have := h n rfl
    have h3 : n = 0 ∨ n = 1 ∨ n = 2 := by omega
    rcases h3 with rfl | rfl | rfl <;> simp
theorem near_sorted (us : List (Option Nat)) (h6 : us.length ≤ 6) (h : ∀ u, u ∈ us → ∀ n, u = some n → n ≤ 2) : nearS us = nearO us := by
  by_cases h4 : us.length ≤ 4
  · have h1 := List.all_eq_true.1 near_few us.length (List.mem_range.2 (by omega))
    exact of_decide_eq_true (List.all_eq_true.1 h1 us (mem_allU us h))
  · obtain ⟨t, s, rfl, ht⟩ : ∃ t s, us = t ++ s ∧ t.length = 4 := ⟨us.take 4, us.drop 4, (List.take_append_drop 4 us).symm, by rw [List.length_take]; omega⟩
    have hm := mem_allU t (fun u hu => h u (by simp [hu]))
    rw [ht] at hm
    rw [List.length_append] at h6 h4
    match s, h6, h4 with
    | [], _, h4 => simp at h4; omega
    | [a], _, _ =>
      rcases vals4 (h a (by simp)) with rfl | rfl | rfl | rfl
      · exact of_decide_eq_true (List.all_eq_true.1 near_50 t hm)
      · exact of_decide_eq_true (List.all_eq_true.1 near_51 t hm)
      · exact of_decide_eq_true (List.all_eq_true.1 near_52 t hm)
      · exact of_decide_eq_true (List.all_eq_true.1 near_53 t hm)
    | [a, b], _, _ =>
      rcases vals4 (h a (by simp)) with rfl | rfl | rfl | rfl <;> rcases vals4 (h b (by simp)) with rfl | rfl | rfl | rfl
      · exact of_decide_eq_true (List.all_eq_true.1 near_600 t hm)
      · exact of_decide_eq_true (List.all_eq_true.1 near_601 t hm)
      · exact of_decide_eq_true (List.all_eq_true.1 near_602 t hm)
      · exact of_decide_eq_true (List.all_eq_true.1 near_603 t hm)
      · exact of_decide_eq_true (List.all_eq_true.1 near_610 t hm)
      · exact of_decide_eq_true (List.all_eq_true.1 near_611 t hm)
      · exact of_decide_eq_true (List.all_eq_true.1 near_612 t hm)
      · exact of_decide_eq_true (List.all_eq_true.1 near_613 t hm)
      · exact of_decide_eq_true (List.all_eq_true.1 near_620 t hm)
      · exact of_decide_eq_true (List.all_eq_true.1 near_621 t hm)
      · exact of_decide_eq_true (List.all_eq_true.1 near_622 t hm)
      · exact of_decide_eq_true (List.all_eq_true.1 near_623 t hm)
      · exact of_decide_eq_true (List.all_eq_true.1 near_630 t hm)
      · exact of_decide_eq_true (List.all_eq_true.1 near_631 t hm)
      · exact of_decide_eq_true (List.all_eq_true.1 near_632 t hm)
      · exact of_decide_eq_true (List.all_eq_true.1 near_633 t hm)
    | _ :: _ :: _ :: _, h6, _ => simp at h6; omega
end Go.Proofs.YtlhiekeolmgilaaGreatDoor
