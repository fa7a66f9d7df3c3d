/- Lists of made names; one cell more of a row. -/
import Derived.Test.YtlhiekeolmgilaaGreatDoorLawF0
namespace Go.Proofs.YtlhiekeolmgilaaGreatDoor
open Go.RowKit

theorem made_all {L : List ByteArray} (h : ∀ i (h : i < L.length), Made6 L[i]) : AllOk L := by
  intro s hs
  obtain ⟨i, hi, rfl⟩ := List.mem_iff_getElem.1 hs
  exact made_check (h i hi)
theorem made_snoc {L : List ByteArray} {X : ByteArray} (h : ∀ i (h : i < L.length), Made6 L[i]) (hX : Made6 X) : ∀ i (h : i < (L ++ [X]).length), Made6 (L ++ [X])[i] := by
  intro i hi
  by_cases hl : i < L.length
  · rw [List.getElem_append_left hl]; exact h i hl
  · rw [List.getElem_append_right (by omega)]
    have : i - L.length = 0 := by simp at hi; omega
    simp only [this]
    exact hX
theorem grown_set (w : World) (B j : Nat) (v : Value) : w.grownBy (w.setCell ⟨B, j, none⟩ v) (some B) :=
  ⟨rfl, rfl, rfl, by simp [World.setCell], fun k _ hk => Below.heap_setCell _ _ _ _ (fun e => hk (by simp [e]))⟩
theorem set_last (L : List ByteArray) (X Y : ByteArray) : ((L ++ [X]).map Value.string).set L.length (.string Y) = (L ++ [Y]).map Value.string := by
  rw [List.map_append, List.map_append, List.set_append_right _ _ (by simp)]
  simp
/-- The last cell of a row of strings. -/
theorem own_last {w : World} {base cap g : Nat} {e : TypeId} {xs : List Value} {v : Value} {n : Nat} (h : w.ownsRow base e 1 (.slice (some ⟨g, 0, none⟩) n cap) n (xs ++ [v])) (k : Nat) (hk : xs.length = k) : w.cell? ⟨g, k, none⟩ = some v := by
  have hl := h.1
  rw [List.length_append, Nat.mul_one] at hl
  rw [h.cellAt k (by simp at hl; omega), List.getElem?_append_right (by omega), hk]
  simp
end Go.Proofs.YtlhiekeolmgilaaGreatDoor
