/- What goes through the ascending lists of numbers, in the order in which it grows them. -/
import Derived.Test.YtljlkhaolfihjaaGreatDoorKitS
namespace Go.Proofs.YtljlkhaolfihjaaGreatDoor
open Go.RowKit

def growI (n : Nat) : Nat → List Int → Nat → List (List Int)
  | 0, pre, _ => [pre]
  | d + 1, pre, f => (List.range (n - f)).flatMap fun e => growI n d (pre ++ [((f + e : Nat) : Int)]) (f + e + 1)
def growTo (n d : Nat) (pre : List Int) (f j : Nat) : List (List Int) := (List.range j).flatMap fun e => growI n d (pre ++ [((f + e : Nat) : Int)]) (f + e + 1)
theorem growTo_succ (n d : Nat) (pre : List Int) (f j : Nat) : growTo n d pre f (j + 1) = growTo n d pre f j ++ growI n d (pre ++ [((f + j : Nat) : Int)]) (f + j + 1) := by
  unfold growTo
  rw [List.range_succ, List.flatMap_append]; simp
theorem growTo_all (n d : Nat) (pre : List Int) (f : Nat) : growTo n d pre f (n - f) = growI n (d + 1) pre f := rfl
theorem growTo_pre (n d : Nat) (pre : List Int) (f : Nat) {i j : Nat} (h : i ≤ j) : growTo n d pre f i <+: growTo n d pre f j := by
  obtain ⟨k, rfl⟩ : ∃ k, j = i + k := ⟨j - i, by omega⟩
  clear h
  induction k with
  | zero => exact List.prefix_refl _
  | succ k ih => rw [← Nat.add_assoc, growTo_succ]; exact ih.trans (List.prefix_append _ _)

theorem subsL_none (m : Nat) : ∀ f n, 1 ≤ m → n < f + m → subsL m f n = [] := by
  induction m with
  | zero => intro f n h; omega
  | succ m ih =>
    intro f n _ h
    unfold subsL
    rw [show n - m - f = 0 by omega]; rfl
theorem range_cut {α : Type} (a b : Nat) (h : a ≤ b) (g : Nat → List α) (hg : ∀ e, a ≤ e → e < b → g e = []) : (List.range b).flatMap g = (List.range a).flatMap g := by
  obtain ⟨k, rfl⟩ : ∃ k, b = a + k := ⟨b - a, by omega⟩
  clear h
  induction k with
  | zero => rfl
  | succ k ih =>
    rw [← Nat.add_assoc, List.range_succ, List.flatMap_append, ih fun e h1 h2 => hg e h1 (by omega)]
    simp [hg (a + k) (by omega) (by omega)]
theorem growI_eq (n d : Nat) : ∀ pre f, growI n d pre f = (subsL d f n).map (pre ++ ·) := by
  induction d with
  | zero => intro pre f; simp [growI, subsL]
  | succ d ih =>
    intro pre f
    show (List.range (n - f)).flatMap _ = _
    rw [range_cut (n - d - f) (n - f) (by omega) _ fun e h1 h2 => ?_]
    · unfold subsL
      rw [List.map_flatMap]
      congr 1
      funext e
      rw [ih, List.map_map]
      congr 1
      funext x
      simp
    · rw [ih, subsL_none d _ _ (by omega) (by omega)]; rfl
theorem growI_all (n size : Nat) : growI n size [] 0 = subsL size 0 n := by rw [growI_eq]; simp
end Go.Proofs.YtljlkhaolfihjaaGreatDoor
