/- Facts on keys. -/
import Derived.Test.YtapagncaadjiaaaGreatDoorPgQ
namespace Go.Proofs.YtapagncaadjiaaaGreatDoor
open Go.RowKit Go.Shelf

def lettersTo (m : Nat) : List Nat := (List.range (m - 1)).map (· + 1)
theorem lettersTo_succ (m : Nat) (h : 1 ≤ m) : lettersTo (m + 1) = lettersTo m ++ [m] := by
  unfold lettersTo
  rw [show m + 1 - 1 = (m - 1) + 1 by omega, List.range_succ, List.map_append]
  simp
  omega
theorem others_list (x : ByteArray) (L : List ByteArray) : ((L.map keyS).filter fun s => decide (s ≠ keyS x)).map (fun o => o.data.toList) = (L.map fun s => Sp.key s.data.toList).filter fun k => decide (k ≠ Sp.key x.data.toList) := by
  induction L with
  | nil => rfl
  | cons a t ih =>
    have e : (keyS a = keyS x) ↔ (Sp.key a.data.toList = Sp.key x.data.toList) := by
      constructor
      · intro h
        have := congrArg (fun b : ByteArray => b.data.toList) h
        simpa [keyS] using this
      · intro h; unfold keyS; rw [h]
    simp only [List.map_cons]
    rw [List.filter_cons, List.filter_cons]
    by_cases hc : Sp.key a.data.toList = Sp.key x.data.toList
    · rw [if_neg (by simp [e.2 hc]), if_neg (by simp [hc])]
      exact ih
    · rw [if_pos (by simpa using fun h => hc (e.1 h)), if_pos (by simpa using hc), List.map_cons, ih]
      rfl
theorem latP_asc (c : UInt8) : c.toNat < 128 → ∀ b, b ∈ latP c → b.toNat < 128 := byte_all (p := fun c => c.toNat < 128 → ∀ b, b ∈ latP c → b.toNat < 128) (by decide +kernel) c
theorem latP_pos (c : UInt8) : alphaP (c.toNat : Int) ≠ 0 → 1 ≤ (latP c).length := byte_all (p := fun c => alphaP (c.toNat : Int) ≠ 0 → 1 ≤ (latP c).length) (by decide +kernel) c
theorem others_eq (ss : List ByteArray) (i : Nat) (h : i < ss.length) : (othersB ss i).map (fun o => o.data.toList) = othersK ss i := by
  unfold othersB othersK
  have e : ss.getD i ByteArray.empty = ss[i] := by rw [List.getD_eq_getElem?_getD, List.getElem?_eq_getElem h]; rfl
  rw [e, at_get ss i h]
  exact others_list ss[i] ss
theorem key_facts {s : ByteArray} (h : Sp.check s.data.toList = 0) : (1 ≤ (keyS s).size ∧ (keyS s).size ≤ 12) ∧ Asc (keyS s) := by
  have h1 := check_size h
  have hf := latP_flat h
  have hva := valid_alpha h
  have has := valid_ascii h
  have hne := alphaN_ne s.data.toList
  have h2 := keyS_size h1.2
  have hd : (keyS s).data.toList = s.data.toList.flatMap latP := by rw [hf]; rfl
  refine ⟨⟨?_, h2⟩, ?_⟩
  · have h3 : 1 ≤ (s.data.toList.flatMap latP).length := by
      cases hl : s.data.toList with
      | nil => have := size_list s; rw [hl] at this; simp at this; omega
      | cons x t =>
        have hx := hva x (by rw [hl]; simp)
        have : 1 ≤ (latP x).length := latP_pos x (by rw [hx]; omega)
        rw [List.flatMap_cons, List.length_append]
        omega
    rw [← hd] at h3
    simpa using h3
  · intro b hb
    rw [hd] at hb
    obtain ⟨c, hc, hbc⟩ := List.mem_flatMap.1 hb
    exact latP_asc c (has c hc) b hbc

theorem othersB_len (ss : List ByteArray) (i : Nat) : (othersB ss i).length ≤ ss.length := by
  unfold othersB
  refine Nat.le_trans (List.length_filter_le _ _) ?_
  rw [List.length_map]; exact Nat.le_refl _
theorem othersB_le (ss : List ByteArray) (i : Nat) (h : AllOk ss) : ∀ o, o ∈ othersB ss i → o.size ≤ 1000 := by
  intro o ho
  unfold othersB at ho
  obtain ⟨s, hs, rfl⟩ := List.mem_map.1 (List.mem_filter.1 ho).1
  have := (key_facts (h s hs)).1.2
  omega

end Go.Proofs.YtapagncaadjiaaaGreatDoor
