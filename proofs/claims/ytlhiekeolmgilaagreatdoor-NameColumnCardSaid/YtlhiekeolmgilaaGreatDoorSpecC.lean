/- What is set in columns; abbreviations that can be mistaken. Nothing of the program's code. -/
import Derived.Test.YtlhiekeolmgilaaGreatDoorSpecX
import Derived.Test.YtlhiekeolmgilaaGreatDoorSpecV
import Derived.Test.YtlhiekeolmgilaaGreatDoorSpecW
namespace Go.Proofs.YtlhiekeolmgilaaGreatDoor

/-- Whether an abbreviation that stands for some names of a list can be mistaken for another one than the name at i. -/
def misB (xs : List Int) (ss : List ByteArray) (i : Nat) : Bool := !(xs.any fun x => decide (x = (i : Int))) || xs.any fun x => decide (Sp.key (at' ss x.toNat) ≠ Sp.key (at' ss i))
theorem mis_fine (ss : List ByteArray) (i : Nat) (hi : i < ss.length) (a : List UInt8) (h : abbrB a (Sp.key (at' ss i)) = true) : misB (standsFrom (a ++ [46]) 0 ss) ss i = !fineG (othersK ss i) a := by
  have hm : ∀ x, x ∈ standsFrom (a ++ [46]) 0 ss ↔ ∃ j, ∃ _ : j < ss.length, x = (j : Int) ∧ abbrB a (Sp.key (at' ss j)) = true := fun x => by
    rw [stands_mem]
    constructor
    · rintro ⟨j, hj, e, hb⟩
      refine ⟨j, hj, by rw [e]; omega, ?_⟩
      rw [short_letters] at hb
      rw [at_get ss j hj]; exact hb
    · rintro ⟨j, hj, e, hb⟩
      refine ⟨j, hj, by rw [e]; omega, ?_⟩
      rw [short_letters]
      rw [at_get ss j hj] at hb; exact hb
  have h1 : (standsFrom (a ++ [46]) 0 ss).any (fun x => decide (x = (i : Int))) = true := by
    rw [List.any_eq_true]; exact ⟨(i : Int), (hm _).2 ⟨i, hi, rfl, h⟩, by simp⟩
  unfold misB
  rw [h1, Bool.not_true, Bool.false_or, Bool.eq_iff_iff]
  rw [List.any_eq_true, Bool.not_eq_true', ← Bool.not_eq_true]
  unfold fineG othersK
  rw [List.all_eq_true]
  constructor
  · rintro ⟨x, hx, hne⟩ hall
    obtain ⟨j, hj, rfl, hb⟩ := (hm x).1 hx
    have hne := of_decide_eq_true hne
    rw [Int.toNat_natCast] at hne
    have := hall (Sp.key (at' ss j)) (List.mem_filter.2 ⟨List.mem_map.2 ⟨ss[j], List.getElem_mem hj, by rw [at_get ss j hj]⟩, decide_eq_true hne⟩)
    rw [hb] at this; cases this
  · intro hall
    apply Classical.byContradiction
    intro hno
    refine hall fun o ho => ?_
    obtain ⟨ho1, ho2⟩ := List.mem_filter.1 ho
    obtain ⟨s, hs, rfl⟩ := List.mem_map.1 ho1
    obtain ⟨j, hj, rfl⟩ := List.mem_iff_getElem.1 hs
    cases hb : abbrB a (Sp.key ss[j].data.toList) with
    | false => rfl
    | true =>
      exfalso
      refine hno ⟨(j : Int), (hm _).2 ⟨j, hj, rfl, by rw [at_get ss j hj]; exact hb⟩, decide_eq_true ?_⟩
      rw [Int.toNat_natCast, at_get ss j hj]
      exact of_decide_eq_true ho2

theorem cuts_abbr {k : List UInt8} {n : Nat} (h1 : 1 ≤ n) {x : List UInt8} (hx : x ∈ cutsG k n) : abbrB x k = true ∧ x.length = n ∧ n < k.length ∧ ∀ c, c ∈ x → c ∈ k := by
  cases k with
  | nil => unfold cutsG at hx; simp at hx
  | cons c t =>
    obtain ⟨h2, y, rfl, hy, hs⟩ := (cuts_mem c t n h1 x).1 hx
    have hs2 : (c :: y).Sublist (c :: t) := List.cons_sublist_cons.2 hs
    refine ⟨?_, hy, h2, fun d hd => hs2.subset hd⟩
    unfold abbrB
    simp only [Bool.and_eq_true, decide_eq_true_eq]
    refine ⟨?_, rfl, ?_⟩
    · rw [List.length_cons, hy]; exact h2
    · rw [part_sub]; exact hs2

theorem down_some (q : List UInt8 → Bool) (k : List UInt8) : ∀ n a, findDown q k n = some a → ∃ m, 1 ≤ m ∧ m ≤ n ∧ a ∈ cutsG k m ∧ q a = true
  | 0, a, h => by cases h
  | n + 1, a, h => by
    unfold findDown at h
    cases hf : (cutsG k (n + 1)).find? q with
    | none =>
      rw [hf] at h
      obtain ⟨m, h1, h2, h3⟩ := down_some q k n a h
      exact ⟨m, h1, by omega, h3⟩
    | some b =>
      rw [hf] at h
      injection h with h
      subst h
      exact ⟨n + 1, by omega, by omega, List.mem_of_find?_eq_some hf, by have := List.find?_some hf; exact this⟩
theorem down_none (q : List UInt8 → Bool) (k : List UInt8) : ∀ n, findDown q k n = none → ∀ m, 1 ≤ m → m ≤ n → ∀ a, a ∈ cutsG k m → q a = false
  | 0, _, m, h1, h2, a, ha => by omega
  | n + 1, h, m, h1, h2, a, ha => by
    unfold findDown at h
    cases hf : (cutsG k (n + 1)).find? q with
    | none =>
      rw [hf] at h
      by_cases e : m = n + 1
      · subst e
        have := List.find?_eq_none.1 hf a ha
        simpa using this
      · exact down_none q k n h m h1 (by omega) a ha
    | some b => rw [hf] at h; cases h
theorem down_mono (q : List UInt8 → Bool) (k : List UInt8) (n : Nat) (b : List UInt8) (h : findDown q k n = some b) : ∃ a, findDown q k (n + 1) = some a ∧ b.length ≤ a.length := by
  obtain ⟨m, h1, h2, h3, _⟩ := down_some q k n b h
  have hl := (cuts_abbr h1 h3).2.1
  unfold findDown
  cases hf : (cutsG k (n + 1)).find? q with
  | none => exact ⟨b, h, Nat.le_refl _⟩
  | some a =>
    refine ⟨a, rfl, ?_⟩
    have := (cuts_abbr (by omega) (List.mem_of_find?_eq_some hf)).2.1
    omega

/-- How many letters are set in a column. -/
def setW (ss : List ByteArray) (i w : Nat) : Nat :=
  if (Sp.key (at' ss i)).length ≤ w then (Sp.key (at' ss i)).length
  else match findDown (fineG (othersK ss i)) (Sp.key (at' ss i)) (w - 1) with | none => 0 | some a => a.length

/-- What is set in a column of w + 1 bytes. -/
theorem col_step (ss : List ByteArray) (i w : Nat) :
    (fitG ss i (w + 1) = ([], 11) ∧ setW ss i w = 0 ∧ w + 1 < (Sp.key (at' ss i)).length ∧ (∀ b, shortestG ss i = (b, 0) → w + 1 < b.length) ∧ setW ss i (w + 1) = 0) ∨
    (fitG ss i (w + 1) = (Sp.key (at' ss i), 0) ∧ (Sp.key (at' ss i)).length ≤ w + 1 ∧ setW ss i w ≤ (Sp.key (at' ss i)).length ∧ setW ss i (w + 1) = (Sp.key (at' ss i)).length) ∨
    (∃ a, fitG ss i (w + 1) = (a ++ [46], 0) ∧ w + 1 < (Sp.key (at' ss i)).length ∧ 1 ≤ a.length ∧ a.length ≤ w ∧ setW ss i w ≤ a.length ∧ setW ss i (w + 1) = a.length ∧ abbrB a (Sp.key (at' ss i)) = true ∧ fineG (othersK ss i) a = true ∧ ∀ c, c ∈ a → c ∈ Sp.key (at' ss i)) := by
  have e1 : fitG ss i (w + 1) = if (Sp.key (at' ss i)).length ≤ w + 1 then (Sp.key (at' ss i), 0) else firstG (othersK ss i) ((List.range w).map fun m => cutsG (Sp.key (at' ss i)) (w - m)) := rfl
  have e2 : shortestG ss i = firstG (othersK ss i) ((List.range ((Sp.key (at' ss i)).length - 1)).map fun m => cutsG (Sp.key (at' ss i)) (m + 1)) := rfl
  generalize hk : Sp.key (at' ss i) = k at *
  generalize ho : othersK ss i = o at *
  have s0 : setW ss i w = if k.length ≤ w then k.length else match findDown (fineG o) k (w - 1) with | none => 0 | some a => a.length := by unfold setW; rw [hk, ho]
  have s1 : setW ss i (w + 1) = if k.length ≤ w + 1 then k.length else match findDown (fineG o) k w with | none => 0 | some a => a.length := by unfold setW; rw [hk, ho]; rfl
  by_cases hw : k.length ≤ w + 1
  · rw [if_pos hw] at e1 s1
    refine .inr (.inl ⟨e1, hw, ?_, s1⟩)
    rw [s0]
    split
    · exact Nat.le_refl _
    · cases hd : findDown (fineG o) k (w - 1) with
      | none => exact Nat.zero_le _
      | some b =>
        obtain ⟨m, h1, _, h3, _⟩ := down_some _ _ _ _ hd
        have := cuts_abbr h1 h3
        show b.length ≤ k.length
        omega
  · rw [if_neg hw] at e1 s1
    rw [if_neg (by omega)] at s0
    rcases firstG_code o ((List.range w).map fun m => cutsG k (w - m)) with ⟨h1, h2⟩ | ⟨a, h1, h2⟩
    · rw [flat_down] at h2
      refine .inl ⟨by rw [e1, h1], ?_, by omega, fun b hb => ?_, by rw [s1, h2]⟩
      · rw [s0]
        cases hd : findDown (fineG o) k (w - 1) with
        | none => rfl
        | some b =>
          exfalso
          cases w with
          | zero => cases hd
          | succ v =>
            obtain ⟨a, h3, _⟩ := down_mono _ _ _ _ hd
            have h4 : findDown (fineG o) k (v + 1) = some a := h3
            rw [h2] at h4; cases h4
      · rcases firstG_code o ((List.range (k.length - 1)).map fun m => cutsG k (m + 1)) with ⟨h3, _⟩ | ⟨a, h3, h4⟩
        · rw [e2, h3] at hb; cases hb
        · rw [e2, h3] at hb
          injection hb with hb _
          subst hb
          have hq := List.find?_some h4
          have hm := List.mem_of_find?_eq_some h4
          rw [List.mem_flatten] at hm
          obtain ⟨l, hl, hal⟩ := hm
          obtain ⟨m, hm, rfl⟩ := List.mem_map.1 hl
          have hc := cuts_abbr (by omega) hal
          by_cases hle : m + 1 ≤ w
          · have := down_none _ _ _ h2 (m + 1) (by omega) hle a hal
            rw [this] at hq; cases hq
          · rw [List.length_append, hc.2.1]
            show w + 1 < m + 1 + 1
            omega
    · rw [flat_down] at h2
      obtain ⟨m, h3, h4, h5, h6⟩ := down_some _ _ _ _ h2
      have hc := cuts_abbr h3 h5
      refine .inr (.inr ⟨a, by rw [e1, h1], by omega, by omega, by omega, ?_, ?_, hc.1, h6, hc.2.2.2⟩)
      · rw [s0]
        cases hd : findDown (fineG o) k (w - 1) with
        | none => exact Nat.zero_le _
        | some b =>
          cases w with
          | zero => cases hd
          | succ v =>
            obtain ⟨a', h7, h8⟩ := down_mono _ _ _ _ hd
            have h9 : findDown (fineG o) k (v + 1) = some a' := h7
            rw [h2] at h9
            injection h9 with h9
            subst h9
            exact h8
      · rw [s1, h2]
end Go.Proofs.YtlhiekeolmgilaaGreatDoor
