/- One name more in a list never makes the shortest abbreviation shorter. Nothing of the program's code. -/
import Derived.Test.YtlhiekeolmgilaaGreatDoorPgSpecB
namespace Go.Proofs.YtlhiekeolmgilaaGreatDoor

theorem growG_len : ∀ (m : Nat) (a rest x : List UInt8), x ∈ growG m a rest → x.length = a.length + m
  | 0, a, rest, x, h => by
    have : x = a := by simpa [growG] using h
    rw [this]; rfl
  | m + 1, a, rest, x, h => by
    unfold growG at h
    rw [List.mem_flatMap] at h
    obtain ⟨at_, _, h⟩ := h
    have := growG_len m _ _ x h
    rw [List.length_append] at this
    simp at this
    omega
theorem cutsG_len (k : List UInt8) (n : Nat) (h1 : 1 ≤ n) (x : List UInt8) (h : x ∈ cutsG k n) : x.length = n := by
  unfold cutsG at h
  split at h
  · rename_i hk
    have := growG_len _ _ _ x h
    rw [List.length_take] at this
    omega
  · cases h
/-- All abbreviations, the shorter ones first. -/
def allCuts (k : List UInt8) (n : Nat) : List (List UInt8) := ((List.range n).map fun m => cutsG k (m + 1)).flatten
theorem allCuts_le (k : List UInt8) (n : Nat) (x : List UInt8) (h : x ∈ allCuts k n) : x.length ≤ n := by
  unfold allCuts at h
  rw [List.mem_flatten] at h
  obtain ⟨l, hl, hx⟩ := h
  rw [List.mem_map] at hl
  obtain ⟨m, hm, rfl⟩ := hl
  have := cutsG_len k (m + 1) (by omega) x hx
  rw [List.mem_range] at hm
  omega
theorem allCuts_up (k : List UInt8) : ∀ n, (allCuts k n).Pairwise fun a b => a.length ≤ b.length
  | 0 => List.Pairwise.nil
  | n + 1 => by
    have e : allCuts k (n + 1) = allCuts k n ++ cutsG k (n + 1) := by
      unfold allCuts
      rw [List.range_succ, List.map_append, List.flatten_append]
      simp
    rw [e, List.pairwise_append]
    refine ⟨allCuts_up k n, ?_, fun a ha b hb => ?_⟩
    · rw [List.pairwise_iff_forall_sublist]
      intro a b hab
      have ha : a ∈ cutsG k (n + 1) := hab.subset (by simp)
      have hb : b ∈ cutsG k (n + 1) := hab.subset (by simp)
      rw [cutsG_len k _ (by omega) a ha, cutsG_len k _ (by omega) b hb]
      exact Nat.le_refl _
    · have := allCuts_le k n a ha
      rw [cutsG_len k _ (by omega) b hb]
      omega
theorem find_less {α : Type} (len : α → Nat) (p q : α → Bool) (hpq : ∀ x, q x = true → p x = true) : ∀ (l : List α), (l.Pairwise fun a b => len a ≤ len b) →
    ((l.find? p = none → l.find? q = none) ∧ ∀ a b, l.find? p = some a → l.find? q = some b → len a ≤ len b)
  | [], _ => ⟨fun _ => rfl, (fun _ _ h => by cases h)⟩
  | x :: t, hl => by
    rw [List.pairwise_cons] at hl
    obtain ⟨h1, h2⟩ := find_less len p q hpq t hl.2
    cases hp : p x with
    | true =>
      rw [List.find?_cons_of_pos hp]
      refine ⟨(fun h => by cases h), fun a b ha hb => ?_⟩
      injection ha with ha
      subst ha
      cases hq : q x with
      | true =>
        rw [List.find?_cons_of_pos hq] at hb
        injection hb with hb
        rw [hb]
        exact Nat.le_refl _
      | false =>
        rw [List.find?_cons_of_neg (by simp [hq])] at hb
        exact hl.1 b (List.mem_of_find?_eq_some hb)
    | false =>
      have hq : q x = false := by
        cases hq : q x with
        | true => rw [hpq x hq] at hp; cases hp
        | false => rfl
      rw [List.find?_cons_of_neg (by simp [hp]), List.find?_cons_of_neg (by simp [hq])]
      exact ⟨h1, h2⟩

theorem at_more (ss : List ByteArray) (X : ByteArray) (i : Nat) (h : i < ss.length) : at' (ss ++ [X]) i = at' ss i := by
  unfold at'
  rw [List.getElem?_append_left h]
theorem othersK_more (ss : List ByteArray) (X : ByteArray) (i : Nat) (h : i < ss.length) :
    othersK (ss ++ [X]) i = othersK ss i ++ (if Sp.key X.data.toList = Sp.key (at' ss i) then [] else [Sp.key X.data.toList]) := by
  unfold othersK
  rw [at_more ss X i h, List.map_append, List.filter_append]
  congr 1
  by_cases e : Sp.key X.data.toList = Sp.key (at' ss i)
  · rw [if_pos e]; simp [e]
  · rw [if_neg e]; simp [e]
theorem fineG_app (o o' : List (List UInt8)) (a : List UInt8) : fineG (o ++ o') a = (fineG o a && fineG o' a) := by
  unfold fineG
  rw [List.all_append]
theorem firstG_code (o : List (List UInt8)) (s : List (List (List UInt8))) : (firstG o s = ([], 11) ∧ s.flatten.find? (fineG o) = none) ∨ ∃ a, firstG o s = (a ++ [46], 0) ∧ s.flatten.find? (fineG o) = some a := by
  unfold firstG
  cases h : s.flatten.find? (fineG o) with
  | none => exact .inl ⟨rfl, rfl⟩
  | some a => exact .inr ⟨a, rfl, rfl⟩

/-- What one name more does. -/
theorem list_more (ss : List ByteArray) (X : ByteArray) (i : Nat) (h : i < ss.length) :
    (shortestG ss i = ([], 11) ∧ shortestG (ss ++ [X]) i = ([], 11)) ∨
    ∃ a, shortestG ss i = (a, 0) ∧ ((Sp.key X.data.toList ≠ Sp.key (at' ss i) ∧ shortestG (ss ++ [X]) i = ([], 11)) ∨ ∃ b, shortestG (ss ++ [X]) i = (b, 0) ∧ a.length ≤ b.length ∧ (Sp.key X.data.toList = Sp.key (at' ss i) → b = a)) := by
  have e1 : shortestG (ss ++ [X]) i = firstG (othersK (ss ++ [X]) i) ((List.range ((Sp.key (at' ss i)).length - 1)).map fun m => cutsG (Sp.key (at' ss i)) (m + 1)) := by
    unfold shortestG
    rw [at_more ss X i h]
  have e2 : shortestG ss i = firstG (othersK ss i) ((List.range ((Sp.key (at' ss i)).length - 1)).map fun m => cutsG (Sp.key (at' ss i)) (m + 1)) := rfl
  rw [e1, e2]
  have hp : ∀ x, fineG (othersK (ss ++ [X]) i) x = true → fineG (othersK ss i) x = true := fun x hx => by
    rw [othersK_more ss X i h, fineG_app] at hx
    exact (Bool.and_eq_true _ _ ▸ hx).1
  obtain ⟨f1, f2⟩ := find_less List.length (fineG (othersK ss i)) (fineG (othersK (ss ++ [X]) i)) hp (allCuts (Sp.key (at' ss i)) ((Sp.key (at' ss i)).length - 1)) (allCuts_up _ _)
  unfold allCuts at f1 f2
  rcases firstG_code (othersK ss i) ((List.range ((Sp.key (at' ss i)).length - 1)).map fun m => cutsG (Sp.key (at' ss i)) (m + 1)) with ⟨h1, h2⟩ | ⟨a, h1, h2⟩
  · rcases firstG_code (othersK (ss ++ [X]) i) ((List.range ((Sp.key (at' ss i)).length - 1)).map fun m => cutsG (Sp.key (at' ss i)) (m + 1)) with ⟨h3, h4⟩ | ⟨b, h3, h4⟩
    · exact .inl ⟨h1, h3⟩
    · rw [f1 h2] at h4; cases h4
  · refine .inr ⟨a ++ [46], h1, ?_⟩
    have same : Sp.key X.data.toList = Sp.key (at' ss i) → othersK (ss ++ [X]) i = othersK ss i := fun e => by rw [othersK_more ss X i h, if_pos e, List.append_nil]
    rcases firstG_code (othersK (ss ++ [X]) i) ((List.range ((Sp.key (at' ss i)).length - 1)).map fun m => cutsG (Sp.key (at' ss i)) (m + 1)) with ⟨h3, h4⟩ | ⟨b, h3, h4⟩
    · refine .inl ⟨fun e => ?_, h3⟩
      rw [same e, h2] at h4
      cases h4
    · refine .inr ⟨b ++ [46], h3, ?_, fun e => ?_⟩
      · have := f2 a b h2 h4
        simp
        exact this
      · rw [same e, h2] at h4
        injection h4 with h4
        rw [h4]
end Go.Proofs.YtlhiekeolmgilaaGreatDoor
