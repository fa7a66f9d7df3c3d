/- One name more in a list never makes the shortest abbreviation shorter. Nothing of the program's code. -/
import Derived.Test.YtlhiekeolmgilaaGreatDoorPgSpecB
import Derived.Test.YtlhiekeolmgilaaGreatDoorRefK
import Derived.Test.YtlhiekeolmgilaaGreatDoorSpecX
namespace Go.Proofs.YtlhiekeolmgilaaGreatDoor

theorem growG_len : ∀ (m : Nat) (a rest x : List UInt8), x ∈ growG m a rest → x.length = a.length + m
  | 0, a, rest, x, h => by
    have : x = a := by simpa [growG] using h
    rw [this]; rfl
  | m + 1, a, rest, x, h => by
    unfold growG at h
    rw [List.mem_flatMap] at h
    obtain ⟨at_, _, h⟩ := h
    have := growG_len m _ _ x h
    rw [List.length_append] at this
    simp at this
    omega
theorem cutsG_len (k : List UInt8) (n : Nat) (h1 : 1 ≤ n) (x : List UInt8) (h : x ∈ cutsG k n) : x.length = n := by
  unfold cutsG at h
  split at h
  · rename_i hk
    have := growG_len _ _ _ x h
    rw [List.length_take] at this
    omega
  · cases h
/-- All abbreviations, the shorter ones first. -/
def allCuts (k : List UInt8) (n : Nat) : List (List UInt8) := ((List.range n).map fun m => cutsG k (m + 1)).flatten
theorem allCuts_le (k : List UInt8) (n : Nat) (x : List UInt8) (h : x ∈ allCuts k n) : x.length ≤ n := by
  unfold allCuts at h
  rw [List.mem_flatten] at h
  obtain ⟨l, hl, hx⟩ := h
  rw [List.mem_map] at hl
  obtain ⟨m, hm, rfl⟩ := hl
  have := cutsG_len k (m + 1) (by omega) x hx
  rw [List.mem_range] at hm
  omega
theorem allCuts_up (k : List UInt8) : ∀ n, (allCuts k n).Pairwise fun a b => a.length ≤ b.length
  | 0 => List.Pairwise.nil
  | n + 1 => by
    have e : allCuts k (n + 1) = allCuts k n ++ cutsG k (n + 1) := by
      unfold allCuts
      rw [List.range_succ, List.map_append, List.flatten_append]
      simp
    rw [e, List.pairwise_append]
    refine ⟨allCuts_up k n, ?_, fun a ha b hb => ?_⟩
    · rw [List.pairwise_iff_forall_sublist]
      intro a b hab
      have ha : a ∈ cutsG k (n + 1) := hab.subset (by simp)
      have hb : b ∈ cutsG k (n + 1) := hab.subset (by simp)
      rw [cutsG_len k _ (by omega) a ha, cutsG_len k _ (by omega) b hb]
      exact Nat.le_refl _
    · have := allCuts_le k n a ha
      rw [cutsG_len k _ (by omega) b hb]
      omega
theorem find_less {α : Type} (len : α → Nat) (p q : α → Bool) (hpq : ∀ x, q x = true → p x = true) : ∀ (l : List α), (l.Pairwise fun a b => len a ≤ len b) →
    ((l.find? p = none → l.find? q = none) ∧ ∀ a b, l.find? p = some a → l.find? q = some b → len a ≤ len b)
  | [], _ => ⟨fun _ => rfl, (fun _ _ h => by cases h)⟩
  | x :: t, hl => by
    rw [List.pairwise_cons] at hl
    obtain ⟨h1, h2⟩ := find_less len p q hpq t hl.2
    cases hp : p x with
    | true =>
      rw [List.find?_cons_of_pos hp]
      refine ⟨(fun h => by cases h), fun a b ha hb => ?_⟩
      injection ha with ha
      subst ha
      cases hq : q x with
      | true =>
        rw [List.find?_cons_of_pos hq] at hb
        injection hb with hb
        rw [hb]
        exact Nat.le_refl _
      | false =>
        rw [List.find?_cons_of_neg (by simp [hq])] at hb
        exact hl.1 b (List.mem_of_find?_eq_some hb)
    | false =>
      have hq : q x = false := by
        cases hq : q x with
        | true => rw [hpq x hq] at hp; cases hp
        | false => rfl
      rw [List.find?_cons_of_neg (by simp [hp]), List.find?_cons_of_neg (by simp [hq])]
      exact ⟨h1, h2⟩

theorem at_more (ss : List ByteArray) (X : ByteArray) (i : Nat) (h : i < ss.length) : at' (ss ++ [X]) i = at' ss i := by
  unfold at'
  rw [List.getElem?_append_left h]
theorem othersK_more (ss : List ByteArray) (X : ByteArray) (i : Nat) (h : i < ss.length) :
    othersK (ss ++ [X]) i = othersK ss i ++ (if Sp.key X.data.toList = Sp.key (at' ss i) then [] else [Sp.key X.data.toList]) := by
  unfold othersK
  rw [at_more ss X i h, List.map_append, List.filter_append]
  congr 1
  by_cases e : Sp.key X.data.toList = Sp.key (at' ss i)
  · rw [if_pos e]; simp [e]
  · rw [if_neg e]; simp [e]
theorem fineG_app (o o' : List (List UInt8)) (a : List UInt8) : fineG (o ++ o') a = (fineG o a && fineG o' a) := by
  unfold fineG
  rw [List.all_append]
theorem firstG_code (o : List (List UInt8)) (s : List (List (List UInt8))) : (firstG o s = ([], 11) ∧ s.flatten.find? (fineG o) = none) ∨ ∃ a, firstG o s = (a ++ [46], 0) ∧ s.flatten.find? (fineG o) = some a := by
  unfold firstG
  cases h : s.flatten.find? (fineG o) with
  | none => exact .inl ⟨rfl, rfl⟩
  | some a => exact .inr ⟨a, rfl, rfl⟩

/-- What one name more does. -/
theorem list_more (ss : List ByteArray) (X : ByteArray) (i : Nat) (h : i < ss.length) :
    (shortestG ss i = ([], 11) ∧ shortestG (ss ++ [X]) i = ([], 11)) ∨
    ∃ a, shortestG ss i = (a, 0) ∧ ((Sp.key X.data.toList ≠ Sp.key (at' ss i) ∧ shortestG (ss ++ [X]) i = ([], 11)) ∨ ∃ b, shortestG (ss ++ [X]) i = (b, 0) ∧ a.length ≤ b.length ∧ (Sp.key X.data.toList = Sp.key (at' ss i) → b = a)) := by
  have e1 : shortestG (ss ++ [X]) i = firstG (othersK (ss ++ [X]) i) ((List.range ((Sp.key (at' ss i)).length - 1)).map fun m => cutsG (Sp.key (at' ss i)) (m + 1)) := by
    unfold shortestG
    rw [at_more ss X i h]
  have e2 : shortestG ss i = firstG (othersK ss i) ((List.range ((Sp.key (at' ss i)).length - 1)).map fun m => cutsG (Sp.key (at' ss i)) (m + 1)) := rfl
  rw [e1, e2]
  have hp : ∀ x, fineG (othersK (ss ++ [X]) i) x = true → fineG (othersK ss i) x = true := fun x hx => by
    rw [othersK_more ss X i h, fineG_app] at hx
    exact (Bool.and_eq_true _ _ ▸ hx).1
  obtain ⟨f1, f2⟩ := find_less List.length (fineG (othersK ss i)) (fineG (othersK (ss ++ [X]) i)) hp (allCuts (Sp.key (at' ss i)) ((Sp.key (at' ss i)).length - 1)) (allCuts_up _ _)
  unfold allCuts at f1 f2
  rcases firstG_code (othersK ss i) ((List.range ((Sp.key (at' ss i)).length - 1)).map fun m => cutsG (Sp.key (at' ss i)) (m + 1)) with ⟨h1, h2⟩ | ⟨a, h1, h2⟩
  · rcases firstG_code (othersK (ss ++ [X]) i) ((List.range ((Sp.key (at' ss i)).length - 1)).map fun m => cutsG (Sp.key (at' ss i)) (m + 1)) with ⟨h3, h4⟩ | ⟨b, h3, h4⟩
    · exact .inl ⟨h1, h3⟩
    · rw [f1 h2] at h4; cases h4
  · refine .inr ⟨a ++ [46], h1, ?_⟩
    have same : Sp.key X.data.toList = Sp.key (at' ss i) → othersK (ss ++ [X]) i = othersK ss i := fun e => by rw [othersK_more ss X i h, if_pos e, List.append_nil]
    rcases firstG_code (othersK (ss ++ [X]) i) ((List.range ((Sp.key (at' ss i)).length - 1)).map fun m => cutsG (Sp.key (at' ss i)) (m + 1)) with ⟨h3, h4⟩ | ⟨b, h3, h4⟩
    · refine .inl ⟨fun e => ?_, h3⟩
      rw [same e, h2] at h4
      cases h4
    · refine .inr ⟨b ++ [46], h3, ?_, fun e => ?_⟩
      · have := f2 a b h2 h4
        simp
        exact this
      · rw [same e, h2] at h4
        injection h4 with h4
        rw [h4]
end Go.Proofs.YtlhiekeolmgilaaGreatDoor

/- Abbreviations that lose a letter; which names one stands for. Nothing of the program's code. -/
namespace Go.Proofs.YtlhiekeolmgilaaGreatDoor

theorem part_sub : ∀ (s t : List UInt8), partB s t = true ↔ s.Sublist t
  | [], t => by simp [partB]
  | a :: s, [] => by simp [partB]
  | a :: s, c :: t => by
    unfold partB
    by_cases h : c = a
    · subst h
      rw [if_pos rfl, part_sub s t]
      exact List.cons_sublist_cons.symm
    · rw [if_neg h, part_sub (a :: s) t]
      constructor
      · exact fun h => h.cons c
      · intro h1
        cases h1 with
        | cons _ h2 => exact h2
        | cons_cons _ _ => exact absurd rfl h

theorem abbr_erase {l k : List UInt8} {i : Nat} (h1 : 1 ≤ i) (hi : i < l.length) (h : abbrB l k = true) : abbrB (l.eraseIdx i) k = true := by
  unfold abbrB at *
  simp only [Bool.and_eq_true, decide_eq_true_eq] at *
  obtain ⟨a1, a2, a3⟩ := h
  refine ⟨?_, ?_, ?_⟩
  · rw [List.length_eraseIdx_of_lt hi]; omega
  · rw [← a2]
    cases l with
    | nil => simp at hi
    | cons c t =>
      cases i with
      | zero => omega
      | succ i => rfl
  · rw [part_sub] at *
    exact (List.eraseIdx_sublist l i).trans a3

theorem stands_mem (a : List UInt8) : ∀ (ss : List ByteArray) (k : Nat) (x : Int), x ∈ standsFrom a k ss ↔ ∃ i, ∃ h : i < ss.length, x = ((k + i : Nat) : Int) ∧ shortB a ss[i].data.toList = true
  | [], k, x => by simp [standsFrom]
  | s :: t, k, x => by
    unfold standsFrom
    have ih := stands_mem a t (k + 1) x
    constructor
    · intro hx
      split at hx
      · rename_i hs
        rcases List.mem_cons.1 hx with rfl | hx
        · exact ⟨0, by simp, by simp, hs⟩
        · obtain ⟨i, hi, e, hb⟩ := ih.1 hx
          exact ⟨i + 1, by simp; omega, by omega, hb⟩
      · obtain ⟨i, hi, e, hb⟩ := ih.1 hx
        exact ⟨i + 1, by simp; omega, by omega, hb⟩
    · rintro ⟨i, hi, e, hb⟩
      cases i with
      | zero =>
        have hs : shortB a s.data.toList = true := hb
        rw [if_pos hs]
        simp [e]
      | succ i =>
        have hm := ih.2 ⟨i, by simpa using hi, by omega, hb⟩
        split
        · exact List.mem_cons_of_mem _ hm
        · exact hm
theorem stands_len (a : List UInt8) : ∀ (ss : List ByteArray) (k : Nat), (standsFrom a k ss).length ≤ ss.length
  | [], _ => Nat.le_refl _
  | s :: t, k => by
    unfold standsFrom
    have := stands_len a t (k + 1)
    split <;> simp <;> omega

/-- The letters and the point. -/
theorem short_of {l : List UInt8} (h1 : 1 ≤ l.length) (h2 : l.length ≤ 12) (h3 : ∀ c, c ∈ l → Sp.latin c = true) : shortErr (l ++ [46]) = 0 := by
  unfold shortErr lettersB
  rw [if_pos]
  refine ⟨by simp, ?_⟩
  rw [List.dropLast_concat]
  simp only [Bool.and_eq_true, decide_eq_true_eq, List.all_eq_true]
  exact ⟨by omega, h3⟩
theorem short_letters (l : List UInt8) (n : List UInt8) : shortB (l ++ [46]) n = abbrB l (Sp.key n) := by
  unfold shortB
  rw [List.dropLast_concat]
end Go.Proofs.YtlhiekeolmgilaaGreatDoor

/- What is set in columns; abbreviations that can be mistaken. Nothing of the program's code. -/
namespace Go.Proofs.YtlhiekeolmgilaaGreatDoor

/-- Whether an abbreviation that stands for some names of a list can be mistaken for another one than the name at i. -/
def misB (xs : List Int) (ss : List ByteArray) (i : Nat) : Bool := !(xs.any fun x => decide (x = (i : Int))) || xs.any fun x => decide (Sp.key (at' ss x.toNat) ≠ Sp.key (at' ss i))
theorem mis_fine (ss : List ByteArray) (i : Nat) (hi : i < ss.length) (a : List UInt8) (h : abbrB a (Sp.key (at' ss i)) = true) : misB (standsFrom (a ++ [46]) 0 ss) ss i = !fineG (othersK ss i) a := by
  have hm : ∀ x, x ∈ standsFrom (a ++ [46]) 0 ss ↔ ∃ j, ∃ _ : j < ss.length, x = (j : Int) ∧ abbrB a (Sp.key (at' ss j)) = true := fun x => by
    rw [stands_mem]
    constructor
    · rintro ⟨j, hj, e, hb⟩
      refine ⟨j, hj, by rw [e]; omega, ?_⟩
      rw [short_letters] at hb
      rw [at_get ss j hj]; exact hb
    · rintro ⟨j, hj, e, hb⟩
      refine ⟨j, hj, by rw [e]; omega, ?_⟩
      rw [short_letters]
      rw [at_get ss j hj] at hb; exact hb
  have h1 : (standsFrom (a ++ [46]) 0 ss).any (fun x => decide (x = (i : Int))) = true := by
    rw [List.any_eq_true]; exact ⟨(i : Int), (hm _).2 ⟨i, hi, rfl, h⟩, by simp⟩
  unfold misB
  rw [h1, Bool.not_true, Bool.false_or, Bool.eq_iff_iff]
  rw [List.any_eq_true, Bool.not_eq_true', ← Bool.not_eq_true]
  unfold fineG othersK
  rw [List.all_eq_true]
  constructor
  · rintro ⟨x, hx, hne⟩ hall
    obtain ⟨j, hj, rfl, hb⟩ := (hm x).1 hx
    have hne := of_decide_eq_true hne
    rw [Int.toNat_natCast] at hne
    have := hall (Sp.key (at' ss j)) (List.mem_filter.2 ⟨List.mem_map.2 ⟨ss[j], List.getElem_mem hj, by rw [at_get ss j hj]⟩, decide_eq_true hne⟩)
    rw [hb] at this; cases this
  · intro hall
    apply Classical.byContradiction
    intro hno
    refine hall fun o ho => ?_
    obtain ⟨ho1, ho2⟩ := List.mem_filter.1 ho
    obtain ⟨s, hs, rfl⟩ := List.mem_map.1 ho1
    obtain ⟨j, hj, rfl⟩ := List.mem_iff_getElem.1 hs
    cases hb : abbrB a (Sp.key ss[j].data.toList) with
    | false => rfl
    | true =>
      exfalso
      refine hno ⟨(j : Int), (hm _).2 ⟨j, hj, rfl, by rw [at_get ss j hj]; exact hb⟩, decide_eq_true ?_⟩
      rw [Int.toNat_natCast, at_get ss j hj]
      exact of_decide_eq_true ho2

theorem cuts_abbr {k : List UInt8} {n : Nat} (h1 : 1 ≤ n) {x : List UInt8} (hx : x ∈ cutsG k n) : abbrB x k = true ∧ x.length = n ∧ n < k.length ∧ ∀ c, c ∈ x → c ∈ k := by
  cases k with
  | nil => unfold cutsG at hx; simp at hx
  | cons c t =>
    obtain ⟨h2, y, rfl, hy, hs⟩ := (cuts_mem c t n h1 x).1 hx
    have hs2 : (c :: y).Sublist (c :: t) := List.cons_sublist_cons.2 hs
    refine ⟨?_, hy, h2, fun d hd => hs2.subset hd⟩
    unfold abbrB
    simp only [Bool.and_eq_true, decide_eq_true_eq]
    refine ⟨?_, rfl, ?_⟩
    · rw [List.length_cons, hy]; exact h2
    · rw [part_sub]; exact hs2

theorem down_some (q : List UInt8 → Bool) (k : List UInt8) : ∀ n a, findDown q k n = some a → ∃ m, 1 ≤ m ∧ m ≤ n ∧ a ∈ cutsG k m ∧ q a = true
  | 0, a, h => by cases h
  | n + 1, a, h => by
    unfold findDown at h
    cases hf : (cutsG k (n + 1)).find? q with
    | none =>
      rw [hf] at h
      obtain ⟨m, h1, h2, h3⟩ := down_some q k n a h
      exact ⟨m, h1, by omega, h3⟩
    | some b =>
      rw [hf] at h
      injection h with h
      subst h
      exact ⟨n + 1, by omega, by omega, List.mem_of_find?_eq_some hf, by have := List.find?_some hf; exact this⟩
theorem down_none (q : List UInt8 → Bool) (k : List UInt8) : ∀ n, findDown q k n = none → ∀ m, 1 ≤ m → m ≤ n → ∀ a, a ∈ cutsG k m → q a = false
  | 0, _, m, h1, h2, a, ha => by omega
  | n + 1, h, m, h1, h2, a, ha => by
    unfold findDown at h
    cases hf : (cutsG k (n + 1)).find? q with
    | none =>
      rw [hf] at h
      by_cases e : m = n + 1
      · subst e
        have := List.find?_eq_none.1 hf a ha
        simpa using this
      · exact down_none q k n h m h1 (by omega) a ha
    | some b => rw [hf] at h; cases h
theorem down_mono (q : List UInt8 → Bool) (k : List UInt8) (n : Nat) (b : List UInt8) (h : findDown q k n = some b) : ∃ a, findDown q k (n + 1) = some a ∧ b.length ≤ a.length := by
  obtain ⟨m, h1, h2, h3, _⟩ := down_some q k n b h
  have hl := (cuts_abbr h1 h3).2.1
  unfold findDown
  cases hf : (cutsG k (n + 1)).find? q with
  | none => exact ⟨b, h, Nat.le_refl _⟩
  | some a =>
    refine ⟨a, rfl, ?_⟩
    have := (cuts_abbr (by omega) (List.mem_of_find?_eq_some hf)).2.1
    omega

/-- How many letters are set in a column. -/
def setW (ss : List ByteArray) (i w : Nat) : Nat :=
  if (Sp.key (at' ss i)).length ≤ w then (Sp.key (at' ss i)).length
  else match findDown (fineG (othersK ss i)) (Sp.key (at' ss i)) (w - 1) with | none => 0 | some a => a.length

/-- What is set in a column of w + 1 bytes. -/
theorem col_step (ss : List ByteArray) (i w : Nat) :
    (fitG ss i (w + 1) = ([], 11) ∧ setW ss i w = 0 ∧ w + 1 < (Sp.key (at' ss i)).length ∧ (∀ b, shortestG ss i = (b, 0) → w + 1 < b.length) ∧ setW ss i (w + 1) = 0) ∨
    (fitG ss i (w + 1) = (Sp.key (at' ss i), 0) ∧ (Sp.key (at' ss i)).length ≤ w + 1 ∧ setW ss i w ≤ (Sp.key (at' ss i)).length ∧ setW ss i (w + 1) = (Sp.key (at' ss i)).length) ∨
    (∃ a, fitG ss i (w + 1) = (a ++ [46], 0) ∧ w + 1 < (Sp.key (at' ss i)).length ∧ 1 ≤ a.length ∧ a.length ≤ w ∧ setW ss i w ≤ a.length ∧ setW ss i (w + 1) = a.length ∧ abbrB a (Sp.key (at' ss i)) = true ∧ fineG (othersK ss i) a = true ∧ ∀ c, c ∈ a → c ∈ Sp.key (at' ss i)) := by
  have e1 : fitG ss i (w + 1) = if (Sp.key (at' ss i)).length ≤ w + 1 then (Sp.key (at' ss i), 0) else firstG (othersK ss i) ((List.range w).map fun m => cutsG (Sp.key (at' ss i)) (w - m)) := rfl
  have e2 : shortestG ss i = firstG (othersK ss i) ((List.range ((Sp.key (at' ss i)).length - 1)).map fun m => cutsG (Sp.key (at' ss i)) (m + 1)) := rfl
  generalize hk : Sp.key (at' ss i) = k at *
  generalize ho : othersK ss i = o at *
  have s0 : setW ss i w = if k.length ≤ w then k.length else match findDown (fineG o) k (w - 1) with | none => 0 | some a => a.length := by unfold setW; rw [hk, ho]
  have s1 : setW ss i (w + 1) = if k.length ≤ w + 1 then k.length else match findDown (fineG o) k w with | none => 0 | some a => a.length := by unfold setW; rw [hk, ho]; rfl
  by_cases hw : k.length ≤ w + 1
  · rw [if_pos hw] at e1 s1
    refine .inr (.inl ⟨e1, hw, ?_, s1⟩)
    rw [s0]
    split
    · exact Nat.le_refl _
    · cases hd : findDown (fineG o) k (w - 1) with
      | none => exact Nat.zero_le _
      | some b =>
        obtain ⟨m, h1, _, h3, _⟩ := down_some _ _ _ _ hd
        have := cuts_abbr h1 h3
        show b.length ≤ k.length
        omega
  · rw [if_neg hw] at e1 s1
    rw [if_neg (by omega)] at s0
    rcases firstG_code o ((List.range w).map fun m => cutsG k (w - m)) with ⟨h1, h2⟩ | ⟨a, h1, h2⟩
    · rw [flat_down] at h2
      refine .inl ⟨by rw [e1, h1], ?_, by omega, fun b hb => ?_, by rw [s1, h2]⟩
      · rw [s0]
        cases hd : findDown (fineG o) k (w - 1) with
        | none => rfl
        | some b =>
          exfalso
          cases w with
          | zero => cases hd
          | succ v =>
            obtain ⟨a, h3, _⟩ := down_mono _ _ _ _ hd
            have h4 : findDown (fineG o) k (v + 1) = some a := h3
            rw [h2] at h4; cases h4
      · rcases firstG_code o ((List.range (k.length - 1)).map fun m => cutsG k (m + 1)) with ⟨h3, _⟩ | ⟨a, h3, h4⟩
        · rw [e2, h3] at hb; cases hb
        · rw [e2, h3] at hb
          injection hb with hb _
          subst hb
          have hq := List.find?_some h4
          have hm := List.mem_of_find?_eq_some h4
          rw [List.mem_flatten] at hm
          obtain ⟨l, hl, hal⟩ := hm
          obtain ⟨m, hm, rfl⟩ := List.mem_map.1 hl
          have hc := cuts_abbr (by omega) hal
          by_cases hle : m + 1 ≤ w
          · have := down_none _ _ _ h2 (m + 1) (by omega) hle a hal
            rw [this] at hq; cases hq
          · rw [List.length_append, hc.2.1]
            show w + 1 < m + 1 + 1
            omega
    · rw [flat_down] at h2
      obtain ⟨m, h3, h4, h5, h6⟩ := down_some _ _ _ _ h2
      have hc := cuts_abbr h3 h5
      refine .inr (.inr ⟨a, by rw [e1, h1], by omega, by omega, by omega, ?_, ?_, hc.1, h6, hc.2.2.2⟩)
      · rw [s0]
        cases hd : findDown (fineG o) k (w - 1) with
        | none => exact Nat.zero_le _
        | some b =>
          cases w with
          | zero => cases hd
          | succ v =>
            obtain ⟨a', h7, h8⟩ := down_mono _ _ _ _ hd
            have h9 : findDown (fineG o) k (v + 1) = some a' := h7
            rw [h2] at h9
            injection h9 with h9
            subst h9
            exact h8
      · rw [s1, h2]
end Go.Proofs.YtlhiekeolmgilaaGreatDoor
