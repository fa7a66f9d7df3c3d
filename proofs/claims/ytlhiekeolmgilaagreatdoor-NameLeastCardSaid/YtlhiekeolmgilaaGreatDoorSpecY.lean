/- All abbreviations of so many letters, each once, in their order. Nothing of the program's code. -/
import Derived.Test.YtlhiekeolmgilaaGreatDoorPgSpecB
import Derived.Sort.LotA
namespace Go.Proofs.YtlhiekeolmgilaaGreatDoor

theorem sortNat_facts (lt : Nat → Nat → Bool) (hS : Sort.SWO lt) (l : List Nat) : (sortNat lt l).Perm l ∧ (sortNat lt l).Pairwise fun x y => lt y x = false := by
  cases l with
  | nil => exact ⟨List.Perm.refl _, List.Pairwise.nil⟩
  | cons a t =>
    have hsz : (a :: t).toArray.size = t.length + 1 := by simp
    have h := Sort.insertionSort_holds (lt := lt) hS (a :: t).toArray 0 (t.length + 1) (by omega) (by rw [hsz]; exact Nat.le_refl _)
    have e : sortNat lt (a :: t) = (Sort.insertionSort lt (a :: t).toArray 0 (t.length + 1)).toList := by
      unfold sortNat Sort.insertionSort
      rw [outer_F lt (t.length + 1) t.length 1 _ (by omega)]
      rfl
    rw [e]
    obtain ⟨⟨h1, _, h3⟩, h4⟩ := h
    have hd : (Sort.insertionSort lt (a :: t).toArray 0 (t.length + 1)).size = t.length + 1 := by rw [h1, hsz]
    refine ⟨?_, ?_⟩
    · have e1 : ∀ d : Array Nat, d.size = t.length + 1 → d.extract 0 (t.length + 1) = d := fun d hd => by rw [← hd]; exact Array.extract_size
      rw [e1 _ hd, e1 _ hsz] at h3
      exact h3
    · rw [List.pairwise_iff_getElem]
      intro i j hi hj hij
      have := h4 i j (Nat.zero_le _) hij (by simpa [hd] using hj)
      rw [getElem!_pos _ j (by simpa using hj), getElem!_pos _ i (by simpa using hi)] at this
      simpa using this

theorem ltAt_swo (l : List UInt8) : Sort.SWO (ltAt l) := by
  refine ⟨fun x => ?_, fun x y z h k => ?_, fun x y z h k => ?_⟩
  all_goals
    unfold ltAt at *
    simp only [decide_eq_true_eq, decide_eq_false_iff_not] at *
    omega

theorem firsts_mem (l : List UInt8) (i : Nat) : i ∈ firstsG l ↔ i < l.length ∧ l.idxOf (l.getD i 0) = i := by
  unfold firstsG
  rw [(sortNat_facts (ltAt l) (ltAt_swo l) _).1.mem_iff]
  unfold firstsAt
  rw [List.mem_filter, List.mem_range, decide_eq_true_eq]
theorem firsts_up (l : List UInt8) : (firstsG l).Pairwise fun i j => l.getD i 0 < l.getD j 0 := by
  have h := sortNat_facts (ltAt l) (ltAt_swo l) (firstsAt l l.length)
  have hn : (firstsG l).Nodup := by
    unfold firstsG
    rw [h.1.nodup_iff]
    unfold firstsAt
    exact List.nodup_range.filter _
  have h2 : (firstsG l).Pairwise fun x y => ltAt l y x = false := h.2
  refine (h2.and hn).imp_of_mem ?_
  rintro i j hi hj ⟨h3, h4⟩
  have m1 := (firsts_mem l i).1 hi
  have m2 := (firsts_mem l j).1 hj
  unfold ltAt at h3
  simp only [decide_eq_false_iff_not] at h3
  have hne : l.getD i 0 ≠ l.getD j 0 := fun e => h4 (by rw [← m1.2, ← m2.2, e])
  have hne2 : (l.getD i 0).toNat ≠ (l.getD j 0).toNat := fun e => hne (UInt8.toNat_inj.1 e)
  rw [UInt8.lt_iff_toNat_lt]
  omega

theorem sub_first : ∀ (rest : List UInt8) (c : UInt8) (y : List UInt8), (c :: y).Sublist rest → rest.idxOf c < rest.length ∧ y.Sublist (rest.drop (rest.idxOf c + 1))
  | [], c, y, h => by cases h
  | r :: t, c, y, h => by
    by_cases e : r = c
    · subst e
      refine ⟨by simp, ?_⟩
      rw [List.idxOf_cons_self]
      show y.Sublist t
      exact List.cons_sublist_cons.1 h
    · have h2 : (c :: y).Sublist t := by
        cases h with
        | cons _ h2 => exact h2
        | cons_cons => exact absurd rfl e
      obtain ⟨h3, h4⟩ := sub_first t c y h2
      have ei : (r :: t).idxOf c = t.idxOf c + 1 := by
        have hb : (r == c) = false := by simpa using e
        simp only [List.idxOf_cons, hb, cond_false]
      rw [ei]
      exact ⟨by simp; omega, h4⟩

theorem grow_mem : ∀ (m : Nat) (a rest x : List UInt8), x ∈ growG m a rest ↔ ∃ y, x = a ++ y ∧ y.length = m ∧ y.Sublist rest
  | 0, a, rest, x => by
    unfold growG
    rw [List.mem_singleton]
    constructor
    · rintro rfl
      exact ⟨[], by simp, rfl, List.nil_sublist _⟩
    · rintro ⟨y, rfl, hy, _⟩
      have : y = [] := List.eq_nil_of_length_eq_zero hy
      rw [this]; simp
  | m + 1, a, rest, x => by
    unfold growG
    rw [List.mem_flatMap]
    constructor
    · rintro ⟨i, hi, hx⟩
      obtain ⟨y, rfl, hy, hs⟩ := (grow_mem m _ _ x).1 hx
      obtain ⟨h1, _⟩ := (firsts_mem rest i).1 hi
      refine ⟨rest.getD i 0 :: y, by simp, by simp [hy], ?_⟩
      have e : rest = rest.take i ++ rest.getD i 0 :: rest.drop (i + 1) := by
        rw [List.getD_eq_getElem?_getD, List.getElem?_eq_getElem h1]
        show rest = rest.take i ++ rest[i] :: rest.drop (i + 1)
        rw [List.getElem_cons_drop, List.take_append_drop]
      have h2 : (rest.getD i 0 :: y).Sublist (rest.getD i 0 :: rest.drop (i + 1)) := List.cons_sublist_cons.2 hs
      have h3 := h2.trans (List.sublist_append_right (rest.take i) _)
      rw [← e] at h3
      exact h3
    · rintro ⟨y, rfl, hy, hs⟩
      cases y with
      | nil => simp at hy
      | cons c y =>
        obtain ⟨h1, h2⟩ := sub_first rest c y hs
        have hg : rest.getD (rest.idxOf c) 0 = c := by
          rw [List.getD_eq_getElem?_getD, List.getElem?_eq_getElem h1]
          exact List.getElem_idxOf h1
        refine ⟨rest.idxOf c, (firsts_mem rest _).2 ⟨h1, by rw [hg]⟩, (grow_mem m _ _ _).2 ⟨y, by rw [hg]; simp, by simpa using hy, h2⟩⟩

theorem less_app : ∀ (a u v : List UInt8), Op.bytesLess (a ++ u) (a ++ v) = Op.bytesLess u v
  | [], _, _ => rfl
  | c :: a, u, v => by
    show (decide (c < c) || (c == c && Op.bytesLess (a ++ u) (a ++ v))) = _
    rw [less_app a u v]
    have : ¬ c < c := by rw [UInt8.lt_iff_toNat_lt]; omega
    simp [this]
theorem grow_up : ∀ (m : Nat) (a rest : List UInt8), (growG m a rest).Pairwise fun u v => Op.bytesLess u v = true
  | 0, a, rest => List.pairwise_singleton _ _
  | m + 1, a, rest => by
    unfold growG
    rw [List.pairwise_flatMap]
    refine ⟨fun i _ => grow_up m _ _, ?_⟩
    refine (firsts_up rest).imp ?_
    intro i j hij u hu v hv
    obtain ⟨y, rfl, _, _⟩ := (grow_mem m _ _ u).1 hu
    obtain ⟨z, rfl, _, _⟩ := (grow_mem m _ _ v).1 hv
    rw [List.append_assoc, List.append_assoc, less_app]
    show (decide (rest.getD i 0 < rest.getD j 0) || _) = true
    rw [decide_eq_true hij]
    rfl

/-- The abbreviations of so many letters. -/
theorem cuts_mem (c : UInt8) (t : List UInt8) (n : Nat) (h1 : 1 ≤ n) (x : List UInt8) : x ∈ cutsG (c :: t) n ↔ n < (c :: t).length ∧ ∃ y, x = c :: y ∧ y.length + 1 = n ∧ y.Sublist t := by
  unfold cutsG
  split
  · rename_i h
    rw [grow_mem]
    constructor
    · rintro ⟨y, hx, hy, hs⟩
      exact ⟨h, y, hx, by omega, hs⟩
    · rintro ⟨_, y, hx, hy, hs⟩
      exact ⟨y, hx, by omega, hs⟩
  · rename_i h
    constructor
    · intro hx; cases hx
    · rintro ⟨h2, _⟩; exact absurd h2 h
theorem cuts_up (k : List UInt8) (n : Nat) : (cutsG k n).Pairwise fun u v => Op.bytesLess u v = true := by
  unfold cutsG
  split
  · exact grow_up _ _ _
  · exact List.Pairwise.nil
end Go.Proofs.YtlhiekeolmgilaaGreatDoor
