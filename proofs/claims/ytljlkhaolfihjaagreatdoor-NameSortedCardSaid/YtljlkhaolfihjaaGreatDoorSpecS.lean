/- All abbreviations of so many letters, each once, in their order. Nothing of the program's code. -/
import Derived.Test.YtljlkhaolfihjaaGreatDoorPgSpecB
import Derived.Sort.LotA
import Derived.Test.YtljlkhaolfihjaaGreatDoorSpecT
import Derived.Test.YtljlkhaolfihjaaGreatDoorRefY
import Derived.Test.YtljlkhaolfihjaaGreatDoorLawI
import Derived.Test.YtljlkhaolfihjaaGreatDoorLawL
import Derived.Test.YtljlkhaolfihjaaGreatDoorPgSq
namespace Go.Proofs.YtljlkhaolfihjaaGreatDoor

theorem sortNat_facts (lt : Nat → Nat → Bool) (hS : Sort.SWO lt) (l : List Nat) : (sortNat lt l).Perm l ∧ (sortNat lt l).Pairwise fun x y => lt y x = false := by
  cases l with
  | nil => exact ⟨List.Perm.refl _, List.Pairwise.nil⟩
  | cons a t =>
    have hsz : (a :: t).toArray.size = t.length + 1 := by simp
    have h := Sort.insertionSort_holds (lt := lt) hS (a :: t).toArray 0 (t.length + 1) (by omega) (by rw [hsz]; exact Nat.le_refl _)
    have e : sortNat lt (a :: t) = (Sort.insertionSort lt (a :: t).toArray 0 (t.length + 1)).toList := by
      unfold sortNat Sort.insertionSort
      rw [outer_F lt (t.length + 1) t.length 1 _ (by omega)]
      rfl
    rw [e]
    obtain ⟨⟨h1, _, h3⟩, h4⟩ := h
    have hd : (Sort.insertionSort lt (a :: t).toArray 0 (t.length + 1)).size = t.length + 1 := by rw [h1, hsz]
    refine ⟨?_, ?_⟩
    · have e1 : ∀ d : Array Nat, d.size = t.length + 1 → d.extract 0 (t.length + 1) = d := fun d hd => by rw [← hd]; exact Array.extract_size
      rw [e1 _ hd, e1 _ hsz] at h3
      exact h3
    · rw [List.pairwise_iff_getElem]
      intro i j hi hj hij
      have := h4 i j (Nat.zero_le _) hij (by simpa [hd] using hj)
      rw [getElem!_pos _ j (by simpa using hj), getElem!_pos _ i (by simpa using hi)] at this
      simpa using this

theorem ltAt_swo (l : List UInt8) : Sort.SWO (ltAt l) := by
  refine ⟨fun x => ?_, fun x y z h k => ?_, fun x y z h k => ?_⟩
  all_goals
    unfold ltAt at *
    simp only [decide_eq_true_eq, decide_eq_false_iff_not] at *
    omega

theorem firsts_mem (l : List UInt8) (i : Nat) : i ∈ firstsG l ↔ i < l.length ∧ l.idxOf (l.getD i 0) = i := by
  unfold firstsG
  rw [(sortNat_facts (ltAt l) (ltAt_swo l) _).1.mem_iff]
  unfold firstsAt
  rw [List.mem_filter, List.mem_range, decide_eq_true_eq]
theorem firsts_up (l : List UInt8) : (firstsG l).Pairwise fun i j => l.getD i 0 < l.getD j 0 := by
  have h := sortNat_facts (ltAt l) (ltAt_swo l) (firstsAt l l.length)
  have hn : (firstsG l).Nodup := by
    unfold firstsG
    rw [h.1.nodup_iff]
    unfold firstsAt
    exact List.nodup_range.filter _
  have h2 : (firstsG l).Pairwise fun x y => ltAt l y x = false := h.2
  refine (h2.and hn).imp_of_mem ?_
  rintro i j hi hj ⟨h3, h4⟩
  have m1 := (firsts_mem l i).1 hi
  have m2 := (firsts_mem l j).1 hj
  unfold ltAt at h3
  simp only [decide_eq_false_iff_not] at h3
  have hne : l.getD i 0 ≠ l.getD j 0 := fun e => h4 (by rw [← m1.2, ← m2.2, e])
  have hne2 : (l.getD i 0).toNat ≠ (l.getD j 0).toNat := fun e => hne (UInt8.toNat_inj.1 e)
  rw [UInt8.lt_iff_toNat_lt]
  omega

theorem sub_first : ∀ (rest : List UInt8) (c : UInt8) (y : List UInt8), (c :: y).Sublist rest → rest.idxOf c < rest.length ∧ y.Sublist (rest.drop (rest.idxOf c + 1))
  | [], c, y, h => by cases h
  | r :: t, c, y, h => by
    by_cases e : r = c
    · subst e
      refine ⟨by simp, ?_⟩
      rw [List.idxOf_cons_self]
      show y.Sublist t
      exact List.cons_sublist_cons.1 h
    · have h2 : (c :: y).Sublist t := by
        cases h with
        | cons _ h2 => exact h2
        | cons_cons => exact absurd rfl e
      obtain ⟨h3, h4⟩ := sub_first t c y h2
      have ei : (r :: t).idxOf c = t.idxOf c + 1 := by
        have hb : (r == c) = false := by simpa using e
        simp only [List.idxOf_cons, hb, cond_false]
      rw [ei]
      exact ⟨by simp; omega, h4⟩

theorem grow_mem : ∀ (m : Nat) (a rest x : List UInt8), x ∈ growG m a rest ↔ ∃ y, x = a ++ y ∧ y.length = m ∧ y.Sublist rest
  | 0, a, rest, x => by
    unfold growG
    rw [List.mem_singleton]
    constructor
    · rintro rfl
      exact ⟨[], by simp, rfl, List.nil_sublist _⟩
    · rintro ⟨y, rfl, hy, _⟩
      have : y = [] := List.eq_nil_of_length_eq_zero hy
      rw [this]; simp
  | m + 1, a, rest, x => by
    unfold growG
    rw [List.mem_flatMap]
    constructor
    · rintro ⟨i, hi, hx⟩
      obtain ⟨y, rfl, hy, hs⟩ := (grow_mem m _ _ x).1 hx
      obtain ⟨h1, _⟩ := (firsts_mem rest i).1 hi
      refine ⟨rest.getD i 0 :: y, by simp, by simp [hy], ?_⟩
      have e : rest = rest.take i ++ rest.getD i 0 :: rest.drop (i + 1) := by
        rw [List.getD_eq_getElem?_getD, List.getElem?_eq_getElem h1]
        show rest = rest.take i ++ rest[i] :: rest.drop (i + 1)
        rw [List.getElem_cons_drop, List.take_append_drop]
      have h2 : (rest.getD i 0 :: y).Sublist (rest.getD i 0 :: rest.drop (i + 1)) := List.cons_sublist_cons.2 hs
      have h3 := h2.trans (List.sublist_append_right (rest.take i) _)
      rw [← e] at h3
      exact h3
    · rintro ⟨y, rfl, hy, hs⟩
      cases y with
      | nil => simp at hy
      | cons c y =>
        obtain ⟨h1, h2⟩ := sub_first rest c y hs
        have hg : rest.getD (rest.idxOf c) 0 = c := by
          rw [List.getD_eq_getElem?_getD, List.getElem?_eq_getElem h1]
          exact List.getElem_idxOf h1
        refine ⟨rest.idxOf c, (firsts_mem rest _).2 ⟨h1, by rw [hg]⟩, (grow_mem m _ _ _).2 ⟨y, by rw [hg]; simp, by simpa using hy, h2⟩⟩

theorem less_app : ∀ (a u v : List UInt8), Op.bytesLess (a ++ u) (a ++ v) = Op.bytesLess u v
  | [], _, _ => rfl
  | c :: a, u, v => by
    show (decide (c < c) || (c == c && Op.bytesLess (a ++ u) (a ++ v))) = _
    rw [less_app a u v]
    have : ¬ c < c := by rw [UInt8.lt_iff_toNat_lt]; omega
    simp [this]
theorem grow_up : ∀ (m : Nat) (a rest : List UInt8), (growG m a rest).Pairwise fun u v => Op.bytesLess u v = true
  | 0, a, rest => List.pairwise_singleton _ _
  | m + 1, a, rest => by
    unfold growG
    rw [List.pairwise_flatMap]
    refine ⟨fun i _ => grow_up m _ _, ?_⟩
    refine (firsts_up rest).imp ?_
    intro i j hij u hu v hv
    obtain ⟨y, rfl, _, _⟩ := (grow_mem m _ _ u).1 hu
    obtain ⟨z, rfl, _, _⟩ := (grow_mem m _ _ v).1 hv
    rw [List.append_assoc, List.append_assoc, less_app]
    show (decide (rest.getD i 0 < rest.getD j 0) || _) = true
    rw [decide_eq_true hij]
    rfl

/-- The abbreviations of so many letters. -/
theorem cuts_mem (c : UInt8) (t : List UInt8) (n : Nat) (h1 : 1 ≤ n) (x : List UInt8) : x ∈ cutsG (c :: t) n ↔ n < (c :: t).length ∧ ∃ y, x = c :: y ∧ y.length + 1 = n ∧ y.Sublist t := by
  unfold cutsG
  split
  · rename_i h
    rw [grow_mem]
    constructor
    · rintro ⟨y, hx, hy, hs⟩
      exact ⟨h, y, hx, by omega, hs⟩
    · rintro ⟨_, y, hx, hy, hs⟩
      exact ⟨y, hx, by omega, hs⟩
  · rename_i h
    constructor
    · intro hx; cases hx
    · rintro ⟨h2, _⟩; exact absurd h2 h
theorem cuts_up (k : List UInt8) (n : Nat) : (cutsG k n).Pairwise fun u v => Op.bytesLess u v = true := by
  unfold cutsG
  split
  · exact grow_up _ _ _
  · exact List.Pairwise.nil
end Go.Proofs.YtljlkhaolfihjaaGreatDoor

/- The first fine abbreviation in order is the best of all parts. Nothing of the program's code. -/
namespace Go.Proofs.YtljlkhaolfihjaaGreatDoor

theorem bz_len (s : ByteArray) : s.data.toList.length = s.size := by simp
theorem bz_inj {a b : ByteArray} (h : a.data.toList = b.data.toList) : a = b := bytes_inj (by rw [ByteArray.toList_eq, ByteArray.toList_eq]; exact h)
theorem ext_list (s : ByteArray) (i j : Nat) : (s.extract i j).data.toList = (s.data.toList.drop i).take (j - i) := by
  rw [ByteArray.data_extract, Array.toList_extract, List.extract_eq_take_drop]

theorem parts_mem : ∀ (n : Nat) (s y : ByteArray), y ∈ partsL n s ↔ y.data.toList.length = n ∧ y.data.toList.Sublist s.data.toList
  | 0, s, y => by
    unfold partsL
    rw [List.mem_singleton]
    constructor
    · rintro rfl
      exact ⟨rfl, List.nil_sublist _⟩
    · rintro ⟨h, _⟩
      refine bz_inj ?_
      rw [List.eq_nil_of_length_eq_zero h]
      rfl
  | n + 1, s, y => by
    unfold partsL
    rw [List.mem_flatMap]
    have hz := bz_len s
    constructor
    · rintro ⟨i, hi, hy⟩
      rw [List.mem_range] at hi
      rw [List.mem_map] at hy
      obtain ⟨t, ht, rfl⟩ := hy
      obtain ⟨h1, h2⟩ := (parts_mem n _ t).1 ht
      have hil : i < s.data.toList.length := by omega
      have e1 : (s.extract i (i + 1)).data.toList = [s.data.toList[i]] := by
        rw [ext_list, show i + 1 - i = 1 from by omega, List.drop_eq_getElem_cons hil]
        rfl
      have e2 : (s.extract (i + 1) s.size).data.toList = s.data.toList.drop (i + 1) := by
        rw [ext_list, List.take_of_length_le (by rw [List.length_drop]; omega)]
      rw [ByteArray.data_append, Array.toList_append, e1]
      rw [e2] at h2
      refine ⟨by rw [List.length_append, h1]; show 1 + n = n + 1; omega, ?_⟩
      have e3 : s.data.toList = s.data.toList.take i ++ s.data.toList[i] :: s.data.toList.drop (i + 1) := by
        rw [List.getElem_cons_drop, List.take_append_drop]
      have h3 := (List.cons_sublist_cons.2 h2 : (s.data.toList[i] :: t.data.toList).Sublist (s.data.toList[i] :: s.data.toList.drop (i + 1))).trans (List.sublist_append_right (s.data.toList.take i) _)
      rw [← e3] at h3
      exact h3
    · rintro ⟨h1, h2⟩
      cases hy : y.data.toList with
      | nil => rw [hy] at h1; simp at h1
      | cons c t =>
        rw [hy] at h1 h2
        obtain ⟨h3, h4⟩ := sub_first _ c t h2
        have hn : n ≤ (s.data.toList.drop (s.data.toList.idxOf c + 1)).length := by
          have := h4.length_le
          simp at h1
          omega
        rw [List.length_drop] at hn
        refine ⟨s.data.toList.idxOf c, List.mem_range.2 (by omega), List.mem_map.2 ⟨⟨t.toArray⟩, (parts_mem n _ _).2 ⟨by simpa using h1, ?_⟩, ?_⟩⟩
        · rw [ext_list, List.take_of_length_le (by rw [List.length_drop]; omega)]
          exact h4
        · refine bz_inj ?_
          rw [ByteArray.data_append, Array.toList_append, ext_list, hy, show s.data.toList.idxOf c + 1 - s.data.toList.idxOf c = 1 from by omega, List.drop_eq_getElem_cons h3, List.getElem_idxOf h3]
          rfl

theorem less_anti {a b : List UInt8} (h : Op.bytesLess a b = true) : Op.bytesLess b a = false := by
  rw [less_cmp] at *
  have h1 := of_decide_eq_true h
  refine decide_eq_false ?_
  rw [cmpB_anti a b, h1]
  decide
theorem less_none {a b : List UInt8} (h : Op.bytesLess a b = false) (k : Op.bytesLess b a = false) : a = b := by
  rw [less_cmp] at *
  have h1 := of_decide_eq_false h
  have k1 := of_decide_eq_false k
  rw [cmpB_anti a b] at k1
  refine cmpB_eq a b ?_
  rcases cmpB_vals a b with e | e | e
  · exact absurd e h1
  · exact e
  · rw [e] at k1; exact absurd rfl k1
/-- What the fold over all parts comes to. -/
theorem fold_best (ss : List ByteArray) (S : ByteArray) : ∀ (Y : List ByteArray) (acc : ByteArray × Bool),
    ((Y.foldl (bestStep ss S) acc).2 = false → acc.2 = false ∧ Y.foldl (bestStep ss S) acc = acc ∧ ∀ y, y ∈ Y → okAll ss S (S.extract 0 1 ++ y) = false) ∧
    ((Y.foldl (bestStep ss S) acc).2 = true → ((Y.foldl (bestStep ss S) acc = acc ∧ acc.2 = true) ∨ ∃ y, y ∈ Y ∧ (Y.foldl (bestStep ss S) acc).1 = S.extract 0 1 ++ y ∧ okAll ss S (S.extract 0 1 ++ y) = true) ∧
      (acc.2 = true → Op.bytesLess acc.1.toList (Y.foldl (bestStep ss S) acc).1.toList = false) ∧ ∀ y, y ∈ Y → okAll ss S (S.extract 0 1 ++ y) = true → Op.bytesLess (S.extract 0 1 ++ y).toList (Y.foldl (bestStep ss S) acc).1.toList = false)
  | [], acc => by
    refine ⟨fun h => ⟨h, rfl, fun y hy => by cases hy⟩, fun h => ⟨.inl ⟨rfl, h⟩, fun _ => ?_, fun y hy => by cases hy⟩⟩
    show Op.bytesLess acc.1.toList acc.1.toList = false
    exact bytesLess_irrefl _
  | x :: Y, acc => by
    rw [List.foldl_cons]
    obtain ⟨h1, h2⟩ := fold_best ss S Y (bestStep ss S acc x)
    by_cases hc : (okAll ss S (S.extract 0 1 ++ x) && (!acc.2 || Op.bytesLess (S.extract 0 1 ++ x).toList acc.1.toList)) = true
    · have e : bestStep ss S acc x = (S.extract 0 1 ++ x, true) := by unfold bestStep; rw [if_pos hc]
      rw [e] at h1 h2 ⊢
      simp only [Bool.and_eq_true, Bool.or_eq_true, Bool.not_eq_true'] at hc
      refine ⟨(fun h => by have h9 := (h1 h).1; simp at h9), fun h => ?_⟩
      obtain ⟨h3, h4, h5⟩ := h2 h
      have h6 : Op.bytesLess (S.extract 0 1 ++ x).toList (List.foldl (bestStep ss S) (S.extract 0 1 ++ x, true) Y).1.toList = false := h4 rfl
      refine ⟨.inr ?_, fun ha => ?_, fun y hy hok => ?_⟩
      · rcases h3 with ⟨h3, _⟩ | ⟨y, hy, h3, h3'⟩
        · exact ⟨x, by simp, by rw [h3], hc.1⟩
        · exact ⟨y, by simp [hy], h3, h3'⟩
      · rcases hc.2 with h7 | h7
        · rw [ha] at h7; cases h7
        · cases hb : Op.bytesLess acc.1.toList (List.foldl (bestStep ss S) (S.extract 0 1 ++ x, true) Y).1.toList with
          | false => rfl
          | true =>
            rw [less_cmp] at h7 hb h6
            exact absurd (cmpB_trans _ _ _ (of_decide_eq_true h7) (of_decide_eq_true hb)) (of_decide_eq_false h6)
      · rcases List.mem_cons.1 hy with rfl | hy
        · exact h6
        · exact h5 y hy hok
    · have e : bestStep ss S acc x = acc := by unfold bestStep; rw [if_neg hc]
      rw [e] at h1 h2 ⊢
      have hn : okAll ss S (S.extract 0 1 ++ x) = true → acc.2 = true ∧ Op.bytesLess (S.extract 0 1 ++ x).toList acc.1.toList = false := fun hok => by
        rw [hok] at hc
        simp only [Bool.true_and, Bool.or_eq_true, Bool.not_eq_true', not_or, Bool.not_eq_false, Bool.not_eq_true] at hc
        exact hc
      refine ⟨fun h => ?_, fun h => ?_⟩
      · obtain ⟨a1, a2, a3⟩ := h1 h
        refine ⟨a1, a2, fun y hy => ?_⟩
        rcases List.mem_cons.1 hy with rfl | hy
        · cases hok : okAll ss S (S.extract 0 1 ++ y) with
          | false => rfl
          | true => rw [(hn hok).1] at a1; cases a1
        · exact a3 y hy
      · obtain ⟨h3, h4, h5⟩ := h2 h
        refine ⟨?_, h4, fun y hy hok => ?_⟩
        · rcases h3 with h3 | ⟨y, hy, h3⟩
          · exact .inl h3
          · exact .inr ⟨y, by simp [hy], h3⟩
        · rcases List.mem_cons.1 hy with rfl | hy
          · obtain ⟨b1, b2⟩ := hn hok
            have h6 := h4 b1
            cases hb : Op.bytesLess (S.extract 0 1 ++ y).toList (List.foldl (bestStep ss S) acc Y).1.toList with
            | false => rfl
            | true =>
              cases hb2 : Op.bytesLess acc.1.toList (S.extract 0 1 ++ y).toList with
              | false =>
                have e1 := less_none b2 hb2
                rw [e1, h6] at hb
                cases hb
              | true =>
                rw [less_cmp] at hb hb2 h6
                exact absurd (cmpB_trans _ _ _ (of_decide_eq_true hb2) (of_decide_eq_true hb)) (of_decide_eq_false h6)
          · exact h5 y hy hok

theorem find_first {q : List UInt8 → Bool} : ∀ (C : List (List UInt8)), (C.Pairwise fun u v => Op.bytesLess u v = true) →
    (C.find? q = none → ∀ b, b ∈ C → q b = false) ∧ ∀ a, C.find? q = some a → a ∈ C ∧ q a = true ∧ ∀ b, b ∈ C → q b = true → Op.bytesLess b a = false
  | [], _ => ⟨(fun _ b hb => by cases hb), (fun a h => by cases h)⟩
  | x :: C, hC => by
    rw [List.pairwise_cons] at hC
    obtain ⟨h1, h2⟩ := find_first C hC.2
    cases hq : q x with
    | true =>
      rw [List.find?_cons_of_pos hq]
      refine ⟨(fun h => by cases h), fun a h => ?_⟩
      injection h with h
      subst h
      refine ⟨by simp, hq, fun b hb hqb => ?_⟩
      rcases List.mem_cons.1 hb with rfl | hb
      · exact bytesLess_irrefl _
      · exact less_anti (hC.1 b hb)
    | false =>
      rw [List.find?_cons_of_neg (by simp [hq])]
      refine ⟨fun h b hb => ?_, fun a h => ?_⟩
      · rcases List.mem_cons.1 hb with rfl | hb
        · exact hq
        · exact h1 h b hb
      · obtain ⟨a1, a2, a3⟩ := h2 a h
        refine ⟨by simp [a1], a2, fun b hb hqb => ?_⟩
        rcases List.mem_cons.1 hb with rfl | hb
        · rw [hq] at hqb; cases hqb
        · exact a3 b hb hqb

/-- The best of so many letters, both ways. -/
theorem best_find (ss : List ByteArray) (S : ByteArray) (q : List UInt8 → Bool) (hq : ∀ a : ByteArray, q a.data.toList = okAll ss S a) (m : Nat) (hm : m + 1 < S.size) :
    bestF ss S m = match (cutsG S.data.toList (m + 1)).find? q with | none => (ByteArray.empty, false) | some a => (⟨a.toArray⟩, true) := by
  have hz := bz_len S
  cases hk : S.data.toList with
  | nil =>
    have h0 : S.size = 0 := by rw [← hz, hk]; rfl
    omega
  | cons c t =>
    have e0 : (S.extract 0 1).data.toList = [c] := by rw [ext_list, hk]; rfl
    have e1 : (S.extract 1 S.size).data.toList = t := by
      rw [ext_list, hk]
      show List.take (S.size - 1) t = t
      refine List.take_of_length_le ?_
      have h0 : (c :: t).length = S.size := by rw [← hk]; exact hz
      have h1 : (c :: t).length = t.length + 1 := rfl
      omega
    have hpre : ∀ y : ByteArray, (S.extract 0 1 ++ y).data.toList = c :: y.data.toList := fun y => by
      rw [ByteArray.data_append, Array.toList_append, e0]; rfl
    have hlen : m + 1 < (c :: t).length := by rw [← hk, hz]; exact hm
    have hmem : ∀ x : List UInt8, x ∈ cutsG (c :: t) (m + 1) ↔ ∃ y, y ∈ partsL m (S.extract 1 S.size) ∧ (S.extract 0 1 ++ y).data.toList = x := fun x => by
      rw [cuts_mem c t (m + 1) (by omega)]
      constructor
      · rintro ⟨_, y, rfl, h1, h2⟩
        refine ⟨⟨y.toArray⟩, (parts_mem m _ _).2 ⟨by simp; omega, by rw [e1]; exact h2⟩, by rw [hpre]⟩
      · rintro ⟨y, hy, rfl⟩
        obtain ⟨h1, h2⟩ := (parts_mem m _ y).1 hy
        rw [e1] at h2
        exact ⟨hlen, y.data.toList, hpre y, by omega, h2⟩
    obtain ⟨f1, f2⟩ := fold_best ss S (partsL m (S.extract 1 S.size)) (ByteArray.empty, false)
    obtain ⟨g1, g2⟩ := find_first (q := q) (cutsG (c :: t) (m + 1)) (cuts_up _ _)
    have hbF : bestF ss S m = (partsL m (S.extract 1 S.size)).foldl (bestStep ss S) (ByteArray.empty, false) := rfl
    rw [← hbF] at f1 f2
    cases hf : (cutsG (c :: t) (m + 1)).find? q with
    | none =>
      have hno := g1 hf
      cases hb : (bestF ss S m).2 with
      | false => exact (f1 hb).2.1
      | true =>
        rcases (f2 hb).1 with ⟨_, h⟩ | ⟨y, hy, _, hok⟩
        · cases h
        · have := hno _ ((hmem _).2 ⟨y, hy, rfl⟩)
          rw [hq, hok] at this
          cases this
    | some a =>
      obtain ⟨a1, a2, a3⟩ := g2 a hf
      obtain ⟨y0, hy0, ha⟩ := (hmem a).1 a1
      cases hb : (bestF ss S m).2 with
      | false =>
        have := (f1 hb).2.2 y0 hy0
        rw [← hq, ha, a2] at this
        cases this
      | true =>
        obtain ⟨h3, _, h5⟩ := f2 hb
        rcases h3 with ⟨_, h⟩ | ⟨y, hy, hr, hok⟩
        · cases h
        · have h6 := h5 y0 hy0 (by rw [← hq, ha]; exact a2)
          have h7 := a3 _ ((hmem _).2 ⟨y, hy, rfl⟩) (by rw [hq]; exact hok)
          have h8 : (bestF ss S m).1.data.toList = a := by
            rw [ByteArray.toList_eq, ByteArray.toList_eq, ha] at h6
            rw [hr] at h6 ⊢
            exact less_none h7 h6
          have h9 : (bestF ss S m).1 = ⟨a.toArray⟩ := bz_inj (h8.trans (by rfl))
          exact Prod.ext h9 hb
end Go.Proofs.YtljlkhaolfihjaaGreatDoor

/- The shortest abbreviation and the column's, the program's way and the reference's. Nothing of the program's code. -/
namespace Go.Proofs.YtljlkhaolfihjaaGreatDoor

theorem fine_ok (ss : List ByteArray) (i : Nat) (hi : i < ss.length) (a : ByteArray) : fineG (othersK ss i) a.data.toList = okAll ss (keyS ss[i]) a := by
  have hk : Sp.key (at' ss i) = (keyS ss[i]).data.toList := by rw [at_get ss i hi]; rfl
  rw [Bool.eq_iff_iff]
  unfold fineG okAll othersK
  rw [hk]
  simp only [List.all_eq_true, List.mem_filter, List.mem_map, decide_eq_true_eq]
  constructor
  · intro h x hx
    unfold okOne
    rw [Bool.or_eq_true]
    by_cases he : (keyS x).data.toList = (keyS ss[i]).data.toList
    · left
      rw [beq_iff_eq, ByteArray.toList_eq, ByteArray.toList_eq]
      exact he
    · right
      exact h _ ⟨⟨x, hx, rfl⟩, he⟩
  · rintro h o ⟨⟨x, hx, rfl⟩, hne⟩
    have h1 := h x hx
    unfold okOne at h1
    rw [Bool.or_eq_true] at h1
    rcases h1 with h1 | h1
    · rw [beq_iff_eq, ByteArray.toList_eq, ByteArray.toList_eq] at h1
      exact absurd h1 hne
    · exact h1

/-- The first fine one of m + 1 letters and up, f numbers of letters. -/
def findUp (q : List UInt8 → Bool) (k : List UInt8) : Nat → Nat → Option (List UInt8)
  | 0, _ => none
  | f + 1, m => match (cutsG k (m + 1)).find? q with
    | some a => some a
    | none => findUp q k f (m + 1)
theorem flat_up (q : List UInt8 → Bool) (k : List UInt8) : ∀ f m, ((List.range' m f).map fun m => cutsG k (m + 1)).flatten.find? q = findUp q k f m
  | 0, m => rfl
  | f + 1, m => by
    rw [List.range'_succ, List.map_cons, List.flatten_cons, List.find?_append, flat_up q k f (m + 1)]
    show _ = (match (cutsG k (m + 1)).find? q with | some a => some a | none => findUp q k f (m + 1))
    cases (cutsG k (m + 1)).find? q <;> rfl
/-- The first fine one of n letters and down. -/
def findDown (q : List UInt8 → Bool) (k : List UInt8) : Nat → Option (List UInt8)
  | 0 => none
  | n + 1 => match (cutsG k (n + 1)).find? q with
    | some a => some a
    | none => findDown q k n
theorem flat_down (q : List UInt8 → Bool) (k : List UInt8) : ∀ n, ((List.range n).map fun m => cutsG k (n - m)).flatten.find? q = findDown q k n
  | 0 => rfl
  | n + 1 => by
    have e : (List.range (n + 1)).map (fun m => cutsG k (n + 1 - m)) = cutsG k (n + 1) :: (List.range n).map fun m => cutsG k (n - m) := by
      rw [List.range_succ_eq_map, List.map_cons, List.map_map]
      congr 1
      refine List.map_congr_left fun m _ => ?_
      show cutsG k (n + 1 - (m + 1)) = cutsG k (n - m)
      rw [Nat.add_sub_add_right]
    rw [e, List.flatten_cons, List.find?_append, flat_down q k n]
    show _ = (match (cutsG k (n + 1)).find? q with | some a => some a | none => findDown q k n)
    cases (cutsG k (n + 1)).find? q <;> rfl

def ansOf : Option (List UInt8) → ByteArray × Int
  | none => (ByteArray.empty, 11)
  | some a => (⟨(a ++ [46]).toArray⟩, 0)
theorem join_point (a : List UInt8) : (⟨a.toArray⟩ : ByteArray) ++ ⟨#[46]⟩ = ⟨(a ++ [46]).toArray⟩ := bz_inj (by rw [ByteArray.data_append, Array.toList_append])

theorem from_find (ss : List ByteArray) (S : ByteArray) (q : List UInt8 → Bool) (hq : ∀ a : ByteArray, q a.data.toList = okAll ss S a) : ∀ f m, S.size ≤ m + f + 1 → fromB ss S f m = ansOf (findUp q S.data.toList (S.size - 1 - m) m)
  | 0, m, h => by
    rw [show S.size - 1 - m = 0 from by omega]
    rfl
  | f + 1, m, h => by
    unfold fromB
    by_cases hm : m + 1 < S.size
    · have hb := best_find ss S q hq m hm
      rw [show S.size - 1 - m = (S.size - 1 - (m + 1)) + 1 from by omega]
      have hbp : bestP ss S m = ((bestF ss S m).1 ++ ⟨#[46]⟩, (bestF ss S m).2) := by unfold bestP; rw [if_neg (by omega)]
      unfold findUp
      rw [hbp, hb]
      cases (cutsG S.data.toList (m + 1)).find? q with
      | none =>
        show fromB ss S f (m + 1) = _
        rw [from_find ss S q hq f (m + 1) (by omega)]
      | some a =>
        show ((⟨a.toArray⟩ : ByteArray) ++ ⟨#[46]⟩, (0 : Int)) = _
        rw [join_point]
        rfl
    · have hb : bestP ss S m = (ByteArray.empty, false) := by unfold bestP; rw [if_pos (by omega)]
      rw [hb]
      show fromB ss S f (m + 1) = _
      rw [from_find ss S q hq f (m + 1) (by omega), show S.size - 1 - m = 0 from by omega, show S.size - 1 - (m + 1) = 0 from by omega]
      rfl
theorem down_find (ss : List ByteArray) (S : ByteArray) (q : List UInt8 → Bool) (hq : ∀ a : ByteArray, q a.data.toList = okAll ss S a) : ∀ n, n < S.size → downB ss S n = ansOf (findDown q S.data.toList n)
  | 0, _ => rfl
  | n + 1, h => by
    unfold downB findDown
    have hb := best_find ss S q hq n h
    have hbp : bestP ss S n = ((bestF ss S n).1 ++ ⟨#[46]⟩, (bestF ss S n).2) := by unfold bestP; rw [if_neg (by omega)]
    rw [hbp, hb]
    cases (cutsG S.data.toList (n + 1)).find? q with
    | none =>
      show downB ss S n = _
      rw [down_find ss S q hq n (by omega)]
    | some a =>
      show ((⟨a.toArray⟩ : ByteArray) ++ ⟨#[46]⟩, (0 : Int)) = _
      rw [join_point]
      rfl

theorem first_ans (o : List (List UInt8)) (s : List (List (List UInt8))) : ((⟨(firstG o s).1.toArray⟩ : ByteArray), (firstG o s).2) = ansOf (s.flatten.find? (fineG o)) := by
  unfold firstG
  cases s.flatten.find? (fineG o) <;> rfl

theorem first_ok : ∀ (ss : List ByteArray), firstErr ss = 0 → ∀ s, s ∈ ss → Sp.check s.data.toList = 0
  | [], _, s, hs => by cases hs
  | x :: t, h, s, hs => by
    unfold firstErr at h
    by_cases hc : Sp.check x.data.toList = 0
    · rw [if_pos hc] at h
      rcases List.mem_cons.1 hs with rfl | hs
      · exact hc
      · exact first_ok t h s hs
    · rw [if_neg hc] at h
      exact absurd h hc
theorem check_keys (ss : List ByteArray) (h : listErr ss = 0) (i : Nat) (hi : i < ss.length) : (keyS ss[i]).size ≤ 12 := by
  have hc : Sp.check ss[i].data.toList = 0 := by
    unfold listErr at h
    split at h
    · cases h
    · exact first_ok ss h _ (List.getElem_mem hi)
  have h1 := check_size hc
  have h2 := latP_flat_le ss[i].data.toList
  have h3 := latP_flat hc
  show (Sp.key ss[i].data.toList).toArray.size ≤ 12
  rw [List.size_toArray, ← h3]
  have := bz_len ss[i]
  omega

/-- The same shortest abbreviation. -/
theorem shortest_eq (ss : List ByteArray) (i : Nat) (hi : i < ss.length) (h : listErr ss = 0) : shortestP ss (i : Int) = (⟨(shortestG ss i).1.toArray⟩, (shortestG ss i).2) := by
  have hv := (check_keys ss h i hi)
  have e1 : shortestP ss (i : Int) = fromB ss (keyS ss[i]) 12 0 := by
    unfold shortestP
    rw [if_pos h, if_neg (by omega)]
    rw [show ((i : Int)).toNat = i from by omega, List.getElem?_eq_getElem hi]
    rfl
  have hk : Sp.key (at' ss i) = (keyS ss[i]).data.toList := by rw [at_get ss i hi]; rfl
  have hz := bz_len (keyS ss[i])
  rw [e1, from_find ss (keyS ss[i]) (fineG (othersK ss i)) (fun a => fine_ok ss i hi a) 12 0 (by omega)]
  unfold shortestG
  rw [first_ans, List.range_eq_range', flat_up, hk, hz]
  rfl

/-- The same in a column. -/
theorem fit_eq (ss : List ByteArray) (i wd : Nat) (hi : i < ss.length) (h : listErr ss = 0) (h1 : 1 ≤ wd) : fitP ss (i : Int) (wd : Int) = (⟨(fitG ss i wd).1.toArray⟩, (fitG ss i wd).2) := by
  have e1 : fitP ss (i : Int) (wd : Int) = fitAt ss (keyS ss[i]) (wd : Int) := by
    unfold fitP
    rw [if_pos h, if_neg (by omega)]
    rw [show ((i : Int)).toNat = i from by omega, List.getElem?_eq_getElem hi]
    rfl
  have hk : Sp.key (at' ss i) = (keyS ss[i]).data.toList := by rw [at_get ss i hi]; rfl
  have hz := bz_len (keyS ss[i])
  rw [e1]
  unfold fitAt fitG
  rw [if_neg (by omega), hk, hz]
  by_cases hw : (keyS ss[i]).size ≤ wd
  · rw [if_pos (show ((keyS ss[i]).size : Int) ≤ (wd : Int) by omega)]
    simp only [if_pos hw] <;> rfl
  · rw [if_neg (show ¬ ((keyS ss[i]).size : Int) ≤ (wd : Int) by omega), if_neg hw, show ((wd : Int)).toNat = wd from by omega, first_ans, flat_down, down_find ss (keyS ss[i]) (fineG (othersK ss i)) (fun a => fine_ok ss i hi a) _ (by omega)]
end Go.Proofs.YtljlkhaolfihjaaGreatDoor

/- What is set in columns; abbreviations that can be mistaken. Nothing of the program's code. -/
namespace Go.Proofs.YtljlkhaolfihjaaGreatDoor

/-- Whether an abbreviation that stands for some names of a list can be mistaken for another one than the name at i. -/
def misB (xs : List Int) (ss : List ByteArray) (i : Nat) : Bool := !(xs.any fun x => decide (x = (i : Int))) || xs.any fun x => decide (Sp.key (at' ss x.toNat) ≠ Sp.key (at' ss i))
theorem mis_fine (ss : List ByteArray) (i : Nat) (hi : i < ss.length) (a : List UInt8) (h : abbrB a (Sp.key (at' ss i)) = true) : misB (standsFrom (a ++ [46]) 0 ss) ss i = !fineG (othersK ss i) a := by
  have hm : ∀ x, x ∈ standsFrom (a ++ [46]) 0 ss ↔ ∃ j, ∃ _ : j < ss.length, x = (j : Int) ∧ abbrB a (Sp.key (at' ss j)) = true := fun x => by
    rw [stands_mem]
    constructor
    · rintro ⟨j, hj, e, hb⟩
      refine ⟨j, hj, by rw [e]; omega, ?_⟩
      rw [short_letters] at hb
      rw [at_get ss j hj]; exact hb
    · rintro ⟨j, hj, e, hb⟩
      refine ⟨j, hj, by rw [e]; omega, ?_⟩
      rw [short_letters]
      rw [at_get ss j hj] at hb; exact hb
  have h1 : (standsFrom (a ++ [46]) 0 ss).any (fun x => decide (x = (i : Int))) = true := by
    rw [List.any_eq_true]; exact ⟨(i : Int), (hm _).2 ⟨i, hi, rfl, h⟩, by simp⟩
  unfold misB
  rw [h1, Bool.not_true, Bool.false_or, Bool.eq_iff_iff]
  rw [List.any_eq_true, Bool.not_eq_true', ← Bool.not_eq_true]
  unfold fineG othersK
  rw [List.all_eq_true]
  constructor
  · rintro ⟨x, hx, hne⟩ hall
    obtain ⟨j, hj, rfl, hb⟩ := (hm x).1 hx
    have hne := of_decide_eq_true hne
    rw [Int.toNat_natCast] at hne
    have := hall (Sp.key (at' ss j)) (List.mem_filter.2 ⟨List.mem_map.2 ⟨ss[j], List.getElem_mem hj, by rw [at_get ss j hj]⟩, decide_eq_true hne⟩)
    rw [hb] at this; cases this
  · intro hall
    apply Classical.byContradiction
    intro hno
    refine hall fun o ho => ?_
    obtain ⟨ho1, ho2⟩ := List.mem_filter.1 ho
    obtain ⟨s, hs, rfl⟩ := List.mem_map.1 ho1
    obtain ⟨j, hj, rfl⟩ := List.mem_iff_getElem.1 hs
    cases hb : abbrB a (Sp.key ss[j].data.toList) with
    | false => rfl
    | true =>
      exfalso
      refine hno ⟨(j : Int), (hm _).2 ⟨j, hj, rfl, by rw [at_get ss j hj]; exact hb⟩, decide_eq_true ?_⟩
      rw [Int.toNat_natCast, at_get ss j hj]
      exact of_decide_eq_true ho2

theorem cuts_abbr {k : List UInt8} {n : Nat} (h1 : 1 ≤ n) {x : List UInt8} (hx : x ∈ cutsG k n) : abbrB x k = true ∧ x.length = n ∧ n < k.length ∧ ∀ c, c ∈ x → c ∈ k := by
  cases k with
  | nil => unfold cutsG at hx; simp at hx
  | cons c t =>
    obtain ⟨h2, y, rfl, hy, hs⟩ := (cuts_mem c t n h1 x).1 hx
    have hs2 : (c :: y).Sublist (c :: t) := List.cons_sublist_cons.2 hs
    refine ⟨?_, hy, h2, fun d hd => hs2.subset hd⟩
    unfold abbrB
    simp only [Bool.and_eq_true, decide_eq_true_eq]
    refine ⟨?_, rfl, ?_⟩
    · rw [List.length_cons, hy]; exact h2
    · rw [part_sub]; exact hs2

theorem down_some (q : List UInt8 → Bool) (k : List UInt8) : ∀ n a, findDown q k n = some a → ∃ m, 1 ≤ m ∧ m ≤ n ∧ a ∈ cutsG k m ∧ q a = true
  | 0, a, h => by cases h
  | n + 1, a, h => by
    unfold findDown at h
    cases hf : (cutsG k (n + 1)).find? q with
    | none =>
      rw [hf] at h
      obtain ⟨m, h1, h2, h3⟩ := down_some q k n a h
      exact ⟨m, h1, by omega, h3⟩
    | some b =>
      rw [hf] at h
      injection h with h
      subst h
      exact ⟨n + 1, by omega, by omega, List.mem_of_find?_eq_some hf, by have := List.find?_some hf; exact this⟩
theorem down_none (q : List UInt8 → Bool) (k : List UInt8) : ∀ n, findDown q k n = none → ∀ m, 1 ≤ m → m ≤ n → ∀ a, a ∈ cutsG k m → q a = false
  | 0, _, m, h1, h2, a, ha => by omega
  | n + 1, h, m, h1, h2, a, ha => by
    unfold findDown at h
    cases hf : (cutsG k (n + 1)).find? q with
    | none =>
      rw [hf] at h
      by_cases e : m = n + 1
      · subst e
        have := List.find?_eq_none.1 hf a ha
        simpa using this
      · exact down_none q k n h m h1 (by omega) a ha
    | some b => rw [hf] at h; cases h
theorem down_mono (q : List UInt8 → Bool) (k : List UInt8) (n : Nat) (b : List UInt8) (h : findDown q k n = some b) : ∃ a, findDown q k (n + 1) = some a ∧ b.length ≤ a.length := by
  obtain ⟨m, h1, h2, h3, _⟩ := down_some q k n b h
  have hl := (cuts_abbr h1 h3).2.1
  unfold findDown
  cases hf : (cutsG k (n + 1)).find? q with
  | none => exact ⟨b, h, Nat.le_refl _⟩
  | some a =>
    refine ⟨a, rfl, ?_⟩
    have := (cuts_abbr (by omega) (List.mem_of_find?_eq_some hf)).2.1
    omega

/-- How many letters are set in a column. -/
def setW (ss : List ByteArray) (i w : Nat) : Nat :=
  if (Sp.key (at' ss i)).length ≤ w then (Sp.key (at' ss i)).length
  else match findDown (fineG (othersK ss i)) (Sp.key (at' ss i)) (w - 1) with | none => 0 | some a => a.length

/-- What is set in a column of w + 1 bytes. -/
theorem col_step (ss : List ByteArray) (i w : Nat) :
    (fitG ss i (w + 1) = ([], 11) ∧ setW ss i w = 0 ∧ w + 1 < (Sp.key (at' ss i)).length ∧ (∀ b, shortestG ss i = (b, 0) → w + 1 < b.length) ∧ setW ss i (w + 1) = 0) ∨
    (fitG ss i (w + 1) = (Sp.key (at' ss i), 0) ∧ (Sp.key (at' ss i)).length ≤ w + 1 ∧ setW ss i w ≤ (Sp.key (at' ss i)).length ∧ setW ss i (w + 1) = (Sp.key (at' ss i)).length) ∨
    (∃ a, fitG ss i (w + 1) = (a ++ [46], 0) ∧ w + 1 < (Sp.key (at' ss i)).length ∧ 1 ≤ a.length ∧ a.length ≤ w ∧ setW ss i w ≤ a.length ∧ setW ss i (w + 1) = a.length ∧ abbrB a (Sp.key (at' ss i)) = true ∧ fineG (othersK ss i) a = true ∧ ∀ c, c ∈ a → c ∈ Sp.key (at' ss i)) := by
  have e1 : fitG ss i (w + 1) = if (Sp.key (at' ss i)).length ≤ w + 1 then (Sp.key (at' ss i), 0) else firstG (othersK ss i) ((List.range w).map fun m => cutsG (Sp.key (at' ss i)) (w - m)) := rfl
  have e2 : shortestG ss i = firstG (othersK ss i) ((List.range ((Sp.key (at' ss i)).length - 1)).map fun m => cutsG (Sp.key (at' ss i)) (m + 1)) := rfl
  generalize hk : Sp.key (at' ss i) = k at *
  generalize ho : othersK ss i = o at *
  have s0 : setW ss i w = if k.length ≤ w then k.length else match findDown (fineG o) k (w - 1) with | none => 0 | some a => a.length := by unfold setW; rw [hk, ho]
  have s1 : setW ss i (w + 1) = if k.length ≤ w + 1 then k.length else match findDown (fineG o) k w with | none => 0 | some a => a.length := by unfold setW; rw [hk, ho]; rfl
  by_cases hw : k.length ≤ w + 1
  · rw [if_pos hw] at e1 s1
    refine .inr (.inl ⟨e1, hw, ?_, s1⟩)
    rw [s0]
    split
    · exact Nat.le_refl _
    · cases hd : findDown (fineG o) k (w - 1) with
      | none => exact Nat.zero_le _
      | some b =>
        obtain ⟨m, h1, _, h3, _⟩ := down_some _ _ _ _ hd
        have := cuts_abbr h1 h3
        show b.length ≤ k.length
        omega
  · rw [if_neg hw] at e1 s1
    rw [if_neg (by omega)] at s0
    rcases firstG_code o ((List.range w).map fun m => cutsG k (w - m)) with ⟨h1, h2⟩ | ⟨a, h1, h2⟩
    · rw [flat_down] at h2
      refine .inl ⟨by rw [e1, h1], ?_, by omega, fun b hb => ?_, by rw [s1, h2]⟩
      · rw [s0]
        cases hd : findDown (fineG o) k (w - 1) with
        | none => rfl
        | some b =>
          exfalso
          cases w with
          | zero => cases hd
          | succ v =>
            obtain ⟨a, h3, _⟩ := down_mono _ _ _ _ hd
            have h4 : findDown (fineG o) k (v + 1) = some a := h3
            rw [h2] at h4; cases h4
      · rcases firstG_code o ((List.range (k.length - 1)).map fun m => cutsG k (m + 1)) with ⟨h3, _⟩ | ⟨a, h3, h4⟩
        · rw [e2, h3] at hb; cases hb
        · rw [e2, h3] at hb
          injection hb with hb _
          subst hb
          have hq := List.find?_some h4
          have hm := List.mem_of_find?_eq_some h4
          rw [List.mem_flatten] at hm
          obtain ⟨l, hl, hal⟩ := hm
          obtain ⟨m, hm, rfl⟩ := List.mem_map.1 hl
          have hc := cuts_abbr (by omega) hal
          by_cases hle : m + 1 ≤ w
          · have := down_none _ _ _ h2 (m + 1) (by omega) hle a hal
            rw [this] at hq; cases hq
          · rw [List.length_append, hc.2.1]
            show w + 1 < m + 1 + 1
            omega
    · rw [flat_down] at h2
      obtain ⟨m, h3, h4, h5, h6⟩ := down_some _ _ _ _ h2
      have hc := cuts_abbr h3 h5
      refine .inr (.inr ⟨a, by rw [e1, h1], by omega, by omega, by omega, ?_, ?_, hc.1, h6, hc.2.2.2⟩)
      · rw [s0]
        cases hd : findDown (fineG o) k (w - 1) with
        | none => exact Nat.zero_le _
        | some b =>
          cases w with
          | zero => cases hd
          | succ v =>
            obtain ⟨a', h7, h8⟩ := down_mono _ _ _ _ hd
            have h9 : findDown (fineG o) k (v + 1) = some a' := h7
            rw [h2] at h9
            injection h9 with h9
            subst h9
            exact h8
      · rw [s1, h2]
end Go.Proofs.YtljlkhaolfihjaaGreatDoor

/- The sorting of names is stable. Nothing of the program's code. -/
namespace Go.Proofs.YtljlkhaolfihjaaGreatDoor

section
variable {α : Type} [Inhabited α] (lt lt2 : α → α → Bool) (key : α → Nat)

theorem inner_same (h2 : ∀ x y, key y < key x → lt2 x y = lt x y) : ∀ (i : Nat) (d : Array α), i < d.size → (∀ p, p < i → key d[p]! < key d[i]!) → Sort.insInner lt 0 i d = Sort.insInner lt2 0 i d := by
  intro i
  induction i with
  | zero => intro d _ _; rfl
  | succ i ih =>
    intro d hi hp
    unfold Sort.insInner
    rw [h2 _ _ (hp i (by omega))]
    split
    · have hs : (Sort.swp d (i + 1) i).size = d.size := Sort.swp_size _ _ _
      refine ih _ (by rw [hs]; omega) fun p hpi => ?_
      have e1 := Sort.swp_get d (i := i + 1) (j := i) hi (by omega) p
      have e2 := Sort.swp_get d (i := i + 1) (j := i) hi (by omega) i
      rw [e1, e2]
      rw [if_neg (by omega), if_neg (by omega), if_pos rfl]
      exact hp p (by omega)
    · rfl
theorem inner_mem : ∀ (i : Nat) (d : Array α), i < d.size → (Sort.insInner lt 0 i d).size = d.size ∧ (∀ q, i < q → (Sort.insInner lt 0 i d)[q]! = d[q]!) ∧ ∀ p, p ≤ i → ∃ p', p' ≤ i ∧ (Sort.insInner lt 0 i d)[p]! = d[p']! := by
  intro i
  induction i with
  | zero => intro d _; exact ⟨rfl, fun _ _ => rfl, fun p hp => ⟨p, hp, rfl⟩⟩
  | succ i ih =>
    intro d hi
    unfold Sort.insInner
    split
    · have hs : (Sort.swp d (i + 1) i).size = d.size := Sort.swp_size _ _ _
      have hg := Sort.swp_get d (i := i + 1) (j := i) hi (by omega)
      obtain ⟨h1, h2, h3⟩ := ih (Sort.swp d (i + 1) i) (by rw [hs]; omega)
      refine ⟨h1.trans hs, fun q hq => ?_, fun p hp => ?_⟩
      · rw [h2 q (by omega), hg, if_neg (by omega), if_neg (by omega)]
      · by_cases e : p = i + 1
        · subst e
          rw [h2 (i + 1) (by omega), hg, if_neg (by omega), if_pos rfl]
          exact ⟨i, by omega, rfl⟩
        · obtain ⟨p', hp', e2⟩ := h3 p (by omega)
          rw [e2, hg]
          by_cases e3 : p' = i
          · rw [if_pos e3]; exact ⟨i + 1, by omega, rfl⟩
          · rw [if_neg e3, if_neg (by omega)]; exact ⟨p', by omega, rfl⟩
    · exact ⟨rfl, fun _ _ => rfl, fun p hp => ⟨p, hp, rfl⟩⟩

theorem insF_same (h2 : ∀ x y, key y < key x → lt2 x y = lt x y) : ∀ (k i : Nat) (d : Array α), i + k ≤ d.size → (∀ p q, p < i → i ≤ q → q < d.size → key d[p]! < key d[q]!) → (∀ p q, i ≤ p → p < q → q < d.size → key d[p]! < key d[q]!) → insF lt k i d = insF lt2 k i d := by
  intro k
  induction k with
  | zero => intro i d _ _ _; rfl
  | succ k ih =>
    intro i d hd h3 h4
    unfold insF
    obtain ⟨m1, m2, m3⟩ := inner_mem lt i d (by omega)
    rw [← inner_same lt lt2 key h2 i d (by omega) fun p hp => h3 p i hp (Nat.le_refl _) (by omega)]
    refine ih (i + 1) _ (by rw [m1]; omega) (fun p q hp hq hqs => ?_) (fun p q hp hpq hqs => ?_)
    · rw [m1] at hqs
      obtain ⟨p', hp', e⟩ := m3 p (by omega)
      rw [e, m2 q (by omega)]
      by_cases e2 : p' = i
      · rw [e2]; exact h4 i q (Nat.le_refl _) (by omega) hqs
      · exact h3 p' q (by omega) (by omega) hqs
    · rw [m1] at hqs
      rw [m2 p (by omega), m2 q (by omega)]
      exact h4 p q (by omega) hpq hqs
end

def ltC (ks : List Spell) (m : Nat) (i j : Fin (m + 1)) : Bool := decide (cmpSpell (ks.getD i.val (ByteArray.empty, 0)) (ks.getD j.val (ByteArray.empty, 0)) < 0)
def ltS (ks : List Spell) (m : Nat) (i j : Fin (m + 1)) : Bool := ltC ks m i j || (!ltC ks m j i && decide (i.val < j.val))
theorem cmpS_zero {a b : Spell} (h : cmpSpell a b = 0) : a = b := by
  unfold cmpSpell at h
  split at h
  · rename_i h1
    obtain ⟨a1, a2⟩ := a
    obtain ⟨b1, b2⟩ := b
    have e1 := cmpB_eq _ _ h1
    have e2 := (cmpI_eq _ _).1 h
    dsimp only at e1 e2
    subst e2
    rw [show a1 = b1 from ByteArray.ext (Array.toList_inj.1 e1)]
  · rename_i h1
    exact absurd h h1
theorem cmpS_self (a : Spell) : cmpSpell a a = 0 := by
  have := cmpS_anti a a
  omega
theorem ltS_iff (ks : List Spell) (m : Nat) (i j : Fin (m + 1)) : ltS ks m i j = true ↔ cmpSpell (ks.getD i.val (ByteArray.empty, 0)) (ks.getD j.val (ByteArray.empty, 0)) = -1 ∨ (cmpSpell (ks.getD i.val (ByteArray.empty, 0)) (ks.getD j.val (ByteArray.empty, 0)) = 0 ∧ i.val < j.val) := by
  unfold ltS ltC
  rw [cmpS_anti (ks.getD i.val (ByteArray.empty, 0)) (ks.getD j.val (ByteArray.empty, 0))]
  have hv := cmpS_vals (ks.getD i.val (ByteArray.empty, 0)) (ks.getD j.val (ByteArray.empty, 0))
  simp only [Bool.or_eq_true, Bool.and_eq_true, Bool.not_eq_true', decide_eq_true_eq, decide_eq_false_iff_not]
  omega
theorem ltS_swo (ks : List Spell) (m : Nat) : Sort.SWO (ltS ks m) := by
  refine ⟨fun x => ?_, fun x y z h k => ?_, fun x y z h k => ?_⟩
  · rw [← Bool.not_eq_true, ltS_iff, cmpS_self]; omega
  · rw [ltS_iff] at *
    rcases h with h | ⟨h, h'⟩
    · rcases k with k | ⟨k, _⟩
      · exact .inl (cmpS_trans _ _ _ h k)
      · rw [← cmpS_zero k]; exact .inl h
    · rw [cmpS_zero h]
      rcases k with k | ⟨k, k'⟩
      · exact .inl k
      · exact .inr ⟨k, by omega⟩
  · rw [← Bool.not_eq_true, ltS_iff] at *
    intro hk
    have a1 := cmpS_anti (ks.getD x.val (ByteArray.empty, 0)) (ks.getD y.val (ByteArray.empty, 0))
    have a2 := cmpS_anti (ks.getD y.val (ByteArray.empty, 0)) (ks.getD z.val (ByteArray.empty, 0))
    have a3 := cmpS_anti (ks.getD x.val (ByteArray.empty, 0)) (ks.getD z.val (ByteArray.empty, 0))
    have v1 := cmpS_vals (ks.getD x.val (ByteArray.empty, 0)) (ks.getD y.val (ByteArray.empty, 0))
    have v2 := cmpS_vals (ks.getD y.val (ByteArray.empty, 0)) (ks.getD z.val (ByteArray.empty, 0))
    by_cases e1 : cmpSpell (ks.getD x.val (ByteArray.empty, 0)) (ks.getD y.val (ByteArray.empty, 0)) = 0
    · rw [cmpS_zero e1] at hk
      omega
    · by_cases e2 : cmpSpell (ks.getD y.val (ByteArray.empty, 0)) (ks.getD z.val (ByteArray.empty, 0)) = 0
      · rw [← cmpS_zero e2] at hk
        omega
      · have t := cmpS_trans (ks.getD z.val (ByteArray.empty, 0)) (ks.getD y.val (ByteArray.empty, 0)) (ks.getD x.val (ByteArray.empty, 0)) (by omega) (by omega)
        have a4 := cmpS_anti (ks.getD z.val (ByteArray.empty, 0)) (ks.getD x.val (ByteArray.empty, 0))
        omega

theorem sortM_facts (ks : List Spell) (m : Nat) : (sortM ks m).Perm (List.ofFn (n := m + 1) id) ∧ (sortM ks m).Pairwise fun x y => ltS ks m y x = false := by
  have hsz : (Array.ofFn (n := m + 1) (id : Fin (m + 1) → Fin (m + 1))).size = m + 1 := by simp
  have hk : ∀ p, p < m + 1 → (Array.ofFn (n := m + 1) (id : Fin (m + 1) → Fin (m + 1)))[p]!.val = p := fun p hp => by
    rw [getElem!_pos _ p (by rw [hsz]; exact hp), Array.getElem_ofFn]; rfl
  have e : sortM ks m = (Sort.insertionSort (ltS ks m) (Array.ofFn (n := m + 1) id) 0 (m + 1)).toList := by
    unfold sortM Sort.insertionSort
    rw [outer_F _ (m + 1) m 1 _ (by omega)]
    show (insF (ltC ks m) m 1 _).toList = _
    rw [insF_same (ltC ks m) (ltS ks m) (fun x => x.val) (fun x y h => by
      show (ltC ks m x y || (!ltC ks m y x && decide (x.val < y.val))) = ltC ks m x y
      rw [decide_eq_false (by omega)]; simp) m 1 _ (by rw [hsz]; omega) (fun p q hp hq hqs => ?_) (fun p q hp hpq hqs => ?_)]
    · rw [hsz] at hqs
      show (Array.ofFn (n := m + 1) (id : Fin (m + 1) → Fin (m + 1)))[p]!.val < (Array.ofFn (n := m + 1) (id : Fin (m + 1) → Fin (m + 1)))[q]!.val
      rw [hk p (by omega), hk q hqs]; omega
    · rw [hsz] at hqs
      show (Array.ofFn (n := m + 1) (id : Fin (m + 1) → Fin (m + 1)))[p]!.val < (Array.ofFn (n := m + 1) (id : Fin (m + 1) → Fin (m + 1)))[q]!.val
      rw [hk p (by omega), hk q hqs]; omega
  rw [e]
  obtain ⟨⟨h1, _, h3⟩, h4⟩ := Sort.insertionSort_holds (lt := ltS ks m) (ltS_swo ks m) (Array.ofFn (n := m + 1) id) 0 (m + 1) (by omega) (by rw [hsz]; exact Nat.le_refl _)
  have hd : (Sort.insertionSort (ltS ks m) (Array.ofFn (n := m + 1) id) 0 (m + 1)).size = m + 1 := by rw [h1, hsz]
  refine ⟨?_, ?_⟩
  · have e1 : ∀ (β : Type) (d : Array β) (k : Nat), d.size = k → d.extract 0 k = d := by rintro β d k rfl; exact Array.extract_size
    rw [e1 _ _ _ hd, e1 _ _ _ hsz] at h3
    simpa using h3
  · rw [List.pairwise_iff_getElem]
    intro i j hi hj hij
    have := h4 i j (Nat.zero_le _) hij (by simpa [hd] using hj)
    rw [getElem!_pos _ j (by simpa using hj), getElem!_pos _ i (by simpa using hi)] at this
    simpa using this

/-- The indices of Sort: each once; in the order of the names, the same name by its index. -/
theorem sortG_facts (ss : List ByteArray) : ∃ N : List Nat, sortG (ss.map spellOf) = N.map (fun i : Nat => (i : Int)) ∧ N.Perm (List.range ss.length) ∧ N.Pairwise fun x y => cmpAt ss x y < 0 ∨ (cmpAt ss x y = 0 ∧ x < y) := by
  cases hm : ss.length with
  | zero =>
    have : ss = [] := List.eq_nil_of_length_eq_zero hm
    subst this
    exact ⟨[], rfl, List.Perm.refl _, List.Pairwise.nil⟩
  | succ m =>
    obtain ⟨h1, h2⟩ := sortM_facts (ss.map spellOf) m
    refine ⟨(sortM (ss.map spellOf) m).map (·.val), ?_, ?_, ?_⟩
    · rw [sortG_eq _ m (by simpa using hm), List.map_map]; rfl
    · refine (h1.map _).trans ?_
      rw [List.map_ofFn]
      have e : List.ofFn (n := m + 1) ((fun x => x.val) ∘ id) = List.range (m + 1) := by
        apply List.ext_getElem
        · simp
        · intro i h3 h4; rw [List.getElem_ofFn, List.getElem_range]; rfl
      rw [e]
    · have hn : (sortM (ss.map spellOf) m).Nodup := by
        rw [h1.nodup_iff]
        rw [List.nodup_iff_pairwise_ne, List.pairwise_iff_getElem]
        intro i j hi hj hij e
        rw [List.getElem_ofFn, List.getElem_ofFn] at e
        have e2 := congrArg Fin.val e
        dsimp only [id] at e2
        omega
      rw [List.pairwise_map]
      refine (h2.and hn).imp ?_
      rintro x y ⟨h3, h4⟩
      rw [← Bool.not_eq_true, ltS_iff] at h3
      have hx : x.val < ss.length := by rw [hm]; exact x.isLt
      have hy : y.val < ss.length := by rw [hm]; exact y.isLt
      have e : cmpAt ss x.val y.val = cmpSpell ((ss.map spellOf).getD x.val (ByteArray.empty, 0)) ((ss.map spellOf).getD y.val (ByteArray.empty, 0)) := by
        unfold cmpAt
        rw [getD_at ss _ hx, getD_at ss _ hy, spell_getD ss _ hx, spell_getD ss _ hy]
      have a1 := cmpS_anti ((ss.map spellOf).getD x.val (ByteArray.empty, 0)) ((ss.map spellOf).getD y.val (ByteArray.empty, 0))
      have v1 := cmpS_vals ((ss.map spellOf).getD x.val (ByteArray.empty, 0)) ((ss.map spellOf).getD y.val (ByteArray.empty, 0))
      have hne : x.val ≠ y.val := fun e => h4 (Fin.ext e)
      rw [e]
      omega
end Go.Proofs.YtljlkhaolfihjaaGreatDoor
