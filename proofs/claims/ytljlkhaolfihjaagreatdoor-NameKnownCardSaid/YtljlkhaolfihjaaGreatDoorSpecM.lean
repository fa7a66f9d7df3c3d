/- All abbreviations of so many letters, each once, in their order. Nothing of the program's code. -/
import Derived.Test.YtljlkhaolfihjaaGreatDoorPgSpecB
import Derived.Sort.LotA
import Derived.Test.YtljlkhaolfihjaaGreatDoorSpecU
namespace Go.Proofs.YtljlkhaolfihjaaGreatDoor

theorem sortNat_facts (lt : Nat → Nat → Bool) (hS : Sort.SWO lt) (l : List Nat) : (sortNat lt l).Perm l ∧ (sortNat lt l).Pairwise fun x y => lt y x = false := by
  cases l with
  | nil => exact ⟨List.Perm.refl _, List.Pairwise.nil⟩
  | cons a t =>
    have hsz : (a :: t).toArray.size = t.length + 1 := by simp
    have h := Sort.insertionSort_holds (lt := lt) hS (a :: t).toArray 0 (t.length + 1) (by omega) (by rw [hsz]; exact Nat.le_refl _)
    have e : sortNat lt (a :: t) = (Sort.insertionSort lt (a :: t).toArray 0 (t.length + 1)).toList := by
      unfold sortNat Sort.insertionSort
      rw [outer_F lt (t.length + 1) t.length 1 _ (by omega)]
      rfl
    rw [e]
    obtain ⟨⟨h1, _, h3⟩, h4⟩ := h
    have hd : (Sort.insertionSort lt (a :: t).toArray 0 (t.length + 1)).size = t.length + 1 := by rw [h1, hsz]
    refine ⟨?_, ?_⟩
    · have e1 : ∀ d : Array Nat, d.size = t.length + 1 → d.extract 0 (t.length + 1) = d := fun d hd => by rw [← hd]; exact Array.extract_size
      rw [e1 _ hd, e1 _ hsz] at h3
      exact h3
    · rw [List.pairwise_iff_getElem]
      intro i j hi hj hij
      have := h4 i j (Nat.zero_le _) hij (by simpa [hd] using hj)
      rw [getElem!_pos _ j (by simpa using hj), getElem!_pos _ i (by simpa using hi)] at this
      simpa using this

theorem ltAt_swo (l : List UInt8) : Sort.SWO (ltAt l) := by
  refine ⟨fun x => ?_, fun x y z h k => ?_, fun x y z h k => ?_⟩
  all_goals
    unfold ltAt at *
    simp only [decide_eq_true_eq, decide_eq_false_iff_not] at *
    omega

theorem firsts_mem (l : List UInt8) (i : Nat) : i ∈ firstsG l ↔ i < l.length ∧ l.idxOf (l.getD i 0) = i := by
  unfold firstsG
  rw [(sortNat_facts (ltAt l) (ltAt_swo l) _).1.mem_iff]
  unfold firstsAt
  rw [List.mem_filter, List.mem_range, decide_eq_true_eq]
theorem firsts_up (l : List UInt8) : (firstsG l).Pairwise fun i j => l.getD i 0 < l.getD j 0 := by
  have h := sortNat_facts (ltAt l) (ltAt_swo l) (firstsAt l l.length)
  have hn : (firstsG l).Nodup := by
    unfold firstsG
    rw [h.1.nodup_iff]
    unfold firstsAt
    exact List.nodup_range.filter _
  have h2 : (firstsG l).Pairwise fun x y => ltAt l y x = false := h.2
  refine (h2.and hn).imp_of_mem ?_
  rintro i j hi hj ⟨h3, h4⟩
  have m1 := (firsts_mem l i).1 hi
  have m2 := (firsts_mem l j).1 hj
  unfold ltAt at h3
  simp only [decide_eq_false_iff_not] at h3
  have hne : l.getD i 0 ≠ l.getD j 0 := fun e => h4 (by rw [← m1.2, ← m2.2, e])
  have hne2 : (l.getD i 0).toNat ≠ (l.getD j 0).toNat := fun e => hne (UInt8.toNat_inj.1 e)
  rw [UInt8.lt_iff_toNat_lt]
  omega

theorem sub_first : ∀ (rest : List UInt8) (c : UInt8) (y : List UInt8), (c :: y).Sublist rest → rest.idxOf c < rest.length ∧ y.Sublist (rest.drop (rest.idxOf c + 1))
  | [], c, y, h => by cases h
  | r :: t, c, y, h => by
    by_cases e : r = c
    · subst e
      refine ⟨by simp, ?_⟩
      rw [List.idxOf_cons_self]
      show y.Sublist t
      exact List.cons_sublist_cons.1 h
    · have h2 : (c :: y).Sublist t := by
        cases h with
        | cons _ h2 => exact h2
        | cons_cons => exact absurd rfl e
      obtain ⟨h3, h4⟩ := sub_first t c y h2
      have ei : (r :: t).idxOf c = t.idxOf c + 1 := by
        have hb : (r == c) = false := by simpa using e
        simp only [List.idxOf_cons, hb, cond_false]
      rw [ei]
      exact ⟨by simp; omega, h4⟩

theorem grow_mem : ∀ (m : Nat) (a rest x : List UInt8), x ∈ growG m a rest ↔ ∃ y, x = a ++ y ∧ y.length = m ∧ y.Sublist rest
  | 0, a, rest, x => by
    unfold growG
    rw [List.mem_singleton]
    constructor
    · rintro rfl
      exact ⟨[], by simp, rfl, List.nil_sublist _⟩
    · rintro ⟨y, rfl, hy, _⟩
      have : y = [] := List.eq_nil_of_length_eq_zero hy
      rw [this]; simp
  | m + 1, a, rest, x => by
    unfold growG
    rw [List.mem_flatMap]
    constructor
    · rintro ⟨i, hi, hx⟩
      obtain ⟨y, rfl, hy, hs⟩ := (grow_mem m _ _ x).1 hx
      obtain ⟨h1, _⟩ := (firsts_mem rest i).1 hi
      refine ⟨rest.getD i 0 :: y, by simp, by simp [hy], ?_⟩
      have e : rest = rest.take i ++ rest.getD i 0 :: rest.drop (i + 1) := by
        rw [List.getD_eq_getElem?_getD, List.getElem?_eq_getElem h1]
        show rest = rest.take i ++ rest[i] :: rest.drop (i + 1)
        rw [List.getElem_cons_drop, List.take_append_drop]
      have h2 : (rest.getD i 0 :: y).Sublist (rest.getD i 0 :: rest.drop (i + 1)) := List.cons_sublist_cons.2 hs
      have h3 := h2.trans (List.sublist_append_right (rest.take i) _)
      rw [← e] at h3
      exact h3
    · rintro ⟨y, rfl, hy, hs⟩
      cases y with
      | nil => simp at hy
      | cons c y =>
        obtain ⟨h1, h2⟩ := sub_first rest c y hs
        have hg : rest.getD (rest.idxOf c) 0 = c := by
          rw [List.getD_eq_getElem?_getD, List.getElem?_eq_getElem h1]
          exact List.getElem_idxOf h1
        refine ⟨rest.idxOf c, (firsts_mem rest _).2 ⟨h1, by rw [hg]⟩, (grow_mem m _ _ _).2 ⟨y, by rw [hg]; simp, by simpa using hy, h2⟩⟩

theorem less_app : ∀ (a u v : List UInt8), Op.bytesLess (a ++ u) (a ++ v) = Op.bytesLess u v
  | [], _, _ => rfl
  | c :: a, u, v => by
    show (decide (c < c) || (c == c && Op.bytesLess (a ++ u) (a ++ v))) = _
    rw [less_app a u v]
    have : ¬ c < c := by rw [UInt8.lt_iff_toNat_lt]; omega
    simp [this]
theorem grow_up : ∀ (m : Nat) (a rest : List UInt8), (growG m a rest).Pairwise fun u v => Op.bytesLess u v = true
  | 0, a, rest => List.pairwise_singleton _ _
  | m + 1, a, rest => by
    unfold growG
    rw [List.pairwise_flatMap]
    refine ⟨fun i _ => grow_up m _ _, ?_⟩
    refine (firsts_up rest).imp ?_
    intro i j hij u hu v hv
    obtain ⟨y, rfl, _, _⟩ := (grow_mem m _ _ u).1 hu
    obtain ⟨z, rfl, _, _⟩ := (grow_mem m _ _ v).1 hv
    rw [List.append_assoc, List.append_assoc, less_app]
    show (decide (rest.getD i 0 < rest.getD j 0) || _) = true
    rw [decide_eq_true hij]
    rfl

/-- The abbreviations of so many letters. -/
theorem cuts_mem (c : UInt8) (t : List UInt8) (n : Nat) (h1 : 1 ≤ n) (x : List UInt8) : x ∈ cutsG (c :: t) n ↔ n < (c :: t).length ∧ ∃ y, x = c :: y ∧ y.length + 1 = n ∧ y.Sublist t := by
  unfold cutsG
  split
  · rename_i h
    rw [grow_mem]
    constructor
    · rintro ⟨y, hx, hy, hs⟩
      exact ⟨h, y, hx, by omega, hs⟩
    · rintro ⟨_, y, hx, hy, hs⟩
      exact ⟨y, hx, by omega, hs⟩
  · rename_i h
    constructor
    · intro hx; cases hx
    · rintro ⟨h2, _⟩; exact absurd h2 h
theorem cuts_up (k : List UInt8) (n : Nat) : (cutsG k n).Pairwise fun u v => Op.bytesLess u v = true := by
  unfold cutsG
  split
  · exact grow_up _ _ _
  · exact List.Pairwise.nil
end Go.Proofs.YtljlkhaolfihjaaGreatDoor

/- Which names are near, in their order. Nothing of the program's code. -/
namespace Go.Proofs.YtljlkhaolfihjaaGreatDoor

/-- The uses to each name of a list, if any; the places of those that are near. -/
def uOf (us : List (Option Nat)) (i : Nat) : Nat := (us.getD i none).getD 0
def ltU (us : List (Option Nat)) (i j : Nat) : Bool := decide (uOf us i < uOf us j)
def nearAt (us : List (Option Nat)) (j : Nat) : List Nat := (List.range j).filter fun i => (us.getD i none).isSome
def nearS (us : List (Option Nat)) : List Nat := sortNat (ltU us) (nearAt us us.length)
/-- The places below j with so many uses; all of them in their order. -/
def withU (us : List (Option Nat)) (n j : Nat) : List Nat := (List.range j).filter fun i => us.getD i none == some n
def nearO (us : List (Option Nat)) : List Nat := withU us 0 us.length ++ (withU us 1 us.length ++ withU us 2 us.length)

def allU : Nat → List (List (Option Nat))
  | 0 => [[]]
  | n + 1 => (allU n).flatMap fun t => [none :: t, some 0 :: t, some 1 :: t, some 2 :: t]
theorem mem_allU : ∀ (us : List (Option Nat)), (∀ u, u ∈ us → ∀ n, u = some n → n ≤ 2) → us ∈ allU us.length
  | [], _ => List.mem_singleton.2 rfl
  | u :: t, h => by
    unfold allU
    refine List.mem_flatMap.2 ⟨t, mem_allU t (fun v hv => h v (by simp [hv])), ?_⟩
    cases u with
    | none => simp
    | some n =>
      have := h (some n) (by simp) n rfl
      have h3 : n = 0 ∨ n = 1 ∨ n = 2 := by omega
      rcases h3 with rfl | rfl | rfl <;> simp
set_option maxRecDepth 100000 in
theorem near_few : ((List.range 5).all fun n => (allU n).all fun us => decide (nearS us = nearO us)) = true := by decide +kernel
set_option maxRecDepth 100000 in
theorem near_600 : ((allU 4).all fun t => decide (nearS (t ++ [none, none]) = nearO (t ++ [none, none]))) = true := by decide +kernel
set_option maxRecDepth 100000 in
theorem near_601 : ((allU 4).all fun t => decide (nearS (t ++ [none, some 0]) = nearO (t ++ [none, some 0]))) = true := by decide +kernel
set_option maxRecDepth 100000 in
theorem near_602 : ((allU 4).all fun t => decide (nearS (t ++ [none, some 1]) = nearO (t ++ [none, some 1]))) = true := by decide +kernel
set_option maxRecDepth 100000 in
theorem near_603 : ((allU 4).all fun t => decide (nearS (t ++ [none, some 2]) = nearO (t ++ [none, some 2]))) = true := by decide +kernel
set_option maxRecDepth 100000 in
theorem near_610 : ((allU 4).all fun t => decide (nearS (t ++ [some 0, none]) = nearO (t ++ [some 0, none]))) = true := by decide +kernel
set_option maxRecDepth 100000 in
theorem near_611 : ((allU 4).all fun t => decide (nearS (t ++ [some 0, some 0]) = nearO (t ++ [some 0, some 0]))) = true := by decide +kernel
set_option maxRecDepth 100000 in
theorem near_612 : ((allU 4).all fun t => decide (nearS (t ++ [some 0, some 1]) = nearO (t ++ [some 0, some 1]))) = true := by decide +kernel
set_option maxRecDepth 100000 in
theorem near_613 : ((allU 4).all fun t => decide (nearS (t ++ [some 0, some 2]) = nearO (t ++ [some 0, some 2]))) = true := by decide +kernel
set_option maxRecDepth 100000 in
theorem near_620 : ((allU 4).all fun t => decide (nearS (t ++ [some 1, none]) = nearO (t ++ [some 1, none]))) = true := by decide +kernel
set_option maxRecDepth 100000 in
theorem near_621 : ((allU 4).all fun t => decide (nearS (t ++ [some 1, some 0]) = nearO (t ++ [some 1, some 0]))) = true := by decide +kernel
set_option maxRecDepth 100000 in
theorem near_622 : ((allU 4).all fun t => decide (nearS (t ++ [some 1, some 1]) = nearO (t ++ [some 1, some 1]))) = true := by decide +kernel
set_option maxRecDepth 100000 in
theorem near_623 : ((allU 4).all fun t => decide (nearS (t ++ [some 1, some 2]) = nearO (t ++ [some 1, some 2]))) = true := by decide +kernel
set_option maxRecDepth 100000 in
theorem near_630 : ((allU 4).all fun t => decide (nearS (t ++ [some 2, none]) = nearO (t ++ [some 2, none]))) = true := by decide +kernel
set_option maxRecDepth 100000 in
theorem near_631 : ((allU 4).all fun t => decide (nearS (t ++ [some 2, some 0]) = nearO (t ++ [some 2, some 0]))) = true := by decide +kernel
set_option maxRecDepth 100000 in
theorem near_632 : ((allU 4).all fun t => decide (nearS (t ++ [some 2, some 1]) = nearO (t ++ [some 2, some 1]))) = true := by decide +kernel
set_option maxRecDepth 100000 in
theorem near_633 : ((allU 4).all fun t => decide (nearS (t ++ [some 2, some 2]) = nearO (t ++ [some 2, some 2]))) = true := by decide +kernel
set_option maxRecDepth 100000 in
theorem near_50 : ((allU 4).all fun t => decide (nearS (t ++ [none]) = nearO (t ++ [none]))) = true := by decide +kernel
set_option maxRecDepth 100000 in
theorem near_51 : ((allU 4).all fun t => decide (nearS (t ++ [some 0]) = nearO (t ++ [some 0]))) = true := by decide +kernel
set_option maxRecDepth 100000 in
theorem near_52 : ((allU 4).all fun t => decide (nearS (t ++ [some 1]) = nearO (t ++ [some 1]))) = true := by decide +kernel
set_option maxRecDepth 100000 in
theorem near_53 : ((allU 4).all fun t => decide (nearS (t ++ [some 2]) = nearO (t ++ [some 2]))) = true := by decide +kernel
theorem vals4 {u : Option Nat} (h : ∀ n, u = some n → n ≤ 2) : u = none ∨ u = some 0 ∨ u = some 1 ∨ u = some 2 := by
  cases u with
  | none => exact .inl rfl
  | some n =>
    have := h n rfl
    have h3 : n = 0 ∨ n = 1 ∨ n = 2 := by omega
    rcases h3 with rfl | rfl | rfl <;> simp
theorem near_sorted (us : List (Option Nat)) (h6 : us.length ≤ 6) (h : ∀ u, u ∈ us → ∀ n, u = some n → n ≤ 2) : nearS us = nearO us := by
  by_cases h4 : us.length ≤ 4
  · have h1 := List.all_eq_true.1 near_few us.length (List.mem_range.2 (by omega))
    exact of_decide_eq_true (List.all_eq_true.1 h1 us (mem_allU us h))
  · obtain ⟨t, s, rfl, ht⟩ : ∃ t s, us = t ++ s ∧ t.length = 4 := ⟨us.take 4, us.drop 4, (List.take_append_drop 4 us).symm, by rw [List.length_take]; omega⟩
    have hm := mem_allU t (fun u hu => h u (by simp [hu]))
    rw [ht] at hm
    rw [List.length_append] at h6 h4
    match s, h6, h4 with
    | [], _, h4 => simp at h4; omega
    | [a], _, _ =>
      rcases vals4 (h a (by simp)) with rfl | rfl | rfl | rfl
      · exact of_decide_eq_true (List.all_eq_true.1 near_50 t hm)
      · exact of_decide_eq_true (List.all_eq_true.1 near_51 t hm)
      · exact of_decide_eq_true (List.all_eq_true.1 near_52 t hm)
      · exact of_decide_eq_true (List.all_eq_true.1 near_53 t hm)
    | [a, b], _, _ =>
      rcases vals4 (h a (by simp)) with rfl | rfl | rfl | rfl <;> rcases vals4 (h b (by simp)) with rfl | rfl | rfl | rfl
      · exact of_decide_eq_true (List.all_eq_true.1 near_600 t hm)
      · exact of_decide_eq_true (List.all_eq_true.1 near_601 t hm)
      · exact of_decide_eq_true (List.all_eq_true.1 near_602 t hm)
      · exact of_decide_eq_true (List.all_eq_true.1 near_603 t hm)
      · exact of_decide_eq_true (List.all_eq_true.1 near_610 t hm)
      · exact of_decide_eq_true (List.all_eq_true.1 near_611 t hm)
      · exact of_decide_eq_true (List.all_eq_true.1 near_612 t hm)
      · exact of_decide_eq_true (List.all_eq_true.1 near_613 t hm)
      · exact of_decide_eq_true (List.all_eq_true.1 near_620 t hm)
      · exact of_decide_eq_true (List.all_eq_true.1 near_621 t hm)
      · exact of_decide_eq_true (List.all_eq_true.1 near_622 t hm)
      · exact of_decide_eq_true (List.all_eq_true.1 near_623 t hm)
      · exact of_decide_eq_true (List.all_eq_true.1 near_630 t hm)
      · exact of_decide_eq_true (List.all_eq_true.1 near_631 t hm)
      · exact of_decide_eq_true (List.all_eq_true.1 near_632 t hm)
      · exact of_decide_eq_true (List.all_eq_true.1 near_633 t hm)
    | _ :: _ :: _ :: _, h6, _ => simp at h6; omega
end Go.Proofs.YtljlkhaolfihjaaGreatDoor

/- The places of near names, one after the other. Nothing of the program's code. -/
namespace Go.Proofs.YtljlkhaolfihjaaGreatDoor

theorem ltU_swo (uu : List (Option Nat)) : Sort.SWO (ltU uu) := by
  refine ⟨fun x => ?_, fun x y z h k => ?_, fun x y z h k => ?_⟩
  all_goals
    unfold ltU at *
    simp only [decide_eq_true_eq, decide_eq_false_iff_not] at *
    omega
theorem withU_step (uu : List (Option Nat)) (n j : Nat) : withU uu n (j + 1) = withU uu n j ++ (if uu.getD j none = some n then [j] else []) := by
  unfold withU
  rw [List.range_succ, List.filter_append]
  congr 1
  by_cases h : uu.getD j none = some n
  · rw [if_pos h]
    have h2 : (uu.getD j none == some n) = true := beq_iff_eq.2 h
    simp only [List.filter_cons, h2]; rfl
  · rw [if_neg h]
    have h2 : (uu.getD j none == some n) = false := beq_eq_false_iff_ne.2 h
    simp only [List.filter_cons, h2]; rfl
theorem withU_pre (uu : List (Option Nat)) (n j : Nat) : ∀ d, ∃ r, withU uu n (j + d) = withU uu n j ++ r
  | 0 => ⟨[], by simp⟩
  | d + 1 => by
    obtain ⟨r, hr⟩ := withU_pre uu n j d
    exact ⟨r ++ (if uu.getD (j + d) none = some n then [j + d] else []), by rw [← Nat.add_assoc, withU_step, hr, List.append_assoc]⟩
theorem withU_nil (uu : List (Option Nat)) (n : Nat) : withU uu n 0 = [] := rfl

/-- The places of all names with fewer uses. -/
def lessU (uu : List (Option Nat)) : Nat → List Nat
  | 0 => []
  | 1 => withU uu 0 uu.length
  | 2 => withU uu 0 uu.length ++ withU uu 1 uu.length
  | _ => nearO uu
/-- .. and of those with as many uses, up to a place. -/
def doneU (uu : List (Option Nat)) (n i : Nat) : List Nat := lessU uu n ++ (if n ≤ 2 then withU uu n i else [])
theorem doneU_zero (uu : List (Option Nat)) : doneU uu 0 0 = [] := rfl
theorem doneU_end (uu : List (Option Nat)) : doneU uu 3 0 = nearO uu := by
  unfold doneU
  rw [if_neg (by decide), List.append_nil]
  rfl
theorem doneU_next (uu : List (Option Nat)) (n : Nat) (h : n ≤ 2) : doneU uu (n + 1) 0 = doneU uu n uu.length := by
  have h3 : n = 0 ∨ n = 1 ∨ n = 2 := by omega
  rcases h3 with rfl | rfl | rfl
  · show withU uu 0 uu.length ++ withU uu 1 0 = [] ++ withU uu 0 uu.length
    rw [withU_nil, List.append_nil]; rfl
  · show (withU uu 0 uu.length ++ withU uu 1 uu.length) ++ withU uu 2 0 = withU uu 0 uu.length ++ withU uu 1 uu.length
    rw [withU_nil, List.append_nil]
  · rw [doneU_end]
    show nearO uu = (withU uu 0 uu.length ++ withU uu 1 uu.length) ++ withU uu 2 uu.length
    rw [List.append_assoc]; rfl
theorem doneU_pre (uu : List (Option Nat)) (n i : Nat) (h : n ≤ 2) (hi : i ≤ uu.length) : ∃ r, nearO uu = doneU uu n i ++ r := by
  have h3 : n = 0 ∨ n = 1 ∨ n = 2 := by omega
  obtain ⟨r, hr⟩ := withU_pre uu n i (uu.length - i)
  rw [Nat.add_sub_cancel' hi] at hr
  rcases h3 with rfl | rfl | rfl
  · refine ⟨r ++ (withU uu 1 uu.length ++ withU uu 2 uu.length), ?_⟩
    show nearO uu = ([] ++ withU uu 0 i) ++ _
    unfold nearO
    rw [hr]; simp
  · refine ⟨r ++ withU uu 2 uu.length, ?_⟩
    show nearO uu = (withU uu 0 uu.length ++ withU uu 1 i) ++ _
    unfold nearO
    rw [hr]; simp
  · refine ⟨r, ?_⟩
    show nearO uu = ((withU uu 0 uu.length ++ withU uu 1 uu.length) ++ withU uu 2 i) ++ _
    unfold nearO
    rw [hr]; simp
theorem doneU_miss (uu : List (Option Nat)) (n i : Nat) (h : uu.getD i none ≠ some n) : doneU uu n (i + 1) = doneU uu n i := by
  unfold doneU
  rw [withU_step, if_neg h, List.append_nil]
theorem doneU_hit (uu : List (Option Nat)) (n i : Nat) (hn : n ≤ 2) (hi : i < uu.length) (h : uu.getD i none = some n) :
    doneU uu n (i + 1) = doneU uu n i ++ [i] ∧ (doneU uu n i).length < (nearO uu).length ∧ (nearO uu).getD (doneU uu n i).length 0 = i := by
  have h1 : doneU uu n (i + 1) = doneU uu n i ++ [i] := by
    unfold doneU
    rw [withU_step, if_pos h, if_pos hn, if_pos hn, List.append_assoc]
  obtain ⟨r, hr⟩ := doneU_pre uu n (i + 1) hn (by omega)
  rw [h1] at hr
  refine ⟨h1, ?_, ?_⟩
  · rw [hr]; simp
  · rw [hr, List.getD_eq_getElem?_getD, List.append_assoc, List.getElem?_append_right (Nat.le_refl _)]
    simp
end Go.Proofs.YtljlkhaolfihjaaGreatDoor
