/- The first fine abbreviation in order is the best of all parts. Nothing of the program's code. -/
import Derived.Test.YtlhiekeolmgilaaGreatDoorSpecM
import Derived.Test.YtlhiekeolmgilaaGreatDoorSpecE
import Derived.Test.YtlhiekeolmgilaaGreatDoorRefY
namespace Go.Proofs.YtlhiekeolmgilaaGreatDoor

theorem bz_len (s : ByteArray) : s.data.toList.length = s.size := by simp
theorem bz_inj {a b : ByteArray} (h : a.data.toList = b.data.toList) : a = b := bytes_inj (by rw [ByteArray.toList_eq, ByteArray.toList_eq]; exact h)
theorem ext_list (s : ByteArray) (i j : Nat) : (s.extract i j).data.toList = (s.data.toList.drop i).take (j - i) := by
  rw [ByteArray.data_extract, Array.toList_extract, List.extract_eq_take_drop]

theorem parts_mem : ∀ (n : Nat) (s y : ByteArray), y ∈ partsL n s ↔ y.data.toList.length = n ∧ y.data.toList.Sublist s.data.toList
  | 0, s, y => by
    unfold partsL
    rw [List.mem_singleton]
    constructor
    · rintro rfl
      exact ⟨rfl, List.nil_sublist _⟩
    · rintro ⟨h, _⟩
      refine bz_inj ?_
      rw [List.eq_nil_of_length_eq_zero h]
      rfl
  | n + 1, s, y => by
    unfold partsL
    rw [List.mem_flatMap]
    have hz := bz_len s
    constructor
    · rintro ⟨i, hi, hy⟩
      rw [List.mem_range] at hi
      rw [List.mem_map] at hy
      obtain ⟨t, ht, rfl⟩ := hy
      obtain ⟨h1, h2⟩ := (parts_mem n _ t).1 ht
      have hil : i < s.data.toList.length := by omega
      have e1 : (s.extract i (i + 1)).data.toList = [s.data.toList[i]] := by
        rw [ext_list, show i + 1 - i = 1 from by omega, List.drop_eq_getElem_cons hil]
        rfl
      have e2 : (s.extract (i + 1) s.size).data.toList = s.data.toList.drop (i + 1) := by
        rw [ext_list, List.take_of_length_le (by rw [List.length_drop]; omega)]
      rw [ByteArray.data_append, Array.toList_append, e1]
      rw [e2] at h2
      refine ⟨by rw [List.length_append, h1]; show 1 + n = n + 1; omega, ?_⟩
      have e3 : s.data.toList = s.data.toList.take i ++ s.data.toList[i] :: s.data.toList.drop (i + 1) := by
        rw [List.getElem_cons_drop, List.take_append_drop]
      have h3 := (List.cons_sublist_cons.2 h2 : (s.data.toList[i] :: t.data.toList).Sublist (s.data.toList[i] :: s.data.toList.drop (i + 1))).trans (List.sublist_append_right (s.data.toList.take i) _)
      rw [← e3] at h3
      exact h3
    · rintro ⟨h1, h2⟩
      cases hy : y.data.toList with
      | nil => rw [hy] at h1; simp at h1
      | cons c t =>
        rw [hy] at h1 h2
        obtain ⟨h3, h4⟩ := sub_first _ c t h2
        have hn : n ≤ (s.data.toList.drop (s.data.toList.idxOf c + 1)).length := by
          have := h4.length_le
          simp at h1
          omega
        rw [List.length_drop] at hn
        refine ⟨s.data.toList.idxOf c, List.mem_range.2 (by omega), List.mem_map.2 ⟨⟨t.toArray⟩, (parts_mem n _ _).2 ⟨by simpa using h1, ?_⟩, ?_⟩⟩
        · rw [ext_list, List.take_of_length_le (by rw [List.length_drop]; omega)]
          exact h4
        · refine bz_inj ?_
          rw [ByteArray.data_append, Array.toList_append, ext_list, hy, show s.data.toList.idxOf c + 1 - s.data.toList.idxOf c = 1 from by omega, List.drop_eq_getElem_cons h3, List.getElem_idxOf h3]
          rfl

theorem less_anti {a b : List UInt8} (h : Op.bytesLess a b = true) : Op.bytesLess b a = false := by
  rw [less_cmp] at *
  have h1 := of_decide_eq_true h
  refine decide_eq_false ?_
  rw [cmpB_anti a b, h1]
  decide
theorem less_none {a b : List UInt8} (h : Op.bytesLess a b = false) (k : Op.bytesLess b a = false) : a = b := by
  rw [less_cmp] at *
  have h1 := of_decide_eq_false h
  have k1 := of_decide_eq_false k
  rw [cmpB_anti a b] at k1
  refine cmpB_eq a b ?_
  rcases cmpB_vals a b with e | e | e
  · exact absurd e h1
  · exact e
  · rw [e] at k1; exact absurd rfl k1
/-- What the fold over all parts comes to. -/
theorem fold_best (ss : List ByteArray) (S : ByteArray) : ∀ (Y : List ByteArray) (acc : ByteArray × Bool),
    ((Y.foldl (bestStep ss S) acc).2 = false → acc.2 = false ∧ Y.foldl (bestStep ss S) acc = acc ∧ ∀ y, y ∈ Y → okAll ss S (S.extract 0 1 ++ y) = false) ∧
    ((Y.foldl (bestStep ss S) acc).2 = true → ((Y.foldl (bestStep ss S) acc = acc ∧ acc.2 = true) ∨ ∃ y, y ∈ Y ∧ (Y.foldl (bestStep ss S) acc).1 = S.extract 0 1 ++ y ∧ okAll ss S (S.extract 0 1 ++ y) = true) ∧
      (acc.2 = true → Op.bytesLess acc.1.toList (Y.foldl (bestStep ss S) acc).1.toList = false) ∧ ∀ y, y ∈ Y → okAll ss S (S.extract 0 1 ++ y) = true → Op.bytesLess (S.extract 0 1 ++ y).toList (Y.foldl (bestStep ss S) acc).1.toList = false)
  | [], acc => by
    refine ⟨fun h => ⟨h, rfl, fun y hy => by cases hy⟩, fun h => ⟨.inl ⟨rfl, h⟩, fun _ => ?_, fun y hy => by cases hy⟩⟩
    show Op.bytesLess acc.1.toList acc.1.toList = false
    exact bytesLess_irrefl _
  | x :: Y, acc => by
    rw [List.foldl_cons]
    obtain ⟨h1, h2⟩ := fold_best ss S Y (bestStep ss S acc x)
    by_cases hc : (okAll ss S (S.extract 0 1 ++ x) && (!acc.2 || Op.bytesLess (S.extract 0 1 ++ x).toList acc.1.toList)) = true
    · have e : bestStep ss S acc x = (S.extract 0 1 ++ x, true) := by unfold bestStep; rw [if_pos hc]
      rw [e] at h1 h2 ⊢
      simp only [Bool.and_eq_true, Bool.or_eq_true, Bool.not_eq_true'] at hc
      refine ⟨(fun h => by have h9 := (h1 h).1; simp at h9), fun h => ?_⟩
      obtain ⟨h3, h4, h5⟩ := h2 h
      have h6 : Op.bytesLess (S.extract 0 1 ++ x).toList (List.foldl (bestStep ss S) (S.extract 0 1 ++ x, true) Y).1.toList = false := h4 rfl
      refine ⟨.inr ?_, fun ha => ?_, fun y hy hok => ?_⟩
      · rcases h3 with ⟨h3, _⟩ | ⟨y, hy, h3, h3'⟩
        · exact ⟨x, by simp, by rw [h3], hc.1⟩
        · exact ⟨y, by simp [hy], h3, h3'⟩
      · rcases hc.2 with h7 | h7
        · rw [ha] at h7; cases h7
        · cases hb : Op.bytesLess acc.1.toList (List.foldl (bestStep ss S) (S.extract 0 1 ++ x, true) Y).1.toList with
          | false => rfl
          | true =>
            rw [less_cmp] at h7 hb h6
            exact absurd (cmpB_trans _ _ _ (of_decide_eq_true h7) (of_decide_eq_true hb)) (of_decide_eq_false h6)
      · rcases List.mem_cons.1 hy with rfl | hy
        · exact h6
        · exact h5 y hy hok
    · have e : bestStep ss S acc x = acc := by unfold bestStep; rw [if_neg hc]
      rw [e] at h1 h2 ⊢
      have hn : okAll ss S (S.extract 0 1 ++ x) = true → acc.2 = true ∧ Op.bytesLess (S.extract 0 1 ++ x).toList acc.1.toList = false := fun hok => by
        rw [hok] at hc
        simp only [Bool.true_and, Bool.or_eq_true, Bool.not_eq_true', not_or, Bool.not_eq_false, Bool.not_eq_true] at hc
        exact hc
      refine ⟨fun h => ?_, fun h => ?_⟩
      · obtain ⟨a1, a2, a3⟩ := h1 h
        refine ⟨a1, a2, fun y hy => ?_⟩
        rcases List.mem_cons.1 hy with rfl | hy
        · cases hok : okAll ss S (S.extract 0 1 ++ y) with
          | false => rfl
          | true => rw [(hn hok).1] at a1; cases a1
        · exact a3 y hy
      · obtain ⟨h3, h4, h5⟩ := h2 h
        refine ⟨?_, h4, fun y hy hok => ?_⟩
        · rcases h3 with h3 | ⟨y, hy, h3⟩
          · exact .inl h3
          · exact .inr ⟨y, by simp [hy], h3⟩
        · rcases List.mem_cons.1 hy with rfl | hy
          · obtain ⟨b1, b2⟩ := hn hok
            have h6 := h4 b1
            cases hb : Op.bytesLess (S.extract 0 1 ++ y).toList (List.foldl (bestStep ss S) acc Y).1.toList with
            | false => rfl
            | true =>
              cases hb2 : Op.bytesLess acc.1.toList (S.extract 0 1 ++ y).toList with
              | false =>
                have e1 := less_none b2 hb2
                rw [e1, h6] at hb
                cases hb
              | true =>
                rw [less_cmp] at hb hb2 h6
                exact absurd (cmpB_trans _ _ _ (of_decide_eq_true hb2) (of_decide_eq_true hb)) (of_decide_eq_false h6)
          · exact h5 y hy hok

theorem find_first {q : List UInt8 → Bool} : ∀ (C : List (List UInt8)), (C.Pairwise fun u v => Op.bytesLess u v = true) →
    (C.find? q = none → ∀ b, b ∈ C → q b = false) ∧ ∀ a, C.find? q = some a → a ∈ C ∧ q a = true ∧ ∀ b, b ∈ C → q b = true → Op.bytesLess b a = false
  | [], _ => ⟨(fun _ b hb => by cases hb), (fun a h => by cases h)⟩
  | x :: C, hC => by
    rw [List.pairwise_cons] at hC
    obtain ⟨h1, h2⟩ := find_first C hC.2
    cases hq : q x with
    | true =>
      rw [List.find?_cons_of_pos hq]
      refine ⟨(fun h => by cases h), fun a h => ?_⟩
      injection h with h
      subst h
      refine ⟨by simp, hq, fun b hb hqb => ?_⟩
      rcases List.mem_cons.1 hb with rfl | hb
      · exact bytesLess_irrefl _
      · exact less_anti (hC.1 b hb)
    | false =>
      rw [List.find?_cons_of_neg (by simp [hq])]
      refine ⟨fun h b hb => ?_, fun a h => ?_⟩
      · rcases List.mem_cons.1 hb with rfl | hb
        · exact hq
        · exact h1 h b hb
      · obtain ⟨a1, a2, a3⟩ := h2 a h
        refine ⟨by simp [a1], a2, fun b hb hqb => ?_⟩
        rcases List.mem_cons.1 hb with rfl | hb
        · rw [hq] at hqb; cases hqb
        · exact a3 b hb hqb

/-- The best of so many letters, both ways. -/
theorem best_find (ss : List ByteArray) (S : ByteArray) (q : List UInt8 → Bool) (hq : ∀ a : ByteArray, q a.data.toList = okAll ss S a) (m : Nat) (hm : m + 1 < S.size) :
    bestF ss S m = match (cutsG S.data.toList (m + 1)).find? q with | none => (ByteArray.empty, false) | some a => (⟨a.toArray⟩, true) := by
  have hz := bz_len S
  cases hk : S.data.toList with
  | nil =>
    have h0 : S.size = 0 := by rw [← hz, hk]; rfl
    omega
  | cons c t =>
    have e0 : (S.extract 0 1).data.toList = [c] := by rw [ext_list, hk]; rfl
    have e1 : (S.extract 1 S.size).data.toList = t := by
      rw [ext_list, hk]
      show List.take (S.size - 1) t = t
      refine List.take_of_length_le ?_
      have h0 : (c :: t).length = S.size := by rw [← hk]; exact hz
      have h1 : (c :: t).length = t.length + 1 := rfl
      omega
    have hpre : ∀ y : ByteArray, (S.extract 0 1 ++ y).data.toList = c :: y.data.toList := fun y => by
      rw [ByteArray.data_append, Array.toList_append, e0]; rfl
    have hlen : m + 1 < (c :: t).length := by rw [← hk, hz]; exact hm
    have hmem : ∀ x : List UInt8, x ∈ cutsG (c :: t) (m + 1) ↔ ∃ y, y ∈ partsL m (S.extract 1 S.size) ∧ (S.extract 0 1 ++ y).data.toList = x := fun x => by
      rw [cuts_mem c t (m + 1) (by omega)]
      constructor
      · rintro ⟨_, y, rfl, h1, h2⟩
        refine ⟨⟨y.toArray⟩, (parts_mem m _ _).2 ⟨by simp; omega, by rw [e1]; exact h2⟩, by rw [hpre]⟩
      · rintro ⟨y, hy, rfl⟩
        obtain ⟨h1, h2⟩ := (parts_mem m _ y).1 hy
        rw [e1] at h2
        exact ⟨hlen, y.data.toList, hpre y, by omega, h2⟩
    obtain ⟨f1, f2⟩ := fold_best ss S (partsL m (S.extract 1 S.size)) (ByteArray.empty, false)
    obtain ⟨g1, g2⟩ := find_first (q := q) (cutsG (c :: t) (m + 1)) (cuts_up _ _)
    have hbF : bestF ss S m = (partsL m (S.extract 1 S.size)).foldl (bestStep ss S) (ByteArray.empty, false) := rfl
    rw [← hbF] at f1 f2
    cases hf : (cutsG (c :: t) (m + 1)).find? q with
    | none =>
      have hno := g1 hf
      cases hb : (bestF ss S m).2 with
      | false => exact (f1 hb).2.1
      | true =>
        rcases (f2 hb).1 with ⟨_, h⟩ | ⟨y, hy, _, hok⟩
        · cases h
        · have := hno _ ((hmem _).2 ⟨y, hy, rfl⟩)
          rw [hq, hok] at this
          cases this
    | some a =>
      obtain ⟨a1, a2, a3⟩ := g2 a hf
      obtain ⟨y0, hy0, ha⟩ := (hmem a).1 a1
      cases hb : (bestF ss S m).2 with
      | false =>
        have := (f1 hb).2.2 y0 hy0
        rw [← hq, ha, a2] at this
        cases this
      | true =>
        obtain ⟨h3, _, h5⟩ := f2 hb
        rcases h3 with ⟨_, h⟩ | ⟨y, hy, hr, hok⟩
        · cases h
        · have h6 := h5 y0 hy0 (by rw [← hq, ha]; exact a2)
          have h7 := a3 _ ((hmem _).2 ⟨y, hy, rfl⟩) (by rw [hq]; exact hok)
          have h8 : (bestF ss S m).1.data.toList = a := by
            rw [ByteArray.toList_eq, ByteArray.toList_eq, ha] at h6
            rw [hr] at h6 ⊢
            exact less_none h7 h6
          have h9 : (bestF ss S m).1 = ⟨a.toArray⟩ := bz_inj (h8.trans (by rfl))
          exact Prod.ext h9 hb
end Go.Proofs.YtlhiekeolmgilaaGreatDoor

/- The shortest abbreviation and the column's, the program's way and the reference's. Nothing of the program's code. -/
namespace Go.Proofs.YtlhiekeolmgilaaGreatDoor

theorem fine_ok (ss : List ByteArray) (i : Nat) (hi : i < ss.length) (a : ByteArray) : fineG (othersK ss i) a.data.toList = okAll ss (keyS ss[i]) a := by
  have hk : Sp.key (at' ss i) = (keyS ss[i]).data.toList := by rw [at_get ss i hi]; rfl
  rw [Bool.eq_iff_iff]
  unfold fineG okAll othersK
  rw [hk]
  simp only [List.all_eq_true, List.mem_filter, List.mem_map, decide_eq_true_eq]
  constructor
  · intro h x hx
    unfold okOne
    rw [Bool.or_eq_true]
    by_cases he : (keyS x).data.toList = (keyS ss[i]).data.toList
    · left
      rw [beq_iff_eq, ByteArray.toList_eq, ByteArray.toList_eq]
      exact he
    · right
      exact h _ ⟨⟨x, hx, rfl⟩, he⟩
  · rintro h o ⟨⟨x, hx, rfl⟩, hne⟩
    have h1 := h x hx
    unfold okOne at h1
    rw [Bool.or_eq_true] at h1
    rcases h1 with h1 | h1
    · rw [beq_iff_eq, ByteArray.toList_eq, ByteArray.toList_eq] at h1
      exact absurd h1 hne
    · exact h1

/-- The first fine one of m + 1 letters and up, f numbers of letters. -/
def findUp (q : List UInt8 → Bool) (k : List UInt8) : Nat → Nat → Option (List UInt8)
  | 0, _ => none
  | f + 1, m => match (cutsG k (m + 1)).find? q with
    | some a => some a
    | none => findUp q k f (m + 1)
theorem flat_up (q : List UInt8 → Bool) (k : List UInt8) : ∀ f m, ((List.range' m f).map fun m => cutsG k (m + 1)).flatten.find? q = findUp q k f m
  | 0, m => rfl
  | f + 1, m => by
    rw [List.range'_succ, List.map_cons, List.flatten_cons, List.find?_append, flat_up q k f (m + 1)]
    show _ = (match (cutsG k (m + 1)).find? q with | some a => some a | none => findUp q k f (m + 1))
    cases (cutsG k (m + 1)).find? q <;> rfl
/-- The first fine one of n letters and down. -/
def findDown (q : List UInt8 → Bool) (k : List UInt8) : Nat → Option (List UInt8)
  | 0 => none
  | n + 1 => match (cutsG k (n + 1)).find? q with
    | some a => some a
    | none => findDown q k n
theorem flat_down (q : List UInt8 → Bool) (k : List UInt8) : ∀ n, ((List.range n).map fun m => cutsG k (n - m)).flatten.find? q = findDown q k n
  | 0 => rfl
  | n + 1 => by
    have e : (List.range (n + 1)).map (fun m => cutsG k (n + 1 - m)) = cutsG k (n + 1) :: (List.range n).map fun m => cutsG k (n - m) := by
      rw [List.range_succ_eq_map, List.map_cons, List.map_map]
      congr 1
      refine List.map_congr_left fun m _ => ?_
      show cutsG k (n + 1 - (m + 1)) = cutsG k (n - m)
      rw [Nat.add_sub_add_right]
    rw [e, List.flatten_cons, List.find?_append, flat_down q k n]
    show _ = (match (cutsG k (n + 1)).find? q with | some a => some a | none => findDown q k n)
    cases (cutsG k (n + 1)).find? q <;> rfl

def ansOf : Option (List UInt8) → ByteArray × Int
  | none => (ByteArray.empty, 11)
  | some a => (⟨(a ++ [46]).toArray⟩, 0)
theorem join_point (a : List UInt8) : (⟨a.toArray⟩ : ByteArray) ++ ⟨#[46]⟩ = ⟨(a ++ [46]).toArray⟩ := bz_inj (by rw [ByteArray.data_append, Array.toList_append])

theorem from_find (ss : List ByteArray) (S : ByteArray) (q : List UInt8 → Bool) (hq : ∀ a : ByteArray, q a.data.toList = okAll ss S a) : ∀ f m, S.size ≤ m + f + 1 → fromB ss S f m = ansOf (findUp q S.data.toList (S.size - 1 - m) m)
  | 0, m, h => by
    rw [show S.size - 1 - m = 0 from by omega]
    rfl
  | f + 1, m, h => by
    unfold fromB
    by_cases hm : m + 1 < S.size
    · have hb := best_find ss S q hq m hm
      rw [show S.size - 1 - m = (S.size - 1 - (m + 1)) + 1 from by omega]
      have hbp : bestP ss S m = ((bestF ss S m).1 ++ ⟨#[46]⟩, (bestF ss S m).2) := by unfold bestP; rw [if_neg (by omega)]
      unfold findUp
      rw [hbp, hb]
      cases (cutsG S.data.toList (m + 1)).find? q with
      | none =>
        show fromB ss S f (m + 1) = _
        rw [from_find ss S q hq f (m + 1) (by omega)]
      | some a =>
        show ((⟨a.toArray⟩ : ByteArray) ++ ⟨#[46]⟩, (0 : Int)) = _
        rw [join_point]
        rfl
    · have hb : bestP ss S m = (ByteArray.empty, false) := by unfold bestP; rw [if_pos (by omega)]
      rw [hb]
      show fromB ss S f (m + 1) = _
      rw [from_find ss S q hq f (m + 1) (by omega), show S.size - 1 - m = 0 from by omega, show S.size - 1 - (m + 1) = 0 from by omega]
      rfl
theorem down_find (ss : List ByteArray) (S : ByteArray) (q : List UInt8 → Bool) (hq : ∀ a : ByteArray, q a.data.toList = okAll ss S a) : ∀ n, n < S.size → downB ss S n = ansOf (findDown q S.data.toList n)
  | 0, _ => rfl
  | n + 1, h => by
    unfold downB findDown
    have hb := best_find ss S q hq n h
    have hbp : bestP ss S n = ((bestF ss S n).1 ++ ⟨#[46]⟩, (bestF ss S n).2) := by unfold bestP; rw [if_neg (by omega)]
    rw [hbp, hb]
    cases (cutsG S.data.toList (n + 1)).find? q with
    | none =>
      show downB ss S n = _
      rw [down_find ss S q hq n (by omega)]
    | some a =>
      show ((⟨a.toArray⟩ : ByteArray) ++ ⟨#[46]⟩, (0 : Int)) = _
      rw [join_point]
      rfl

theorem first_ans (o : List (List UInt8)) (s : List (List (List UInt8))) : ((⟨(firstG o s).1.toArray⟩ : ByteArray), (firstG o s).2) = ansOf (s.flatten.find? (fineG o)) := by
  unfold firstG
  cases s.flatten.find? (fineG o) <;> rfl

theorem first_ok : ∀ (ss : List ByteArray), firstErr ss = 0 → ∀ s, s ∈ ss → Sp.check s.data.toList = 0
  | [], _, s, hs => by cases hs
  | x :: t, h, s, hs => by
    unfold firstErr at h
    by_cases hc : Sp.check x.data.toList = 0
    · rw [if_pos hc] at h
      rcases List.mem_cons.1 hs with rfl | hs
      · exact hc
      · exact first_ok t h s hs
    · rw [if_neg hc] at h
      exact absurd h hc
theorem check_keys (ss : List ByteArray) (h : listErr ss = 0) (i : Nat) (hi : i < ss.length) : (keyS ss[i]).size ≤ 12 := by
  have hc : Sp.check ss[i].data.toList = 0 := by
    unfold listErr at h
    split at h
    · cases h
    · exact first_ok ss h _ (List.getElem_mem hi)
  have h1 := check_size hc
  have h2 := latP_flat_le ss[i].data.toList
  have h3 := latP_flat hc
  show (Sp.key ss[i].data.toList).toArray.size ≤ 12
  rw [List.size_toArray, ← h3]
  have := bz_len ss[i]
  omega

/-- The same shortest abbreviation. -/
theorem shortest_eq (ss : List ByteArray) (i : Nat) (hi : i < ss.length) (h : listErr ss = 0) : shortestP ss (i : Int) = (⟨(shortestG ss i).1.toArray⟩, (shortestG ss i).2) := by
  have hv := (check_keys ss h i hi)
  have e1 : shortestP ss (i : Int) = fromB ss (keyS ss[i]) 12 0 := by
    unfold shortestP
    rw [if_pos h, if_neg (by omega)]
    rw [show ((i : Int)).toNat = i from by omega, List.getElem?_eq_getElem hi]
    rfl
  have hk : Sp.key (at' ss i) = (keyS ss[i]).data.toList := by rw [at_get ss i hi]; rfl
  have hz := bz_len (keyS ss[i])
  rw [e1, from_find ss (keyS ss[i]) (fineG (othersK ss i)) (fun a => fine_ok ss i hi a) 12 0 (by omega)]
  unfold shortestG
  rw [first_ans, List.range_eq_range', flat_up, hk, hz]
  rfl

/-- The same in a column. -/
theorem fit_eq (ss : List ByteArray) (i wd : Nat) (hi : i < ss.length) (h : listErr ss = 0) (h1 : 1 ≤ wd) : fitP ss (i : Int) (wd : Int) = (⟨(fitG ss i wd).1.toArray⟩, (fitG ss i wd).2) := by
  have e1 : fitP ss (i : Int) (wd : Int) = fitAt ss (keyS ss[i]) (wd : Int) := by
    unfold fitP
    rw [if_pos h, if_neg (by omega)]
    rw [show ((i : Int)).toNat = i from by omega, List.getElem?_eq_getElem hi]
    rfl
  have hk : Sp.key (at' ss i) = (keyS ss[i]).data.toList := by rw [at_get ss i hi]; rfl
  have hz := bz_len (keyS ss[i])
  rw [e1]
  unfold fitAt fitG
  rw [if_neg (by omega), hk, hz]
  by_cases hw : (keyS ss[i]).size ≤ wd
  · rw [if_pos (show ((keyS ss[i]).size : Int) ≤ (wd : Int) by omega)]
    simp only [if_pos hw] <;> rfl
  · rw [if_neg (show ¬ ((keyS ss[i]).size : Int) ≤ (wd : Int) by omega), if_neg hw, show ((wd : Int)).toNat = wd from by omega, first_ans, flat_down, down_find ss (keyS ss[i]) (fineG (othersK ss i)) (fun a => fine_ok ss i hi a) _ (by omega)]
end Go.Proofs.YtlhiekeolmgilaaGreatDoor
