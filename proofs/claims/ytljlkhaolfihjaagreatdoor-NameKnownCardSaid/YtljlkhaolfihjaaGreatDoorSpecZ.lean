/- The order of names is a line. Nothing of the program's code. -/
import Derived.Test.YtljlkhaolfihjaaGreatDoorPgSpecB
import Derived.Test.YtljlkhaolfihjaaGreatDoorSpecM
import Derived.Test.YtljlkhaolfihjaaGreatDoorRefY
namespace Go.Proofs.YtljlkhaolfihjaaGreatDoor

theorem u8_lt (a b : UInt8) : a < b ↔ a.toNat < b.toNat := UInt8.lt_iff_toNat_lt
theorem u8_eq {a b : UInt8} (h : a.toNat = b.toNat) : a = b := UInt8.toNat_inj.1 h

theorem cmpB_vals : ∀ a b : List UInt8, Lib.compareBytes a b = -1 ∨ Lib.compareBytes a b = 0 ∨ Lib.compareBytes a b = 1
  | [], [] => .inr (.inl rfl)
  | [], _ :: _ => .inl rfl
  | _ :: _, [] => .inr (.inr rfl)
  | a :: x, b :: y => by
    unfold Lib.compareBytes
    split
    · exact .inl rfl
    · split
      · exact .inr (.inr rfl)
      · exact cmpB_vals x y
theorem cmpB_refl : ∀ a : List UInt8, Lib.compareBytes a a = 0
  | [] => rfl
  | a :: x => by
    unfold Lib.compareBytes
    rw [if_neg (by rw [u8_lt]; omega), if_neg (by rw [u8_lt]; omega)]
    exact cmpB_refl x
theorem cmpB_eq : ∀ a b : List UInt8, Lib.compareBytes a b = 0 → a = b
  | [], [], _ => rfl
  | [], _ :: _, h => by simp [Lib.compareBytes] at h
  | _ :: _, [], h => by simp [Lib.compareBytes] at h
  | a :: x, b :: y, h => by
    unfold Lib.compareBytes at h
    split at h
    · cases h
    · split at h
      · cases h
      · rename_i h1 h2
        rw [u8_lt] at h1 h2
        rw [u8_eq (a := a) (b := b) (by omega), cmpB_eq x y h]
theorem cmpB_anti : ∀ a b : List UInt8, Lib.compareBytes b a = - Lib.compareBytes a b
  | [], [] => rfl
  | [], _ :: _ => rfl
  | _ :: _, [] => rfl
  | a :: x, b :: y => by
    unfold Lib.compareBytes
    by_cases h1 : a < b
    · rw [if_pos h1, if_neg (by rw [u8_lt] at *; omega), if_pos h1]; rfl
    · by_cases h2 : b < a
      · rw [if_pos h2, if_neg h1, if_pos h2]
      · rw [if_neg h2, if_neg h1, if_neg h1, if_neg h2]
        exact cmpB_anti x y
theorem cmpB_trans : ∀ a b c : List UInt8, Lib.compareBytes a b = -1 → Lib.compareBytes b c = -1 → Lib.compareBytes a c = -1
  | [], [], _, h, _ => by simp [Lib.compareBytes] at h
  | _ :: _, [], _, h, _ => by simp [Lib.compareBytes] at h
  | _, _ :: _, [], _, k => by simp [Lib.compareBytes] at k
  | [], _ :: _, _ :: _, _, _ => rfl
  | a :: x, b :: y, c :: z, h, k => by
    unfold Lib.compareBytes at h k ⊢
    by_cases h1 : a < b
    · by_cases k1 : b < c
      · rw [if_pos (by rw [u8_lt] at *; omega)]
      · rw [if_neg k1] at k
        by_cases k2 : c < b
        · rw [if_pos k2] at k; cases k
        · rw [if_pos (by rw [u8_lt] at *; omega)]
    · rw [if_neg h1] at h
      by_cases h2 : b < a
      · rw [if_pos h2] at h; cases h
      · rw [if_neg h2] at h
        by_cases k1 : b < c
        · rw [if_pos (by rw [u8_lt] at *; omega)]
        · rw [if_neg k1] at k
          by_cases k2 : c < b
          · rw [if_pos k2] at k; cases k
          · rw [if_neg k2] at k
            rw [if_neg (by rw [u8_lt] at *; omega), if_neg (by rw [u8_lt] at *; omega)]
            exact cmpB_trans x y z h k
theorem less_cmp : ∀ a b : List UInt8, Op.bytesLess a b = decide (Lib.compareBytes a b = -1)
  | [], [] => rfl
  | [], _ :: _ => rfl
  | _ :: _, [] => rfl
  | a :: x, b :: y => by
    unfold Op.bytesLess Lib.compareBytes
    by_cases h1 : a < b
    · simp [h1]
    · by_cases h2 : b < a
      · have h3 : ¬ a = b := fun e => by rw [u8_lt, e] at h2; omega
        simp [h1, h2, h3]
      · rw [u8_lt] at h1 h2
        have h3 : a = b := u8_eq (by omega)
        subst h3
        have := less_cmp x y
        simp [this]

theorem cmpI_vals (x y : Int) : Lib.compareInt x y = -1 ∨ Lib.compareInt x y = 0 ∨ Lib.compareInt x y = 1 := by
  unfold Lib.compareInt; split
  · exact .inl rfl
  · split
    · exact .inr (.inr rfl)
    · exact .inr (.inl rfl)
theorem cmpI_lt (x y : Int) : Lib.compareInt x y = -1 ↔ x < y := by
  unfold Lib.compareInt; split
  · simp [*]
  · split <;> simp [*]
theorem cmpI_gt (x y : Int) : Lib.compareInt x y = 1 ↔ y < x := by
  unfold Lib.compareInt; split
  · simp; omega
  · split
    · simp; omega
    · simp; omega
theorem cmpI_eq (x y : Int) : Lib.compareInt x y = 0 ↔ x = y := by
  have h1 := cmpI_lt x y
  have h2 := cmpI_gt x y
  rcases cmpI_vals x y with h | h | h <;> rw [h] at h1 h2 ⊢ <;> simp at h1 h2 ⊢ <;> omega

theorem cmpS_vals (a b : Spell) : cmpSpell a b = -1 ∨ cmpSpell a b = 0 ∨ cmpSpell a b = 1 := by
  unfold cmpSpell; split
  · exact cmpI_vals _ _
  · exact cmpB_vals _ _
theorem cmpS_trans (a b c : Spell) (h : cmpSpell a b = -1) (k : cmpSpell b c = -1) : cmpSpell a c = -1 := by
  unfold cmpSpell at *
  by_cases h1 : Lib.compareBytes a.1.data.toList b.1.data.toList = 0
  · rw [if_pos h1] at h
    have e1 := cmpB_eq _ _ h1
    rw [e1]
    by_cases k1 : Lib.compareBytes b.1.data.toList c.1.data.toList = 0
    · rw [if_pos k1] at k ⊢
      rw [cmpI_lt] at *
      omega
    · rw [if_neg k1] at k ⊢
      exact k
  · rw [if_neg h1] at h
    by_cases k1 : Lib.compareBytes b.1.data.toList c.1.data.toList = 0
    · rw [← cmpB_eq _ _ k1, if_neg h1]
      exact h
    · rw [if_neg k1] at k
      have := cmpB_trans _ _ _ h k
      rw [this]
      rfl

/-- Two valid names, and which one comes first. -/
theorem line_cases (x y : ByteArray) (hx : Letters x.data.toList) (hy : Letters y.data.toList) (h1 : 1 ≤ x.size) (h2 : 1 ≤ y.size) :
    (cmpSpell (spellOf x) (spellOf y) = -1 ∧ cmpSpell (spellOf y) (spellOf x) = 1 ∧ (x.toList == y.toList) = false ∧ Op.bytesLess (keyS x).toList (keyS y).toList = true ∧ ((keyS x).toList == (keyS y).toList) = false) ∨
    (cmpSpell (spellOf x) (spellOf y) = 1 ∧ cmpSpell (spellOf y) (spellOf x) = -1 ∧ (x.toList == y.toList) = false ∧ Op.bytesLess (keyS x).toList (keyS y).toList = false ∧ ((keyS x).toList == (keyS y).toList) = false) ∨
    (cmpSpell (spellOf x) (spellOf y) = -1 ∧ cmpSpell (spellOf y) (spellOf x) = 1 ∧ (x.toList == y.toList) = false ∧ Op.bytesLess (keyS x).toList (keyS y).toList = false ∧ ((keyS x).toList == (keyS y).toList) = true ∧ lat x.data.toList = true) ∨
    (cmpSpell (spellOf x) (spellOf y) = 1 ∧ cmpSpell (spellOf y) (spellOf x) = -1 ∧ (x.toList == y.toList) = false ∧ Op.bytesLess (keyS x).toList (keyS y).toList = false ∧ ((keyS x).toList == (keyS y).toList) = true) ∨
    (cmpSpell (spellOf x) (spellOf y) = 0 ∧ cmpSpell (spellOf y) (spellOf x) = 0 ∧ (x.toList == y.toList) = true ∧ Op.bytesLess (keyS x).toList (keyS y).toList = false ∧ ((keyS x).toList == (keyS y).toList) = true) := by
  have hne : keyS x ≠ keyS y → (x.toList == y.toList) = false := fun h => by
    rw [beq_eq_false_iff_ne]
    intro e
    exact h (by rw [bytes_inj e])
  have hl : ∀ s : ByteArray, s.toList = s.data.toList := fun s => ByteArray.toList_eq s
  by_cases hk : keyS x = keyS y
  · have hd : Sp.key x.data.toList = Sp.key y.data.toList := congrArg (fun z : ByteArray => z.data.toList) hk
    have e1 : Lib.compareBytes (keyS x).data.toList (keyS y).data.toList = 0 := by rw [hk]; exact cmpB_refl _
    have e2 : Lib.compareBytes (keyS y).data.toList (keyS x).data.toList = 0 := by rw [hk]; exact cmpB_refl _
    have n1 : cmpSpell (spellOf x) (spellOf y) = Lib.compareInt (alphaN x.data.toList) (alphaN y.data.toList) := by unfold cmpSpell; exact if_pos e1
    have n2 : cmpSpell (spellOf y) (spellOf x) = Lib.compareInt (alphaN y.data.toList) (alphaN x.data.toList) := by unfold cmpSpell; exact if_pos e2
    have b1 : Op.bytesLess (keyS x).toList (keyS y).toList = false := by rw [hl, hl, less_cmp, e1]; rfl
    have b2 : ((keyS x).toList == (keyS y).toList) = true := by rw [hk]; simp
    rw [n1, n2, b1, b2]
    cases hlx : lat x.data.toList <;> cases hly : lat y.data.toList
    · have := key_inj hx hy h1 h2 hd (by rw [hlx, hly])
      subst this
      exact .inr (.inr (.inr (.inr ⟨by rw [cmpI_eq], by rw [cmpI_eq], by simp, rfl, rfl⟩)))
    · refine .inr (.inr (.inr (.inl ⟨by unfold alphaN; rw [hlx, hly]; rfl, by unfold alphaN; rw [hlx, hly]; rfl, ?_, rfl, rfl⟩)))
      rw [beq_eq_false_iff_ne]; intro e; rw [bytes_inj e, hly] at hlx; cases hlx
    · refine .inr (.inr (.inl ⟨by unfold alphaN; rw [hlx, hly]; rfl, by unfold alphaN; rw [hlx, hly]; rfl, ?_, rfl, rfl, rfl⟩))
      rw [beq_eq_false_iff_ne]; intro e; rw [bytes_inj e, hly] at hlx; cases hlx
    · have := key_inj hx hy h1 h2 hd (by rw [hlx, hly])
      subst this
      exact .inr (.inr (.inr (.inr ⟨by rw [cmpI_eq], by rw [cmpI_eq], by simp, rfl, rfl⟩)))
  · have hs := hne hk
    have hb : ((keyS x).toList == (keyS y).toList) = false := by rw [beq_eq_false_iff_ne]; exact fun h => hk (bytes_inj h)
    have hz : Lib.compareBytes (keyS x).data.toList (keyS y).data.toList ≠ 0 := fun h => hk (bytes_inj (by rw [hl, hl]; exact cmpB_eq _ _ h))
    have ha := cmpB_anti (keyS x).data.toList (keyS y).data.toList
    have n1 : cmpSpell (spellOf x) (spellOf y) = Lib.compareBytes (keyS x).data.toList (keyS y).data.toList := by unfold cmpSpell; exact if_neg hz
    have n2 : cmpSpell (spellOf y) (spellOf x) = Lib.compareBytes (keyS y).data.toList (keyS x).data.toList := by unfold cmpSpell; exact if_neg (by show ¬ Lib.compareBytes (keyS y).data.toList (keyS x).data.toList = 0; omega)
    rw [n1, n2, ha, hl (keyS x), hl (keyS y), less_cmp]
    rw [hl, hl] at hb
    rcases cmpB_vals (keyS x).data.toList (keyS y).data.toList with h | h | h
    · rw [h]; exact .inl ⟨rfl, rfl, hs, rfl, hb⟩
    · exact absurd h hz
    · rw [h]; exact .inr (.inl ⟨rfl, rfl, hs, rfl, hb⟩)
end Go.Proofs.YtljlkhaolfihjaaGreatDoor

/- The first fine abbreviation in order is the best of all parts. Nothing of the program's code. -/
namespace Go.Proofs.YtljlkhaolfihjaaGreatDoor

theorem bz_len (s : ByteArray) : s.data.toList.length = s.size := by simp
theorem bz_inj {a b : ByteArray} (h : a.data.toList = b.data.toList) : a = b := bytes_inj (by rw [ByteArray.toList_eq, ByteArray.toList_eq]; exact h)
theorem ext_list (s : ByteArray) (i j : Nat) : (s.extract i j).data.toList = (s.data.toList.drop i).take (j - i) := by
  rw [ByteArray.data_extract, Array.toList_extract, List.extract_eq_take_drop]

theorem parts_mem : ∀ (n : Nat) (s y : ByteArray), y ∈ partsL n s ↔ y.data.toList.length = n ∧ y.data.toList.Sublist s.data.toList
  | 0, s, y => by
    unfold partsL
    rw [List.mem_singleton]
    constructor
    · rintro rfl
      exact ⟨rfl, List.nil_sublist _⟩
    · rintro ⟨h, _⟩
      refine bz_inj ?_
      rw [List.eq_nil_of_length_eq_zero h]
      rfl
  | n + 1, s, y => by
    unfold partsL
    rw [List.mem_flatMap]
    have hz := bz_len s
    constructor
    · rintro ⟨i, hi, hy⟩
      rw [List.mem_range] at hi
      rw [List.mem_map] at hy
      obtain ⟨t, ht, rfl⟩ := hy
      obtain ⟨h1, h2⟩ := (parts_mem n _ t).1 ht
      have hil : i < s.data.toList.length := by omega
      have e1 : (s.extract i (i + 1)).data.toList = [s.data.toList[i]] := by
        rw [ext_list, show i + 1 - i = 1 from by omega, List.drop_eq_getElem_cons hil]
        rfl
      have e2 : (s.extract (i + 1) s.size).data.toList = s.data.toList.drop (i + 1) := by
        rw [ext_list, List.take_of_length_le (by rw [List.length_drop]; omega)]
      rw [ByteArray.data_append, Array.toList_append, e1]
      rw [e2] at h2
      refine ⟨by rw [List.length_append, h1]; show 1 + n = n + 1; omega, ?_⟩
      have e3 : s.data.toList = s.data.toList.take i ++ s.data.toList[i] :: s.data.toList.drop (i + 1) := by
        rw [List.getElem_cons_drop, List.take_append_drop]
      have h3 := (List.cons_sublist_cons.2 h2 : (s.data.toList[i] :: t.data.toList).Sublist (s.data.toList[i] :: s.data.toList.drop (i + 1))).trans (List.sublist_append_right (s.data.toList.take i) _)
      rw [← e3] at h3
      exact h3
    · rintro ⟨h1, h2⟩
      cases hy : y.data.toList with
      | nil => rw [hy] at h1; simp at h1
      | cons c t =>
        rw [hy] at h1 h2
        obtain ⟨h3, h4⟩ := sub_first _ c t h2
        have hn : n ≤ (s.data.toList.drop (s.data.toList.idxOf c + 1)).length := by
          have := h4.length_le
          simp at h1
          omega
        rw [List.length_drop] at hn
        refine ⟨s.data.toList.idxOf c, List.mem_range.2 (by omega), List.mem_map.2 ⟨⟨t.toArray⟩, (parts_mem n _ _).2 ⟨by simpa using h1, ?_⟩, ?_⟩⟩
        · rw [ext_list, List.take_of_length_le (by rw [List.length_drop]; omega)]
          exact h4
        · refine bz_inj ?_
          rw [ByteArray.data_append, Array.toList_append, ext_list, hy, show s.data.toList.idxOf c + 1 - s.data.toList.idxOf c = 1 from by omega, List.drop_eq_getElem_cons h3, List.getElem_idxOf h3]
          rfl

theorem less_anti {a b : List UInt8} (h : Op.bytesLess a b = true) : Op.bytesLess b a = false := by
  rw [less_cmp] at *
  have h1 := of_decide_eq_true h
  refine decide_eq_false ?_
  rw [cmpB_anti a b, h1]
  decide
theorem less_none {a b : List UInt8} (h : Op.bytesLess a b = false) (k : Op.bytesLess b a = false) : a = b := by
  rw [less_cmp] at *
  have h1 := of_decide_eq_false h
  have k1 := of_decide_eq_false k
  rw [cmpB_anti a b] at k1
  refine cmpB_eq a b ?_
  rcases cmpB_vals a b with e | e | e
  · exact absurd e h1
  · exact e
  · rw [e] at k1; exact absurd rfl k1
/-- What the fold over all parts comes to. -/
theorem fold_best (ss : List ByteArray) (S : ByteArray) : ∀ (Y : List ByteArray) (acc : ByteArray × Bool),
    ((Y.foldl (bestStep ss S) acc).2 = false → acc.2 = false ∧ Y.foldl (bestStep ss S) acc = acc ∧ ∀ y, y ∈ Y → okAll ss S (S.extract 0 1 ++ y) = false) ∧
    ((Y.foldl (bestStep ss S) acc).2 = true → ((Y.foldl (bestStep ss S) acc = acc ∧ acc.2 = true) ∨ ∃ y, y ∈ Y ∧ (Y.foldl (bestStep ss S) acc).1 = S.extract 0 1 ++ y ∧ okAll ss S (S.extract 0 1 ++ y) = true) ∧
      (acc.2 = true → Op.bytesLess acc.1.toList (Y.foldl (bestStep ss S) acc).1.toList = false) ∧ ∀ y, y ∈ Y → okAll ss S (S.extract 0 1 ++ y) = true → Op.bytesLess (S.extract 0 1 ++ y).toList (Y.foldl (bestStep ss S) acc).1.toList = false)
  | [], acc => by
    refine ⟨fun h => ⟨h, rfl, fun y hy => by cases hy⟩, fun h => ⟨.inl ⟨rfl, h⟩, fun _ => ?_, fun y hy => by cases hy⟩⟩
    show Op.bytesLess acc.1.toList acc.1.toList = false
    exact bytesLess_irrefl _
  | x :: Y, acc => by
    rw [List.foldl_cons]
    obtain ⟨h1, h2⟩ := fold_best ss S Y (bestStep ss S acc x)
    by_cases hc : (okAll ss S (S.extract 0 1 ++ x) && (!acc.2 || Op.bytesLess (S.extract 0 1 ++ x).toList acc.1.toList)) = true
    · have e : bestStep ss S acc x = (S.extract 0 1 ++ x, true) := by unfold bestStep; rw [if_pos hc]
      rw [e] at h1 h2 ⊢
      simp only [Bool.and_eq_true, Bool.or_eq_true, Bool.not_eq_true'] at hc
      refine ⟨(fun h => by have h9 := (h1 h).1; simp at h9), fun h => ?_⟩
      obtain ⟨h3, h4, h5⟩ := h2 h
      have h6 : Op.bytesLess (S.extract 0 1 ++ x).toList (List.foldl (bestStep ss S) (S.extract 0 1 ++ x, true) Y).1.toList = false := h4 rfl
      refine ⟨.inr ?_, fun ha => ?_, fun y hy hok => ?_⟩
      · rcases h3 with ⟨h3, _⟩ | ⟨y, hy, h3, h3'⟩
        · exact ⟨x, by simp, by rw [h3], hc.1⟩
        · exact ⟨y, by simp [hy], h3, h3'⟩
      · rcases hc.2 with h7 | h7
        · rw [ha] at h7; cases h7
        · cases hb : Op.bytesLess acc.1.toList (List.foldl (bestStep ss S) (S.extract 0 1 ++ x, true) Y).1.toList with
          | false => rfl
          | true =>
            rw [less_cmp] at h7 hb h6
            exact absurd (cmpB_trans _ _ _ (of_decide_eq_true h7) (of_decide_eq_true hb)) (of_decide_eq_false h6)
      · rcases List.mem_cons.1 hy with rfl | hy
        · exact h6
        · exact h5 y hy hok
    · have e : bestStep ss S acc x = acc := by unfold bestStep; rw [if_neg hc]
      rw [e] at h1 h2 ⊢
      have hn : okAll ss S (S.extract 0 1 ++ x) = true → acc.2 = true ∧ Op.bytesLess (S.extract 0 1 ++ x).toList acc.1.toList = false := fun hok => by
        rw [hok] at hc
        simp only [Bool.true_and, Bool.or_eq_true, Bool.not_eq_true', not_or, Bool.not_eq_false, Bool.not_eq_true] at hc
        exact hc
      refine ⟨fun h => ?_, fun h => ?_⟩
      · obtain ⟨a1, a2, a3⟩ := h1 h
        refine ⟨a1, a2, fun y hy => ?_⟩
        rcases List.mem_cons.1 hy with rfl | hy
        · cases hok : okAll ss S (S.extract 0 1 ++ y) with
          | false => rfl
          | true => rw [(hn hok).1] at a1; cases a1
        · exact a3 y hy
      · obtain ⟨h3, h4, h5⟩ := h2 h
        refine ⟨?_, h4, fun y hy hok => ?_⟩
        · rcases h3 with h3 | ⟨y, hy, h3⟩
          · exact .inl h3
          · exact .inr ⟨y, by simp [hy], h3⟩
        · rcases List.mem_cons.1 hy with rfl | hy
          · obtain ⟨b1, b2⟩ := hn hok
            have h6 := h4 b1
            cases hb : Op.bytesLess (S.extract 0 1 ++ y).toList (List.foldl (bestStep ss S) acc Y).1.toList with
            | false => rfl
            | true =>
              cases hb2 : Op.bytesLess acc.1.toList (S.extract 0 1 ++ y).toList with
              | false =>
                have e1 := less_none b2 hb2
                rw [e1, h6] at hb
                cases hb
              | true =>
                rw [less_cmp] at hb hb2 h6
                exact absurd (cmpB_trans _ _ _ (of_decide_eq_true hb2) (of_decide_eq_true hb)) (of_decide_eq_false h6)
          · exact h5 y hy hok

theorem find_first {q : List UInt8 → Bool} : ∀ (C : List (List UInt8)), (C.Pairwise fun u v => Op.bytesLess u v = true) →
    (C.find? q = none → ∀ b, b ∈ C → q b = false) ∧ ∀ a, C.find? q = some a → a ∈ C ∧ q a = true ∧ ∀ b, b ∈ C → q b = true → Op.bytesLess b a = false
  | [], _ => ⟨(fun _ b hb => by cases hb), (fun a h => by cases h)⟩
  | x :: C, hC => by
    rw [List.pairwise_cons] at hC
    obtain ⟨h1, h2⟩ := find_first C hC.2
    cases hq : q x with
    | true =>
      rw [List.find?_cons_of_pos hq]
      refine ⟨(fun h => by cases h), fun a h => ?_⟩
      injection h with h
      subst h
      refine ⟨by simp, hq, fun b hb hqb => ?_⟩
      rcases List.mem_cons.1 hb with rfl | hb
      · exact bytesLess_irrefl _
      · exact less_anti (hC.1 b hb)
    | false =>
      rw [List.find?_cons_of_neg (by simp [hq])]
      refine ⟨fun h b hb => ?_, fun a h => ?_⟩
      · rcases List.mem_cons.1 hb with rfl | hb
        · exact hq
        · exact h1 h b hb
      · obtain ⟨a1, a2, a3⟩ := h2 a h
        refine ⟨by simp [a1], a2, fun b hb hqb => ?_⟩
        rcases List.mem_cons.1 hb with rfl | hb
        · rw [hq] at hqb; cases hqb
        · exact a3 b hb hqb

/-- The best of so many letters, both ways. -/
theorem best_find (ss : List ByteArray) (S : ByteArray) (q : List UInt8 → Bool) (hq : ∀ a : ByteArray, q a.data.toList = okAll ss S a) (m : Nat) (hm : m + 1 < S.size) :
    bestF ss S m = match (cutsG S.data.toList (m + 1)).find? q with | none => (ByteArray.empty, false) | some a => (⟨a.toArray⟩, true) := by
  have hz := bz_len S
  cases hk : S.data.toList with
  | nil =>
    have h0 : S.size = 0 := by rw [← hz, hk]; rfl
    omega
  | cons c t =>
    have e0 : (S.extract 0 1).data.toList = [c] := by rw [ext_list, hk]; rfl
    have e1 : (S.extract 1 S.size).data.toList = t := by
      rw [ext_list, hk]
      show List.take (S.size - 1) t = t
      refine List.take_of_length_le ?_
      have h0 : (c :: t).length = S.size := by rw [← hk]; exact hz
      have h1 : (c :: t).length = t.length + 1 := rfl
      omega
    have hpre : ∀ y : ByteArray, (S.extract 0 1 ++ y).data.toList = c :: y.data.toList := fun y => by
      rw [ByteArray.data_append, Array.toList_append, e0]; rfl
    have hlen : m + 1 < (c :: t).length := by rw [← hk, hz]; exact hm
    have hmem : ∀ x : List UInt8, x ∈ cutsG (c :: t) (m + 1) ↔ ∃ y, y ∈ partsL m (S.extract 1 S.size) ∧ (S.extract 0 1 ++ y).data.toList = x := fun x => by
      rw [cuts_mem c t (m + 1) (by omega)]
      constructor
      · rintro ⟨_, y, rfl, h1, h2⟩
        refine ⟨⟨y.toArray⟩, (parts_mem m _ _).2 ⟨by simp; omega, by rw [e1]; exact h2⟩, by rw [hpre]⟩
      · rintro ⟨y, hy, rfl⟩
        obtain ⟨h1, h2⟩ := (parts_mem m _ y).1 hy
        rw [e1] at h2
        exact ⟨hlen, y.data.toList, hpre y, by omega, h2⟩
    obtain ⟨f1, f2⟩ := fold_best ss S (partsL m (S.extract 1 S.size)) (ByteArray.empty, false)
    obtain ⟨g1, g2⟩ := find_first (q := q) (cutsG (c :: t) (m + 1)) (cuts_up _ _)
    have hbF : bestF ss S m = (partsL m (S.extract 1 S.size)).foldl (bestStep ss S) (ByteArray.empty, false) := rfl
    rw [← hbF] at f1 f2
    cases hf : (cutsG (c :: t) (m + 1)).find? q with
    | none =>
      have hno := g1 hf
      cases hb : (bestF ss S m).2 with
      | false => exact (f1 hb).2.1
      | true =>
        rcases (f2 hb).1 with ⟨_, h⟩ | ⟨y, hy, _, hok⟩
        · cases h
        · have := hno _ ((hmem _).2 ⟨y, hy, rfl⟩)
          rw [hq, hok] at this
          cases this
    | some a =>
      obtain ⟨a1, a2, a3⟩ := g2 a hf
      obtain ⟨y0, hy0, ha⟩ := (hmem a).1 a1
      cases hb : (bestF ss S m).2 with
      | false =>
        have := (f1 hb).2.2 y0 hy0
        rw [← hq, ha, a2] at this
        cases this
      | true =>
        obtain ⟨h3, _, h5⟩ := f2 hb
        rcases h3 with ⟨_, h⟩ | ⟨y, hy, hr, hok⟩
        · cases h
        · have h6 := h5 y0 hy0 (by rw [← hq, ha]; exact a2)
          have h7 := a3 _ ((hmem _).2 ⟨y, hy, rfl⟩) (by rw [hq]; exact hok)
          have h8 : (bestF ss S m).1.data.toList = a := by
            rw [ByteArray.toList_eq, ByteArray.toList_eq, ha] at h6
            rw [hr] at h6 ⊢
            exact less_none h7 h6
          have h9 : (bestF ss S m).1 = ⟨a.toArray⟩ := bz_inj (h8.trans (by rfl))
          exact Prod.ext h9 hb
end Go.Proofs.YtljlkhaolfihjaaGreatDoor
