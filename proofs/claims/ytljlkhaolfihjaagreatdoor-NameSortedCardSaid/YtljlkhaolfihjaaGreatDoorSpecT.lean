/- The order of names is a line. Nothing of the program's code. -/
import Derived.Test.YtljlkhaolfihjaaGreatDoorPgSpecB
namespace Go.Proofs.YtljlkhaolfihjaaGreatDoor

theorem u8_lt (a b : UInt8) : a < b ↔ a.toNat < b.toNat := UInt8.lt_iff_toNat_lt
theorem u8_eq {a b : UInt8} (h : a.toNat = b.toNat) : a = b := UInt8.toNat_inj.1 h

theorem cmpB_vals : ∀ a b : List UInt8, Lib.compareBytes a b = -1 ∨ Lib.compareBytes a b = 0 ∨ Lib.compareBytes a b = 1
  | [], [] => .inr (.inl rfl)
  | [], _ :: _ => .inl rfl
  | _ :: _, [] => .inr (.inr rfl)
  | a :: x, b :: y => by
    unfold Lib.compareBytes
    split
    · exact .inl rfl
    · split
      · exact .inr (.inr rfl)
      · exact cmpB_vals x y
theorem cmpB_refl : ∀ a : List UInt8, Lib.compareBytes a a = 0
  | [] => rfl
  | a :: x => by
    unfold Lib.compareBytes
    rw [if_neg (by rw [u8_lt]; omega), if_neg (by rw [u8_lt]; omega)]
    exact cmpB_refl x
theorem cmpB_eq : ∀ a b : List UInt8, Lib.compareBytes a b = 0 → a = b
  | [], [], _ => rfl
  | [], _ :: _, h => by simp [Lib.compareBytes] at h
  | _ :: _, [], h => by simp [Lib.compareBytes] at h
  | a :: x, b :: y, h => by
    unfold Lib.compareBytes at h
    split at h
    · cases h
    · split at h
      · cases h
      · rename_i h1 h2
        rw [u8_lt] at h1 h2
        rw [u8_eq (a := a) (b := b) (by omega), cmpB_eq x y h]
theorem cmpB_anti : ∀ a b : List UInt8, Lib.compareBytes b a = - Lib.compareBytes a b
  | [], [] => rfl
  | [], _ :: _ => rfl
  | _ :: _, [] => rfl
  | a :: x, b :: y => by
    unfold Lib.compareBytes
    by_cases h1 : a < b
    · rw [if_pos h1, if_neg (by rw [u8_lt] at *; omega), if_pos h1]; rfl
    · by_cases h2 : b < a
      · rw [if_pos h2, if_neg h1, if_pos h2]
      · rw [if_neg h2, if_neg h1, if_neg h1, if_neg h2]
        exact cmpB_anti x y
theorem cmpB_trans : ∀ a b c : List UInt8, Lib.compareBytes a b = -1 → Lib.compareBytes b c = -1 → Lib.compareBytes a c = -1
  | [], [], _, h, _ => by simp [Lib.compareBytes] at h
  | _ :: _, [], _, h, _ => by simp [Lib.compareBytes] at h
  | _, _ :: _, [], _, k => by simp [Lib.compareBytes] at k
  | [], _ :: _, _ :: _, _, _ => rfl
  | a :: x, b :: y, c :: z, h, k => by
    unfold Lib.compareBytes at h k ⊢
    by_cases h1 : a < b
    · by_cases k1 : b < c
      · rw [if_pos (by rw [u8_lt] at *; omega)]
      · rw [if_neg k1] at k
        by_cases k2 : c < b
        · rw [if_pos k2] at k; cases k
        · rw [if_pos (by rw [u8_lt] at *; omega)]
    · rw [if_neg h1] at h
      by_cases h2 : b < a
      · rw [if_pos h2] at h; cases h
      · rw [if_neg h2] at h
        by_cases k1 : b < c
        · rw [if_pos (by rw [u8_lt] at *; omega)]
        · rw [if_neg k1] at k
          by_cases k2 : c < b
          · rw [if_pos k2] at k; cases k
          · rw [if_neg k2] at k
            rw [if_neg (by rw [u8_lt] at *; omega), if_neg (by rw [u8_lt] at *; omega)]
            exact cmpB_trans x y z h k
theorem less_cmp : ∀ a b : List UInt8, Op.bytesLess a b = decide (Lib.compareBytes a b = -1)
  | [], [] => rfl
  | [], _ :: _ => rfl
  | _ :: _, [] => rfl
  | a :: x, b :: y => by
    unfold Op.bytesLess Lib.compareBytes
    by_cases h1 : a < b
    · simp [h1]
    · by_cases h2 : b < a
      · have h3 : ¬ a = b := fun e => by rw [u8_lt, e] at h2; omega
        simp [h1, h2, h3]
      · rw [u8_lt] at h1 h2
        have h3 : a = b := u8_eq (by omega)
        subst h3
        have := less_cmp x y
        simp [this]

theorem cmpI_vals (x y : Int) : Lib.compareInt x y = -1 ∨ Lib.compareInt x y = 0 ∨ Lib.compareInt x y = 1 := by
  unfold Lib.compareInt; split
  · exact .inl rfl
  · split
    · exact .inr (.inr rfl)
    · exact .inr (.inl rfl)
theorem cmpI_lt (x y : Int) : Lib.compareInt x y = -1 ↔ x < y := by
  unfold Lib.compareInt; split
  · simp [*]
  · split <;> simp [*]
theorem cmpI_gt (x y : Int) : Lib.compareInt x y = 1 ↔ y < x := by
  unfold Lib.compareInt; split
  · simp; omega
  · split
    · simp; omega
    · simp; omega
theorem cmpI_eq (x y : Int) : Lib.compareInt x y = 0 ↔ x = y := by
  have h1 := cmpI_lt x y
  have h2 := cmpI_gt x y
  rcases cmpI_vals x y with h | h | h <;> rw [h] at h1 h2 ⊢ <;> simp at h1 h2 ⊢ <;> omega

theorem cmpS_vals (a b : Spell) : cmpSpell a b = -1 ∨ cmpSpell a b = 0 ∨ cmpSpell a b = 1 := by
  unfold cmpSpell; split
  · exact cmpI_vals _ _
  · exact cmpB_vals _ _
theorem cmpS_trans (a b c : Spell) (h : cmpSpell a b = -1) (k : cmpSpell b c = -1) : cmpSpell a c = -1 := by
  unfold cmpSpell at *
  by_cases h1 : Lib.compareBytes a.1.data.toList b.1.data.toList = 0
  · rw [if_pos h1] at h
    have e1 := cmpB_eq _ _ h1
    rw [e1]
    by_cases k1 : Lib.compareBytes b.1.data.toList c.1.data.toList = 0
    · rw [if_pos k1] at k ⊢
      rw [cmpI_lt] at *
      omega
    · rw [if_neg k1] at k ⊢
      exact k
  · rw [if_neg h1] at h
    by_cases k1 : Lib.compareBytes b.1.data.toList c.1.data.toList = 0
    · rw [← cmpB_eq _ _ k1, if_neg h1]
      exact h
    · rw [if_neg k1] at k
      have := cmpB_trans _ _ _ h k
      rw [this]
      rfl

/-- Two valid names, and which one comes first. -/
theorem line_cases (x y : ByteArray) (hx : Letters x.data.toList) (hy : Letters y.data.toList) (h1 : 1 ≤ x.size) (h2 : 1 ≤ y.size) :
    (cmpSpell (spellOf x) (spellOf y) = -1 ∧ cmpSpell (spellOf y) (spellOf x) = 1 ∧ (x.toList == y.toList) = false ∧ Op.bytesLess (keyS x).toList (keyS y).toList = true ∧ ((keyS x).toList == (keyS y).toList) = false) ∨
    (cmpSpell (spellOf x) (spellOf y) = 1 ∧ cmpSpell (spellOf y) (spellOf x) = -1 ∧ (x.toList == y.toList) = false ∧ Op.bytesLess (keyS x).toList (keyS y).toList = false ∧ ((keyS x).toList == (keyS y).toList) = false) ∨
    (cmpSpell (spellOf x) (spellOf y) = -1 ∧ cmpSpell (spellOf y) (spellOf x) = 1 ∧ (x.toList == y.toList) = false ∧ Op.bytesLess (keyS x).toList (keyS y).toList = false ∧ ((keyS x).toList == (keyS y).toList) = true ∧ lat x.data.toList = true) ∨
    (cmpSpell (spellOf x) (spellOf y) = 1 ∧ cmpSpell (spellOf y) (spellOf x) = -1 ∧ (x.toList == y.toList) = false ∧ Op.bytesLess (keyS x).toList (keyS y).toList = false ∧ ((keyS x).toList == (keyS y).toList) = true) ∨
    (cmpSpell (spellOf x) (spellOf y) = 0 ∧ cmpSpell (spellOf y) (spellOf x) = 0 ∧ (x.toList == y.toList) = true ∧ Op.bytesLess (keyS x).toList (keyS y).toList = false ∧ ((keyS x).toList == (keyS y).toList) = true) := by
  have hne : keyS x ≠ keyS y → (x.toList == y.toList) = false := fun h => by
    rw [beq_eq_false_iff_ne]
    intro e
    exact h (by rw [bytes_inj e])
  have hl : ∀ s : ByteArray, s.toList = s.data.toList := fun s => ByteArray.toList_eq s
  by_cases hk : keyS x = keyS y
  · have hd : Sp.key x.data.toList = Sp.key y.data.toList := congrArg (fun z : ByteArray => z.data.toList) hk
    have e1 : Lib.compareBytes (keyS x).data.toList (keyS y).data.toList = 0 := by rw [hk]; exact cmpB_refl _
    have e2 : Lib.compareBytes (keyS y).data.toList (keyS x).data.toList = 0 := by rw [hk]; exact cmpB_refl _
    have n1 : cmpSpell (spellOf x) (spellOf y) = Lib.compareInt (alphaN x.data.toList) (alphaN y.data.toList) := by unfold cmpSpell; exact if_pos e1
    have n2 : cmpSpell (spellOf y) (spellOf x) = Lib.compareInt (alphaN y.data.toList) (alphaN x.data.toList) := by unfold cmpSpell; exact if_pos e2
    have b1 : Op.bytesLess (keyS x).toList (keyS y).toList = false := by rw [hl, hl, less_cmp, e1]; rfl
    have b2 : ((keyS x).toList == (keyS y).toList) = true := by rw [hk]; simp
    rw [n1, n2, b1, b2]
    cases hlx : lat x.data.toList <;> cases hly : lat y.data.toList
    · have := key_inj hx hy h1 h2 hd (by rw [hlx, hly])
      subst this
      exact .inr (.inr (.inr (.inr ⟨by rw [cmpI_eq], by rw [cmpI_eq], by simp, rfl, rfl⟩)))
    · refine .inr (.inr (.inr (.inl ⟨by unfold alphaN; rw [hlx, hly]; rfl, by unfold alphaN; rw [hlx, hly]; rfl, ?_, rfl, rfl⟩)))
      rw [beq_eq_false_iff_ne]; intro e; rw [bytes_inj e, hly] at hlx; cases hlx
    · refine .inr (.inr (.inl ⟨by unfold alphaN; rw [hlx, hly]; rfl, by unfold alphaN; rw [hlx, hly]; rfl, ?_, rfl, rfl, rfl⟩))
      rw [beq_eq_false_iff_ne]; intro e; rw [bytes_inj e, hly] at hlx; cases hlx
    · have := key_inj hx hy h1 h2 hd (by rw [hlx, hly])
      subst this
      exact .inr (.inr (.inr (.inr ⟨by rw [cmpI_eq], by rw [cmpI_eq], by simp, rfl, rfl⟩)))
  · have hs := hne hk
    have hb : ((keyS x).toList == (keyS y).toList) = false := by rw [beq_eq_false_iff_ne]; exact fun h => hk (bytes_inj h)
    have hz : Lib.compareBytes (keyS x).data.toList (keyS y).data.toList ≠ 0 := fun h => hk (bytes_inj (by rw [hl, hl]; exact cmpB_eq _ _ h))
    have ha := cmpB_anti (keyS x).data.toList (keyS y).data.toList
    have n1 : cmpSpell (spellOf x) (spellOf y) = Lib.compareBytes (keyS x).data.toList (keyS y).data.toList := by unfold cmpSpell; exact if_neg hz
    have n2 : cmpSpell (spellOf y) (spellOf x) = Lib.compareBytes (keyS y).data.toList (keyS x).data.toList := by unfold cmpSpell; exact if_neg (by show ¬ Lib.compareBytes (keyS y).data.toList (keyS x).data.toList = 0; omega)
    rw [n1, n2, ha, hl (keyS x), hl (keyS y), less_cmp]
    rw [hl, hl] at hb
    rcases cmpB_vals (keyS x).data.toList (keyS y).data.toList with h | h | h
    · rw [h]; exact .inl ⟨rfl, rfl, hs, rfl, hb⟩
    · exact absurd h hz
    · rw [h]; exact .inr (.inl ⟨rfl, rfl, hs, rfl, hb⟩)
end Go.Proofs.YtljlkhaolfihjaaGreatDoor
