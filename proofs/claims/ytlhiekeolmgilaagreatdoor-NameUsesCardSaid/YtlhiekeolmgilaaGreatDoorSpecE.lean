/- The order of names is a line. Nothing of the program's code. -/
import Derived.Test.YtlhiekeolmgilaaGreatDoorPgSpecB
import Derived.Test.YtlhiekeolmgilaaGreatDoorSpecU
import Derived.Test.YtlhiekeolmgilaaGreatDoorSpecM
import Derived.Test.YtlhiekeolmgilaaGreatDoorRefT
import Derived.Test.YtlhiekeolmgilaaGreatDoorPgX
import Derived.Test.YtlhiekeolmgilaaGreatDoorPgZ
import Derived.Test.YtlhiekeolmgilaaGreatDoorPzC
namespace Go.Proofs.YtlhiekeolmgilaaGreatDoor

theorem u8_lt (a b : UInt8) : a < b ↔ a.toNat < b.toNat := UInt8.lt_iff_toNat_lt
theorem u8_eq {a b : UInt8} (h : a.toNat = b.toNat) : a = b := UInt8.toNat_inj.1 h

theorem cmpB_vals : ∀ a b : List UInt8, Lib.compareBytes a b = -1 ∨ Lib.compareBytes a b = 0 ∨ Lib.compareBytes a b = 1
  | [], [] => .inr (.inl rfl)
  | [], _ :: _ => .inl rfl
  | _ :: _, [] => .inr (.inr rfl)
  | a :: x, b :: y => by
    unfold Lib.compareBytes
    split
    · exact .inl rfl
    · split
      · exact .inr (.inr rfl)
      · exact cmpB_vals x y
theorem cmpB_refl : ∀ a : List UInt8, Lib.compareBytes a a = 0
  | [] => rfl
  | a :: x => by
    unfold Lib.compareBytes
    rw [if_neg (by rw [u8_lt]; omega), if_neg (by rw [u8_lt]; omega)]
    exact cmpB_refl x
theorem cmpB_eq : ∀ a b : List UInt8, Lib.compareBytes a b = 0 → a = b
  | [], [], _ => rfl
  | [], _ :: _, h => by simp [Lib.compareBytes] at h
  | _ :: _, [], h => by simp [Lib.compareBytes] at h
  | a :: x, b :: y, h => by
    unfold Lib.compareBytes at h
    split at h
    · cases h
    · split at h
      · cases h
      · rename_i h1 h2
        rw [u8_lt] at h1 h2
        rw [u8_eq (a := a) (b := b) (by omega), cmpB_eq x y h]
theorem cmpB_anti : ∀ a b : List UInt8, Lib.compareBytes b a = - Lib.compareBytes a b
  | [], [] => rfl
  | [], _ :: _ => rfl
  | _ :: _, [] => rfl
  | a :: x, b :: y => by
    unfold Lib.compareBytes
    by_cases h1 : a < b
    · rw [if_pos h1, if_neg (by rw [u8_lt] at *; omega), if_pos h1]; rfl
    · by_cases h2 : b < a
      · rw [if_pos h2, if_neg h1, if_pos h2]
      · rw [if_neg h2, if_neg h1, if_neg h1, if_neg h2]
        exact cmpB_anti x y
theorem cmpB_trans : ∀ a b c : List UInt8, Lib.compareBytes a b = -1 → Lib.compareBytes b c = -1 → Lib.compareBytes a c = -1
  | [], [], _, h, _ => by simp [Lib.compareBytes] at h
  | _ :: _, [], _, h, _ => by simp [Lib.compareBytes] at h
  | _, _ :: _, [], _, k => by simp [Lib.compareBytes] at k
  | [], _ :: _, _ :: _, _, _ => rfl
  | a :: x, b :: y, c :: z, h, k => by
    unfold Lib.compareBytes at h k ⊢
    by_cases h1 : a < b
    · by_cases k1 : b < c
      · rw [if_pos (by rw [u8_lt] at *; omega)]
      · rw [if_neg k1] at k
        by_cases k2 : c < b
        · rw [if_pos k2] at k; cases k
        · rw [if_pos (by rw [u8_lt] at *; omega)]
    · rw [if_neg h1] at h
      by_cases h2 : b < a
      · rw [if_pos h2] at h; cases h
      · rw [if_neg h2] at h
        by_cases k1 : b < c
        · rw [if_pos (by rw [u8_lt] at *; omega)]
        · rw [if_neg k1] at k
          by_cases k2 : c < b
          · rw [if_pos k2] at k; cases k
          · rw [if_neg k2] at k
            rw [if_neg (by rw [u8_lt] at *; omega), if_neg (by rw [u8_lt] at *; omega)]
            exact cmpB_trans x y z h k
theorem less_cmp : ∀ a b : List UInt8, Op.bytesLess a b = decide (Lib.compareBytes a b = -1)
  | [], [] => rfl
  | [], _ :: _ => rfl
  | _ :: _, [] => rfl
  | a :: x, b :: y => by
    unfold Op.bytesLess Lib.compareBytes
    by_cases h1 : a < b
    · simp [h1]
    · by_cases h2 : b < a
      · have h3 : ¬ a = b := fun e => by rw [u8_lt, e] at h2; omega
        simp [h1, h2, h3]
      · rw [u8_lt] at h1 h2
        have h3 : a = b := u8_eq (by omega)
        subst h3
        have := less_cmp x y
        simp [this]

theorem cmpI_vals (x y : Int) : Lib.compareInt x y = -1 ∨ Lib.compareInt x y = 0 ∨ Lib.compareInt x y = 1 := by
  unfold Lib.compareInt; split
  · exact .inl rfl
  · split
    · exact .inr (.inr rfl)
    · exact .inr (.inl rfl)
theorem cmpI_lt (x y : Int) : Lib.compareInt x y = -1 ↔ x < y := by
  unfold Lib.compareInt; split
  · simp [*]
  · split <;> simp [*]
theorem cmpI_gt (x y : Int) : Lib.compareInt x y = 1 ↔ y < x := by
  unfold Lib.compareInt; split
  · simp; omega
  · split
    · simp; omega
    · simp; omega
theorem cmpI_eq (x y : Int) : Lib.compareInt x y = 0 ↔ x = y := by
  have h1 := cmpI_lt x y
  have h2 := cmpI_gt x y
  rcases cmpI_vals x y with h | h | h <;> rw [h] at h1 h2 ⊢ <;> simp at h1 h2 ⊢ <;> omega

theorem cmpS_vals (a b : Spell) : cmpSpell a b = -1 ∨ cmpSpell a b = 0 ∨ cmpSpell a b = 1 := by
  unfold cmpSpell; split
  · exact cmpI_vals _ _
  · exact cmpB_vals _ _
theorem cmpS_trans (a b c : Spell) (h : cmpSpell a b = -1) (k : cmpSpell b c = -1) : cmpSpell a c = -1 := by
  unfold cmpSpell at *
  by_cases h1 : Lib.compareBytes a.1.data.toList b.1.data.toList = 0
  · rw [if_pos h1] at h
    have e1 := cmpB_eq _ _ h1
    rw [e1]
    by_cases k1 : Lib.compareBytes b.1.data.toList c.1.data.toList = 0
    · rw [if_pos k1] at k ⊢
      rw [cmpI_lt] at *
      omega
    · rw [if_neg k1] at k ⊢
      exact k
  · rw [if_neg h1] at h
    by_cases k1 : Lib.compareBytes b.1.data.toList c.1.data.toList = 0
    · rw [← cmpB_eq _ _ k1, if_neg h1]
      exact h
    · rw [if_neg k1] at k
      have := cmpB_trans _ _ _ h k
      rw [this]
      rfl

/-- Two valid names, and which one comes first. -/
theorem line_cases (x y : ByteArray) (hx : Letters x.data.toList) (hy : Letters y.data.toList) (h1 : 1 ≤ x.size) (h2 : 1 ≤ y.size) :
    (cmpSpell (spellOf x) (spellOf y) = -1 ∧ cmpSpell (spellOf y) (spellOf x) = 1 ∧ (x.toList == y.toList) = false ∧ Op.bytesLess (keyS x).toList (keyS y).toList = true ∧ ((keyS x).toList == (keyS y).toList) = false) ∨
    (cmpSpell (spellOf x) (spellOf y) = 1 ∧ cmpSpell (spellOf y) (spellOf x) = -1 ∧ (x.toList == y.toList) = false ∧ Op.bytesLess (keyS x).toList (keyS y).toList = false ∧ ((keyS x).toList == (keyS y).toList) = false) ∨
    (cmpSpell (spellOf x) (spellOf y) = -1 ∧ cmpSpell (spellOf y) (spellOf x) = 1 ∧ (x.toList == y.toList) = false ∧ Op.bytesLess (keyS x).toList (keyS y).toList = false ∧ ((keyS x).toList == (keyS y).toList) = true ∧ lat x.data.toList = true) ∨
    (cmpSpell (spellOf x) (spellOf y) = 1 ∧ cmpSpell (spellOf y) (spellOf x) = -1 ∧ (x.toList == y.toList) = false ∧ Op.bytesLess (keyS x).toList (keyS y).toList = false ∧ ((keyS x).toList == (keyS y).toList) = true) ∨
    (cmpSpell (spellOf x) (spellOf y) = 0 ∧ cmpSpell (spellOf y) (spellOf x) = 0 ∧ (x.toList == y.toList) = true ∧ Op.bytesLess (keyS x).toList (keyS y).toList = false ∧ ((keyS x).toList == (keyS y).toList) = true) := by
  have hne : keyS x ≠ keyS y → (x.toList == y.toList) = false := fun h => by
    rw [beq_eq_false_iff_ne]
    intro e
    exact h (by rw [bytes_inj e])
  have hl : ∀ s : ByteArray, s.toList = s.data.toList := fun s => ByteArray.toList_eq s
  by_cases hk : keyS x = keyS y
  · have hd : Sp.key x.data.toList = Sp.key y.data.toList := congrArg (fun z : ByteArray => z.data.toList) hk
    have e1 : Lib.compareBytes (keyS x).data.toList (keyS y).data.toList = 0 := by rw [hk]; exact cmpB_refl _
    have e2 : Lib.compareBytes (keyS y).data.toList (keyS x).data.toList = 0 := by rw [hk]; exact cmpB_refl _
    have n1 : cmpSpell (spellOf x) (spellOf y) = Lib.compareInt (alphaN x.data.toList) (alphaN y.data.toList) := by unfold cmpSpell; exact if_pos e1
    have n2 : cmpSpell (spellOf y) (spellOf x) = Lib.compareInt (alphaN y.data.toList) (alphaN x.data.toList) := by unfold cmpSpell; exact if_pos e2
    have b1 : Op.bytesLess (keyS x).toList (keyS y).toList = false := by rw [hl, hl, less_cmp, e1]; rfl
    have b2 : ((keyS x).toList == (keyS y).toList) = true := by rw [hk]; simp
    rw [n1, n2, b1, b2]
    cases hlx : lat x.data.toList <;> cases hly : lat y.data.toList
    · have := key_inj hx hy h1 h2 hd (by rw [hlx, hly])
      subst this
      exact .inr (.inr (.inr (.inr ⟨by rw [cmpI_eq], by rw [cmpI_eq], by simp, rfl, rfl⟩)))
    · refine .inr (.inr (.inr (.inl ⟨by unfold alphaN; rw [hlx, hly]; rfl, by unfold alphaN; rw [hlx, hly]; rfl, ?_, rfl, rfl⟩)))
      rw [beq_eq_false_iff_ne]; intro e; rw [bytes_inj e, hly] at hlx; cases hlx
    · refine .inr (.inr (.inl ⟨by unfold alphaN; rw [hlx, hly]; rfl, by unfold alphaN; rw [hlx, hly]; rfl, ?_, rfl, rfl, rfl⟩))
      rw [beq_eq_false_iff_ne]; intro e; rw [bytes_inj e, hly] at hlx; cases hlx
    · have := key_inj hx hy h1 h2 hd (by rw [hlx, hly])
      subst this
      exact .inr (.inr (.inr (.inr ⟨by rw [cmpI_eq], by rw [cmpI_eq], by simp, rfl, rfl⟩)))
  · have hs := hne hk
    have hb : ((keyS x).toList == (keyS y).toList) = false := by rw [beq_eq_false_iff_ne]; exact fun h => hk (bytes_inj h)
    have hz : Lib.compareBytes (keyS x).data.toList (keyS y).data.toList ≠ 0 := fun h => hk (bytes_inj (by rw [hl, hl]; exact cmpB_eq _ _ h))
    have ha := cmpB_anti (keyS x).data.toList (keyS y).data.toList
    have n1 : cmpSpell (spellOf x) (spellOf y) = Lib.compareBytes (keyS x).data.toList (keyS y).data.toList := by unfold cmpSpell; exact if_neg hz
    have n2 : cmpSpell (spellOf y) (spellOf x) = Lib.compareBytes (keyS y).data.toList (keyS x).data.toList := by unfold cmpSpell; exact if_neg (by show ¬ Lib.compareBytes (keyS y).data.toList (keyS x).data.toList = 0; omega)
    rw [n1, n2, ha, hl (keyS x), hl (keyS y), less_cmp]
    rw [hl, hl] at hb
    rcases cmpB_vals (keyS x).data.toList (keyS y).data.toList with h | h | h
    · rw [h]; exact .inl ⟨rfl, rfl, hs, rfl, hb⟩
    · exact absurd h hz
    · rw [h]; exact .inr (.inl ⟨rfl, rfl, hs, rfl, hb⟩)
end Go.Proofs.YtlhiekeolmgilaaGreatDoor

/- The reference's chains are the program's. Nothing of the program's code. -/
namespace Go.Proofs.YtlhiekeolmgilaaGreatDoor

/-- Rules whose strings are short. -/
def Short20 (rs : List (ByteArray × ByteArray)) : Prop := ∀ r, r ∈ rs → r.1.size ≤ 1000 ∧ r.2.size ≤ 1000

def minStep (m y : ByteArray) : ByteArray := if Lib.compareBytes y.data.toList m.data.toList < 0 then y else m
theorem less_neg (y m : ByteArray) : Op.bytesLess y.toList m.toList = decide (Lib.compareBytes y.data.toList m.data.toList < 0) := by
  rw [ByteArray.toList_eq, ByteArray.toList_eq, less_cmp]
  rcases cmpB_vals y.data.toList m.data.toList with h | h | h <;> rw [h] <;> rfl

/-- The fold over all strings that a use makes: the least that is good. -/
theorem fold_some (s : ByteArray) (f : ByteArray → List ByteArray × Bool) (hf : ∀ x, (f x).2 = true → (f x).1[0]? = some x) : ∀ (L : List ByteArray) (m : ByteArray), (f m).2 = true →
    L.foldl (stepC s f) (s :: (f m).1, true) = (s :: (f ((L.filter fun x => (f x).2).foldl minStep m)).1, true)
  | [], m, hm => rfl
  | x :: t, m, hm => by
    rw [List.foldl_cons]
    have h1 : (((s :: (f m).1)[1]?).getD ByteArray.empty) = m := by
      show (((f m).1[0]?).getD ByteArray.empty) = m
      rw [hf m hm]; rfl
    have hst : stepC s f (s :: (f m).1, true) x = if ((f x).2 && Op.bytesLess x.toList m.toList) = true then (s :: (f x).1, true) else (s :: (f m).1, true) := by
      show (if ((f x).2 && (!true || Op.bytesLess x.toList (((s :: (f m).1)[1]?).getD ByteArray.empty).toList)) = true then _ else _) = _
      rw [h1]
      rfl
    rw [hst]
    cases hx : (f x).2 with
    | false =>
      rw [Bool.false_and, if_neg (by simp), List.filter_cons_of_neg (by simp [hx])]
      exact fold_some s f hf t m hm
    | true =>
      rw [Bool.true_and, less_neg, List.filter_cons_of_pos (p := fun x => (f x).2) hx, List.foldl_cons]
      by_cases hl : Lib.compareBytes x.data.toList m.data.toList < 0
      · rw [if_pos (decide_eq_true hl), show minStep m x = x from if_pos hl]
        exact fold_some s f hf t x hx
      · rw [if_neg (by simp only [decide_eq_true_eq]; exact hl), show minStep m x = m from if_neg hl]
        exact fold_some s f hf t m hm
theorem fold_min (s : ByteArray) (f : ByteArray → List ByteArray × Bool) (hf : ∀ x, (f x).2 = true → (f x).1[0]? = some x) : ∀ (L : List ByteArray),
    L.foldl (stepC s f) ([], false) = if (L.filter fun x => (f x).2) = [] then ([], false) else (s :: (f (minStr (L.filter fun x => (f x).2))).1, true)
  | [] => rfl
  | x :: t => by
    rw [List.foldl_cons]
    cases hx : (f x).2 with
    | false =>
      have hst : stepC s f ([], false) x = ([], false) := by
        show (if ((f x).2 && _) = true then _ else _) = _
        rw [hx, Bool.false_and, if_neg (by simp)]
      rw [hst, List.filter_cons_of_neg (by simp [hx])]
      exact fold_min s f hf t
    | true =>
      have hst : stepC s f ([], false) x = (s :: (f x).1, true) := by
        show (if ((f x).2 && (!false || _)) = true then _ else _) = _
        rw [hx, Bool.not_false, Bool.true_or, Bool.true_and, if_pos rfl]
      rw [hst, fold_some s f hf t x hx, List.filter_cons_of_pos (p := fun x => (f x).2) hx, if_neg (by simp)]
      rfl
theorem chainL_head (rs : List (ByteArray × ByteArray)) (t : ByteArray) : ∀ (u : Nat) (x : ByteArray), (chainL rs u x t).2 = true → (chainL rs u x t).1[0]? = some x
  | 0, x, _ => rfl
  | u + 1, x, h => by
    have e : chainL rs (u + 1) x t = if ((madeL rs x).filter fun y => (chainL rs u y t).2) = [] then ([], false) else (x :: (chainL rs u (minStr ((madeL rs x).filter fun y => (chainL rs u y t).2)) t).1, true) := fold_min x (fun y => chainL rs u y t) (fun y => chainL_head rs t u y) (madeL rs x)
    rw [e] at h ⊢
    split
    · rename_i h2; rw [if_pos h2] at h; cases h
    · rfl
theorem chainL_succ (rs : List (ByteArray × ByteArray)) (u : Nat) (x t : ByteArray) : chainL rs (u + 1) x t = if ((madeL rs x).filter fun y => (chainL rs u y t).2) = [] then ([], false) else (x :: (chainL rs u (minStr ((madeL rs x).filter fun y => (chainL rs u y t).2)) t).1, true) :=
  fold_min x (fun y => chainL rs u y t) (fun y => chainL_head rs t u y) (madeL rs x)

theorem good_zero (rs : List (ByteArray × ByteArray)) (g m : ByteArray) : (chainL rs 0 m g).2 = (metP rs g m == some 0) := by
  show (m.toList == g.toList) = _
  by_cases h : m = g
  · rw [metP_zero h, h]; simp
  · have h1 : (m.toList == g.toList) = false := by
      rw [beq_eq_false_iff_ne]
      exact fun e => h (bytes_inj e)
    rw [h1]
    by_cases h2 : m ∈ madeL rs g
    · rw [metP_one h h2]; rfl
    · rw [metP_no h h2]; rfl
theorem chain_one (rs : List (ByteArray × ByteArray)) (g x : ByteArray) : chainL rs 1 x g = if awayL rs g 0 (madeL rs x) = [] then ([], false) else ([x, nextG rs g x 0], true) := by
  have e : ((madeL rs x).filter fun y => (chainL rs 0 y g).2) = awayL rs g 0 (madeL rs x) := by
    unfold awayL
    exact List.filter_congr fun y _ => good_zero rs g y
  rw [chainL_succ, e]
  rfl
theorem away_zero {rs : List (ByteArray × ByteArray)} {g x : ByteArray} : awayL rs g 0 (madeL rs x) = [] ↔ g ∉ madeL rs x := by
  unfold awayL
  rw [List.filter_eq_nil_iff]
  constructor
  · intro h hg
    have := h g hg
    rw [metP_zero rfl] at this
    exact this rfl
  · intro h y hy e
    have e2 : metP rs g y = some 0 := by simpa using e
    by_cases h1 : y = g
    · exact h (h1 ▸ hy)
    · by_cases h2 : y ∈ madeL rs g
      · rw [metP_one h1 h2] at e2; cases e2
      · rw [metP_no h1 h2] at e2; cases e2
theorem good_one {rs : List (ByteArray × ByteArray)} {g m : ByteArray} (hm : Key12 m) (hg : Key12 g) (hne : m ≠ g) : (chainL rs 1 m g).2 = (metP rs g m == some 1) := by
  rw [chain_one]
  by_cases h : g ∈ madeL rs m
  · rw [if_neg (fun e => away_zero.1 e h), metP_one hne (made_symm hm h)]; rfl
  · rw [if_pos (away_zero.2 h), metP_no hne (fun e => h (made_symm hg e))]; rfl

theorem chain_eq (rs : List (ByteArray × ByteArray)) {x g : ByteArray} (hx : Key12 x) (hg : Key12 g) : fromC rs x g 3 0 = chainG rs x g := by
  have e0 : fromC rs x g 3 0 = if (chainL rs 0 x g).2 = true then ((chainL rs 0 x g).1, 0) else if (chainL rs 1 x g).2 = true then ((chainL rs 1 x g).1, 0) else if (chainL rs 2 x g).2 = true then ((chainL rs 2 x g).1, 0) else ([], 11) := rfl
  rw [e0, good_zero]
  have hno1 : x ∉ madeL rs g → g ∉ madeL rs x := fun h h1 => h (made_symm hx h1)
  have hf2 : x ∉ madeL rs g → ((madeL rs x).filter fun y => (chainL rs 1 y g).2) = awayL rs g 1 (madeL rs x) := fun h => by
    unfold awayL
    refine List.filter_congr fun y hy => good_one (made_key hy) hg fun e => hno1 h (e ▸ hy)
  rcases usesG_cases rs g x with ⟨h1, h⟩ | ⟨h1, h2, h⟩ | ⟨h1, h2, h3, h⟩ | ⟨h1, h2, h3, h⟩
  · unfold chainG
    rw [h, metP_zero h1]
    rfl
  · obtain ⟨hne, _⟩ := away_some hx hg 0 h
    unfold chainG
    rw [h, metP_one h1 h2, if_neg (by decide), chain_one, if_neg hne]
    rfl
  · obtain ⟨hne, _⟩ := away_some hx hg 1 h
    obtain ⟨n1, n2⟩ := next_facts 1 hne
    have hy := made_key n1
    have hu : usesG rs g (nextG rs g x 1) = some 1 := by unfold usesG; rw [n2]
    obtain ⟨hne2, _⟩ := away_some hy hg 0 hu
    have ec : chainL rs 2 x g = (x :: [nextG rs g x 1, nextG rs g (nextG rs g x 1) 0], true) := by
      rw [chainL_succ, hf2 h2, if_neg hne]
      show (x :: (chainL rs 1 (nextG rs g x 1) g).1, true) = _
      rw [chain_one, if_neg hne2]
    unfold chainG
    rw [h, metP_no h1 h2, if_neg (by decide), chain_one, if_pos (away_zero.2 (hno1 h2)), if_neg (by simp), ec, if_pos rfl]
    rfl
  · have he : awayL rs g 1 (madeL rs x) = [] := by
      unfold awayL
      rw [List.filter_eq_nil_iff]
      intro y hy e
      have e2 : metP rs g y = some 1 := by simpa using e
      have h4 : (metP rs g y).isSome = true := by rw [e2]; rfl
      exact h3 ⟨y, hy, metP_some.1 h4⟩
    unfold chainG
    rw [h, metP_no h1 h2, if_neg (by decide), chain_one, if_pos (away_zero.2 (hno1 h2)), if_neg (by simp), chainL_succ, hf2 h2, if_pos he, if_neg (by simp)]

theorem stepsG_len (rs : List (ByteArray × ByteArray)) (g : ByteArray) : ∀ (n : Nat) (x : ByteArray), (stepsG rs g n x).length = n
  | 0, _ => rfl
  | n + 1, x => by
    show (stepsG rs g n _).length + 1 = n + 1
    rw [stepsG_len rs g n]
/-- The uses of two names, and the error. -/
def usesA (rs : List (ByteArray × ByteArray)) (a b : ByteArray) : Int × Int :=
  if usesErr rs a.data.toList b.data.toList = 0 then (match usesG rs (keyS b) (keyS a) with | none => (0, 11) | some n => ((n : Int), 0)) else (0, usesErr rs a.data.toList b.data.toList)
theorem pair_zero {rs : List (ByteArray × ByteArray)} {a b : ByteArray} (h : usesErr rs a.data.toList b.data.toList = 0) : rulesErr rs = 0 ∧ Sp.check a.data.toList = 0 ∧ Sp.check b.data.toList = 0 := by
  unfold usesErr at h
  split at h
  · rename_i h1
    unfold pairErr at h
    split at h
    · rename_i h2; exact ⟨h1, h2, h⟩
    · rename_i h2; exact absurd h h2
  · rename_i h1; exact absurd h h1
theorem chainP_eq (rs : List (ByteArray × ByteArray)) (a b : ByteArray) : chainP rs a b = if usesErr rs a.data.toList b.data.toList = 0 then chainG rs (keyS a) (keyS b) else ([], usesErr rs a.data.toList b.data.toList) := by
  unfold chainP
  by_cases h : usesErr rs a.data.toList b.data.toList = 0
  · obtain ⟨_, h1, h2⟩ := pair_zero h
    rw [if_pos h, if_pos h, chain_eq rs (keyS_key12 h1) (keyS_key12 h2)]
  · rw [if_neg h, if_neg h]
theorem usesP_eq (rs : List (ByteArray × ByteArray)) (a b : ByteArray) : usesP rs a b = usesA rs a b := by
  unfold usesP usesA
  rw [chainP_eq]
  by_cases h : usesErr rs a.data.toList b.data.toList = 0
  · rw [if_pos h, if_pos h]
    unfold chainG
    cases hu : usesG rs (keyS b) (keyS a) with
    | none => rfl
    | some n =>
      show (if (0 : Int) = 0 then ((((keyS a :: stepsG rs (keyS b) n (keyS a)).length : Nat) : Int) - 1, (0 : Int)) else _) = ((n : Int), 0)
      rw [if_pos rfl, List.length_cons, stepsG_len]
      congr 1
      omega
  · rw [if_neg h, if_neg h, if_neg h]
theorem check_eleven (l : List UInt8) : Sp.check l ≠ 11 := by
  by_cases h : Sp.check l = 0
  · rw [h]; decide
  · rcases check_cases l h with ⟨_, e⟩ | ⟨_, e⟩ | ⟨_, _, e⟩ <;> rw [e] <;> decide
theorem usesErr_eleven (rs : List (ByteArray × ByteArray)) (a b : ByteArray) : usesErr rs a.data.toList b.data.toList ≠ 11 := by
  unfold usesErr pairErr
  split
  · split
    · exact check_eleven _
    · exact check_eleven _
  · unfold rulesErr
    split
    · decide
    · split <;> decide
theorem verdictP_eq (rs : List (ByteArray × ByteArray)) (a b : ByteArray) : verdictP rs a b = if usesErr rs a.data.toList b.data.toList = 0 then (verdict9 (uses9 rs (keyS b) (keyS a)), 0) else (0, usesErr rs a.data.toList b.data.toList) := by
  unfold verdictP
  rw [usesP_eq]
  unfold usesA
  by_cases h : usesErr rs a.data.toList b.data.toList = 0
  · rw [if_pos h, if_pos h]
    unfold uses9
    cases hu : usesG rs (keyS b) (keyS a) with
    | none => rfl
    | some n =>
      have := usesG_le hu
      have h3 : n = 0 ∨ n = 1 ∨ n = 2 := by omega
      rcases h3 with rfl | rfl | rfl <;> rfl
  · rw [if_neg h, if_neg h]
    have h11 := usesErr_eleven rs a b
    generalize usesErr rs a.data.toList b.data.toList = E at *
    show (if E = 11 then ((2 : Int), (0 : Int)) else (0, E)) = if E = 0 then _ else ((0 : Int), E)
    rw [if_neg h11, if_neg h]

/-! ### The names that are near -/

theorem usesG_symm (rs : List (ByteArray × ByteArray)) {x y : ByteArray} (hx : Key12 x) (hy : Key12 y) : usesG rs y x = usesG rs x y := by
  have h := uses9_symm (rs := rs) hx hy
  unfold uses9 at h
  have key : ∀ u v : Option Nat, (∀ n, u = some n → n ≤ 2) → (∀ n, v = some n → n ≤ 2) → u.getD 9 = v.getD 9 → u = v := by
    intro u v hu hv e
    cases u with
    | none =>
      cases v with
      | none => rfl
      | some n => have := hv n rfl; have e2 : (9 : Nat) = n := e; omega
    | some m =>
      have := hu m rfl
      cases v with
      | none => have e2 : m = (9 : Nat) := e; omega
      | some n => have e2 : m = n := e; rw [e2]
  exact key _ _ (fun n h => usesG_le h) (fun n h => usesG_le h) h
theorem nearFrom_eq (rs : List (ByteArray × ByteArray)) (m : ByteArray) (u : Nat) (hr : rulesErr rs = 0) (hm : Sp.check m.data.toList = 0) (ss : List ByteArray) (hs : AllOk ss) : ∀ (d k : Nat), ss.length - k = d → k ≤ ss.length →
    ((withU (ss.map fun x => usesG rs (keyS m) (keyS x)) u k).map fun i : Nat => (i : Int)) ++ nearFrom rs m u k (ss.drop k) = (withU (ss.map fun x => usesG rs (keyS m) (keyS x)) u ss.length).map fun i : Nat => (i : Int)
  | 0, k, hd, hk => by
    have e : k = ss.length := by omega
    rw [e, List.drop_eq_nil_of_le (Nat.le_refl _)]
    show _ ++ [] = _
    rw [List.append_nil]
  | d + 1, k, hd, hk => by
    have hkl : k < ss.length := by omega
    have hsk := hs ss[k] (List.getElem_mem hkl)
    have hue : usesErr rs m.data.toList ss[k].data.toList = 0 := by
      unfold usesErr pairErr
      rw [if_pos hr, if_pos hm, hsk]
    have hua : usesP rs m ss[k] = (match usesG rs (keyS m) (keyS ss[k]) with | none => (0, 11) | some n => ((n : Int), 0)) := by
      rw [usesP_eq]
      unfold usesA
      rw [if_pos hue, usesG_symm rs (keyS_key12 hm) (keyS_key12 hsk)]
    have hat : (ss.map fun x => usesG rs (keyS m) (keyS x)).getD k none = usesG rs (keyS m) (keyS ss[k]) := by
      rw [List.getD_eq_getElem?_getD, List.getElem?_map, List.getElem?_eq_getElem hkl]; rfl
    have hcond : ((usesP rs m ss[k]).2 = 0 ∧ (usesP rs m ss[k]).1 = (u : Int)) ↔ usesG rs (keyS m) (keyS ss[k]) = some u := by
      rw [hua]
      cases usesG rs (keyS m) (keyS ss[k]) with
      | none => simp
      | some n => simp; omega
    have ih := nearFrom_eq rs m u hr hm ss hs d (k + 1) (by omega) (by omega)
    rw [nearFrom_drop rs m u ss k hkl, ← ih, withU_step, hat, List.map_append, List.append_assoc]
    congr 2
    by_cases h : usesG rs (keyS m) (keyS ss[k]) = some u
    · rw [if_pos h, if_pos (hcond.2 h)]; rfl
    · rw [if_neg h, if_neg (fun e => h (hcond.1 e))]; rfl
theorem nearL_eq (rs : List (ByteArray × ByteArray)) (m : ByteArray) (ss : List ByteArray) (h : nearErr rs m ss = 0) : nearL rs m ss = (nearS (ss.map fun x => usesG rs (keyS m) (keyS x))).map fun i : Nat => (i : Int) := by
  have h0 := h
  unfold nearErr at h
  split at h
  · rename_i hr
    split at h
    · rename_i hm
      obtain ⟨l6, hs⟩ := list_facts h
      have hso := near_sorted (ss.map fun x => usesG rs (keyS m) (keyS x)) (by rw [List.length_map]; exact l6) (fun u hu k hk => by
        obtain ⟨x, _, rfl⟩ := List.mem_map.1 hu
        exact usesG_le hk)
      have hf := fun u => nearFrom_eq rs m u hr hm ss hs ss.length 0 (by omega) (Nat.zero_le _)
      rw [hso]
      unfold nearL nearO
      rw [if_pos h0]
      show (([] ++ nearFrom rs m 0 0 ss) ++ nearFrom rs m 1 0 ss) ++ nearFrom rs m 2 0 ss = _
      have h1 := hf 0
      have h2 := hf 1
      have h3 := hf 2
      rw [withU_nil, List.drop_zero] at h1 h2 h3
      rw [List.length_map, List.map_append, List.map_append, ← h1, ← h2, ← h3]
      simp
    · rename_i hm; exact absurd h hm
  · rename_i hr; exact absurd h hr
end Go.Proofs.YtlhiekeolmgilaaGreatDoor
