/- Uses of rules: one there is one back; ways by a third key; more rules. Nothing of the program's code. -/
import Derived.Test.YtljlkhaolfihjaaGreatDoorPgK
import Derived.Test.YtljlkhaolfihjaaGreatDoorRefK
import Derived.Test.YtljlkhaolfihjaaGreatDoorDiceC
import Derived.Test.YtljlkhaolfihjaaGreatDoorPgTa
import Derived.Test.YtljlkhaolfihjaaGreatDoorPzC
import Derived.Deep.RegionHeld3
import Derived.Test.YtljlkhaolfihjaaGreatDoorSpecZ
namespace Go.Proofs.YtljlkhaolfihjaaGreatDoor

def Key12 (x : ByteArray) : Prop := 1 ≤ x.size ∧ x.size ≤ 12
/-- One piece replaced by another one, somewhere. -/
def Rep (s a b y : ByteArray) : Prop := ∃ u v : List UInt8, s.data.toList = u ++ (a.data.toList ++ v) ∧ y.data.toList = u ++ (b.data.toList ++ v) ∧ Key12 y

theorem tl_inj {a b : ByteArray} (h : a.data.toList = b.data.toList) : a = b := bytes_inj (by rw [ByteArray.toList_eq, ByteArray.toList_eq]; exact h)
theorem madeAt_list (s a b : ByteArray) (i : Nat) : (madeAt s a b i).data.toList = s.data.toList.take i ++ (b.data.toList ++ s.data.toList.drop (i + a.size)) := by
  unfold madeAt
  simp only [ByteArray.data_append, Array.toList_append, ByteArray.data_extract, Array.toList_extract, List.extract_eq_take_drop]
  congr 1
  congr 1
  have : s.data.toList.length = s.size := by simp
  rw [List.take_of_length_le (by simp)]
theorem mem_repL (s a b y : ByteArray) : y ∈ repL s a b ↔ Rep s a b y := by
  rw [← repTo_end]
  unfold repTo
  rw [List.mem_filterMap]
  constructor
  · rintro ⟨i, _, hi⟩
    rw [repAt_made] at hi
    split at hi
    · rename_i h
      injection hi with hi
      subst hi
      simp only [Bool.and_eq_true, decide_eq_true_eq] at h
      obtain ⟨h1, h2⟩ := h
      rw [List.isPrefixOf_iff_prefix] at h1
      obtain ⟨t, ht⟩ := h1
      refine ⟨s.data.toList.take i, t, ?_, ?_, h2⟩
      · rw [ht, List.take_append_drop]
      · rw [madeAt_list]
        congr 2
        have e1 : s.data.toList.drop (i + a.size) = (s.data.toList.drop i).drop a.size := by rw [List.drop_drop]
        rw [e1, ← ht]
        have : a.data.toList.length = a.size := by simp
        rw [← this, List.drop_left]
    · cases hi
  · rintro ⟨u, v, h1, h2, h3⟩
    have hl : s.data.toList.length = s.size := by simp
    have ha : a.data.toList.length = a.size := by simp
    have hu : u.length ≤ s.size := by rw [← hl, h1]; simp
    have hm : madeAt s a b u.length = y := by
      refine tl_inj ?_
      rw [madeAt_list, h2, h1, List.take_left]
      congr 2
      rw [← ha, ← List.append_assoc, ← List.length_append, List.drop_left]
    refine ⟨u.length, List.mem_range.2 (by omega), ?_⟩
    rw [repAt_made, hm, if_pos]
    simp only [Bool.and_eq_true, decide_eq_true_eq]
    refine ⟨?_, h3⟩
    rw [List.isPrefixOf_iff_prefix, h1, List.drop_left]
    exact ⟨v, rfl⟩
theorem Rep.symm {s a b y : ByteArray} (hs : Key12 s) (h : Rep s a b y) : Rep y b a s := by
  obtain ⟨u, v, h1, h2, _⟩ := h
  exact ⟨u, v, h2, h1, hs⟩
theorem mem_madeL (rs : List (ByteArray × ByteArray)) (s y : ByteArray) : y ∈ madeL rs s ↔ ∃ r ∈ rs, Rep s r.1 r.2 y ∨ Rep s r.2 r.1 y := by
  unfold madeL
  simp only [List.mem_flatMap, List.mem_append, mem_repL]
theorem made_symm {rs : List (ByteArray × ByteArray)} {s y : ByteArray} (hs : Key12 s) (h : y ∈ madeL rs s) : s ∈ madeL rs y := by
  rw [mem_madeL] at *
  obtain ⟨r, hr, h | h⟩ := h
  · exact ⟨r, hr, .inr (h.symm hs)⟩
  · exact ⟨r, hr, .inl (h.symm hs)⟩
theorem made_key {rs : List (ByteArray × ByteArray)} {s y : ByteArray} (h : y ∈ madeL rs s) : Key12 y := by
  rw [mem_madeL] at h
  obtain ⟨r, _, ⟨_, _, _, _, h⟩ | ⟨_, _, _, _, h⟩⟩ := h <;> exact h
theorem made_mono {rs qs : List (ByteArray × ByteArray)} (hq : ∀ r, r ∈ rs → r ∈ qs) {s y : ByteArray} (h : y ∈ madeL rs s) : y ∈ madeL qs s := by
  rw [mem_madeL] at *
  obtain ⟨r, hr, h⟩ := h
  exact ⟨r, hq r hr, h⟩

/-- At most so many uses lead from one key to another one. -/
def Within (rs : List (ByteArray × ByteArray)) (k : Nat) (x y : ByteArray) : Prop :=
  x = y ∨ (1 ≤ k ∧ y ∈ madeL rs x) ∨ (2 ≤ k ∧ ∃ m, m ∈ madeL rs x ∧ y ∈ madeL rs m)
theorem Within.symm {rs : List (ByteArray × ByteArray)} {k : Nat} {x y : ByteArray} (hx : Key12 x) (h : Within rs k x y) : Within rs k y x := by
  rcases h with h | ⟨h1, h⟩ | ⟨h1, m, h2, h3⟩
  · exact .inl h.symm
  · exact .inr (.inl ⟨h1, made_symm hx h⟩)
  · exact .inr (.inr ⟨h1, m, made_symm (made_key h2) h3, made_symm hx h2⟩)
theorem Within.mono {rs qs : List (ByteArray × ByteArray)} (hq : ∀ r, r ∈ rs → r ∈ qs) {k : Nat} {x y : ByteArray} (h : Within rs k x y) : Within qs k x y := by
  rcases h with h | ⟨h1, h⟩ | ⟨h1, m, h2, h3⟩
  · exact .inl h
  · exact .inr (.inl ⟨h1, made_mono hq h⟩)
  · exact .inr (.inr ⟨h1, m, made_mono hq h2, made_mono hq h3⟩)
theorem Within.trans {rs : List (ByteArray × ByteArray)} {j k : Nat} {x y z : ByteArray} (hjk : j + k ≤ 2) (h : Within rs j x y) (g : Within rs k y z) : Within rs (j + k) x z := by
  rcases h with rfl | ⟨h1, h⟩ | ⟨h1, m, h2, h3⟩
  · rcases g with rfl | ⟨g1, g⟩ | ⟨g1, n, g2, g3⟩
    · exact .inl rfl
    · exact .inr (.inl ⟨by omega, g⟩)
    · exact .inr (.inr ⟨by omega, n, g2, g3⟩)
  · rcases g with rfl | ⟨g1, g⟩ | ⟨g1, n, g2, g3⟩
    · exact .inr (.inl ⟨by omega, h⟩)
    · exact .inr (.inr ⟨by omega, _, h, g⟩)
    · omega
  · rcases g with rfl | ⟨g1, g⟩ | ⟨g1, n, g2, g3⟩
    · exact .inr (.inr ⟨by omega, m, h2, h3⟩)
    · omega
    · omega

theorem metP_zero {rs : List (ByteArray × ByteArray)} {goal x : ByteArray} (h : x = goal) : metP rs goal x = some 0 := by unfold metP; rw [if_pos h]
theorem metP_one {rs : List (ByteArray × ByteArray)} {goal x : ByteArray} (h : x ≠ goal) (h1 : x ∈ madeL rs goal) : metP rs goal x = some 1 := by
  unfold metP
  rw [if_neg h, if_pos]
  rw [List.any_eq_true]
  exact ⟨x, h1, by simp⟩
theorem metP_no {rs : List (ByteArray × ByteArray)} {goal x : ByteArray} (h : x ≠ goal) (h1 : x ∉ madeL rs goal) : metP rs goal x = none := by
  unfold metP
  rw [if_neg h, if_neg]
  rw [List.any_eq_true]
  rintro ⟨y, hy, e⟩
  simp at e
  exact h1 (e ▸ hy)
theorem metP_some {rs : List (ByteArray × ByteArray)} {goal x : ByteArray} : (metP rs goal x).isSome = true ↔ x = goal ∨ x ∈ madeL rs goal := by
  by_cases h : x = goal
  · rw [metP_zero h]; simp [h]
  · by_cases h1 : x ∈ madeL rs goal
    · rw [metP_one h h1]; simp [h1]
    · rw [metP_no h h1]; simp [h, h1]

/-- The uses, 9 if there are too many. -/
def uses9 (rs : List (ByteArray × ByteArray)) (goal x : ByteArray) : Nat := (usesG rs goal x).getD 9
theorem usesG_cases (rs : List (ByteArray × ByteArray)) (goal x : ByteArray) :
    (x = goal ∧ usesG rs goal x = some 0) ∨ (x ≠ goal ∧ x ∈ madeL rs goal ∧ usesG rs goal x = some 1) ∨
    (x ≠ goal ∧ x ∉ madeL rs goal ∧ (∃ m, m ∈ madeL rs x ∧ (m = goal ∨ m ∈ madeL rs goal)) ∧ usesG rs goal x = some 2) ∨
    (x ≠ goal ∧ x ∉ madeL rs goal ∧ (¬ ∃ m, m ∈ madeL rs x ∧ (m = goal ∨ m ∈ madeL rs goal)) ∧ usesG rs goal x = none) := by
  by_cases h : x = goal
  · exact .inl ⟨h, by unfold usesG; rw [metP_zero h]⟩
  · by_cases h1 : x ∈ madeL rs goal
    · exact .inr (.inl ⟨h, h1, by unfold usesG; rw [metP_one h h1]⟩)
    · have hs : ((madeL rs x).any fun m => (metP rs goal m).isSome) = true ↔ ∃ m, m ∈ madeL rs x ∧ (m = goal ∨ m ∈ madeL rs goal) := by
        rw [List.any_eq_true]
        simp only [metP_some]
      by_cases h2 : ∃ m, m ∈ madeL rs x ∧ (m = goal ∨ m ∈ madeL rs goal)
      · exact .inr (.inr (.inl ⟨h, h1, h2, by unfold usesG; rw [metP_no h h1]; exact if_pos (hs.2 h2)⟩))
      · exact .inr (.inr (.inr ⟨h, h1, h2, by unfold usesG; rw [metP_no h h1]; exact if_neg (fun e => h2 (hs.1 e))⟩))
theorem uses9_vals (rs : List (ByteArray × ByteArray)) (goal x : ByteArray) : uses9 rs goal x = 0 ∨ uses9 rs goal x = 1 ∨ uses9 rs goal x = 2 ∨ uses9 rs goal x = 9 := by
  unfold uses9
  rcases usesG_cases rs goal x with ⟨_, h⟩ | ⟨_, _, h⟩ | ⟨_, _, _, h⟩ | ⟨_, _, _, h⟩ <;> rw [h] <;> simp
theorem uses9_le {rs : List (ByteArray × ByteArray)} {goal x : ByteArray} (hx : Key12 x) (hg : Key12 goal) (k : Nat) (hk : k ≤ 2) : uses9 rs goal x ≤ k ↔ Within rs k x goal := by
  unfold uses9
  have back : x ∉ madeL rs goal → goal ∉ madeL rs x := fun h h1 => h (made_symm hx h1)
  have mid : (∃ m, m ∈ madeL rs x ∧ goal ∈ madeL rs m) ↔ ∃ m, m ∈ madeL rs x ∧ m ∈ madeL rs goal := by
    constructor
    · rintro ⟨m, h1, h2⟩; exact ⟨m, h1, made_symm (made_key h1) h2⟩
    · rintro ⟨m, h1, h2⟩; exact ⟨m, h1, made_symm hg h2⟩
  rcases usesG_cases rs goal x with ⟨h1, h⟩ | ⟨h1, h2, h⟩ | ⟨h1, h2, ⟨m, h3, h4⟩, h⟩ | ⟨h1, h2, h3, h⟩ <;> rw [h]
  · exact ⟨fun _ => .inl h1, fun _ => Nat.zero_le _⟩
  · refine ⟨fun e => .inr (.inl ⟨e, made_symm hg h2⟩), ?_⟩
    rintro (e | ⟨e, _⟩ | ⟨e, _⟩)
    · exact absurd e h1
    · exact e
    · show 1 ≤ k; omega
  · refine ⟨fun e => .inr (.inr ⟨e, mid.2 ⟨m, h3, ?_⟩⟩), ?_⟩
    · rcases h4 with rfl | h4
      · exact absurd h3 (back h2)
      · exact h4
    · rintro (e | ⟨e, e2⟩ | ⟨e, _⟩)
      · exact absurd e h1
      · exact absurd e2 (back h2)
      · exact e
  · refine ⟨fun e => ?_, ?_⟩
    · have : (9 : Nat) ≤ k := e
      omega
    · rintro (e | ⟨e, e2⟩ | ⟨e, e2⟩)
      · exact absurd e h1
      · exact absurd e2 (back h2)
      · obtain ⟨m, e3, e4⟩ := mid.1 e2
        exact absurd ⟨m, e3, .inr e4⟩ h3

theorem uses9_symm {rs : List (ByteArray × ByteArray)} {x y : ByteArray} (hx : Key12 x) (hy : Key12 y) : uses9 rs y x = uses9 rs x y := by
  have h : ∀ k, k ≤ 2 → (uses9 rs y x ≤ k ↔ uses9 rs x y ≤ k) := fun k hk => by
    rw [uses9_le hx hy k hk, uses9_le hy hx k hk]
    exact ⟨fun h => h.symm hx, fun h => h.symm hy⟩
  have h0 := h 0 (by omega)
  have h1 := h 1 (by omega)
  have h2 := h 2 (by omega)
  rcases uses9_vals rs y x with e | e | e | e <;> rcases uses9_vals rs x y with f | f | f | f <;> omega
theorem uses9_zero {rs : List (ByteArray × ByteArray)} {x y : ByteArray} : uses9 rs y x = 0 ↔ x = y := by
  unfold uses9
  rcases usesG_cases rs y x with ⟨h1, h⟩ | ⟨h1, h2, h⟩ | ⟨h1, h2, _, h⟩ | ⟨h1, h2, h3, h⟩ <;> rw [h] <;> simp [h1]
theorem uses9_by {rs : List (ByteArray × ByteArray)} {x y z : ByteArray} (hx : Key12 x) (hy : Key12 y) (hz : Key12 z) (h : uses9 rs y x + uses9 rs z y ≤ 2) : uses9 rs z x ≤ uses9 rs y x + uses9 rs z y := by
  rw [uses9_le hx hz _ h]
  exact Within.trans h ((uses9_le hx hy _ (by omega)).1 (Nat.le_refl _)) ((uses9_le hy hz _ (by omega)).1 (Nat.le_refl _))
theorem uses9_more {rs qs : List (ByteArray × ByteArray)} (hq : ∀ r, r ∈ rs → r ∈ qs) {x y : ByteArray} (hx : Key12 x) (hy : Key12 y) : uses9 qs y x ≤ uses9 rs y x := by
  by_cases h : uses9 rs y x ≤ 2
  · rw [uses9_le hx hy _ h]
    exact ((uses9_le hx hy _ h).1 (Nat.le_refl _)).mono hq
  · rcases uses9_vals rs y x with e | e | e | e <;> rcases uses9_vals qs y x with f | f | f | f <;> omega

/-- The verdict on so many uses. -/
def verdict9 (n : Nat) : Int := if n = 0 then 1 else if n ≤ 2 then 3 else 2
theorem verdict9_mono {m n : Nat} (h : m ≤ n) (hz : m = 0 ↔ n = 0) : verdict9 n = 2 ∨ verdict9 m = verdict9 n := by
  unfold verdict9
  by_cases h0 : n = 0
  · exact .inr (by rw [if_pos h0, if_pos (hz.2 h0)])
  · rw [if_neg h0, if_neg (fun e => h0 (hz.1 e))]
    by_cases h1 : n ≤ 2
    · exact .inr (by rw [if_pos h1, if_pos (by omega)])
    · exact .inl (by rw [if_neg h1])

/-! ### Each step of a chain finds a string -/

theorem minStr_mem : ∀ (l : List ByteArray), l ≠ [] → minStr l ∈ l := by
  have hf : ∀ (t : List ByteArray) (x : ByteArray), t.foldl (fun m y => if Lib.compareBytes y.data.toList m.data.toList < 0 then y else m) x = x ∨ t.foldl (fun m y => if Lib.compareBytes y.data.toList m.data.toList < 0 then y else m) x ∈ t := by
    intro t
    induction t with
    | nil => intro x; exact .inl rfl
    | cons a t ih =>
      intro x
      rw [List.foldl_cons]
      rcases ih (if Lib.compareBytes a.data.toList x.data.toList < 0 then a else x) with h | h
      · rw [h]
        split
        · exact .inr (by simp)
        · exact .inl rfl
      · exact .inr (by simp [h])
  intro l hl
  cases l with
  | nil => exact absurd rfl hl
  | cons x t =>
    show List.foldl _ x t ∈ _
    rcases hf t x with h | h
    · rw [h]; simp
    · exact List.mem_cons_of_mem _ h
theorem next_facts {rs : List (ByteArray × ByteArray)} {goal x : ByteArray} (n : Nat) (h : awayL rs goal n (madeL rs x) ≠ []) : nextG rs goal x n ∈ madeL rs x ∧ metP rs goal (nextG rs goal x n) = some n := by
  have hm : nextG rs goal x n ∈ awayL rs goal n (madeL rs x) := minStr_mem _ h
  unfold awayL at hm
  rw [List.mem_filter] at hm
  exact ⟨hm.1, by simpa using hm.2⟩
theorem away_some {rs : List (ByteArray × ByteArray)} {goal x : ByteArray} (hx : Key12 x) (hg : Key12 goal) (n : Nat) (h : usesG rs goal x = some (n + 1)) : awayL rs goal n (madeL rs x) ≠ [] ∧ n ≤ 1 := by
  rcases usesG_cases rs goal x with ⟨h1, e⟩ | ⟨h1, h2, e⟩ | ⟨h1, h2, ⟨m, h3, h4⟩, e⟩ | ⟨h1, h2, h3, e⟩ <;> rw [e] at h <;> first | (injection h with h; done) | (injection h with h) | (exact absurd h (by simp))
  · omega
  · obtain rfl : n = 0 := by omega
    refine ⟨fun he => ?_, by omega⟩
    have : goal ∈ awayL rs goal 0 (madeL rs x) := by
      unfold awayL
      rw [List.mem_filter]
      exact ⟨made_symm hg h2, by rw [metP_zero rfl]; rfl⟩
    rw [he] at this
    cases this
  · obtain rfl : n = 1 := by omega
    refine ⟨fun he => ?_, by omega⟩
    have hmg : m ≠ goal := fun e => h2 (by rw [← e]; exact made_symm hx h3)
    have : m ∈ awayL rs goal 1 (madeL rs x) := by
      unfold awayL
      rw [List.mem_filter]
      exact ⟨h3, by rw [metP_one hmg (h4.resolve_left hmg)]; rfl⟩
    rw [he] at this
    cases this
theorem steps_ok {rs : List (ByteArray × ByteArray)} {goal : ByteArray} (hg : Key12 goal) : ∀ (u : Nat) (x : ByteArray), Key12 x → usesG rs goal x = some u → stepsOk rs goal u x = true
  | 0, _, _, _ => rfl
  | n + 1, x, hx, h => by
    obtain ⟨h1, h2⟩ := away_some hx hg n h
    obtain ⟨h3, h4⟩ := next_facts n h1
    have h5 := made_key h3
    have h6 : usesG rs goal (nextG rs goal x n) = some n := by unfold usesG; rw [h4]
    have h7 := steps_ok hg n _ h5 h6
    unfold stepsOk
    simp only [Bool.and_eq_true, decide_eq_true_eq, Bool.not_eq_true', List.isEmpty_eq_false_iff]
    exact ⟨⟨⟨h1, h5.2⟩, h2⟩, h7⟩
/-- The steps of a chain: each is made of the one before by one use, and the last one is the end. -/
theorem steps_made {rs : List (ByteArray × ByteArray)} {goal : ByteArray} (hg : Key12 goal) : ∀ (u : Nat) (x : ByteArray), Key12 x → usesG rs goal x = some u →
    (∀ j (h : j < (stepsG rs goal u x).length), (x :: stepsG rs goal u x)[j + 1]'(by simpa using h) ∈ madeL rs ((x :: stepsG rs goal u x)[j]'(by simp; omega)) ∧ Key12 ((x :: stepsG rs goal u x)[j]'(by simp; omega))) ∧ (x :: stepsG rs goal u x).getLast (by simp) = goal
  | 0, x, hx, h => by
    refine ⟨fun j hj => absurd hj (Nat.not_lt_zero _), ?_⟩
    rcases usesG_cases rs goal x with ⟨h1, e⟩ | ⟨h1, h2, e⟩ | ⟨h1, h2, _, e⟩ | ⟨h1, h2, h3, e⟩
    · exact h1
    · rw [e] at h; exact absurd h (by simp)
    · rw [e] at h; exact absurd h (by simp)
    · rw [e] at h; exact absurd h (by simp)
  | n + 1, x, hx, h => by
    obtain ⟨h1, h2⟩ := away_some hx hg n h
    obtain ⟨h3, h4⟩ := next_facts n h1
    have h5 := made_key h3
    have h6 : usesG rs goal (nextG rs goal x n) = some n := by unfold usesG; rw [h4]
    obtain ⟨k1, k2⟩ := steps_made hg n _ h5 h6
    refine ⟨fun j hj => ?_, ?_⟩
    · cases j with
      | zero => exact ⟨h3, hx⟩
      | succ j => exact k1 j (by simpa [stepsG] using hj)
    · show (x :: nextG rs goal x n :: stepsG rs goal n (nextG rs goal x n)).getLast _ = goal
      rw [List.getLast_cons (by simp)]
      exact k2
end Go.Proofs.YtljlkhaolfihjaaGreatDoor

/- How many uses lie between two names, and the verdict on them. -/
namespace Go.Proofs.YtljlkhaolfihjaaGreatDoor
open Go.RowKit Go.Shelf

theorem usesG_le {rs : List (ByteArray × ByteArray)} {goal x : ByteArray} {u : Nat} (h : usesG rs goal x = some u) : u ≤ 2 := by
  rcases usesG_cases rs goal x with ⟨_, e⟩ | ⟨_, _, e⟩ | ⟨_, _, _, e⟩ | ⟨_, _, _, e⟩ <;> rw [e] at h
  · injection h with h; omega
  · injection h with h; omega
  · injection h with h; omega
  · cases h
theorem keyS_key12 {a : ByteArray} (h : Sp.check a.data.toList = 0) : Key12 (keyS a) := by
  have h1 : AllOk [a, a] := by
    intro s hs
    simp at hs
    subst hs
    exact h
  refine ⟨?_, keyS_le h1⟩
  have h3 := latP_flat h
  have h2 := check_size h
  have hne : Sp.key a.data.toList ≠ [] := by
    intro he
    have hl : a.data.toList.length = a.size := by simp
    have hz : ∀ c, c ∈ a.data.toList → latP c ≠ [] := by
      intro c hc hp
      have hv := valid_alpha h c hc
      unfold latP at hp
      split at hp
      · cases hp
      · rename_i hlat
        have h4 := (alpha_lat c).2.1
        rcases alphaN_ne a.data.toList with e | e
        · exact hlat ((alpha_lat c).1.1 (hv.trans e))
        · exact (h4.1 (hv.trans e)).2 hp
    rw [he] at h3
    cases hs : a.data.toList with
    | nil => rw [hs] at hl; simp at hl; omega
    | cons c t =>
      rw [hs, List.flatMap_cons] at h3
      exact hz c (by rw [hs]; simp) (List.append_eq_nil_iff.1 h3).1
  show 1 ≤ (Sp.key a.data.toList).toArray.size
  rw [List.size_toArray]
  exact List.length_pos_iff.2 hne

/-- The walk up to the number of uses. -/
def UsesAns (rs : List (ByteArray × ByteArray)) (a b : ByteArray) (w : World) (e : Ending) (w' : World) : Prop :=
  e = .returned (.tuple #[.int .i64 (((usesG rs (keyS b) (keyS a)).getD 0 : Nat) : Int), .int .i64 (if (usesG rs (keyS b) (keyS a)).isSome then 0 else 11)]) ∧ Below w.heap.size w w'

set_option maxRecDepth 100000 in
set_option maxHeartbeats 1600000 in
theorem Uses_ok (A : Option Addr) (nn c : Nat) (rs : List (ByteArray × ByteArray)) (a b : ByteArray) (w : World) (hn : nn = rs.length) (hf : RulesOk rs) (hv : AllOk [a, b]) (hx : Cells w A (ruleCells rs)) :
    Calls Tryz.prog 26 #[.slice A nn c, .string a, .string b] w (UsesAns rs a b w) := by
  have hk : (keyS a).size ≤ 12 := (keyS_key12 (hv a (by simp))).2
  have QB := Lib.hid (begin_ok A nn c rs a b w hn hf hv hx)
  have qu := (fun B m D W (h1 : Cells W A (ruleCells rs)) h2 h3 => pathUses_any A nn c B m rs (keyS b) (keyS a) D W hk hf.short hn (by rw [hn]; have := hf.1; omega) h1 h2 h3)
  have HX := Lib.hid hx
  unfold UsesAns
  obtain ⟨U, hU⟩ : ∃ U, usesG rs (keyS b) (keyS a) = U := ⟨_, rfl⟩
  rw [hU] at qu ⊢
  have QU := Lib.hid qu
  clear hn hf hv hx hk hU qu
  go_enter Tryz.func26, Tryz.ntmps26
  go_wp2_with fail
  refine QB.out.mono ?_
  rintro e w1 ⟨B, m, D, rfl, ho1, hM, hBl, hb1⟩
  have ho2 := World.ownsMap.alloc ho1 (.cells #[.slice A nn c, .map (some B)] 108)
  have hb2 := hb1.alloc (o := .cells #[.slice A nn c, .map (some B)] 108) hb1.size
  have HM := Lib.hid hM
  have HO := Lib.hid ho2
  have HX2 := Lib.hid (HX.out.below hb2)
  clear hM ho1 ho2 hb1 QB HX
  go_wp2_with fail
  generalize w1.alloc (.cells #[.slice A nn c, .map (some B)] 108) = w2 at *
  refine (QU.out B m D w2 HX2.out HO.out HM.out).mono ?_
  rintro e w3 ⟨rfl, hb3⟩
  have hb4 := hb2.trans (hb3.mono hb2.size)
  clear QU HX2 HO HM hb2 hb3
  cases U with
  | none =>
    go_wp2_with fail
    go_ret2
    exact ⟨ret_two (int_val rfl) (int_val rfl), hb4⟩
  | some u =>
    go_wp2_with fail
    go_ret2
    exact ⟨ret_two (int_val rfl) (int_val rfl), hb4⟩

def VerdictAns (rs : List (ByteArray × ByteArray)) (a b : ByteArray) (w : World) (e : Ending) (w' : World) : Prop :=
  e = .returned (.tuple #[.int .i64 (verdict9 (uses9 rs (keyS b) (keyS a))), .int .i64 0]) ∧ Below w.heap.size w w'
set_option maxRecDepth 100000 in
set_option maxHeartbeats 1600000 in
theorem Verdict_ok (A : Option Addr) (nn c : Nat) (rs : List (ByteArray × ByteArray)) (a b : ByteArray) (w : World) (hn : nn = rs.length) (hf : RulesOk rs) (hv : AllOk [a, b]) (hx : Cells w A (ruleCells rs)) :
    Calls Tryz.prog 28 #[.slice A nn c, .string a, .string b] w (VerdictAns rs a b w) := by
  have hk : (keyS a).size ≤ 12 := (keyS_key12 (hv a (by simp))).2
  have QB := Lib.hid (begin_ok A nn c rs a b w hn hf hv hx)
  have qu := (fun B m D W (h1 : Cells W A (ruleCells rs)) h2 h3 => pathUses_any A nn c B m rs (keyS b) (keyS a) D W hk hf.short hn (by rw [hn]; have := hf.1; omega) h1 h2 h3)
  have HX := Lib.hid hx
  have hl := (fun u (h : usesG rs (keyS b) (keyS a) = some u) => usesG_le h)
  unfold VerdictAns uses9
  obtain ⟨U, hU⟩ : ∃ U, usesG rs (keyS b) (keyS a) = U := ⟨_, rfl⟩
  rw [hU] at qu hl ⊢
  have QU := Lib.hid qu
  have HL := Lib.hid hl
  clear hn hf hv hx hk hU qu hl
  go_enter Tryz.func28, Tryz.ntmps28
  go_wp2_with fail
  refine QB.out.mono ?_
  rintro e w1 ⟨B, m, D, rfl, ho1, hM, hBl, hb1⟩
  have ho2 := World.ownsMap.alloc ho1 (.cells #[.slice A nn c, .map (some B)] 108)
  have hb2 := hb1.alloc (o := .cells #[.slice A nn c, .map (some B)] 108) hb1.size
  have HM := Lib.hid hM
  have HO := Lib.hid ho2
  have HX2 := Lib.hid (HX.out.below hb2)
  clear hM ho1 ho2 hb1 QB HX
  go_wp2_with fail
  generalize w1.alloc (.cells #[.slice A nn c, .map (some B)] 108) = w2 at *
  refine (QU.out B m D w2 HX2.out HO.out HM.out).mono ?_
  rintro e w3 ⟨rfl, hb3⟩
  have hb4 := hb2.trans (hb3.mono hb2.size)
  clear QU HX2 HO HM hb2 hb3
  cases U with
  | none =>
    go_wp2_with fail
    go_ret2
    exact ⟨ret_two (int_val rfl) (int_val rfl), hb4⟩
  | some u =>
    have hu := HL.out u rfl
    have h3 : u = 0 ∨ u = 1 ∨ u = 2 := by omega
    clear hu HL
    rcases h3 with rfl | rfl | rfl
    all_goals
      go_wp2_with fail
      go_ret2
      exact ⟨ret_two (int_val rfl) (int_val rfl), hb4⟩

/-! ### The law's own word for the uses -/

def Uses9Ans (rs : List (ByteArray × ByteArray)) (a b : ByteArray) (w : World) (e : Ending) (w' : World) : Prop :=
  e = .returned (.tuple #[.int .i64 (uses9 rs (keyS b) (keyS a) : Nat), .bool true]) ∧ Below w.heap.size w w'
/-- Rules that dice made. -/
theorem made_rules {rs : List (ByteArray × ByteArray)} (hl : rs.length ≤ 4) (h : ∀ r, r ∈ rs → r.1 ∈ froms ∧ r.2 ∈ tos) : RulesOk rs := by
  refine ⟨hl, fun r hr => ?_⟩
  have hall : ∀ x ∈ froms, ∀ y ∈ tos, (1 ≤ x.size ∧ x.size ≤ 2) ∧ y.size ≤ 2 ∧ x ≠ y ∧ (x.data.toList ++ y.data.toList).all (fun b => decide (97 ≤ b.toNat ∧ b.toNat ≤ 122)) = true := by decide +kernel
  obtain ⟨h1, h2⟩ := h r hr
  obtain ⟨a1, a2, a3, a4⟩ := hall _ h1 _ h2
  refine ⟨a1, a2, a3, fun b hb => ?_⟩
  have := List.all_eq_true.1 a4 b hb
  simpa using this
end Go.Proofs.YtljlkhaolfihjaaGreatDoor

/- Where a number stands first in a list. -/
namespace Go.Proofs.YtljlkhaolfihjaaGreatDoor
open Go.RowKit

def IndexPost (xs : List Int) (x : Int) (w : World) (e : Ending) (w' : World) : Prop :=
  ∃ v : Int, e = .returned (.int .i64 v) ∧ ((0 ≤ v ∧ x ∈ xs) ∨ (v = -1 ∧ x ∉ xs)) ∧ w' = w
set_option maxHeartbeats 800000 in
theorem Index_any (A : Option Addr) (n c : Nat) (xs : List Int) (x : Int) (w : World) (hn : n = xs.length) (hb : n ≤ 1000) (hx : Cells w A (xs.map (Value.int .i64))) :
    Calls Tryz.prog 35 #[.slice A n c, .int .i64 x] w (IndexPost xs x w) := by
  have HN := Lib.hid hn
  have HX := Lib.hid hx
  clear hn hx
  unfold IndexPost
  go_enter Tryz.func35, Tryz.ntmps35
  go_wp2_with fail
  go_loop [5] (fun i => ∃ k : Nat, k ≤ n ∧ i = .int .i64 k ∧ Hid (x ∉ xs.take k)) (fun i => n - (intOf i).toNat)
  case atStart => exact ⟨0, Nat.zero_le _, rfl, Lib.hid (by simp)⟩
  case round =>
    obtain ⟨k, hk, rfl, hno⟩ := hrel
    by_cases hlt : k < n
    · have hks : k < xs.length := by rw [← HN.out]; exact hlt
      obtain ⟨b, off, rfl, hc⟩ := HX.out k (by simpa using hks)
      have hv : (xs.map (Value.int .i64)).getD k undef = .int .i64 xs[k] := by
        rw [List.getD_eq_getElem?_getD, List.getElem?_map, List.getElem?_eq_getElem hks]; rfl
      rw [hv] at hc
      have hmem : xs[k] ∈ xs := List.getElem_mem hks
      have htk := List.take_succ_eq_append_getElem hks
      generalize xs[k] = y at *
      by_cases hy : y = x
      · subst hy
        have m1 : (y == y) = true := by simp
        have HM := Lib.hid hmem
        clear hmem hv htk
        go_wp2_with fail
        go_ret
        exact ⟨_, rfl, .inl ⟨by omega, HM.out⟩, rfl⟩
      · have m1 : (y == x) = false := by simp [hy]
        have hno2 : Hid (x ∉ xs.take (k + 1)) := Lib.hid (by
          rw [htk, List.mem_append, List.mem_singleton]
          rintro (h | h)
          · exact hno.out h
          · exact hy h.symm)
        clear hmem hv htk hy hno
        go_wp2_with fail
        go_round
        case rel => exact ⟨k + 1, by omega, by go_num, hno2⟩
        case measure => simp [intOf]; omega
    · have hall : Hid (x ∉ xs) := Lib.hid (by
        have := hno.out
        rwa [List.take_of_length_le (by rw [← HN.out]; omega)] at this)
      clear hno
      go_wp2_with fail
      go_ret
      exact ⟨_, rfl, .inr ⟨rfl, hall.out⟩, rfl⟩
end Go.Proofs.YtljlkhaolfihjaaGreatDoor

/- Abbreviations that lose a letter; which names one stands for. Nothing of the program's code. -/
namespace Go.Proofs.YtljlkhaolfihjaaGreatDoor

theorem part_sub : ∀ (s t : List UInt8), partB s t = true ↔ s.Sublist t
  | [], t => by simp [partB]
  | a :: s, [] => by simp [partB]
  | a :: s, c :: t => by
    unfold partB
    by_cases h : c = a
    · subst h
      rw [if_pos rfl, part_sub s t]
      exact List.cons_sublist_cons.symm
    · rw [if_neg h, part_sub (a :: s) t]
      constructor
      · exact fun h => h.cons c
      · intro h1
        cases h1 with
        | cons _ h2 => exact h2
        | cons_cons _ _ => exact absurd rfl h

theorem abbr_erase {l k : List UInt8} {i : Nat} (h1 : 1 ≤ i) (hi : i < l.length) (h : abbrB l k = true) : abbrB (l.eraseIdx i) k = true := by
  unfold abbrB at *
  simp only [Bool.and_eq_true, decide_eq_true_eq] at *
  obtain ⟨a1, a2, a3⟩ := h
  refine ⟨?_, ?_, ?_⟩
  · rw [List.length_eraseIdx_of_lt hi]; omega
  · rw [← a2]
    cases l with
    | nil => simp at hi
    | cons c t =>
      cases i with
      | zero => omega
      | succ i => rfl
  · rw [part_sub] at *
    exact (List.eraseIdx_sublist l i).trans a3

theorem stands_mem (a : List UInt8) : ∀ (ss : List ByteArray) (k : Nat) (x : Int), x ∈ standsFrom a k ss ↔ ∃ i, ∃ h : i < ss.length, x = ((k + i : Nat) : Int) ∧ shortB a ss[i].data.toList = true
  | [], k, x => by simp [standsFrom]
  | s :: t, k, x => by
    unfold standsFrom
    have ih := stands_mem a t (k + 1) x
    constructor
    · intro hx
      split at hx
      · rename_i hs
        rcases List.mem_cons.1 hx with rfl | hx
        · exact ⟨0, by simp, by simp, hs⟩
        · obtain ⟨i, hi, e, hb⟩ := ih.1 hx
          exact ⟨i + 1, by simp; omega, by omega, hb⟩
      · obtain ⟨i, hi, e, hb⟩ := ih.1 hx
        exact ⟨i + 1, by simp; omega, by omega, hb⟩
    · rintro ⟨i, hi, e, hb⟩
      cases i with
      | zero =>
        have hs : shortB a s.data.toList = true := hb
        rw [if_pos hs]
        simp [e]
      | succ i =>
        have hm := ih.2 ⟨i, by simpa using hi, by omega, hb⟩
        split
        · exact List.mem_cons_of_mem _ hm
        · exact hm
theorem stands_len (a : List UInt8) : ∀ (ss : List ByteArray) (k : Nat), (standsFrom a k ss).length ≤ ss.length
  | [], _ => Nat.le_refl _
  | s :: t, k => by
    unfold standsFrom
    have := stands_len a t (k + 1)
    split <;> simp <;> omega

/-- The letters and the point. -/
theorem short_of {l : List UInt8} (h1 : 1 ≤ l.length) (h2 : l.length ≤ 12) (h3 : ∀ c, c ∈ l → Sp.latin c = true) : shortErr (l ++ [46]) = 0 := by
  unfold shortErr lettersB
  rw [if_pos]
  refine ⟨by simp, ?_⟩
  rw [List.dropLast_concat]
  simp only [Bool.and_eq_true, decide_eq_true_eq, List.all_eq_true]
  exact ⟨by omega, h3⟩
theorem short_letters (l : List UInt8) (n : List UInt8) : shortB (l ++ [46]) n = abbrB l (Sp.key n) := by
  unfold shortB
  rw [List.dropLast_concat]
end Go.Proofs.YtljlkhaolfihjaaGreatDoor

/- Dice: abbreviations of few letters. -/
namespace Go.Proofs.YtljlkhaolfihjaaGreatDoor
open Go.RowKit

/-- An abbreviation that dice make of a string: some of its letters, and a point. -/
def ShortOfPost (d : Nat) (v : Value) (key : ByteArray) (w : World) (e : Ending) (w' : World) : Prop :=
  ∃ l : List UInt8, e = .returned (str (l ++ [46])) ∧ l.length ≤ key.size ∧ (1 ≤ key.size → 1 ≤ l.length) ∧ (∀ c, c ∈ l → c ∈ key.data.toList) ∧
    Dice w' d v ∧ w.grownBy w' (some d)

end Go.Proofs.YtljlkhaolfihjaaGreatDoor

/- An abbreviation stands for all names for which one with a letter more stands: the walk. -/
namespace Go.Proofs.YtljlkhaolfihjaaGreatDoor
open Go.RowKit

theorem key_latin {s : ByteArray} (h : Sp.check s.data.toList = 0) : ∀ c, c ∈ (keyS s).data.toList → Sp.latin c = true := by
  intro c hc
  have h1 : (keyS s).data.toList = s.data.toList.flatMap latP := (latP_flat h).symm
  rw [h1, List.mem_flatMap] at hc
  obtain ⟨x, _, hx⟩ := hc
  have hall : ∀ n : Fin 256, (latP (UInt8.ofNat n.val)).all Sp.latin = true := by decide +kernel
  exact List.all_eq_true.1 (byte_all (p := fun x => (latP x).all Sp.latin = true) hall x) c hx
theorem cut_list {A0 : ByteArray} {l : List UInt8} (hA : A0.data.toList = l ++ [46]) {i : Nat} (hi : i < l.length) : (A0.extract 0 i ++ A0.extract (i + 1) A0.size).data.toList = l.eraseIdx i ++ [46] := by
  have hz : A0.size = A0.data.toList.length := by simp
  rw [ByteArray.data_append, Array.toList_append, ByteArray.data_extract, ByteArray.data_extract, Array.toList_extract, Array.toList_extract, List.extract_eq_take_drop, List.extract_eq_take_drop, hz, hA]
  rw [List.eraseIdx_eq_take_drop_succ, List.append_assoc, List.drop_zero, Nat.sub_zero, List.take_append_of_le_length (by omega)]
  congr 1
  rw [List.drop_append_of_le_length (by omega), List.take_of_length_le (by simp; omega)]
theorem stands_call {A : Option Addr} {n c : Nat} {ss : List ByteArray} {a : ByteArray} {W0 : World} (hL : LaidErr W0) (hn : n = ss.length) (h6 : ss.length ≤ 6) (hv : AllOk ss) (hx : Cells W0 A (ss.map Value.string)) (ha : a.size ≤ 2000) (hs : shortErr a.data.toList = 0) (W : World) (hW : Below W0.heap.size W0 W) :
    Calls Tryz.prog 31 #[.string a, .slice A n c] W fun e w' => ∃ o, e = .returned (.tuple #[o, .int .i64 0]) ∧ w'.ownsRow W.heap.size 3 1 o (standsFrom a.data.toList 0 ss).length ((standsFrom a.data.toList 0 ss).map (Value.int .i64)) ∧ Below W.heap.size W w' := by
  have hle : listErr ss = 0 := by
    unfold listErr
    rw [if_neg (by omega)]
    have : ∀ t : List ByteArray, AllOk t → firstErr t = 0 := by
      intro t
      induction t with
      | nil => intro _; rfl
      | cons s t ih =>
        intro h
        unfold firstErr
        rw [if_pos (h s (by simp))]
        exact ih fun x hx => h x (by simp [hx])
    exact this ss hv
  have he : standsErr a.data.toList ss = 0 := by unfold standsErr; rw [if_pos hs, hle]
  have hl : standsL a.data.toList ss = standsFrom a.data.toList 0 ss := by unfold standsL; rw [if_pos he]
  have q := pStands_any a A n c ss W (hL.below hW) ha hn (hx.below hW)
  rw [he, hl] at q
  exact q
theorem short_call {a s : ByteArray} {W0 : World} (hL : LaidErr W0) (ha : a.size ≤ 2000) (hs : shortErr a.data.toList = 0) (hc : Sp.check s.data.toList = 0) (W : World) (hW : Below W0.heap.size W0 W) :
    Calls Tryz.prog 30 #[.string a, .string s] W fun e w' => e = .returned (.tuple #[.bool (shortB a.data.toList s.data.toList), .int .i64 0]) ∧ Below W.heap.size W w' := by
  have e1 : shortPairErr a.data.toList s.data.toList = 0 := by unfold shortPairErr; rw [if_pos hs, hc]
  have q := pShort_any a s W (hL.below hW) ha
  unfold ShortPost at q
  rw [e1] at q
  simpa using q

def ShortOf2 (d : Nat) (v : Value) (key : ByteArray) (w : World) (e : Ending) (w' : World) : Prop :=
  ∃ (l : List UInt8) (A0 : ByteArray), e = .returned (.string A0) ∧ A0.data.toList = l ++ [46] ∧ l.length ≤ key.size ∧ (1 ≤ key.size → 1 ≤ l.length) ∧ (∀ c, c ∈ l → c ∈ key.data.toList) ∧ Dice w' d v ∧ w.grownBy w' (some d)
theorem ints_at {w : World} {A : Option Addr} {xs : List Int} (h : Cells w A (xs.map (Value.int .i64))) (k : Nat) (hk : k < xs.length) : ∃ b off : Nat, A = some ⟨b, off, none⟩ ∧ w.cell? ⟨b, off + k, none⟩ = some (.int .i64 xs[k]) := by
  obtain ⟨b, off, e, hc⟩ := h k (by simpa using hk)
  refine ⟨b, off, e, ?_⟩
  rw [hc, List.getD_eq_getElem?_getD, List.getElem?_map, List.getElem?_eq_getElem hk]
  rfl

end Go.Proofs.YtljlkhaolfihjaaGreatDoor

/- The shortest abbreviation and the column's, the program's way and the reference's. Nothing of the program's code. -/
namespace Go.Proofs.YtljlkhaolfihjaaGreatDoor

theorem fine_ok (ss : List ByteArray) (i : Nat) (hi : i < ss.length) (a : ByteArray) : fineG (othersK ss i) a.data.toList = okAll ss (keyS ss[i]) a := by
  have hk : Sp.key (at' ss i) = (keyS ss[i]).data.toList := by rw [at_get ss i hi]; rfl
  rw [Bool.eq_iff_iff]
  unfold fineG okAll othersK
  rw [hk]
  simp only [List.all_eq_true, List.mem_filter, List.mem_map, decide_eq_true_eq]
  constructor
  · intro h x hx
    unfold okOne
    rw [Bool.or_eq_true]
    by_cases he : (keyS x).data.toList = (keyS ss[i]).data.toList
    · left
      rw [beq_iff_eq, ByteArray.toList_eq, ByteArray.toList_eq]
      exact he
    · right
      exact h _ ⟨⟨x, hx, rfl⟩, he⟩
  · rintro h o ⟨⟨x, hx, rfl⟩, hne⟩
    have h1 := h x hx
    unfold okOne at h1
    rw [Bool.or_eq_true] at h1
    rcases h1 with h1 | h1
    · rw [beq_iff_eq, ByteArray.toList_eq, ByteArray.toList_eq] at h1
      exact absurd h1 hne
    · exact h1

/-- The first fine one of m + 1 letters and up, f numbers of letters. -/
def findUp (q : List UInt8 → Bool) (k : List UInt8) : Nat → Nat → Option (List UInt8)
  | 0, _ => none
  | f + 1, m => match (cutsG k (m + 1)).find? q with
    | some a => some a
    | none => findUp q k f (m + 1)
theorem flat_up (q : List UInt8 → Bool) (k : List UInt8) : ∀ f m, ((List.range' m f).map fun m => cutsG k (m + 1)).flatten.find? q = findUp q k f m
  | 0, m => rfl
  | f + 1, m => by
    rw [List.range'_succ, List.map_cons, List.flatten_cons, List.find?_append, flat_up q k f (m + 1)]
    show _ = (match (cutsG k (m + 1)).find? q with | some a => some a | none => findUp q k f (m + 1))
    cases (cutsG k (m + 1)).find? q <;> rfl
/-- The first fine one of n letters and down. -/
def findDown (q : List UInt8 → Bool) (k : List UInt8) : Nat → Option (List UInt8)
  | 0 => none
  | n + 1 => match (cutsG k (n + 1)).find? q with
    | some a => some a
    | none => findDown q k n
theorem flat_down (q : List UInt8 → Bool) (k : List UInt8) : ∀ n, ((List.range n).map fun m => cutsG k (n - m)).flatten.find? q = findDown q k n
  | 0 => rfl
  | n + 1 => by
    have e : (List.range (n + 1)).map (fun m => cutsG k (n + 1 - m)) = cutsG k (n + 1) :: (List.range n).map fun m => cutsG k (n - m) := by
      rw [List.range_succ_eq_map, List.map_cons, List.map_map]
      congr 1
      refine List.map_congr_left fun m _ => ?_
      show cutsG k (n + 1 - (m + 1)) = cutsG k (n - m)
      rw [Nat.add_sub_add_right]
    rw [e, List.flatten_cons, List.find?_append, flat_down q k n]
    show _ = (match (cutsG k (n + 1)).find? q with | some a => some a | none => findDown q k n)
    cases (cutsG k (n + 1)).find? q <;> rfl

def ansOf : Option (List UInt8) → ByteArray × Int
  | none => (ByteArray.empty, 11)
  | some a => (⟨(a ++ [46]).toArray⟩, 0)
theorem join_point (a : List UInt8) : (⟨a.toArray⟩ : ByteArray) ++ ⟨#[46]⟩ = ⟨(a ++ [46]).toArray⟩ := bz_inj (by rw [ByteArray.data_append, Array.toList_append])

theorem from_find (ss : List ByteArray) (S : ByteArray) (q : List UInt8 → Bool) (hq : ∀ a : ByteArray, q a.data.toList = okAll ss S a) : ∀ f m, S.size ≤ m + f + 1 → fromB ss S f m = ansOf (findUp q S.data.toList (S.size - 1 - m) m)
  | 0, m, h => by
    rw [show S.size - 1 - m = 0 from by omega]
    rfl
  | f + 1, m, h => by
    unfold fromB
    by_cases hm : m + 1 < S.size
    · have hb := best_find ss S q hq m hm
      rw [show S.size - 1 - m = (S.size - 1 - (m + 1)) + 1 from by omega]
      have hbp : bestP ss S m = ((bestF ss S m).1 ++ ⟨#[46]⟩, (bestF ss S m).2) := by unfold bestP; rw [if_neg (by omega)]
      unfold findUp
      rw [hbp, hb]
      cases (cutsG S.data.toList (m + 1)).find? q with
      | none =>
        show fromB ss S f (m + 1) = _
        rw [from_find ss S q hq f (m + 1) (by omega)]
      | some a =>
        show ((⟨a.toArray⟩ : ByteArray) ++ ⟨#[46]⟩, (0 : Int)) = _
        rw [join_point]
        rfl
    · have hb : bestP ss S m = (ByteArray.empty, false) := by unfold bestP; rw [if_pos (by omega)]
      rw [hb]
      show fromB ss S f (m + 1) = _
      rw [from_find ss S q hq f (m + 1) (by omega), show S.size - 1 - m = 0 from by omega, show S.size - 1 - (m + 1) = 0 from by omega]
      rfl
theorem down_find (ss : List ByteArray) (S : ByteArray) (q : List UInt8 → Bool) (hq : ∀ a : ByteArray, q a.data.toList = okAll ss S a) : ∀ n, n < S.size → downB ss S n = ansOf (findDown q S.data.toList n)
  | 0, _ => rfl
  | n + 1, h => by
    unfold downB findDown
    have hb := best_find ss S q hq n h
    have hbp : bestP ss S n = ((bestF ss S n).1 ++ ⟨#[46]⟩, (bestF ss S n).2) := by unfold bestP; rw [if_neg (by omega)]
    rw [hbp, hb]
    cases (cutsG S.data.toList (n + 1)).find? q with
    | none =>
      show downB ss S n = _
      rw [down_find ss S q hq n (by omega)]
    | some a =>
      show ((⟨a.toArray⟩ : ByteArray) ++ ⟨#[46]⟩, (0 : Int)) = _
      rw [join_point]
      rfl

theorem first_ans (o : List (List UInt8)) (s : List (List (List UInt8))) : ((⟨(firstG o s).1.toArray⟩ : ByteArray), (firstG o s).2) = ansOf (s.flatten.find? (fineG o)) := by
  unfold firstG
  cases s.flatten.find? (fineG o) <;> rfl

theorem first_ok : ∀ (ss : List ByteArray), firstErr ss = 0 → ∀ s, s ∈ ss → Sp.check s.data.toList = 0
  | [], _, s, hs => by cases hs
  | x :: t, h, s, hs => by
    unfold firstErr at h
    by_cases hc : Sp.check x.data.toList = 0
    · rw [if_pos hc] at h
      rcases List.mem_cons.1 hs with rfl | hs
      · exact hc
      · exact first_ok t h s hs
    · rw [if_neg hc] at h
      exact absurd h hc
theorem check_keys (ss : List ByteArray) (h : listErr ss = 0) (i : Nat) (hi : i < ss.length) : (keyS ss[i]).size ≤ 12 := by
  have hc : Sp.check ss[i].data.toList = 0 := by
    unfold listErr at h
    split at h
    · cases h
    · exact first_ok ss h _ (List.getElem_mem hi)
  have h1 := check_size hc
  have h2 := latP_flat_le ss[i].data.toList
  have h3 := latP_flat hc
  show (Sp.key ss[i].data.toList).toArray.size ≤ 12
  rw [List.size_toArray, ← h3]
  have := bz_len ss[i]
  omega

/-- The same shortest abbreviation. -/
theorem shortest_eq (ss : List ByteArray) (i : Nat) (hi : i < ss.length) (h : listErr ss = 0) : shortestP ss (i : Int) = (⟨(shortestG ss i).1.toArray⟩, (shortestG ss i).2) := by
  have hv := (check_keys ss h i hi)
  have e1 : shortestP ss (i : Int) = fromB ss (keyS ss[i]) 12 0 := by
    unfold shortestP
    rw [if_pos h, if_neg (by omega)]
    rw [show ((i : Int)).toNat = i from by omega, List.getElem?_eq_getElem hi]
    rfl
  have hk : Sp.key (at' ss i) = (keyS ss[i]).data.toList := by rw [at_get ss i hi]; rfl
  have hz := bz_len (keyS ss[i])
  rw [e1, from_find ss (keyS ss[i]) (fineG (othersK ss i)) (fun a => fine_ok ss i hi a) 12 0 (by omega)]
  unfold shortestG
  rw [first_ans, List.range_eq_range', flat_up, hk, hz]
  rfl

/-- The same in a column. -/
theorem fit_eq (ss : List ByteArray) (i wd : Nat) (hi : i < ss.length) (h : listErr ss = 0) (h1 : 1 ≤ wd) : fitP ss (i : Int) (wd : Int) = (⟨(fitG ss i wd).1.toArray⟩, (fitG ss i wd).2) := by
  have e1 : fitP ss (i : Int) (wd : Int) = fitAt ss (keyS ss[i]) (wd : Int) := by
    unfold fitP
    rw [if_pos h, if_neg (by omega)]
    rw [show ((i : Int)).toNat = i from by omega, List.getElem?_eq_getElem hi]
    rfl
  have hk : Sp.key (at' ss i) = (keyS ss[i]).data.toList := by rw [at_get ss i hi]; rfl
  have hz := bz_len (keyS ss[i])
  rw [e1]
  unfold fitAt fitG
  rw [if_neg (by omega), hk, hz]
  by_cases hw : (keyS ss[i]).size ≤ wd
  · rw [if_pos (show ((keyS ss[i]).size : Int) ≤ (wd : Int) by omega)]
    simp only [if_pos hw] <;> rfl
  · rw [if_neg (show ¬ ((keyS ss[i]).size : Int) ≤ (wd : Int) by omega), if_neg hw, show ((wd : Int)).toNat = wd from by omega, first_ans, flat_down, down_find ss (keyS ss[i]) (fineG (othersK ss i)) (fun a => fine_ok ss i hi a) _ (by omega)]
end Go.Proofs.YtljlkhaolfihjaaGreatDoor

/- What is set in columns; abbreviations that can be mistaken. Nothing of the program's code. -/
namespace Go.Proofs.YtljlkhaolfihjaaGreatDoor

/-- Whether an abbreviation that stands for some names of a list can be mistaken for another one than the name at i. -/
def misB (xs : List Int) (ss : List ByteArray) (i : Nat) : Bool := !(xs.any fun x => decide (x = (i : Int))) || xs.any fun x => decide (Sp.key (at' ss x.toNat) ≠ Sp.key (at' ss i))
theorem mis_fine (ss : List ByteArray) (i : Nat) (hi : i < ss.length) (a : List UInt8) (h : abbrB a (Sp.key (at' ss i)) = true) : misB (standsFrom (a ++ [46]) 0 ss) ss i = !fineG (othersK ss i) a := by
  have hm : ∀ x, x ∈ standsFrom (a ++ [46]) 0 ss ↔ ∃ j, ∃ _ : j < ss.length, x = (j : Int) ∧ abbrB a (Sp.key (at' ss j)) = true := fun x => by
    rw [stands_mem]
    constructor
    · rintro ⟨j, hj, e, hb⟩
      refine ⟨j, hj, by rw [e]; omega, ?_⟩
      rw [short_letters] at hb
      rw [at_get ss j hj]; exact hb
    · rintro ⟨j, hj, e, hb⟩
      refine ⟨j, hj, by rw [e]; omega, ?_⟩
      rw [short_letters]
      rw [at_get ss j hj] at hb; exact hb
  have h1 : (standsFrom (a ++ [46]) 0 ss).any (fun x => decide (x = (i : Int))) = true := by
    rw [List.any_eq_true]; exact ⟨(i : Int), (hm _).2 ⟨i, hi, rfl, h⟩, by simp⟩
  unfold misB
  rw [h1, Bool.not_true, Bool.false_or, Bool.eq_iff_iff]
  rw [List.any_eq_true, Bool.not_eq_true', ← Bool.not_eq_true]
  unfold fineG othersK
  rw [List.all_eq_true]
  constructor
  · rintro ⟨x, hx, hne⟩ hall
    obtain ⟨j, hj, rfl, hb⟩ := (hm x).1 hx
    have hne := of_decide_eq_true hne
    rw [Int.toNat_natCast] at hne
    have := hall (Sp.key (at' ss j)) (List.mem_filter.2 ⟨List.mem_map.2 ⟨ss[j], List.getElem_mem hj, by rw [at_get ss j hj]⟩, decide_eq_true hne⟩)
    rw [hb] at this; cases this
  · intro hall
    apply Classical.byContradiction
    intro hno
    refine hall fun o ho => ?_
    obtain ⟨ho1, ho2⟩ := List.mem_filter.1 ho
    obtain ⟨s, hs, rfl⟩ := List.mem_map.1 ho1
    obtain ⟨j, hj, rfl⟩ := List.mem_iff_getElem.1 hs
    cases hb : abbrB a (Sp.key ss[j].data.toList) with
    | false => rfl
    | true =>
      exfalso
      refine hno ⟨(j : Int), (hm _).2 ⟨j, hj, rfl, by rw [at_get ss j hj]; exact hb⟩, decide_eq_true ?_⟩
      rw [Int.toNat_natCast, at_get ss j hj]
      exact of_decide_eq_true ho2

theorem cuts_abbr {k : List UInt8} {n : Nat} (h1 : 1 ≤ n) {x : List UInt8} (hx : x ∈ cutsG k n) : abbrB x k = true ∧ x.length = n ∧ n < k.length ∧ ∀ c, c ∈ x → c ∈ k := by
  cases k with
  | nil => unfold cutsG at hx; simp at hx
  | cons c t =>
    obtain ⟨h2, y, rfl, hy, hs⟩ := (cuts_mem c t n h1 x).1 hx
    have hs2 : (c :: y).Sublist (c :: t) := List.cons_sublist_cons.2 hs
    refine ⟨?_, hy, h2, fun d hd => hs2.subset hd⟩
    unfold abbrB
    simp only [Bool.and_eq_true, decide_eq_true_eq]
    refine ⟨?_, rfl, ?_⟩
    · rw [List.length_cons, hy]; exact h2
    · rw [part_sub]; exact hs2

theorem down_some (q : List UInt8 → Bool) (k : List UInt8) : ∀ n a, findDown q k n = some a → ∃ m, 1 ≤ m ∧ m ≤ n ∧ a ∈ cutsG k m ∧ q a = true
  | 0, a, h => by cases h
  | n + 1, a, h => by
    unfold findDown at h
    cases hf : (cutsG k (n + 1)).find? q with
    | none =>
      rw [hf] at h
      obtain ⟨m, h1, h2, h3⟩ := down_some q k n a h
      exact ⟨m, h1, by omega, h3⟩
    | some b =>
      rw [hf] at h
      injection h with h
      subst h
      exact ⟨n + 1, by omega, by omega, List.mem_of_find?_eq_some hf, by have := List.find?_some hf; exact this⟩
theorem down_none (q : List UInt8 → Bool) (k : List UInt8) : ∀ n, findDown q k n = none → ∀ m, 1 ≤ m → m ≤ n → ∀ a, a ∈ cutsG k m → q a = false
  | 0, _, m, h1, h2, a, ha => by omega
  | n + 1, h, m, h1, h2, a, ha => by
    unfold findDown at h
    cases hf : (cutsG k (n + 1)).find? q with
    | none =>
      rw [hf] at h
      by_cases e : m = n + 1
      · subst e
        have := List.find?_eq_none.1 hf a ha
        simpa using this
      · exact down_none q k n h m h1 (by omega) a ha
    | some b => rw [hf] at h; cases h
theorem down_mono (q : List UInt8 → Bool) (k : List UInt8) (n : Nat) (b : List UInt8) (h : findDown q k n = some b) : ∃ a, findDown q k (n + 1) = some a ∧ b.length ≤ a.length := by
  obtain ⟨m, h1, h2, h3, _⟩ := down_some q k n b h
  have hl := (cuts_abbr h1 h3).2.1
  unfold findDown
  cases hf : (cutsG k (n + 1)).find? q with
  | none => exact ⟨b, h, Nat.le_refl _⟩
  | some a =>
    refine ⟨a, rfl, ?_⟩
    have := (cuts_abbr (by omega) (List.mem_of_find?_eq_some hf)).2.1
    omega

/-- How many letters are set in a column. -/
def setW (ss : List ByteArray) (i w : Nat) : Nat :=
  if (Sp.key (at' ss i)).length ≤ w then (Sp.key (at' ss i)).length
  else match findDown (fineG (othersK ss i)) (Sp.key (at' ss i)) (w - 1) with | none => 0 | some a => a.length

/-- What is set in a column of w + 1 bytes. -/
theorem col_step (ss : List ByteArray) (i w : Nat) :
    (fitG ss i (w + 1) = ([], 11) ∧ setW ss i w = 0 ∧ w + 1 < (Sp.key (at' ss i)).length ∧ (∀ b, shortestG ss i = (b, 0) → w + 1 < b.length) ∧ setW ss i (w + 1) = 0) ∨
    (fitG ss i (w + 1) = (Sp.key (at' ss i), 0) ∧ (Sp.key (at' ss i)).length ≤ w + 1 ∧ setW ss i w ≤ (Sp.key (at' ss i)).length ∧ setW ss i (w + 1) = (Sp.key (at' ss i)).length) ∨
    (∃ a, fitG ss i (w + 1) = (a ++ [46], 0) ∧ w + 1 < (Sp.key (at' ss i)).length ∧ 1 ≤ a.length ∧ a.length ≤ w ∧ setW ss i w ≤ a.length ∧ setW ss i (w + 1) = a.length ∧ abbrB a (Sp.key (at' ss i)) = true ∧ fineG (othersK ss i) a = true ∧ ∀ c, c ∈ a → c ∈ Sp.key (at' ss i)) := by
  have e1 : fitG ss i (w + 1) = if (Sp.key (at' ss i)).length ≤ w + 1 then (Sp.key (at' ss i), 0) else firstG (othersK ss i) ((List.range w).map fun m => cutsG (Sp.key (at' ss i)) (w - m)) := rfl
  have e2 : shortestG ss i = firstG (othersK ss i) ((List.range ((Sp.key (at' ss i)).length - 1)).map fun m => cutsG (Sp.key (at' ss i)) (m + 1)) := rfl
  generalize hk : Sp.key (at' ss i) = k at *
  generalize ho : othersK ss i = o at *
  have s0 : setW ss i w = if k.length ≤ w then k.length else match findDown (fineG o) k (w - 1) with | none => 0 | some a => a.length := by unfold setW; rw [hk, ho]
  have s1 : setW ss i (w + 1) = if k.length ≤ w + 1 then k.length else match findDown (fineG o) k w with | none => 0 | some a => a.length := by unfold setW; rw [hk, ho]; rfl
  by_cases hw : k.length ≤ w + 1
  · rw [if_pos hw] at e1 s1
    refine .inr (.inl ⟨e1, hw, ?_, s1⟩)
    rw [s0]
    split
    · exact Nat.le_refl _
    · cases hd : findDown (fineG o) k (w - 1) with
      | none => exact Nat.zero_le _
      | some b =>
        obtain ⟨m, h1, _, h3, _⟩ := down_some _ _ _ _ hd
        have := cuts_abbr h1 h3
        show b.length ≤ k.length
        omega
  · rw [if_neg hw] at e1 s1
    rw [if_neg (by omega)] at s0
    rcases firstG_code o ((List.range w).map fun m => cutsG k (w - m)) with ⟨h1, h2⟩ | ⟨a, h1, h2⟩
    · rw [flat_down] at h2
      refine .inl ⟨by rw [e1, h1], ?_, by omega, fun b hb => ?_, by rw [s1, h2]⟩
      · rw [s0]
        cases hd : findDown (fineG o) k (w - 1) with
        | none => rfl
        | some b =>
          exfalso
          cases w with
          | zero => cases hd
          | succ v =>
            obtain ⟨a, h3, _⟩ := down_mono _ _ _ _ hd
            have h4 : findDown (fineG o) k (v + 1) = some a := h3
            rw [h2] at h4; cases h4
      · rcases firstG_code o ((List.range (k.length - 1)).map fun m => cutsG k (m + 1)) with ⟨h3, _⟩ | ⟨a, h3, h4⟩
        · rw [e2, h3] at hb; cases hb
        · rw [e2, h3] at hb
          injection hb with hb _
          subst hb
          have hq := List.find?_some h4
          have hm := List.mem_of_find?_eq_some h4
          rw [List.mem_flatten] at hm
          obtain ⟨l, hl, hal⟩ := hm
          obtain ⟨m, hm, rfl⟩ := List.mem_map.1 hl
          have hc := cuts_abbr (by omega) hal
          by_cases hle : m + 1 ≤ w
          · have := down_none _ _ _ h2 (m + 1) (by omega) hle a hal
            rw [this] at hq; cases hq
          · rw [List.length_append, hc.2.1]
            show w + 1 < m + 1 + 1
            omega
    · rw [flat_down] at h2
      obtain ⟨m, h3, h4, h5, h6⟩ := down_some _ _ _ _ h2
      have hc := cuts_abbr h3 h5
      refine .inr (.inr ⟨a, by rw [e1, h1], by omega, by omega, by omega, ?_, ?_, hc.1, h6, hc.2.2.2⟩)
      · rw [s0]
        cases hd : findDown (fineG o) k (w - 1) with
        | none => exact Nat.zero_le _
        | some b =>
          cases w with
          | zero => cases hd
          | succ v =>
            obtain ⟨a', h7, h8⟩ := down_mono _ _ _ _ hd
            have h9 : findDown (fineG o) k (v + 1) = some a' := h7
            rw [h2] at h9
            injection h9 with h9
            subst h9
            exact h8
      · rw [s1, h2]
end Go.Proofs.YtljlkhaolfihjaaGreatDoor
