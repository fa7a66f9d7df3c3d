/- Uses of rules: one there is one back; ways by a third key; more rules. Nothing of the program's code. -/
import Derived.Test.YtljlkhaolfihjaaGreatDoorPgK
namespace Go.Proofs.YtljlkhaolfihjaaGreatDoor

def Key12 (x : ByteArray) : Prop := 1 ≤ x.size ∧ x.size ≤ 12
/-- One piece replaced by another one, somewhere. -/
def Rep (s a b y : ByteArray) : Prop := ∃ u v : List UInt8, s.data.toList = u ++ (a.data.toList ++ v) ∧ y.data.toList = u ++ (b.data.toList ++ v) ∧ Key12 y

theorem tl_inj {a b : ByteArray} (h : a.data.toList = b.data.toList) : a = b := bytes_inj (by rw [ByteArray.toList_eq, ByteArray.toList_eq]; exact h)
theorem madeAt_list (s a b : ByteArray) (i : Nat) : (madeAt s a b i).data.toList = s.data.toList.take i ++ (b.data.toList ++ s.data.toList.drop (i + a.size)) := by
  unfold madeAt
  simp only [ByteArray.data_append, Array.toList_append, ByteArray.data_extract, Array.toList_extract, List.extract_eq_take_drop]
  congr 1
  congr 1
  have : s.data.toList.length = s.size := by simp
  rw [List.take_of_length_le (by simp)]
theorem mem_repL (s a b y : ByteArray) : y ∈ repL s a b ↔ Rep s a b y := by
  rw [← repTo_end]
  unfold repTo
  rw [List.mem_filterMap]
  constructor
  · rintro ⟨i, _, hi⟩
    rw [repAt_made] at hi
    split at hi
    · rename_i h
      injection hi with hi
      subst hi
      simp only [Bool.and_eq_true, decide_eq_true_eq] at h
      obtain ⟨h1, h2⟩ := h
      rw [List.isPrefixOf_iff_prefix] at h1
      obtain ⟨t, ht⟩ := h1
      refine ⟨s.data.toList.take i, t, ?_, ?_, h2⟩
      · rw [ht, List.take_append_drop]
      · rw [madeAt_list]
        congr 2
        have e1 : s.data.toList.drop (i + a.size) = (s.data.toList.drop i).drop a.size := by rw [List.drop_drop]
        rw [e1, ← ht]
        have : a.data.toList.length = a.size := by simp
        rw [← this, List.drop_left]
    · cases hi
  · rintro ⟨u, v, h1, h2, h3⟩
    have hl : s.data.toList.length = s.size := by simp
    have ha : a.data.toList.length = a.size := by simp
    have hu : u.length ≤ s.size := by rw [← hl, h1]; simp
    have hm : madeAt s a b u.length = y := by
      refine tl_inj ?_
      rw [madeAt_list, h2, h1, List.take_left]
      congr 2
      rw [← ha, ← List.append_assoc, ← List.length_append, List.drop_left]
    refine ⟨u.length, List.mem_range.2 (by omega), ?_⟩
    rw [repAt_made, hm, if_pos]
    simp only [Bool.and_eq_true, decide_eq_true_eq]
    refine ⟨?_, h3⟩
    rw [List.isPrefixOf_iff_prefix, h1, List.drop_left]
    exact ⟨v, rfl⟩
theorem Rep.symm {s a b y : ByteArray} (hs : Key12 s) (h : Rep s a b y) : Rep y b a s := by
  obtain ⟨u, v, h1, h2, _⟩ := h
  exact ⟨u, v, h2, h1, hs⟩
theorem mem_madeL (rs : List (ByteArray × ByteArray)) (s y : ByteArray) : y ∈ madeL rs s ↔ ∃ r ∈ rs, Rep s r.1 r.2 y ∨ Rep s r.2 r.1 y := by
  unfold madeL
  simp only [List.mem_flatMap, List.mem_append, mem_repL]
theorem made_symm {rs : List (ByteArray × ByteArray)} {s y : ByteArray} (hs : Key12 s) (h : y ∈ madeL rs s) : s ∈ madeL rs y := by
  rw [mem_madeL] at *
  obtain ⟨r, hr, h | h⟩ := h
  · exact ⟨r, hr, .inr (h.symm hs)⟩
  · exact ⟨r, hr, .inl (h.symm hs)⟩
theorem made_key {rs : List (ByteArray × ByteArray)} {s y : ByteArray} (h : y ∈ madeL rs s) : Key12 y := by
  rw [mem_madeL] at h
  obtain ⟨r, _, ⟨_, _, _, _, h⟩ | ⟨_, _, _, _, h⟩⟩ := h <;> exact h
theorem made_mono {rs qs : List (ByteArray × ByteArray)} (hq : ∀ r, r ∈ rs → r ∈ qs) {s y : ByteArray} (h : y ∈ madeL rs s) : y ∈ madeL qs s := by
  rw [mem_madeL] at *
  obtain ⟨r, hr, h⟩ := h
  exact ⟨r, hq r hr, h⟩

/-- At most so many uses lead from one key to another one. -/
def Within (rs : List (ByteArray × ByteArray)) (k : Nat) (x y : ByteArray) : Prop :=
  x = y ∨ (1 ≤ k ∧ y ∈ madeL rs x) ∨ (2 ≤ k ∧ ∃ m, m ∈ madeL rs x ∧ y ∈ madeL rs m)
theorem Within.symm {rs : List (ByteArray × ByteArray)} {k : Nat} {x y : ByteArray} (hx : Key12 x) (h : Within rs k x y) : Within rs k y x := by
  rcases h with h | ⟨h1, h⟩ | ⟨h1, m, h2, h3⟩
  · exact .inl h.symm
  · exact .inr (.inl ⟨h1, made_symm hx h⟩)
  · exact .inr (.inr ⟨h1, m, made_symm (made_key h2) h3, made_symm hx h2⟩)
theorem Within.mono {rs qs : List (ByteArray × ByteArray)} (hq : ∀ r, r ∈ rs → r ∈ qs) {k : Nat} {x y : ByteArray} (h : Within rs k x y) : Within qs k x y := by
  rcases h with h | ⟨h1, h⟩ | ⟨h1, m, h2, h3⟩
  · exact .inl h
  · exact .inr (.inl ⟨h1, made_mono hq h⟩)
  · exact .inr (.inr ⟨h1, m, made_mono hq h2, made_mono hq h3⟩)
theorem Within.trans {rs : List (ByteArray × ByteArray)} {j k : Nat} {x y z : ByteArray} (hjk : j + k ≤ 2) (h : Within rs j x y) (g : Within rs k y z) : Within rs (j + k) x z := by
  rcases h with rfl | ⟨h1, h⟩ | ⟨h1, m, h2, h3⟩
  · rcases g with rfl | ⟨g1, g⟩ | ⟨g1, n, g2, g3⟩
    · exact .inl rfl
    · exact .inr (.inl ⟨by omega, g⟩)
    · exact .inr (.inr ⟨by omega, n, g2, g3⟩)
  · rcases g with rfl | ⟨g1, g⟩ | ⟨g1, n, g2, g3⟩
    · exact .inr (.inl ⟨by omega, h⟩)
    · exact .inr (.inr ⟨by omega, _, h, g⟩)
    · omega
  · rcases g with rfl | ⟨g1, g⟩ | ⟨g1, n, g2, g3⟩
    · exact .inr (.inr ⟨by omega, m, h2, h3⟩)
    · omega
    · omega

theorem metP_zero {rs : List (ByteArray × ByteArray)} {goal x : ByteArray} (h : x = goal) : metP rs goal x = some 0 := by unfold metP; rw [if_pos h]
theorem metP_one {rs : List (ByteArray × ByteArray)} {goal x : ByteArray} (h : x ≠ goal) (h1 : x ∈ madeL rs goal) : metP rs goal x = some 1 := by
  unfold metP
  rw [if_neg h, if_pos]
  rw [List.any_eq_true]
  exact ⟨x, h1, by simp⟩
theorem metP_no {rs : List (ByteArray × ByteArray)} {goal x : ByteArray} (h : x ≠ goal) (h1 : x ∉ madeL rs goal) : metP rs goal x = none := by
  unfold metP
  rw [if_neg h, if_neg]
  rw [List.any_eq_true]
  rintro ⟨y, hy, e⟩
  simp at e
  exact h1 (e ▸ hy)
theorem metP_some {rs : List (ByteArray × ByteArray)} {goal x : ByteArray} : (metP rs goal x).isSome = true ↔ x = goal ∨ x ∈ madeL rs goal := by
  by_cases h : x = goal
  · rw [metP_zero h]; simp [h]
  · by_cases h1 : x ∈ madeL rs goal
    · rw [metP_one h h1]; simp [h1]
    · rw [metP_no h h1]; simp [h, h1]

/-- The uses, 9 if there are too many. -/
def uses9 (rs : List (ByteArray × ByteArray)) (goal x : ByteArray) : Nat := (usesG rs goal x).getD 9
theorem usesG_cases (rs : List (ByteArray × ByteArray)) (goal x : ByteArray) :
    (x = goal ∧ usesG rs goal x = some 0) ∨ (x ≠ goal ∧ x ∈ madeL rs goal ∧ usesG rs goal x = some 1) ∨
    (x ≠ goal ∧ x ∉ madeL rs goal ∧ (∃ m, m ∈ madeL rs x ∧ (m = goal ∨ m ∈ madeL rs goal)) ∧ usesG rs goal x = some 2) ∨
    (x ≠ goal ∧ x ∉ madeL rs goal ∧ (¬ ∃ m, m ∈ madeL rs x ∧ (m = goal ∨ m ∈ madeL rs goal)) ∧ usesG rs goal x = none) := by
  by_cases h : x = goal
  · exact .inl ⟨h, by unfold usesG; rw [metP_zero h]⟩
  · by_cases h1 : x ∈ madeL rs goal
    · exact .inr (.inl ⟨h, h1, by unfold usesG; rw [metP_one h h1]⟩)
    · have hs : ((madeL rs x).any fun m => (metP rs goal m).isSome) = true ↔ ∃ m, m ∈ madeL rs x ∧ (m = goal ∨ m ∈ madeL rs goal) := by
        rw [List.any_eq_true]
        simp only [metP_some]
      by_cases h2 : ∃ m, m ∈ madeL rs x ∧ (m = goal ∨ m ∈ madeL rs goal)
      · exact .inr (.inr (.inl ⟨h, h1, h2, by unfold usesG; rw [metP_no h h1]; exact if_pos (hs.2 h2)⟩))
      · exact .inr (.inr (.inr ⟨h, h1, h2, by unfold usesG; rw [metP_no h h1]; exact if_neg (fun e => h2 (hs.1 e))⟩))
theorem uses9_vals (rs : List (ByteArray × ByteArray)) (goal x : ByteArray) : uses9 rs goal x = 0 ∨ uses9 rs goal x = 1 ∨ uses9 rs goal x = 2 ∨ uses9 rs goal x = 9 := by
  unfold uses9
  rcases usesG_cases rs goal x with ⟨_, h⟩ | ⟨_, _, h⟩ | ⟨_, _, _, h⟩ | ⟨_, _, _, h⟩ <;> rw [h] <;> simp
theorem uses9_le {rs : List (ByteArray × ByteArray)} {goal x : ByteArray} (hx : Key12 x) (hg : Key12 goal) (k : Nat) (hk : k ≤ 2) : uses9 rs goal x ≤ k ↔ Within rs k x goal := by
  unfold uses9
  have back : x ∉ madeL rs goal → goal ∉ madeL rs x := fun h h1 => h (made_symm hx h1)
  have mid : (∃ m, m ∈ madeL rs x ∧ goal ∈ madeL rs m) ↔ ∃ m, m ∈ madeL rs x ∧ m ∈ madeL rs goal := by
    constructor
    · rintro ⟨m, h1, h2⟩; exact ⟨m, h1, made_symm (made_key h1) h2⟩
    · rintro ⟨m, h1, h2⟩; exact ⟨m, h1, made_symm hg h2⟩
  rcases usesG_cases rs goal x with ⟨h1, h⟩ | ⟨h1, h2, h⟩ | ⟨h1, h2, ⟨m, h3, h4⟩, h⟩ | ⟨h1, h2, h3, h⟩ <;> rw [h]
  · exact ⟨fun _ => .inl h1, fun _ => Nat.zero_le _⟩
  · refine ⟨fun e => .inr (.inl ⟨e, made_symm hg h2⟩), ?_⟩
    rintro (e | ⟨e, _⟩ | ⟨e, _⟩)
    · exact absurd e h1
    · exact e
    · show 1 ≤ k; omega
  · refine ⟨fun e => .inr (.inr ⟨e, mid.2 ⟨m, h3, ?_⟩⟩), ?_⟩
    · rcases h4 with rfl | h4
      · exact absurd h3 (back h2)
      · exact h4
    · rintro (e | ⟨e, e2⟩ | ⟨e, _⟩)
      · exact absurd e h1
      · exact absurd e2 (back h2)
      · exact e
  · refine ⟨fun e => ?_, ?_⟩
    · have : (9 : Nat) ≤ k := e
      omega
    · rintro (e | ⟨e, e2⟩ | ⟨e, e2⟩)
      · exact absurd e h1
      · exact absurd e2 (back h2)
      · obtain ⟨m, e3, e4⟩ := mid.1 e2
        exact absurd ⟨m, e3, .inr e4⟩ h3

theorem uses9_symm {rs : List (ByteArray × ByteArray)} {x y : ByteArray} (hx : Key12 x) (hy : Key12 y) : uses9 rs y x = uses9 rs x y := by
  have h : ∀ k, k ≤ 2 → (uses9 rs y x ≤ k ↔ uses9 rs x y ≤ k) := fun k hk => by
    rw [uses9_le hx hy k hk, uses9_le hy hx k hk]
    exact ⟨fun h => h.symm hx, fun h => h.symm hy⟩
  have h0 := h 0 (by omega)
  have h1 := h 1 (by omega)
  have h2 := h 2 (by omega)
  rcases uses9_vals rs y x with e | e | e | e <;> rcases uses9_vals rs x y with f | f | f | f <;> omega
theorem uses9_zero {rs : List (ByteArray × ByteArray)} {x y : ByteArray} : uses9 rs y x = 0 ↔ x = y := by
  unfold uses9
  rcases usesG_cases rs y x with ⟨h1, h⟩ | ⟨h1, h2, h⟩ | ⟨h1, h2, _, h⟩ | ⟨h1, h2, h3, h⟩ <;> rw [h] <;> simp [h1]
theorem uses9_by {rs : List (ByteArray × ByteArray)} {x y z : ByteArray} (hx : Key12 x) (hy : Key12 y) (hz : Key12 z) (h : uses9 rs y x + uses9 rs z y ≤ 2) : uses9 rs z x ≤ uses9 rs y x + uses9 rs z y := by
  rw [uses9_le hx hz _ h]
  exact Within.trans h ((uses9_le hx hy _ (by omega)).1 (Nat.le_refl _)) ((uses9_le hy hz _ (by omega)).1 (Nat.le_refl _))
theorem uses9_more {rs qs : List (ByteArray × ByteArray)} (hq : ∀ r, r ∈ rs → r ∈ qs) {x y : ByteArray} (hx : Key12 x) (hy : Key12 y) : uses9 qs y x ≤ uses9 rs y x := by
  by_cases h : uses9 rs y x ≤ 2
  · rw [uses9_le hx hy _ h]
    exact ((uses9_le hx hy _ h).1 (Nat.le_refl _)).mono hq
  · rcases uses9_vals rs y x with e | e | e | e <;> rcases uses9_vals qs y x with f | f | f | f <;> omega

/-- The verdict on so many uses. -/
def verdict9 (n : Nat) : Int := if n = 0 then 1 else if n ≤ 2 then 3 else 2
theorem verdict9_mono {m n : Nat} (h : m ≤ n) (hz : m = 0 ↔ n = 0) : verdict9 n = 2 ∨ verdict9 m = verdict9 n := by
  unfold verdict9
  by_cases h0 : n = 0
  · exact .inr (by rw [if_pos h0, if_pos (hz.2 h0)])
  · rw [if_neg h0, if_neg (fun e => h0 (hz.1 e))]
    by_cases h1 : n ≤ 2
    · exact .inr (by rw [if_pos h1, if_pos (by omega)])
    · exact .inl (by rw [if_neg h1])

/-! ### Each step of a chain finds a string -/

theorem minStr_mem : ∀ (l : List ByteArray), l ≠ [] → minStr l ∈ l := by
  have hf : ∀ (t : List ByteArray) (x : ByteArray), t.foldl (fun m y => if Lib.compareBytes y.data.toList m.data.toList < 0 then y else m) x = x ∨ t.foldl (fun m y => if Lib.compareBytes y.data.toList m.data.toList < 0 then y else m) x ∈ t := by
    intro t
    induction t with
    | nil => intro x; exact .inl rfl
    | cons a t ih =>
      intro x
      rw [List.foldl_cons]
      rcases ih (if Lib.compareBytes a.data.toList x.data.toList < 0 then a else x) with h | h
      · rw [h]
        split
        · exact .inr (by simp)
        · exact .inl rfl
      · exact .inr (by simp [h])
  intro l hl
  cases l with
  | nil => exact absurd rfl hl
  | cons x t =>
    show List.foldl _ x t ∈ _
    rcases hf t x with h | h
    · rw [h]; simp
    · exact List.mem_cons_of_mem _ h
theorem next_facts {rs : List (ByteArray × ByteArray)} {goal x : ByteArray} (n : Nat) (h : awayL rs goal n (madeL rs x) ≠ []) : nextG rs goal x n ∈ madeL rs x ∧ metP rs goal (nextG rs goal x n) = some n := by
  have hm : nextG rs goal x n ∈ awayL rs goal n (madeL rs x) := minStr_mem _ h
  unfold awayL at hm
  rw [List.mem_filter] at hm
  exact ⟨hm.1, by simpa using hm.2⟩
theorem away_some {rs : List (ByteArray × ByteArray)} {goal x : ByteArray} (hx : Key12 x) (hg : Key12 goal) (n : Nat) (h : usesG rs goal x = some (n + 1)) : awayL rs goal n (madeL rs x) ≠ [] ∧ n ≤ 1 := by
  rcases usesG_cases rs goal x with ⟨h1, e⟩ | ⟨h1, h2, e⟩ | ⟨h1, h2, ⟨m, h3, h4⟩, e⟩ | ⟨h1, h2, h3, e⟩ <;> rw [e] at h <;> first | (injection h with h; done) | (injection h with h) | (exact absurd h (by simp))
  · omega
  · obtain rfl : n = 0 := by omega
    refine ⟨fun he => ?_, by omega⟩
    have : goal ∈ awayL rs goal 0 (madeL rs x) := by
      unfold awayL
      rw [List.mem_filter]
      exact ⟨made_symm hg h2, by rw [metP_zero rfl]; rfl⟩
    rw [he] at this
    cases this
  · obtain rfl : n = 1 := by omega
    refine ⟨fun he => ?_, by omega⟩
    have hmg : m ≠ goal := fun e => h2 (by rw [← e]; exact made_symm hx h3)
    have : m ∈ awayL rs goal 1 (madeL rs x) := by
      unfold awayL
      rw [List.mem_filter]
      exact ⟨h3, by rw [metP_one hmg (h4.resolve_left hmg)]; rfl⟩
    rw [he] at this
    cases this
theorem steps_ok {rs : List (ByteArray × ByteArray)} {goal : ByteArray} (hg : Key12 goal) : ∀ (u : Nat) (x : ByteArray), Key12 x → usesG rs goal x = some u → stepsOk rs goal u x = true
  | 0, _, _, _ => rfl
  | n + 1, x, hx, h => by
    obtain ⟨h1, h2⟩ := away_some hx hg n h
    obtain ⟨h3, h4⟩ := next_facts n h1
    have h5 := made_key h3
    have h6 : usesG rs goal (nextG rs goal x n) = some n := by unfold usesG; rw [h4]
    have h7 := steps_ok hg n _ h5 h6
    unfold stepsOk
    simp only [Bool.and_eq_true, decide_eq_true_eq, Bool.not_eq_true', List.isEmpty_eq_false_iff]
    exact ⟨⟨⟨h1, h5.2⟩, h2⟩, h7⟩
/-- The steps of a chain: each is made of the one before by one use, and the last one is the end. -/
theorem steps_made {rs : List (ByteArray × ByteArray)} {goal : ByteArray} (hg : Key12 goal) : ∀ (u : Nat) (x : ByteArray), Key12 x → usesG rs goal x = some u →
    (∀ j (h : j < (stepsG rs goal u x).length), (x :: stepsG rs goal u x)[j + 1]'(by simpa using h) ∈ madeL rs ((x :: stepsG rs goal u x)[j]'(by simp; omega)) ∧ Key12 ((x :: stepsG rs goal u x)[j]'(by simp; omega))) ∧ (x :: stepsG rs goal u x).getLast (by simp) = goal
  | 0, x, hx, h => by
    refine ⟨fun j hj => absurd hj (Nat.not_lt_zero _), ?_⟩
    rcases usesG_cases rs goal x with ⟨h1, e⟩ | ⟨h1, h2, e⟩ | ⟨h1, h2, _, e⟩ | ⟨h1, h2, h3, e⟩
    · exact h1
    · rw [e] at h; exact absurd h (by simp)
    · rw [e] at h; exact absurd h (by simp)
    · rw [e] at h; exact absurd h (by simp)
  | n + 1, x, hx, h => by
    obtain ⟨h1, h2⟩ := away_some hx hg n h
    obtain ⟨h3, h4⟩ := next_facts n h1
    have h5 := made_key h3
    have h6 : usesG rs goal (nextG rs goal x n) = some n := by unfold usesG; rw [h4]
    obtain ⟨k1, k2⟩ := steps_made hg n _ h5 h6
    refine ⟨fun j hj => ?_, ?_⟩
    · cases j with
      | zero => exact ⟨h3, hx⟩
      | succ j => exact k1 j (by simpa [stepsG] using hj)
    · show (x :: nextG rs goal x n :: stepsG rs goal n (nextG rs goal x n)).getLast _ = goal
      rw [List.getLast_cons (by simp)]
      exact k2
end Go.Proofs.YtljlkhaolfihjaaGreatDoor
