/- Names of the other alphabet: each string stands for at most one. Nothing of a program. -/
import Derived.Test.YtljlkhaolfihjaaGreatDoorRefY
import Derived.Test.YtljlkhaolfihjaaGreatDoorDiceC
namespace Go.Proofs.YtljlkhaolfihjaaGreatDoor

/-- The letter that stands for two letters, and the one that stands for one. -/
def pairL (c d : UInt8) : Option UInt8 := if c = 99 ∧ d = 104 then some 67 else if c = 106 ∧ d = 117 then some 74 else if c = 115 ∧ d = 104 then some 88 else if c = 106 ∧ d = 97 then some 89 else none
def singleL (c : UInt8) : Option UInt8 := if Sp.stands (c - 32) = [c] then some (c - 32) else none
/-- The one name of the other alphabet. -/
def dec : List UInt8 → Option (List UInt8)
  | [] => some []
  | [c] => (singleL c).map fun L => [L]
  | c :: d :: t => match pairL c d with
    | some L => (dec t).map (L :: ·)
    | none => (singleL c).bind fun L => (dec (d :: t)).map (L :: ·)

/-- All names of the other alphabet, on lists. -/
def othersT : Nat → List UInt8 → List (List UInt8)
  | 0, _ => [[]]
  | n + 1, s => if s = [] then [[]] else (List.range 26).flatMap fun k => if lets k ≠ [] ∧ lets k <+: s then (othersT n (s.drop (lets k).length)).map (letterAt k :: ·) else []

def headK (c : UInt8) : List Nat := (List.range 26).filter fun k => (lets k).head? == some c
def headV (c : UInt8) : List Nat := if c = 99 then [2] else if c = 106 then [9, 24] else if c = 115 then [18, 23] else if Sp.stands (c - 32) = [c] then [(c - 32).toNat - 65] else []
theorem headK_eq (c : UInt8) : headK c = headV c := by
  have h : ∀ n : Fin 256, headK (UInt8.ofNat n.val) = headV (UInt8.ofNat n.val) := by decide +kernel
  have h2 := h ⟨c.toNat, c.toNat_lt⟩
  rwa [show UInt8.ofNat (⟨c.toNat, c.toNat_lt⟩ : Fin 256).val = c from UInt8.ofNat_toNat] at h2

theorem flatMap_filter {α β : Type} (l : List α) (p : α → Bool) (f : α → List β) (h : ∀ x, x ∈ l → p x = false → f x = []) : l.flatMap f = (l.filter p).flatMap f := by
  induction l with
  | nil => rfl
  | cons a t ih =>
    have h1 := ih fun x hx => h x (by simp [hx])
    cases hp : p a with
    | true => rw [List.filter_cons_of_pos hp, List.flatMap_cons, List.flatMap_cons, h1]
    | false => rw [List.filter_cons_of_neg (by simp [hp]), List.flatMap_cons, h a (by simp) hp, h1]; rfl

/-- Only letters that begin with the first letter count. -/
theorem othersT_head (n : Nat) (c : UInt8) (t : List UInt8) : othersT (n + 1) (c :: t) = (headV c).flatMap fun k => if lets k ≠ [] ∧ lets k <+: (c :: t) then (othersT n ((c :: t).drop (lets k).length)).map (letterAt k :: ·) else [] := by
  rw [← headK_eq]
  show (if (c :: t) = [] then _ else _) = _
  rw [if_neg (by simp)]
  refine flatMap_filter _ _ _ fun k _ hk => ?_
  rw [if_neg]
  rintro ⟨h1, h2⟩
  obtain ⟨r, hr⟩ := h2
  cases hl : lets k with
  | nil => exact h1 hl
  | cons x y => rw [hl] at hr hk; injection hr with hr _; simp [hr] at hk

theorem lets_val : lets 2 = [99, 104] ∧ lets 9 = [106, 117] ∧ lets 24 = [106, 97] ∧ lets 18 = [115] ∧ lets 23 = [115, 104] := by decide +kernel
theorem letter_val : letterAt 2 = 67 ∧ letterAt 9 = 74 ∧ letterAt 24 = 89 ∧ letterAt 18 = 83 ∧ letterAt 23 = 88 := by decide +kernel
theorem single_h : singleL 104 = none ∧ singleL 99 = none ∧ singleL 106 = none ∧ singleL 115 = some 83 := by decide +kernel
theorem single_facts (c L : UInt8) (h : singleL c = some L) : letterAt (L.toNat - 65) = L ∧ lets (L.toNat - 65) = [c] ∧ Sp.stands L = [c] ∧ L = c - 32 := by
  have h0 : ∀ n : Fin 256, ∀ L, singleL (UInt8.ofNat n.val) = some L → letterAt (L.toNat - 65) = L ∧ lets (L.toNat - 65) = [UInt8.ofNat n.val] := by
    intro n L h
    unfold singleL at h
    split at h
    · rename_i h1
      have h2 : ∀ n : Fin 256, Sp.stands (UInt8.ofNat n.val - 32) = [UInt8.ofNat n.val] → letterAt ((UInt8.ofNat n.val - 32).toNat - 65) = UInt8.ofNat n.val - 32 ∧ lets ((UInt8.ofNat n.val - 32).toNat - 65) = [UInt8.ofNat n.val] := by decide +kernel
      injection h with h
      subst h
      exact h2 n h1
    · cases h
  have h1 := h0 ⟨c.toNat, c.toNat_lt⟩ L
  rw [show UInt8.ofNat (⟨c.toNat, c.toNat_lt⟩ : Fin 256).val = c from UInt8.ofNat_toNat] at h1
  obtain ⟨h2, h3⟩ := h1 h
  unfold singleL at h
  split at h
  · rename_i h4; injection h with h; subst h; exact ⟨h2, h3, h4, rfl⟩
  · cases h

theorem pair_none {c d : UInt8} (h1 : c ≠ 99) (h2 : c ≠ 106) (h3 : ¬ (c = 115 ∧ d = 104)) : pairL c d = none := by
  unfold pairL
  rw [if_neg (fun h => h1 h.1), if_neg (fun h => h2 h.1), if_neg h3, if_neg (fun h => h2 h.1)]
theorem dec_two (c d : UInt8) (t : List UInt8) : dec (c :: d :: t) = match pairL c d with
    | some L => (dec t).map (L :: ·)
    | none => (singleL c).bind fun L => (dec (d :: t)).map (L :: ·) := by rw [dec]
theorem dec_one (c : UInt8) : dec [c] = (singleL c).map fun L => [L] := by rw [dec]
theorem dec_h (t : List UInt8) : dec (104 :: t) = none := by
  cases t with
  | nil => rw [dec_one, single_h.1]; rfl
  | cons d t => rw [dec_two, pair_none (by decide) (by decide) (fun h => absurd h.1 (by decide)), single_h.1]; rfl

theorem othersT_dec (n : Nat) : ∀ s : List UInt8, s.length ≤ n → othersT n s = (dec s).toList := by
  induction n with
  | zero =>
    intro s h
    have : s = [] := List.eq_nil_of_length_eq_zero (by omega)
    subst this
    rfl
  | succ n ih =>
    intro s h
    cases s with
    | nil => rfl
    | cons c t =>
      have ht : t.length ≤ n := by simpa using h
      have i0 := ih [] (Nat.zero_le _)
      rw [othersT_head]
      obtain ⟨v2, v9, v24, v18, v23⟩ := lets_val
      obtain ⟨u2, u9, u24, u18, u23⟩ := letter_val
      obtain ⟨s104, s99, s106, s115⟩ := single_h
      unfold headV
      by_cases c1 : c = 99
      · subst c1
        rw [if_pos rfl, List.flatMap_cons, List.flatMap_nil, List.append_nil, v2, u2]
        cases t with
        | nil => rw [if_neg (by decide), dec_one, s99]; rfl
        | cons d t =>
          rw [dec_two]
          by_cases hd : d = 104
          · subst hd
            rw [if_pos ⟨by decide, t, rfl⟩, show pairL 99 104 = some 67 from rfl]
            show (othersT n t).map _ = ((dec t).map _).toList
            rw [ih t (by simp at ht; omega), Option.toList_map]
          · rw [if_neg (by rintro ⟨_, r, hr⟩; injection hr with _ hr; injection hr with hr _; exact hd hr.symm)]
            have : pairL 99 d = none := by unfold pairL; simp [hd]
            rw [this, s99]; rfl
      · rw [if_neg c1]
        by_cases c2 : c = 106
        · subst c2
          rw [if_pos rfl, List.flatMap_cons, List.flatMap_cons, List.flatMap_nil, List.append_nil, v9, u9, v24, u24]
          cases t with
          | nil => rw [if_neg (by decide), if_neg (by decide), dec_one, s106]; rfl
          | cons d t =>
            rw [dec_two]
            have i1 := ih t (by simp at ht; omega)
            by_cases hd : d = 117
            · subst hd
              rw [if_pos ⟨by decide, t, rfl⟩, if_neg (by rintro ⟨_, r, hr⟩; injection hr with _ hr; injection hr with hr _; exact absurd hr (by decide)), List.append_nil, show pairL 106 117 = some 74 from rfl]
              show (othersT n t).map _ = ((dec t).map _).toList
              rw [i1, Option.toList_map]
            · rw [if_neg (by rintro ⟨_, r, hr⟩; injection hr with _ hr; injection hr with hr _; exact hd hr.symm), List.nil_append]
              by_cases hd2 : d = 97
              · subst hd2
                rw [if_pos ⟨by decide, t, rfl⟩, show pairL 106 97 = some 89 from rfl]
                show (othersT n t).map _ = ((dec t).map _).toList
                rw [i1, Option.toList_map]
              · rw [if_neg (by rintro ⟨_, r, hr⟩; injection hr with _ hr; injection hr with hr _; exact hd2 hr.symm)]
                have : pairL 106 d = none := by unfold pairL; simp [hd, hd2]
                rw [this, s106]; rfl
        · rw [if_neg c2]
          by_cases c3 : c = 115
          · subst c3
            rw [if_pos rfl, List.flatMap_cons, List.flatMap_cons, List.flatMap_nil, List.append_nil, v18, u18, v23, u23, if_pos ⟨by decide, t, rfl⟩]
            show (othersT n t).map _ ++ _ = _
            rw [ih t ht]
            cases t with
            | nil => rw [if_neg (by decide), dec_one, s115]; rfl
            | cons d t =>
              rw [dec_two]
              by_cases hd : d = 104
              · subst hd
                rw [dec_h, if_pos ⟨by decide, t, rfl⟩, show pairL 115 104 = some 88 from rfl]
                show [] ++ (othersT n t).map _ = ((dec t).map _).toList
                rw [ih t (by simp at ht; omega), Option.toList_map]; rfl
              · rw [if_neg (by rintro ⟨_, r, hr⟩; injection hr with _ hr; injection hr with hr _; exact hd hr.symm), List.append_nil, pair_none (by decide) (by decide) (fun h => hd h.2), s115]
                show _ = ((dec (d :: t)).map _).toList
                rw [Option.toList_map]
          · rw [if_neg c3]
            cases hs : singleL c with
            | some L =>
              obtain ⟨f1, f2, f3, f4⟩ := single_facts c L hs
              rw [if_pos (by rw [← f4]; exact f3), ← f4, List.flatMap_cons, List.flatMap_nil, List.append_nil, f1, f2, if_pos ⟨by simp, t, rfl⟩]
              show (othersT n t).map _ = _
              rw [ih t ht]
              cases t with
              | nil => rw [dec_one, hs]; rfl
              | cons d t =>
                rw [dec_two, pair_none c1 c2 (fun h => c3 h.1), hs]
                show _ = ((dec (d :: t)).map _).toList
                rw [Option.toList_map]
            | none =>
              rw [if_neg (by intro h; unfold singleL at hs; rw [if_pos h] at hs; cases hs), List.flatMap_nil]
              cases t with
              | nil => rw [dec_one, hs]; rfl
              | cons d t => rw [dec_two, pair_none c1 c2 (fun h => c3 h.1), hs]; rfl

theorem stands_kind (L : UInt8) (h : Sp.stands L ≠ []) : (∃ x, Sp.stands L = [x] ∧ singleL x = some L) ∨ (∃ x y, Sp.stands L = [x, y] ∧ pairL x y = some L) := by
  have h0 : ∀ n : Fin 256, Sp.stands (UInt8.ofNat n.val) ≠ [] → ((Sp.stands (UInt8.ofNat n.val)).length = 1 ∧ singleL ((Sp.stands (UInt8.ofNat n.val)).headD 0) = some (UInt8.ofNat n.val)) ∨
      ((Sp.stands (UInt8.ofNat n.val)).length = 2 ∧ pairL ((Sp.stands (UInt8.ofNat n.val)).headD 0) ((Sp.stands (UInt8.ofNat n.val)).getD 1 0) = some (UInt8.ofNat n.val)) := by decide +kernel
  have h1 := h0 ⟨L.toNat, L.toNat_lt⟩
  rw [show UInt8.ofNat (⟨L.toNat, L.toNat_lt⟩ : Fin 256).val = L from UInt8.ofNat_toNat] at h1
  rcases h1 h with ⟨h2, h3⟩ | ⟨h2, h3⟩
  · left
    match hs : Sp.stands L, h2 with
    | [x], _ => rw [hs] at h3; exact ⟨x, rfl, h3⟩
  · right
    match hs : Sp.stands L, h2 with
    | [x, y], _ => rw [hs] at h3; exact ⟨x, y, rfl, h3⟩

theorem stands_head (L : UInt8) : (Sp.stands L).head? ≠ some 104 := by
  have h0 : ∀ n : Fin 256, (Sp.stands (UInt8.ofNat n.val)).head? ≠ some 104 := by decide +kernel
  have h1 := h0 ⟨L.toNat, L.toNat_lt⟩
  rwa [show UInt8.ofNat (⟨L.toNat, L.toNat_lt⟩ : Fin 256).val = L from UInt8.ofNat_toNat] at h1
theorem flat_head (S : List UInt8) : (S.flatMap Sp.stands).head? ≠ some 104 := by
  induction S with
  | nil => simp
  | cons L S ih =>
    rw [List.flatMap_cons]
    have h := stands_head L
    cases hs : Sp.stands L with
    | nil => exact ih
    | cons x y => rw [hs] at h; simpa using h

/-- A name of the other alphabet is what its key is taken for. -/
theorem dec_flat (S : List UInt8) (h : ∀ c, c ∈ S → Sp.stands c ≠ []) : dec (S.flatMap Sp.stands) = some S := by
  induction S with
  | nil => rfl
  | cons L S ih =>
    have i1 := ih fun c hc => h c (by simp [hc])
    rw [List.flatMap_cons]
    rcases stands_kind L (h L (by simp)) with ⟨x, hx, hL⟩ | ⟨x, y, hx, hL⟩
    · rw [hx]
      have hh := flat_head S
      generalize S.flatMap Sp.stands = R at *
      cases R with
      | nil =>
        have : S = [] := (Option.some.inj i1).symm
        subst this
        show dec [x] = _
        rw [dec_one, hL]; rfl
      | cons d t =>
        show dec (x :: d :: t) = _
        have n1 : x ≠ 99 := by rintro rfl; rw [single_h.2.1] at hL; cases hL
        have n2 : x ≠ 106 := by rintro rfl; rw [single_h.2.2.1] at hL; cases hL
        rw [dec_two, pair_none n1 n2 (fun e => hh (by rw [e.2]; rfl)), hL]
        show (dec (d :: t)).map _ = _
        rw [i1]; rfl
    · rw [hx]
      show dec (x :: y :: _) = _
      rw [dec_two, hL]
      show (dec (S.flatMap Sp.stands)).map _ = _
      rw [i1]; rfl

theorem pair_facts (c d L : UInt8) (h : pairL c d = some L) : Sp.stands L = [c, d] := by
  unfold pairL at h
  split at h
  · rename_i e; obtain ⟨rfl, rfl⟩ := e; injection h with h; subst h; rfl
  · split at h
    · rename_i e; obtain ⟨rfl, rfl⟩ := e; injection h with h; subst h; rfl
    · split at h
      · rename_i e; obtain ⟨rfl, rfl⟩ := e; injection h with h; subst h; rfl
      · split at h
        · rename_i e; obtain ⟨rfl, rfl⟩ := e; injection h with h; subst h; rfl
        · cases h

/-- What a string is taken for has it as its key. -/
theorem dec_sound : ∀ (n : Nat) (s T : List UInt8), s.length ≤ n → dec s = some T → (∀ c, c ∈ T → Sp.stands c ≠ []) ∧ T.flatMap Sp.stands = s := by
  intro n
  induction n with
  | zero =>
    intro s T hn h
    have : s = [] := List.eq_nil_of_length_eq_zero (by omega)
    subst this
    have : T = [] := (Option.some.inj h).symm
    subst this
    exact ⟨by simp, rfl⟩
  | succ n ih =>
    intro s T hn h
    match s with
    | [] =>
      have : T = [] := (Option.some.inj h).symm
      subst this
      exact ⟨by simp, rfl⟩
    | [c] =>
      rw [dec_one] at h
      obtain ⟨L, hL, rfl⟩ := Option.map_eq_some_iff.1 h
      have hs := (single_facts c L hL).2.2.1
      exact ⟨by simp [hs], by simp [hs]⟩
    | c :: d :: t =>
      rw [dec_two] at h
      simp at hn
      cases hp : pairL c d with
      | some L =>
        rw [hp] at h
        obtain ⟨T', hT, rfl⟩ := Option.map_eq_some_iff.1 h
        obtain ⟨h1, h2⟩ := ih t T' (by omega) hT
        have hs := pair_facts c d L hp
        refine ⟨fun x hx => ?_, by rw [List.flatMap_cons, hs, h2]; rfl⟩
        rcases List.mem_cons.1 hx with rfl | hx
        · rw [hs]; simp
        · exact h1 x hx
      | none =>
        rw [hp] at h
        obtain ⟨L, hL, h⟩ := Option.bind_eq_some_iff.1 h
        obtain ⟨T', hT, rfl⟩ := Option.map_eq_some_iff.1 h
        obtain ⟨h1, h2⟩ := ih (d :: t) T' (by simp; omega) hT
        have hs := (single_facts c L hL).2.2.1
        refine ⟨fun x hx => ?_, by rw [List.flatMap_cons, hs, h2]; rfl⟩
        rcases List.mem_cons.1 hx with rfl | hx
        · rw [hs]; simp
        · exact h1 x hx

/-- The reference's list is this one. -/
theorem fits_iff (s : ByteArray) (k : Nat) : fitsAt s k = true ↔ lets k ≠ [] ∧ lets k <+: s.data.toList := by
  unfold fitsAt
  simp only [Bool.and_eq_true, decide_eq_true_eq, beq_iff_eq]
  refine and_congr_right fun _ => ?_
  have hsz : s.data.toList.length = s.size := by simp
  rw [ByteArray.toList_eq, List.prefix_iff_eq_take]
  constructor
  · rintro ⟨h1, h2⟩
    rw [← h2]
    simp
  · intro h
    have hle : (lets k).length ≤ s.size := by rw [← hsz]; have := congrArg List.length h; rw [List.length_take] at this; omega
    refine ⟨hle, ?_⟩
    conv => rhs; rw [h]
    simp

theorem othersL_T (n : Nat) : ∀ s : ByteArray, othersL n s = (othersT n s.data.toList).map fun l => ⟨l.toArray⟩ := by
  induction n with
  | zero => intro s; rfl
  | succ n ih =>
    intro s
    have hsz : s.data.toList.length = s.size := by simp
    show (if s.size = 0 then _ else _) = List.map _ (if s.data.toList = [] then _ else _)
    by_cases h0 : s.size = 0
    · rw [if_pos h0, if_pos (List.eq_nil_of_length_eq_zero (by omega))]; rfl
    · rw [if_neg h0, if_neg (fun h => h0 (by rw [← hsz, h]; rfl)), List.map_flatMap]
      congr 1
      funext k
      by_cases hf : fitsAt s k = true
      · rw [if_pos hf, if_pos ((fits_iff s k).1 hf), ih, List.map_map, List.map_map]
        have : (s.extract (lets k).length s.size).data.toList = s.data.toList.drop (lets k).length := by simp; rw [List.take_of_length_le (by simp)]
        rw [this]
        refine List.map_congr_left fun l _ => ?_
        show (⟨#[letterAt k]⟩ : ByteArray) ++ ⟨l.toArray⟩ = ⟨(letterAt k :: l).toArray⟩
        rw [show (#[letterAt k] : Array UInt8) = [letterAt k].toArray from rfl, mk_append]; rfl
      · rw [if_neg hf, if_neg (fun h => hf ((fits_iff s k).2 h))]; rfl

/-- The name of the other alphabet for a valid name. -/
theorem otherP_eq (s : ByteArray) (h : Sp.check s.data.toList = 0) : otherP s = match dec (Sp.key s.data.toList) with
    | some T => (⟨T.toArray⟩, 0)
    | none => (ByteArray.empty, 11) := by
  unfold otherP
  rw [if_pos h, othersL_T, othersT_dec 12]
  · show otherL (List.map _ (dec (Sp.key s.data.toList)).toList) = _
    cases dec (Sp.key s.data.toList) <;> rfl
  · show (Sp.key s.data.toList).toArray.toList.length ≤ 12
    have := check_zero h
    have hs := size_list s
    have := key_size (s := s) (by omega)
    simpa using this

theorem stands_upper (c : UInt8) (h : Sp.stands c ≠ []) : Sp.latin c = false := by
  have h0 : ∀ n : Fin 256, Sp.stands (UInt8.ofNat n.val) ≠ [] → Sp.latin (UInt8.ofNat n.val) = false := by decide +kernel
  have h1 := h0 ⟨c.toNat, c.toNat_lt⟩
  rw [show UInt8.ofNat (⟨c.toNat, c.toNat_lt⟩ : Fin 256).val = c from UInt8.ofNat_toNat] at h1
  exact h1 h

/-- A name in letters of the other alphabet. -/
def Oth (l : List UInt8) : Prop := ∀ c, c ∈ l → Sp.stands c ≠ []
theorem oth_key {l : List UInt8} (h : Oth l) : Sp.key l = l.flatMap Sp.stands := by
  unfold Sp.key
  rw [if_neg]
  cases l with
  | nil => simp
  | cons c t => simp [stands_upper c (h c (by simp))]
theorem oth_check {l : List UInt8} (h : Oth l) (h1 : 1 ≤ l.length) (h6 : l.length ≤ 6) : Sp.check l = 0 := by
  refine check_ok l h1 h6 fun hh => ?_
  have : Sp.other l = l.length := by
    unfold Sp.other
    rw [List.filter_eq_self.2 fun c hc => by have := h c hc; cases hs : Sp.stands c with | nil => exact absurd hs this | cons _ _ => rfl]
  omega
theorem lat_check {l : List UInt8} (h : ∀ c, c ∈ l → Sp.latin c = true) (h1 : 1 ≤ l.length) (h6 : l.length ≤ 6) : Sp.check l = 0 := by
  refine check_ok l h1 h6 fun hh => ?_
  have : Sp.own l = l.length := by
    unfold Sp.own
    rw [List.filter_eq_self.2 fun c hc => h c hc]
  omega
theorem lat_key {l : List UInt8} (h : ∀ c, c ∈ l → Sp.latin c = true) (h1 : 1 ≤ l.length) : Sp.key l = l ∧ lat l = true := by
  cases l with
  | nil => simp at h1
  | cons c t => exact ⟨by unfold Sp.key; rw [if_pos (by simp [h c (by simp)])], by simp [lat, h c (by simp)]⟩
theorem oth_lat {l : List UInt8} (h : Oth l) : lat l = false := by
  cases l with
  | nil => rfl
  | cons c t => simp [lat, stands_upper c (h c (by simp))]
theorem flat_long {l : List UInt8} (h : Oth l) : l.length ≤ (l.flatMap Sp.stands).length := by
  induction l with
  | nil => simp
  | cons c t ih =>
    have h1 := ih fun x hx => h x (by simp [hx])
    have h2 : 0 < (Sp.stands c).length := List.length_pos_iff.2 (h c (by simp))
    rw [List.flatMap_cons, List.length_append, List.length_cons]; omega

/-- What Other gives for a name of letters: an error, or a name of the other alphabet with the same key, which is its own. -/
theorem other_facts (s : ByteArray) (h1 : 1 ≤ s.size) (h6 : s.size ≤ 6) (hl : Letters s.data.toList) :
    Sp.check s.data.toList = 0 ∧ ((otherP s = (ByteArray.empty, 11) ∧ lat s.data.toList = true) ∨ ∃ o : ByteArray, otherP s = (o, 0) ∧ 1 ≤ o.size ∧ o.size ≤ 6 ∧ Sp.check o.data.toList = 0 ∧
      Sp.key o.data.toList = Sp.key s.data.toList ∧ otherP o = (o, 0) ∧ lat o.data.toList = false ∧ (lat s.data.toList = true ∨ o = s)) := by
  have hs := size_list s
  have back : ∀ T : List UInt8, Oth T → 1 ≤ T.length → T.length ≤ 6 → ∃ o : ByteArray, o = ⟨T.toArray⟩ ∧ 1 ≤ o.size ∧ o.size ≤ 6 ∧ Sp.check o.data.toList = 0 ∧ Sp.key o.data.toList = T.flatMap Sp.stands ∧ otherP o = (o, 0) ∧ lat o.data.toList = false := by
    intro T hT t1 t6
    have hc := oth_check hT t1 t6
    refine ⟨⟨T.toArray⟩, rfl, by show 1 ≤ T.toArray.size; simpa using t1, by show T.toArray.size ≤ 6; simpa using t6, hc, oth_key hT, ?_, oth_lat hT⟩
    rw [otherP_eq ⟨T.toArray⟩ hc]
    show (match dec (Sp.key T) with | some T => _ | none => _) = _
    rw [oth_key hT, dec_flat T hT]
  rcases hl with hl | hl
  · have hc := lat_check hl (by omega) (by omega)
    obtain ⟨hk, hlat⟩ := lat_key hl (by omega)
    refine ⟨hc, ?_⟩
    rw [otherP_eq s hc, hk]
    cases hd : dec s.data.toList with
    | none => exact .inl ⟨rfl, hlat⟩
    | some T =>
      obtain ⟨hT, hflat⟩ := dec_sound _ _ _ (Nat.le_refl _) hd
      have h2 := flat_long hT
      rw [hflat] at h2
      have t1 : 1 ≤ T.length := by
        cases T with
        | nil =>
          have h9 : 0 = s.data.toList.length := congrArg List.length hflat
          omega
        | cons _ _ => simp
      obtain ⟨o, rfl, a1, a2, a3, a4, a5, a6⟩ := back T hT t1 (by omega)
      exact .inr ⟨_, rfl, a1, a2, a3, by rw [a4, hflat], a5, a6, .inl hlat⟩
  · have hc := oth_check hl (by omega) (by omega)
    refine ⟨hc, .inr ?_⟩
    obtain ⟨o, ho, a1, a2, a3, a4, a5, a6⟩ := back s.data.toList hl (by omega) (by omega)
    have : o = s := by rw [ho]
    subst this
    exact ⟨o, a5, a1, a2, a3, rfl, a5, a6, .inr rfl⟩

/-- Two names of one alphabet with the same key are the same. -/
theorem key_inj {a b : ByteArray} (ha : Letters a.data.toList) (hb : Letters b.data.toList) (h1 : 1 ≤ a.size) (h2 : 1 ≤ b.size) (hk : Sp.key a.data.toList = Sp.key b.data.toList) (hl : lat a.data.toList = lat b.data.toList) : a = b := by
  have s1 := size_list a
  have s2 := size_list b
  have key : a.data.toList = b.data.toList := by
    rcases ha with ha | ha
    · obtain ⟨k1, l1⟩ := lat_key ha (by omega)
      rcases hb with hb | hb
      · obtain ⟨k2, l2⟩ := lat_key hb (by omega)
        rwa [k1, k2] at hk
      · rw [l1, oth_lat hb] at hl; cases hl
    · rcases hb with hb | hb
      · rw [oth_lat ha, (lat_key hb (by omega)).2] at hl; cases hl
      · rw [oth_key ha, oth_key hb] at hk
        have d1 := dec_flat _ ha
        rw [hk, dec_flat _ hb] at d1
        exact (Option.some.inj d1).symm
  exact ByteArray.ext (Array.toList_inj.1 key)
end Go.Proofs.YtljlkhaolfihjaaGreatDoor
