/- How many uses lie between two names, and the verdict on them. -/
import Derived.Test.YtljlkhaolfihjaaGreatDoorPgK
import Derived.Test.YtljlkhaolfihjaaGreatDoorSpecU
import Derived.Test.YtljlkhaolfihjaaGreatDoorSpecM
import Derived.Test.YtljlkhaolfihjaaGreatDoorSpecZ
import Derived.Test.YtljlkhaolfihjaaGreatDoorRefT
import Derived.Test.YtljlkhaolfihjaaGreatDoorPgZ
import Derived.Test.YtljlkhaolfihjaaGreatDoorPzC
namespace Go.Proofs.YtljlkhaolfihjaaGreatDoor
open Go.RowKit Go.Shelf

theorem usesG_le {rs : List (ByteArray × ByteArray)} {goal x : ByteArray} {u : Nat} (h : usesG rs goal x = some u) : u ≤ 2 := by
  rcases usesG_cases rs goal x with ⟨_, e⟩ | ⟨_, _, e⟩ | ⟨_, _, _, e⟩ | ⟨_, _, _, e⟩ <;> rw [e] at h
  · injection h with h; omega
  · injection h with h; omega
  · injection h with h; omega
  · cases h
theorem keyS_key12 {a : ByteArray} (h : Sp.check a.data.toList = 0) : Key12 (keyS a) := by
  have h1 : AllOk [a, a] := by
    intro s hs
    simp at hs
    subst hs
    exact h
  refine ⟨?_, keyS_le h1⟩
  have h3 := latP_flat h
  have h2 := check_size h
  have hne : Sp.key a.data.toList ≠ [] := by
    intro he
    have hl : a.data.toList.length = a.size := by simp
    have hz : ∀ c, c ∈ a.data.toList → latP c ≠ [] := by
      intro c hc hp
      have hv := valid_alpha h c hc
      unfold latP at hp
      split at hp
      · cases hp
      · rename_i hlat
        have h4 := (alpha_lat c).2.1
        rcases alphaN_ne a.data.toList with e | e
        · exact hlat ((alpha_lat c).1.1 (hv.trans e))
        · exact (h4.1 (hv.trans e)).2 hp
    rw [he] at h3
    cases hs : a.data.toList with
    | nil => rw [hs] at hl; simp at hl; omega
    | cons c t =>
      rw [hs, List.flatMap_cons] at h3
      exact hz c (by rw [hs]; simp) (List.append_eq_nil_iff.1 h3).1
  show 1 ≤ (Sp.key a.data.toList).toArray.size
  rw [List.size_toArray]
  exact List.length_pos_iff.2 hne

/-- The walk up to the number of uses. -/
def UsesAns (rs : List (ByteArray × ByteArray)) (a b : ByteArray) (w : World) (e : Ending) (w' : World) : Prop :=
  e = .returned (.tuple #[.int .i64 (((usesG rs (keyS b) (keyS a)).getD 0 : Nat) : Int), .int .i64 (if (usesG rs (keyS b) (keyS a)).isSome then 0 else 11)]) ∧ Below w.heap.size w w'

set_option maxRecDepth 100000 in
set_option maxHeartbeats 1600000 in
theorem Uses_ok (A : Option Addr) (nn c : Nat) (rs : List (ByteArray × ByteArray)) (a b : ByteArray) (w : World) (hn : nn = rs.length) (hf : RulesOk rs) (hv : AllOk [a, b]) (hx : Cells w A (ruleCells rs)) :
    Calls Tryz.prog 26 #[.slice A nn c, .string a, .string b] w (UsesAns rs a b w) := by
  have hk : (keyS a).size ≤ 12 := (keyS_key12 (hv a (by simp))).2
  have QB := Lib.hid (begin_ok A nn c rs a b w hn hf hv hx)
  have qu := (fun B m D W (h1 : Cells W A (ruleCells rs)) h2 h3 => pathUses_any A nn c B m rs (keyS b) (keyS a) D W hk hf.short hn (by rw [hn]; have := hf.1; omega) h1 h2 h3)
  have HX := Lib.hid hx
  unfold UsesAns
  obtain ⟨U, hU⟩ : ∃ U, usesG rs (keyS b) (keyS a) = U := ⟨_, rfl⟩
  rw [hU] at qu ⊢
  have QU := Lib.hid qu
  clear hn hf hv hx hk hU qu
  go_enter Tryz.func26, Tryz.ntmps26
  go_wp2_with fail
  refine QB.out.mono ?_
  rintro e w1 ⟨B, m, D, rfl, ho1, hM, hBl, hb1⟩
  have ho2 := World.ownsMap.alloc ho1 (.cells #[.slice A nn c, .map (some B)] 108)
  have hb2 := hb1.alloc (o := .cells #[.slice A nn c, .map (some B)] 108) hb1.size
  have HM := Lib.hid hM
  have HO := Lib.hid ho2
  have HX2 := Lib.hid (HX.out.below hb2)
  clear hM ho1 ho2 hb1 QB HX
  go_wp2_with fail
  generalize w1.alloc (.cells #[.slice A nn c, .map (some B)] 108) = w2 at *
  refine (QU.out B m D w2 HX2.out HO.out HM.out).mono ?_
  rintro e w3 ⟨rfl, hb3⟩
  have hb4 := hb2.trans (hb3.mono hb2.size)
  clear QU HX2 HO HM hb2 hb3
  cases U with
  | none =>
    go_wp2_with fail
    go_ret2
    exact ⟨ret_two (int_val rfl) (int_val rfl), hb4⟩
  | some u =>
    go_wp2_with fail
    go_ret2
    exact ⟨ret_two (int_val rfl) (int_val rfl), hb4⟩

def VerdictAns (rs : List (ByteArray × ByteArray)) (a b : ByteArray) (w : World) (e : Ending) (w' : World) : Prop :=
  e = .returned (.tuple #[.int .i64 (verdict9 (uses9 rs (keyS b) (keyS a))), .int .i64 0]) ∧ Below w.heap.size w w'
set_option maxRecDepth 100000 in
set_option maxHeartbeats 1600000 in
theorem Verdict_ok (A : Option Addr) (nn c : Nat) (rs : List (ByteArray × ByteArray)) (a b : ByteArray) (w : World) (hn : nn = rs.length) (hf : RulesOk rs) (hv : AllOk [a, b]) (hx : Cells w A (ruleCells rs)) :
    Calls Tryz.prog 28 #[.slice A nn c, .string a, .string b] w (VerdictAns rs a b w) := by
  have hk : (keyS a).size ≤ 12 := (keyS_key12 (hv a (by simp))).2
  have QB := Lib.hid (begin_ok A nn c rs a b w hn hf hv hx)
  have qu := (fun B m D W (h1 : Cells W A (ruleCells rs)) h2 h3 => pathUses_any A nn c B m rs (keyS b) (keyS a) D W hk hf.short hn (by rw [hn]; have := hf.1; omega) h1 h2 h3)
  have HX := Lib.hid hx
  have hl := (fun u (h : usesG rs (keyS b) (keyS a) = some u) => usesG_le h)
  unfold VerdictAns uses9
  obtain ⟨U, hU⟩ : ∃ U, usesG rs (keyS b) (keyS a) = U := ⟨_, rfl⟩
  rw [hU] at qu hl ⊢
  have QU := Lib.hid qu
  have HL := Lib.hid hl
  clear hn hf hv hx hk hU qu hl
  go_enter Tryz.func28, Tryz.ntmps28
  go_wp2_with fail
  refine QB.out.mono ?_
  rintro e w1 ⟨B, m, D, rfl, ho1, hM, hBl, hb1⟩
  have ho2 := World.ownsMap.alloc ho1 (.cells #[.slice A nn c, .map (some B)] 108)
  have hb2 := hb1.alloc (o := .cells #[.slice A nn c, .map (some B)] 108) hb1.size
  have HM := Lib.hid hM
  have HO := Lib.hid ho2
  have HX2 := Lib.hid (HX.out.below hb2)
  clear hM ho1 ho2 hb1 QB HX
  go_wp2_with fail
  generalize w1.alloc (.cells #[.slice A nn c, .map (some B)] 108) = w2 at *
  refine (QU.out B m D w2 HX2.out HO.out HM.out).mono ?_
  rintro e w3 ⟨rfl, hb3⟩
  have hb4 := hb2.trans (hb3.mono hb2.size)
  clear QU HX2 HO HM hb2 hb3
  cases U with
  | none =>
    go_wp2_with fail
    go_ret2
    exact ⟨ret_two (int_val rfl) (int_val rfl), hb4⟩
  | some u =>
    have hu := HL.out u rfl
    have h3 : u = 0 ∨ u = 1 ∨ u = 2 := by omega
    clear hu HL
    rcases h3 with rfl | rfl | rfl
    all_goals
      go_wp2_with fail
      go_ret2
      exact ⟨ret_two (int_val rfl) (int_val rfl), hb4⟩

/-! ### The law's own word for the uses -/

def Uses9Ans (rs : List (ByteArray × ByteArray)) (a b : ByteArray) (w : World) (e : Ending) (w' : World) : Prop :=
  e = .returned (.tuple #[.int .i64 (uses9 rs (keyS b) (keyS a) : Nat), .bool true]) ∧ Below w.heap.size w w'
/-- Rules that dice made. -/
theorem made_rules {rs : List (ByteArray × ByteArray)} (hl : rs.length ≤ 4) (h : ∀ r, r ∈ rs → r.1 ∈ froms ∧ r.2 ∈ tos) : RulesOk rs := by
  refine ⟨hl, fun r hr => ?_⟩
  have hall : ∀ x ∈ froms, ∀ y ∈ tos, (1 ≤ x.size ∧ x.size ≤ 2) ∧ y.size ≤ 2 ∧ x ≠ y ∧ (x.data.toList ++ y.data.toList).all (fun b => decide (97 ≤ b.toNat ∧ b.toNat ≤ 122)) = true := by decide +kernel
  obtain ⟨h1, h2⟩ := h r hr
  obtain ⟨a1, a2, a3, a4⟩ := hall _ h1 _ h2
  refine ⟨a1, a2, a3, fun b hb => ?_⟩
  have := List.all_eq_true.1 a4 b hb
  simpa using this
end Go.Proofs.YtljlkhaolfihjaaGreatDoor

/- The reference's chains are the program's. Nothing of the program's code. -/
namespace Go.Proofs.YtljlkhaolfihjaaGreatDoor

/-- Rules whose strings are short. -/
def Short20 (rs : List (ByteArray × ByteArray)) : Prop := ∀ r, r ∈ rs → r.1.size ≤ 1000 ∧ r.2.size ≤ 1000

def minStep (m y : ByteArray) : ByteArray := if Lib.compareBytes y.data.toList m.data.toList < 0 then y else m
theorem less_neg (y m : ByteArray) : Op.bytesLess y.toList m.toList = decide (Lib.compareBytes y.data.toList m.data.toList < 0) := by
  rw [ByteArray.toList_eq, ByteArray.toList_eq, less_cmp]
  rcases cmpB_vals y.data.toList m.data.toList with h | h | h <;> rw [h] <;> rfl

/-- The fold over all strings that a use makes: the least that is good. -/
theorem fold_some (s : ByteArray) (f : ByteArray → List ByteArray × Bool) (hf : ∀ x, (f x).2 = true → (f x).1[0]? = some x) : ∀ (L : List ByteArray) (m : ByteArray), (f m).2 = true →
    L.foldl (stepC s f) (s :: (f m).1, true) = (s :: (f ((L.filter fun x => (f x).2).foldl minStep m)).1, true)
  | [], m, hm => rfl
  | x :: t, m, hm => by
    rw [List.foldl_cons]
    have h1 : (((s :: (f m).1)[1]?).getD ByteArray.empty) = m := by
      show (((f m).1[0]?).getD ByteArray.empty) = m
      rw [hf m hm]; rfl
    have hst : stepC s f (s :: (f m).1, true) x = if ((f x).2 && Op.bytesLess x.toList m.toList) = true then (s :: (f x).1, true) else (s :: (f m).1, true) := by
      show (if ((f x).2 && (!true || Op.bytesLess x.toList (((s :: (f m).1)[1]?).getD ByteArray.empty).toList)) = true then _ else _) = _
      rw [h1]
      rfl
    rw [hst]
    cases hx : (f x).2 with
    | false =>
      rw [Bool.false_and, if_neg (by simp), List.filter_cons_of_neg (by simp [hx])]
      exact fold_some s f hf t m hm
    | true =>
      rw [Bool.true_and, less_neg, List.filter_cons_of_pos (p := fun x => (f x).2) hx, List.foldl_cons]
      by_cases hl : Lib.compareBytes x.data.toList m.data.toList < 0
      · rw [if_pos (decide_eq_true hl), show minStep m x = x from if_pos hl]
        exact fold_some s f hf t x hx
      · rw [if_neg (by simp only [decide_eq_true_eq]; exact hl), show minStep m x = m from if_neg hl]
        exact fold_some s f hf t m hm
theorem fold_min (s : ByteArray) (f : ByteArray → List ByteArray × Bool) (hf : ∀ x, (f x).2 = true → (f x).1[0]? = some x) : ∀ (L : List ByteArray),
    L.foldl (stepC s f) ([], false) = if (L.filter fun x => (f x).2) = [] then ([], false) else (s :: (f (minStr (L.filter fun x => (f x).2))).1, true)
  | [] => rfl
  | x :: t => by
    rw [List.foldl_cons]
    cases hx : (f x).2 with
    | false =>
      have hst : stepC s f ([], false) x = ([], false) := by
        show (if ((f x).2 && _) = true then _ else _) = _
        rw [hx, Bool.false_and, if_neg (by simp)]
      rw [hst, List.filter_cons_of_neg (by simp [hx])]
      exact fold_min s f hf t
    | true =>
      have hst : stepC s f ([], false) x = (s :: (f x).1, true) := by
        show (if ((f x).2 && (!false || _)) = true then _ else _) = _
        rw [hx, Bool.not_false, Bool.true_or, Bool.true_and, if_pos rfl]
      rw [hst, fold_some s f hf t x hx, List.filter_cons_of_pos (p := fun x => (f x).2) hx, if_neg (by simp)]
      rfl
theorem chainL_head (rs : List (ByteArray × ByteArray)) (t : ByteArray) : ∀ (u : Nat) (x : ByteArray), (chainL rs u x t).2 = true → (chainL rs u x t).1[0]? = some x
  | 0, x, _ => rfl
  | u + 1, x, h => by
    have e : chainL rs (u + 1) x t = if ((madeL rs x).filter fun y => (chainL rs u y t).2) = [] then ([], false) else (x :: (chainL rs u (minStr ((madeL rs x).filter fun y => (chainL rs u y t).2)) t).1, true) := fold_min x (fun y => chainL rs u y t) (fun y => chainL_head rs t u y) (madeL rs x)
    rw [e] at h ⊢
    split
    · rename_i h2; rw [if_pos h2] at h; cases h
    · rfl
theorem chainL_succ (rs : List (ByteArray × ByteArray)) (u : Nat) (x t : ByteArray) : chainL rs (u + 1) x t = if ((madeL rs x).filter fun y => (chainL rs u y t).2) = [] then ([], false) else (x :: (chainL rs u (minStr ((madeL rs x).filter fun y => (chainL rs u y t).2)) t).1, true) :=
  fold_min x (fun y => chainL rs u y t) (fun y => chainL_head rs t u y) (madeL rs x)

theorem good_zero (rs : List (ByteArray × ByteArray)) (g m : ByteArray) : (chainL rs 0 m g).2 = (metP rs g m == some 0) := by
  show (m.toList == g.toList) = _
  by_cases h : m = g
  · rw [metP_zero h, h]; simp
  · have h1 : (m.toList == g.toList) = false := by
      rw [beq_eq_false_iff_ne]
      exact fun e => h (bytes_inj e)
    rw [h1]
    by_cases h2 : m ∈ madeL rs g
    · rw [metP_one h h2]; rfl
    · rw [metP_no h h2]; rfl
theorem chain_one (rs : List (ByteArray × ByteArray)) (g x : ByteArray) : chainL rs 1 x g = if awayL rs g 0 (madeL rs x) = [] then ([], false) else ([x, nextG rs g x 0], true) := by
  have e : ((madeL rs x).filter fun y => (chainL rs 0 y g).2) = awayL rs g 0 (madeL rs x) := by
    unfold awayL
    exact List.filter_congr fun y _ => good_zero rs g y
  rw [chainL_succ, e]
  rfl
theorem away_zero {rs : List (ByteArray × ByteArray)} {g x : ByteArray} : awayL rs g 0 (madeL rs x) = [] ↔ g ∉ madeL rs x := by
  unfold awayL
  rw [List.filter_eq_nil_iff]
  constructor
  · intro h hg
    have := h g hg
    rw [metP_zero rfl] at this
    exact this rfl
  · intro h y hy e
    have e2 : metP rs g y = some 0 := by simpa using e
    by_cases h1 : y = g
    · exact h (h1 ▸ hy)
    · by_cases h2 : y ∈ madeL rs g
      · rw [metP_one h1 h2] at e2; cases e2
      · rw [metP_no h1 h2] at e2; cases e2
theorem good_one {rs : List (ByteArray × ByteArray)} {g m : ByteArray} (hm : Key12 m) (hg : Key12 g) (hne : m ≠ g) : (chainL rs 1 m g).2 = (metP rs g m == some 1) := by
  rw [chain_one]
  by_cases h : g ∈ madeL rs m
  · rw [if_neg (fun e => away_zero.1 e h), metP_one hne (made_symm hm h)]; rfl
  · rw [if_pos (away_zero.2 h), metP_no hne (fun e => h (made_symm hg e))]; rfl

theorem chain_eq (rs : List (ByteArray × ByteArray)) {x g : ByteArray} (hx : Key12 x) (hg : Key12 g) : fromC rs x g 3 0 = chainG rs x g := by
  have e0 : fromC rs x g 3 0 = if (chainL rs 0 x g).2 = true then ((chainL rs 0 x g).1, 0) else if (chainL rs 1 x g).2 = true then ((chainL rs 1 x g).1, 0) else if (chainL rs 2 x g).2 = true then ((chainL rs 2 x g).1, 0) else ([], 11) := rfl
  rw [e0, good_zero]
  have hno1 : x ∉ madeL rs g → g ∉ madeL rs x := fun h h1 => h (made_symm hx h1)
  have hf2 : x ∉ madeL rs g → ((madeL rs x).filter fun y => (chainL rs 1 y g).2) = awayL rs g 1 (madeL rs x) := fun h => by
    unfold awayL
    refine List.filter_congr fun y hy => good_one (made_key hy) hg fun e => hno1 h (e ▸ hy)
  rcases usesG_cases rs g x with ⟨h1, h⟩ | ⟨h1, h2, h⟩ | ⟨h1, h2, h3, h⟩ | ⟨h1, h2, h3, h⟩
  · unfold chainG
    rw [h, metP_zero h1]
    rfl
  · obtain ⟨hne, _⟩ := away_some hx hg 0 h
    unfold chainG
    rw [h, metP_one h1 h2, if_neg (by decide), chain_one, if_neg hne]
    rfl
  · obtain ⟨hne, _⟩ := away_some hx hg 1 h
    obtain ⟨n1, n2⟩ := next_facts 1 hne
    have hy := made_key n1
    have hu : usesG rs g (nextG rs g x 1) = some 1 := by unfold usesG; rw [n2]
    obtain ⟨hne2, _⟩ := away_some hy hg 0 hu
    have ec : chainL rs 2 x g = (x :: [nextG rs g x 1, nextG rs g (nextG rs g x 1) 0], true) := by
      rw [chainL_succ, hf2 h2, if_neg hne]
      show (x :: (chainL rs 1 (nextG rs g x 1) g).1, true) = _
      rw [chain_one, if_neg hne2]
    unfold chainG
    rw [h, metP_no h1 h2, if_neg (by decide), chain_one, if_pos (away_zero.2 (hno1 h2)), if_neg (by simp), ec, if_pos rfl]
    rfl
  · have he : awayL rs g 1 (madeL rs x) = [] := by
      unfold awayL
      rw [List.filter_eq_nil_iff]
      intro y hy e
      have e2 : metP rs g y = some 1 := by simpa using e
      have h4 : (metP rs g y).isSome = true := by rw [e2]; rfl
      exact h3 ⟨y, hy, metP_some.1 h4⟩
    unfold chainG
    rw [h, metP_no h1 h2, if_neg (by decide), chain_one, if_pos (away_zero.2 (hno1 h2)), if_neg (by simp), chainL_succ, hf2 h2, if_pos he, if_neg (by simp)]

theorem stepsG_len (rs : List (ByteArray × ByteArray)) (g : ByteArray) : ∀ (n : Nat) (x : ByteArray), (stepsG rs g n x).length = n
  | 0, _ => rfl
  | n + 1, x => by
    show (stepsG rs g n _).length + 1 = n + 1
    rw [stepsG_len rs g n]
/-- The uses of two names, and the error. -/
def usesA (rs : List (ByteArray × ByteArray)) (a b : ByteArray) : Int × Int :=
  if usesErr rs a.data.toList b.data.toList = 0 then (match usesG rs (keyS b) (keyS a) with | none => (0, 11) | some n => ((n : Int), 0)) else (0, usesErr rs a.data.toList b.data.toList)
theorem pair_zero {rs : List (ByteArray × ByteArray)} {a b : ByteArray} (h : usesErr rs a.data.toList b.data.toList = 0) : rulesErr rs = 0 ∧ Sp.check a.data.toList = 0 ∧ Sp.check b.data.toList = 0 := by
  unfold usesErr at h
  split at h
  · rename_i h1
    unfold pairErr at h
    split at h
    · rename_i h2; exact ⟨h1, h2, h⟩
    · rename_i h2; exact absurd h h2
  · rename_i h1; exact absurd h h1
theorem chainP_eq (rs : List (ByteArray × ByteArray)) (a b : ByteArray) : chainP rs a b = if usesErr rs a.data.toList b.data.toList = 0 then chainG rs (keyS a) (keyS b) else ([], usesErr rs a.data.toList b.data.toList) := by
  unfold chainP
  by_cases h : usesErr rs a.data.toList b.data.toList = 0
  · obtain ⟨_, h1, h2⟩ := pair_zero h
    rw [if_pos h, if_pos h, chain_eq rs (keyS_key12 h1) (keyS_key12 h2)]
  · rw [if_neg h, if_neg h]
theorem usesP_eq (rs : List (ByteArray × ByteArray)) (a b : ByteArray) : usesP rs a b = usesA rs a b := by
  unfold usesP usesA
  rw [chainP_eq]
  by_cases h : usesErr rs a.data.toList b.data.toList = 0
  · rw [if_pos h, if_pos h]
    unfold chainG
    cases hu : usesG rs (keyS b) (keyS a) with
    | none => rfl
    | some n =>
      show (if (0 : Int) = 0 then ((((keyS a :: stepsG rs (keyS b) n (keyS a)).length : Nat) : Int) - 1, (0 : Int)) else _) = ((n : Int), 0)
      rw [if_pos rfl, List.length_cons, stepsG_len]
      congr 1
      omega
  · rw [if_neg h, if_neg h, if_neg h]
theorem check_eleven (l : List UInt8) : Sp.check l ≠ 11 := by
  by_cases h : Sp.check l = 0
  · rw [h]; decide
  · rcases check_cases l h with ⟨_, e⟩ | ⟨_, e⟩ | ⟨_, _, e⟩ <;> rw [e] <;> decide
theorem usesErr_eleven (rs : List (ByteArray × ByteArray)) (a b : ByteArray) : usesErr rs a.data.toList b.data.toList ≠ 11 := by
  unfold usesErr pairErr
  split
  · split
    · exact check_eleven _
    · exact check_eleven _
  · unfold rulesErr
    split
    · decide
    · split <;> decide
theorem verdictP_eq (rs : List (ByteArray × ByteArray)) (a b : ByteArray) : verdictP rs a b = if usesErr rs a.data.toList b.data.toList = 0 then (verdict9 (uses9 rs (keyS b) (keyS a)), 0) else (0, usesErr rs a.data.toList b.data.toList) := by
  unfold verdictP
  rw [usesP_eq]
  unfold usesA
  by_cases h : usesErr rs a.data.toList b.data.toList = 0
  · rw [if_pos h, if_pos h]
    unfold uses9
    cases hu : usesG rs (keyS b) (keyS a) with
    | none => rfl
    | some n =>
      have := usesG_le hu
      have h3 : n = 0 ∨ n = 1 ∨ n = 2 := by omega
      rcases h3 with rfl | rfl | rfl <;> rfl
  · rw [if_neg h, if_neg h]
    have h11 := usesErr_eleven rs a b
    generalize usesErr rs a.data.toList b.data.toList = E at *
    show (if E = 11 then ((2 : Int), (0 : Int)) else (0, E)) = if E = 0 then _ else ((0 : Int), E)
    rw [if_neg h11, if_neg h]

/-! ### The names that are near -/

theorem usesG_symm (rs : List (ByteArray × ByteArray)) {x y : ByteArray} (hx : Key12 x) (hy : Key12 y) : usesG rs y x = usesG rs x y := by
  have h := uses9_symm (rs := rs) hx hy
  unfold uses9 at h
  have key : ∀ u v : Option Nat, (∀ n, u = some n → n ≤ 2) → (∀ n, v = some n → n ≤ 2) → u.getD 9 = v.getD 9 → u = v := by
    intro u v hu hv e
    cases u with
    | none =>
      cases v with
      | none => rfl
      | some n => have := hv n rfl; have e2 : (9 : Nat) = n := e; omega
    | some m =>
      have := hu m rfl
      cases v with
      | none => have e2 : m = (9 : Nat) := e; omega
      | some n => have e2 : m = n := e; rw [e2]
  exact key _ _ (fun n h => usesG_le h) (fun n h => usesG_le h) h
theorem nearFrom_eq (rs : List (ByteArray × ByteArray)) (m : ByteArray) (u : Nat) (hr : rulesErr rs = 0) (hm : Sp.check m.data.toList = 0) (ss : List ByteArray) (hs : AllOk ss) : ∀ (d k : Nat), ss.length - k = d → k ≤ ss.length →
    ((withU (ss.map fun x => usesG rs (keyS m) (keyS x)) u k).map fun i : Nat => (i : Int)) ++ nearFrom rs m u k (ss.drop k) = (withU (ss.map fun x => usesG rs (keyS m) (keyS x)) u ss.length).map fun i : Nat => (i : Int)
  | 0, k, hd, hk => by
    have e : k = ss.length := by omega
    rw [e, List.drop_eq_nil_of_le (Nat.le_refl _)]
    show _ ++ [] = _
    rw [List.append_nil]
  | d + 1, k, hd, hk => by
    have hkl : k < ss.length := by omega
    have hsk := hs ss[k] (List.getElem_mem hkl)
    have hue : usesErr rs m.data.toList ss[k].data.toList = 0 := by
      unfold usesErr pairErr
      rw [if_pos hr, if_pos hm, hsk]
    have hua : usesP rs m ss[k] = (match usesG rs (keyS m) (keyS ss[k]) with | none => (0, 11) | some n => ((n : Int), 0)) := by
      rw [usesP_eq]
      unfold usesA
      rw [if_pos hue, usesG_symm rs (keyS_key12 hm) (keyS_key12 hsk)]
    have hat : (ss.map fun x => usesG rs (keyS m) (keyS x)).getD k none = usesG rs (keyS m) (keyS ss[k]) := by
      rw [List.getD_eq_getElem?_getD, List.getElem?_map, List.getElem?_eq_getElem hkl]; rfl
    have hcond : ((usesP rs m ss[k]).2 = 0 ∧ (usesP rs m ss[k]).1 = (u : Int)) ↔ usesG rs (keyS m) (keyS ss[k]) = some u := by
      rw [hua]
      cases usesG rs (keyS m) (keyS ss[k]) with
      | none => simp
      | some n => simp; omega
    have ih := nearFrom_eq rs m u hr hm ss hs d (k + 1) (by omega) (by omega)
    rw [nearFrom_drop rs m u ss k hkl, ← ih, withU_step, hat, List.map_append, List.append_assoc]
    congr 2
    by_cases h : usesG rs (keyS m) (keyS ss[k]) = some u
    · rw [if_pos h, if_pos (hcond.2 h)]; rfl
    · rw [if_neg h, if_neg (fun e => h (hcond.1 e))]; rfl
theorem nearL_eq (rs : List (ByteArray × ByteArray)) (m : ByteArray) (ss : List ByteArray) (h : nearErr rs m ss = 0) : nearL rs m ss = (nearS (ss.map fun x => usesG rs (keyS m) (keyS x))).map fun i : Nat => (i : Int) := by
  have h0 := h
  unfold nearErr at h
  split at h
  · rename_i hr
    split at h
    · rename_i hm
      obtain ⟨l6, hs⟩ := list_facts h
      have hso := near_sorted (ss.map fun x => usesG rs (keyS m) (keyS x)) (by rw [List.length_map]; exact l6) (fun u hu k hk => by
        obtain ⟨x, _, rfl⟩ := List.mem_map.1 hu
        exact usesG_le hk)
      have hf := fun u => nearFrom_eq rs m u hr hm ss hs ss.length 0 (by omega) (Nat.zero_le _)
      rw [hso]
      unfold nearL nearO
      rw [if_pos h0]
      show (([] ++ nearFrom rs m 0 0 ss) ++ nearFrom rs m 1 0 ss) ++ nearFrom rs m 2 0 ss = _
      have h1 := hf 0
      have h2 := hf 1
      have h3 := hf 2
      rw [withU_nil, List.drop_zero] at h1 h2 h3
      rw [List.length_map, List.map_append, List.map_append, ← h1, ← h2, ← h3]
      simp
    · rename_i hm; exact absurd h hm
  · rename_i hr; exact absurd h hr
end Go.Proofs.YtljlkhaolfihjaaGreatDoor

/- Chains that there are, and none where there are too many uses. -/
namespace Go.Proofs.YtljlkhaolfihjaaGreatDoor
open Go.RowKit Go.Shelf

set_option maxRecDepth 100000 in
set_option maxHeartbeats 1600000 in
theorem Chain_none (A : Option Addr) (nn c : Nat) (rs : List (ByteArray × ByteArray)) (a b : ByteArray) (w : World) (hn : nn = rs.length) (hf : RulesOk rs) (hv : AllOk [a, b]) (hx : Cells w A (ruleCells rs)) (hU : usesG rs (keyS b) (keyS a) = none) :
    Calls Tryz.prog 39 #[.slice A nn c, .string a, .string b] w fun e w' => e = .returned (.tuple #[.slice none 0 0, .int .i64 11]) ∧ Below w.heap.size w w' := by
  have hk : (keyS a).size ≤ 12 := (keyS_key12 (hv a (by simp))).2
  have QB := Lib.hid (begin_ok A nn c rs a b w hn hf hv hx)
  have qu := (fun B m D W (h1 : Cells W A (ruleCells rs)) h2 h3 => pathUses_any A nn c B m rs (keyS b) (keyS a) D W hk hf.short hn (by rw [hn]; have := hf.1; omega) h1 h2 h3)
  have HX := Lib.hid hx
  rw [hU] at qu
  have QU := Lib.hid qu
  clear hn hf hv hx hk hU qu
  go_enter Tryz.func39, Tryz.ntmps39
  go_wp2_with fail
  refine QB.out.mono ?_
  rintro e w1 ⟨B, m, D, rfl, ho1, hM, hBl, hb1⟩
  have ho2 := World.ownsMap.alloc ho1 (.cells #[.slice A nn c, .map (some B)] 108)
  have hb2 := hb1.alloc (o := .cells #[.slice A nn c, .map (some B)] 108) hb1.size
  have HM := Lib.hid hM
  have HO := Lib.hid ho2
  have HX2 := Lib.hid (HX.out.below hb2)
  clear hM ho1 ho2 hb1 QB HX
  go_wp2_with fail
  generalize w1.alloc (.cells #[.slice A nn c, .map (some B)] 108) = w2 at *
  refine (QU.out B m D w2 HX2.out HO.out HM.out).mono ?_
  rintro e w3 ⟨rfl, hb3⟩
  have hb4 := hb2.trans (hb3.mono hb2.size)
  clear QU HX2 HO HM hb2 hb3
  go_wp2_with fail
  go_ret2
  exact ⟨rfl, hb4⟩

/-- The chain where there is one, from any world behind a first one. -/
theorem Chain_some {A : Option Addr} {nn c u : Nat} {rs : List (ByteArray × ByteArray)} {a b : ByteArray} {W0 : World} (hn : nn = rs.length) (hf : RulesOk rs) (hx : Cells W0 A (ruleCells rs)) (hv : AllOk [a, b])
    (hU : usesG rs (keyS b) (keyS a) = some u) (W : World) (hW : Below W0.heap.size W0 W) :
    Calls Tryz.prog 39 #[.slice A nn c, .string a, .string b] W fun e w' => ∃ o, e = .returned (.tuple #[o, .int .i64 0]) ∧ w'.ownsRow W.heap.size 9 1 o (u + 1) ((keyS a :: stepsG rs (keyS b) u (keyS a)).map Value.string) ∧ Below W.heap.size W w' := by
  have ka := keyS_key12 (hv a (by simp))
  have kb := keyS_key12 (hv b (by simp))
  refine (Chain_ok A nn c u rs a b W hn hf hv (hx.below hW) hU (usesG_le hU) ka.2 (steps_ok kb u _ ka hU)).mono ?_
  rintro e w' ⟨o, he, ho, hb⟩
  have ec : chainG rs (keyS a) (keyS b) = (keyS a :: stepsG rs (keyS b) u (keyS a), 0) := by unfold chainG; rw [hU]
  rw [ec] at he ho
  refine ⟨o, he, ?_, hb⟩
  have hl : (keyS a :: stepsG rs (keyS b) u (keyS a)).length = u + 1 := by rw [List.length_cons, steps_len]
  simp only [hl] at ho
  exact ho

/-- What a chain is made of. -/
theorem chain_facts {rs : List (ByteArray × ByteArray)} {x goal : ByteArray} {u : Nat} (hx : Key12 x) (hg : Key12 goal) (hU : usesG rs goal x = some u) (C : List ByteArray) (hC : C = x :: stepsG rs goal u x) :
    C.length = u + 1 ∧ (∀ h : 0 < C.length, C[0] = x) ∧ (∀ h : u < C.length, C[u] = goal) ∧ ∀ j (_h : j < u) (h1 : j < C.length) (h2 : j + 1 < C.length), C[j + 1] ∈ madeL rs C[j] ∧ C[j].size ≤ 12 := by
  obtain ⟨k1, k2⟩ := steps_made hg u x hx hU
  have hl : C.length = u + 1 := by rw [hC, List.length_cons, steps_len]
  subst hC
  refine ⟨hl, fun _ => rfl, fun h => ?_, fun j h h1 h2 => ?_⟩
  · rw [List.getLast_eq_getElem] at k2
    simp only [hl, Nat.add_sub_cancel] at k2
    exact k2
  · have := k1 j (by rw [steps_len]; exact h)
    exact ⟨this.1, this.2.2⟩
theorem made_len {rs : List (ByteArray × ByteArray)} {x : ByteArray} (hr : rs.length ≤ 4) (hx : x.size ≤ 12) : (madeL rs x).length ≤ 104 := by
  have h : ∀ rs : List (ByteArray × ByteArray), (madeL rs x).length ≤ 26 * rs.length := by
    intro rs
    induction rs with
    | nil => simp [madeL]
    | cons r t ih =>
      have e : madeL (r :: t) x = (repL x r.1 r.2 ++ repL x r.2 r.1) ++ madeL t x := rfl
      have h1 := repL_len x r.1 r.2 hx
      have h2 := repL_len x r.2 r.1 hx
      rw [e, List.length_append, List.length_append, List.length_cons]
      omega
  have := h rs
  omega
/-- Whether one of the first strings of a list is this one. -/
def metB (M : List ByteArray) (y : ByteArray) (k : Nat) : Bool := (M.take k).any fun m => m.toList == y.toList
theorem metB_succ (M : List ByteArray) (y : ByteArray) (k : Nat) (h : k < M.length) : metB M y (k + 1) = (metB M y k || (M[k].toList == y.toList)) := by
  unfold metB
  rw [List.take_succ_eq_append_getElem h, List.any_append]
  simp
theorem metB_all {M : List ByteArray} {y : ByteArray} (h : y ∈ M) (k : Nat) (hk : M.length ≤ k) : metB M y k = true := by
  unfold metB
  rw [List.take_of_length_le hk, List.any_eq_true]
  exact ⟨y, h, by simp⟩
end Go.Proofs.YtljlkhaolfihjaaGreatDoor
