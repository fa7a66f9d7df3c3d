/- What the program's own functions of the layer of names give, as functions on lists and strings. Nothing of the program's code. -/
import Derived.Test.YtljlkhaolfihjaaGreatDoorSpecO
import Derived.Test.YtljlkhaolfihjaaGreatDoorRefL
import Derived.Sort.Defs
import Derived.Lib.Bytealg
import Derived.Lib.Small
namespace Go.Proofs.YtljlkhaolfihjaaGreatDoor

/-- The kind of a letter: 0 none, 1 a Latin one, 2 one of the other alphabet for one, 3 one for two. -/
def kindP (r : Int) : Int :=
  if 97 ≤ r ∧ r ≤ 122 then 1 else if r < 65 ∨ 90 < r then 0 else if r = 72 ∨ r = 81 ∨ r = 87 then 0 else if r = 67 ∨ r = 74 ∨ r = 88 ∨ r = 89 then 3 else 2
def alphaP (r : Int) : Int := if kindP r = 3 then 2 else kindP r
/-- The Latin letters for which a letter stands. -/
def latP (c : UInt8) : List UInt8 := if Sp.latin c then [c] else Sp.stands c

theorem byte_all {p : UInt8 → Prop} [DecidablePred p] (h : ∀ n : Fin 256, p (UInt8.ofNat n.val)) (c : UInt8) : p c := by
  have h2 := h ⟨c.toNat, c.toNat_lt⟩
  rwa [show UInt8.ofNat (⟨c.toNat, c.toNat_lt⟩ : Fin 256).val = c from UInt8.ofNat_toNat] at h2

theorem alpha_lat (c : UInt8) : (alphaP c.toNat = 1 ↔ Sp.latin c = true) ∧ (alphaP c.toNat = 2 ↔ Sp.latin c = false ∧ Sp.stands c ≠ []) ∧ (alphaP c.toNat = 0 ∨ alphaP c.toNat = 1 ∨ alphaP c.toNat = 2) := by
  have h : ∀ n : Fin 256, (alphaP (UInt8.ofNat n.val).toNat = 1 ↔ Sp.latin (UInt8.ofNat n.val) = true) ∧ (alphaP (UInt8.ofNat n.val).toNat = 2 ↔ Sp.latin (UInt8.ofNat n.val) = false ∧ Sp.stands (UInt8.ofNat n.val) ≠ []) ∧ (alphaP (UInt8.ofNat n.val).toNat = 0 ∨ alphaP (UInt8.ofNat n.val).toNat = 1 ∨ alphaP (UInt8.ofNat n.val).toNat = 2) := by decide +kernel
  exact byte_all (p := fun c => (alphaP c.toNat = 1 ↔ Sp.latin c = true) ∧ (alphaP c.toNat = 2 ↔ Sp.latin c = false ∧ Sp.stands c ≠ []) ∧ (alphaP c.toNat = 0 ∨ alphaP c.toNat = 1 ∨ alphaP c.toNat = 2)) h c

/-- The alphabet of a valid name. -/
def alphaN (l : List UInt8) : Int := if lat l then 1 else 2

/-- All letters of a valid name are of its alphabet. -/
theorem valid_alpha {l : List UInt8} (h : Sp.check l = 0) : ∀ c, c ∈ l → alphaP c.toNat = alphaN l := by
  unfold Sp.check at h
  split at h
  · exact absurd h (by decide)
  · split at h
    · exact absurd h (by decide)
    · split at h
      · exact absurd h (by decide)
      · rename_i h0 _ h2
        have hz : ¬ (Sp.own l < l.length ∧ Sp.other l < l.length) := h2
        by_cases ho : Sp.own l = l.length
        · have ha : ∀ c, c ∈ l → Sp.latin c = true := by
            unfold Sp.own at ho
            exact (List.length_filter_eq_length_iff).1 ho
          intro c hc
          have hl : lat l = true := by
            unfold lat
            cases l with
            | nil => cases hc
            | cons a t => exact ha a (by simp)
          unfold alphaN
          rw [hl]
          exact (alpha_lat c).1.2 (ha c hc)
        · have h3 : Sp.other l = l.length := by
            have h4 : Sp.own l ≤ l.length := List.length_filter_le _ _
            have h5 : Sp.other l ≤ l.length := List.length_filter_le _ _
            omega
          have ha : ∀ c, c ∈ l → (!(Sp.stands c).isEmpty) = true := by
            unfold Sp.other at h3
            exact (List.length_filter_eq_length_iff).1 h3
          have hb : Oth l := fun c hc => by have := ha c hc; simpa using this
          intro c hc
          unfold alphaN
          rw [oth_lat hb]
          exact (alpha_lat c).2.1.2 ⟨stands_upper c (hb c hc), hb c hc⟩

theorem alphaN_ne (l : List UInt8) : alphaN l = 1 ∨ alphaN l = 2 := by unfold alphaN; split <;> simp

theorem latP_flat {l : List UInt8} (h : Sp.check l = 0) : l.flatMap latP = Sp.key l := by
  have hv := valid_alpha h
  have h1 := check_zero h
  rcases alphaN_ne l with e | e
  · have ha : ∀ c, c ∈ l → Sp.latin c = true := fun c hc => (alpha_lat c).1.1 ((hv c hc).trans e)
    rw [(lat_key ha h1.1).1]
    have : ∀ t : List UInt8, (∀ c, c ∈ t → Sp.latin c = true) → t.flatMap latP = t := by
      intro t ht
      induction t with
      | nil => rfl
      | cons c t ih => rw [List.flatMap_cons, ih fun c hc => ht c (by simp [hc])]; unfold latP; rw [if_pos (ht c (by simp))]; rfl
    exact this l ha
  · have ha : ∀ c, c ∈ l → Sp.latin c = false ∧ Sp.stands c ≠ [] := fun c hc => (alpha_lat c).2.1.1 ((hv c hc).trans e)
    rw [oth_key fun c hc => (ha c hc).2]
    have : ∀ t : List UInt8, (∀ c, c ∈ t → Sp.latin c = false ∧ Sp.stands c ≠ []) → t.flatMap latP = t.flatMap Sp.stands := by
      intro t ht
      induction t with
      | nil => rfl
      | cons c t ih => rw [List.flatMap_cons, List.flatMap_cons, ih fun c hc => ht c (by simp [hc])]; unfold latP; rw [if_neg (by simp [(ht c (by simp)).1])]
    exact this l ha

theorem latP_le (c : UInt8) : (latP c).length ≤ 2 := by
  unfold latP
  split
  · simp
  · exact stands_le c
theorem latP_flat_le (l : List UInt8) : (l.flatMap latP).length ≤ 2 * l.length := by
  induction l with
  | nil => simp
  | cons c l ih => have := latP_le c; simp only [List.flatMap_cons, List.length_append, List.length_cons]; omega

/-! ### The name of the other alphabet -/

def fitsT (t : List UInt8) (k : Nat) : Bool := decide (lets k ≠ []) && (lets k).isPrefixOf t
def longerT (acc : Option Nat) (k : Nat) : Bool := match acc with | none => true | some j => decide ((lets j).length < (lets k).length)
def stepT (t : List UInt8) (acc : Option Nat) (k : Nat) : Option Nat := if fitsT t k && longerT acc k then some k else acc
/-- The letter that stands for the most of a string's beginning, of the first n letters. -/
def bestT (t : List UInt8) (n : Nat) : Option Nat := (List.range n).foldl (stepT t) none
theorem bestT_succ (t : List UInt8) (n : Nat) : bestT t (n + 1) = stepT t (bestT t n) n := by
  unfold bestT; rw [List.range_succ, List.foldl_append]; rfl

theorem foldl_filter_of {α β : Type} (f : β → α → β) (p : α → Bool) (l : List α) (h : ∀ x, x ∈ l → p x = false → ∀ b, f b x = b) : ∀ b, l.foldl f b = (l.filter p).foldl f b := by
  induction l with
  | nil => intro b; rfl
  | cons a t ih =>
    intro b
    have h1 := ih fun x hx => h x (by simp [hx])
    cases hp : p a with
    | true => rw [List.filter_cons_of_pos hp, List.foldl_cons, List.foldl_cons, h1]
    | false => rw [List.filter_cons_of_neg (by simp [hp]), List.foldl_cons, h a (by simp) hp, h1]

theorem bestT_head (c : UInt8) (t : List UInt8) : bestT (c :: t) 26 = (headV c).foldl (stepT (c :: t)) none := by
  rw [← headK_eq]
  refine foldl_filter_of _ _ _ (fun k _ hk b => ?_) _
  unfold stepT fitsT
  rw [if_neg]
  intro h
  simp only [Bool.and_eq_true, decide_eq_true_eq] at h
  obtain ⟨⟨h1, h2⟩, _⟩ := h
  cases hl : lets k with
  | nil => exact h1 hl
  | cons x y =>
    rw [hl] at h2 hk
    simp only [List.isPrefixOf, Bool.and_eq_true, beq_iff_eq] at h2
    simp [h2.1] at hk

/-- What is left behind the letter that is taken. -/
theorem dec_best (t : List UInt8) (h : t ≠ []) : dec t = match bestT t 26 with
    | none => none
    | some k => (dec (t.drop (lets k).length)).map (letterAt k :: ·) := by
  obtain ⟨v2, v9, v24, v18, v23⟩ := lets_val
  obtain ⟨u2, u9, u24, u18, u23⟩ := letter_val
  obtain ⟨s104, s99, s106, s115⟩ := single_h
  cases t with
  | nil => exact absurd rfl h
  | cons c t =>
    rw [bestT_head]
    unfold headV
    by_cases c1 : c = 99
    · subst c1
      rw [if_pos rfl]
      cases t with
      | nil =>
        rw [dec_one, s99]
        simp [stepT, fitsT, longerT, v2, List.isPrefixOf]
      | cons d t =>
        rw [dec_two]
        by_cases hd : d = 104
        · subst hd
          simp [stepT, fitsT, longerT, v2, u2, List.isPrefixOf, pairL]
        · have e1 : pairL 99 d = none := by unfold pairL; simp [hd]
          rw [e1, s99]
          have hd' : ¬ 104 = d := fun h => hd h.symm
          simp [stepT, fitsT, longerT, v2, List.isPrefixOf, hd']
    · rw [if_neg c1]
      by_cases c2 : c = 106
      · subst c2
        rw [if_pos rfl]
        cases t with
        | nil =>
          rw [dec_one, s106]
          simp [stepT, fitsT, longerT, v9, v24, List.isPrefixOf]
        | cons d t =>
          rw [dec_two]
          by_cases hd : d = 117
          · subst hd
            simp [stepT, fitsT, longerT, v9, v24, u9, List.isPrefixOf, pairL]
          · by_cases he : d = 97
            · subst he
              simp [stepT, fitsT, longerT, v9, v24, u24, List.isPrefixOf, pairL]
            · have e1 : pairL 106 d = none := by unfold pairL; simp [hd, he]
              rw [e1, s106]
              have hd' : ¬ 117 = d := fun h => hd h.symm
              have he' : ¬ 97 = d := fun h => he h.symm
              simp [stepT, fitsT, longerT, v9, v24, List.isPrefixOf, hd', he']
      · rw [if_neg c2]
        by_cases c3 : c = 115
        · subst c3
          rw [if_pos rfl]
          cases t with
          | nil =>
            rw [dec_one, s115]
            simp [stepT, fitsT, longerT, v18, v23, u18, List.isPrefixOf, dec]
          | cons d t =>
            rw [dec_two]
            by_cases hd : d = 104
            · subst hd
              simp [stepT, fitsT, longerT, v18, v23, u23, List.isPrefixOf, pairL]
            · have e1 : pairL 115 d = none := by unfold pairL; simp [hd]
              rw [e1, s115]
              have hd' : ¬ 104 = d := fun h => hd h.symm
              simp [stepT, fitsT, longerT, v18, v23, u18, List.isPrefixOf, hd']
        · rw [if_neg c3]
          have hp : ∀ d, pairL c d = none := fun d => pair_none c1 c2 (fun h => c3 h.1)
          have hdec : dec (c :: t) = (singleL c).bind fun L => (dec t).map (L :: ·) := by
            cases t with
            | nil => rw [dec_one]; cases singleL c <;> simp [dec]
            | cons d t => rw [dec_two, hp d]
          rw [hdec]
          by_cases c4 : Sp.stands (c - 32) = [c]
          · have hs : singleL c = some (c - 32) := by unfold singleL; rw [if_pos c4]
            obtain ⟨f1, f2, _, _⟩ := single_facts c (c - 32) hs
            rw [if_pos c4, hs]
            simp [stepT, fitsT, longerT, f2, f1, List.isPrefixOf]
          · have hs : singleL c = none := by unfold singleL; rw [if_neg c4]
            rw [if_neg c4, hs]
            rfl

theorem bestT_lt (t : List UInt8) (n k : Nat) (h : bestT t n = some k) : k < n ∧ fitsT t k = true := by
  induction n with
  | zero => cases h
  | succ n ih =>
    rw [bestT_succ] at h
    unfold stepT at h
    split at h
    · rename_i h1
      injection h with h
      subst h
      exact ⟨Nat.lt_succ_self _, by simp only [Bool.and_eq_true] at h1; exact h1.1⟩
    · have := ih h; exact ⟨by omega, this.2⟩
end Go.Proofs.YtljlkhaolfihjaaGreatDoor

/- What the program's own functions of the layer of names give, further: the order, uses of rules, abbreviations. Nothing of the program's code. -/
namespace Go.Proofs.YtljlkhaolfihjaaGreatDoor

/-! ### The order -/

/-- A name at work: its key and its alphabet. -/
abbrev Spell := ByteArray × Int
def spellOf (s : ByteArray) : Spell := (keyS s, alphaN s.data.toList)
/-- Which of two names comes first. -/
def cmpSpell (a b : Spell) : Int := if Lib.compareBytes a.1.data.toList b.1.data.toList = 0 then Lib.compareInt a.2 b.2 else Lib.compareBytes a.1.data.toList b.1.data.toList

/-! ### Uses of rules -/

/-- The fewest uses from a string to the end, if below two. -/
def metP (rs : List (ByteArray × ByteArray)) (goal x : ByteArray) : Option Nat := if x = goal then some 0 else if (madeL rs goal).any (fun y => decide (y = x)) then some 1 else none
/-- The fewest uses, if at most two. -/
def usesG (rs : List (ByteArray × ByteArray)) (goal x : ByteArray) : Option Nat :=
  match metP rs goal x with
  | some n => some n
  | none => if (madeL rs x).any (fun m => (metP rs goal m).isSome) then some 2 else none
def minStr : List ByteArray → ByteArray
  | [] => ByteArray.empty
  | x :: t => t.foldl (fun m y => if Lib.compareBytes y.data.toList m.data.toList < 0 then y else m) x
/-- The first string that a use makes and that is so many uses away from the end. -/
def nextG (rs : List (ByteArray × ByteArray)) (goal x : ByteArray) (n : Nat) : ByteArray := minStr ((madeL rs x).filter fun m => metP rs goal m == some n)
def stepsG (rs : List (ByteArray × ByteArray)) (goal : ByteArray) : Nat → ByteArray → List ByteArray
  | 0, _ => []
  | n + 1, x => nextG rs goal x n :: stepsG rs goal n (nextG rs goal x n)
/-- The chain of two keys. -/
def chainG (rs : List (ByteArray × ByteArray)) (x goal : ByteArray) : List ByteArray × Int :=
  match usesG rs goal x with
  | none => ([], 11)
  | some n => (x :: stepsG rs goal n x, 0)

/-! ### Abbreviations -/

/-- Where each letter of a string stands first. -/
def firstsAt (l : List UInt8) (n : Nat) : List Nat := (List.range n).filter fun i => decide (l.idxOf (l.getD i 0) = i)
def ltAt (l : List UInt8) (i j : Nat) : Bool := decide (((l.getD i 0).toNat : Int) - ((l.getD j 0).toNat : Int) < 0)
/-- One round of an insertion into what is sorted, and all of them. -/
def insF {α : Type} [Inhabited α] (lt : α → α → Bool) : Nat → Nat → Array α → Array α
  | 0, _, d => d
  | k + 1, i, d => insF lt k (i + 1) (Sort.insInner lt 0 i d)
def sortNat (lt : Nat → Nat → Bool) (l : List Nat) : List Nat := (insF lt (l.length - 1) 1 l.toArray).toList
/-- .. in the order of the letters. -/
def firstsG (l : List UInt8) : List Nat := sortNat (ltAt l) (firstsAt l l.length)

/-- The abbreviations that begin with some letters and go on with so many of the rest, in their order. -/
def growG : Nat → List UInt8 → List UInt8 → List (List UInt8)
  | 0, a, _ => [a]
  | m + 1, a, rest => (firstsG rest).flatMap fun at_ => growG m (a ++ [rest.getD at_ 0]) (rest.drop (at_ + 1))
def cutsG (k : List UInt8) (n : Nat) : List (List UInt8) := if n < k.length then growG (n - 1) (k.take 1) (k.drop 1) else []
/-- Whether some letters stand for no other key. -/
def fineG (others : List (List UInt8)) (a : List UInt8) : Bool := others.all fun o => !abbrB a o
def firstG (others : List (List UInt8)) (seqs : List (List (List UInt8))) : List UInt8 × Int :=
  match (seqs.flatten).find? (fineG others) with
  | none => ([], 11)
  | some a => (a ++ [46], 0)
def othersK (ss : List ByteArray) (i : Nat) : List (List UInt8) := (ss.map fun s => Sp.key s.data.toList).filter fun k => decide (k ≠ Sp.key (at' ss i))
def shortestG (ss : List ByteArray) (i : Nat) : List UInt8 × Int :=
  firstG (othersK ss i) ((List.range ((Sp.key (at' ss i)).length - 1)).map fun m => cutsG (Sp.key (at' ss i)) (m + 1))
def fitG (ss : List ByteArray) (i : Nat) (width : Nat) : List UInt8 × Int :=
  if (Sp.key (at' ss i)).length ≤ width then (Sp.key (at' ss i), 0)
  else firstG (othersK ss i) ((List.range (width - 1)).map fun m => cutsG (Sp.key (at' ss i)) (width - 1 - m))

theorem outer_F {α : Type} [Inhabited α] (lt : α → α → Bool) (b : Nat) : ∀ (k i : Nat) (d : Array α), b - i = k → Sort.insOuter lt 0 b i d = insF lt k i d := by
  intro k
  induction k with
  | zero => intro i d h; rw [Sort.insOuter, if_neg (by omega)]; rfl
  | succ k ih => intro i d h; rw [Sort.insOuter, if_pos (by omega)]; exact ih (i + 1) _ (by omega)

/-- The indices of names in their order. -/
def sortM (ks : List Spell) (m : Nat) : List (Fin (m + 1)) := (insF (fun i j : Fin (m + 1) => decide (cmpSpell (ks.getD i.val (ByteArray.empty, 0)) (ks.getD j.val (ByteArray.empty, 0)) < 0)) m 1 (Array.ofFn (n := m + 1) id)).toList
def sortG (ks : List Spell) : List Int := match ks with
  | [] => []
  | _ :: t => (sortM ks t.length).map fun i => (i.val : Int)

def fourNames : List ByteArray := [⟨#[99, 104, 97, 100]⟩, ⟨#[67, 65, 68]⟩, ⟨#[97, 110, 110, 97]⟩, ⟨#[66, 69, 78]⟩]
theorem ex_sort : sortG (fourNames.map spellOf) = [2, 3, 0, 1] := by decide +kernel
theorem ex_chain : chainG [(⟨#[112, 104]⟩, ⟨#[102]⟩), (⟨#[121]⟩, ⟨#[105]⟩), (⟨#[101]⟩, ⟨#[]⟩)] ⟨#[115, 109, 121, 116, 104, 101]⟩ ⟨#[115, 109, 105, 116, 104]⟩ = ([⟨#[115, 109, 121, 116, 104, 101]⟩, ⟨#[115, 109, 105, 116, 104, 101]⟩, ⟨#[115, 109, 105, 116, 104]⟩], 0) := by decide +kernel
theorem ex_short : shortestG [⟨#[115, 109, 105, 116, 104]⟩, ⟨#[115, 109, 121, 116, 104]⟩, ⟨#[115, 97, 109]⟩] 0 = ([115, 105, 46], 0) ∧ fitG [⟨#[115, 109, 105, 116, 104]⟩, ⟨#[115, 109, 121, 116, 104]⟩, ⟨#[115, 97, 109]⟩] 0 4 = ([115, 105, 104, 46], 0) := by decide +kernel
end Go.Proofs.YtljlkhaolfihjaaGreatDoor
