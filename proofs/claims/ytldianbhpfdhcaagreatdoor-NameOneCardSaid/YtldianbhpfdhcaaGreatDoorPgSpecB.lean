/- What the program's own functions of the layer of names give, further: the order, uses of rules, abbreviations. Nothing of the program's code. -/
import Derived.Test.YtldianbhpfdhcaaGreatDoorPgSpec
import Derived.Test.YtldianbhpfdhcaaGreatDoorRefL
import Derived.Sort.Defs
import Derived.Lib.Bytealg
import Derived.Lib.Small
namespace Go.Proofs.YtldianbhpfdhcaaGreatDoor

/-! ### The order -/

/-- A name at work: its key and its alphabet. -/
abbrev Spell := ByteArray × Int
def spellOf (s : ByteArray) : Spell := (keyS s, alphaN s.data.toList)
/-- Which of two names comes first. -/
def cmpSpell (a b : Spell) : Int := if Lib.compareBytes a.1.data.toList b.1.data.toList = 0 then Lib.compareInt a.2 b.2 else Lib.compareBytes a.1.data.toList b.1.data.toList

/-! ### Uses of rules -/

/-- The fewest uses from a string to the end, if below two. -/
def metP (rs : List (ByteArray × ByteArray)) (goal x : ByteArray) : Option Nat := if x = goal then some 0 else if (madeL rs goal).any (fun y => decide (y = x)) then some 1 else none
/-- The fewest uses, if at most two. -/
def usesG (rs : List (ByteArray × ByteArray)) (goal x : ByteArray) : Option Nat :=
  match metP rs goal x with
  | some n => some n
  | none => if (madeL rs x).any (fun m => (metP rs goal m).isSome) then some 2 else none
def minStr : List ByteArray → ByteArray
  | [] => ByteArray.empty
  | x :: t => t.foldl (fun m y => if Lib.compareBytes y.data.toList m.data.toList < 0 then y else m) x
/-- The first string that a use makes and that is so many uses away from the end. -/
def nextG (rs : List (ByteArray × ByteArray)) (goal x : ByteArray) (n : Nat) : ByteArray := minStr ((madeL rs x).filter fun m => metP rs goal m == some n)
def stepsG (rs : List (ByteArray × ByteArray)) (goal : ByteArray) : Nat → ByteArray → List ByteArray
  | 0, _ => []
  | n + 1, x => nextG rs goal x n :: stepsG rs goal n (nextG rs goal x n)
/-- The chain of two keys. -/
def chainG (rs : List (ByteArray × ByteArray)) (x goal : ByteArray) : List ByteArray × Int :=
  match usesG rs goal x with
  | none => ([], 11)
  | some n => (x :: stepsG rs goal n x, 0)

/-! ### Abbreviations -/

/-- Where each letter of a string stands first. -/
def firstsAt (l : List UInt8) (n : Nat) : List Nat := (List.range n).filter fun i => decide (l.idxOf (l.getD i 0) = i)
def ltAt (l : List UInt8) (i j : Nat) : Bool := decide (((l.getD i 0).toNat : Int) - ((l.getD j 0).toNat : Int) < 0)
/-- One round of an insertion into what is sorted, and all of them. -/
def insF {α : Type} [Inhabited α] (lt : α → α → Bool) : Nat → Nat → Array α → Array α
  | 0, _, d => d
  | k + 1, i, d => insF lt k (i + 1) (Sort.insInner lt 0 i d)
def sortNat (lt : Nat → Nat → Bool) (l : List Nat) : List Nat := (insF lt (l.length - 1) 1 l.toArray).toList
/-- .. in the order of the letters. -/
def firstsG (l : List UInt8) : List Nat := sortNat (ltAt l) (firstsAt l l.length)

/-- The abbreviations that begin with some letters and go on with so many of the rest, in their order. -/
def growG : Nat → List UInt8 → List UInt8 → List (List UInt8)
  | 0, a, _ => [a]
  | m + 1, a, rest => (firstsG rest).flatMap fun at_ => growG m (a ++ [rest.getD at_ 0]) (rest.drop (at_ + 1))
def cutsG (k : List UInt8) (n : Nat) : List (List UInt8) := if n < k.length then growG (n - 1) (k.take 1) (k.drop 1) else []
/-- Whether some letters stand for no other key. -/
def fineG (others : List (List UInt8)) (a : List UInt8) : Bool := others.all fun o => !abbrB a o
def firstG (others : List (List UInt8)) (seqs : List (List (List UInt8))) : List UInt8 × Int :=
  match (seqs.flatten).find? (fineG others) with
  | none => ([], 11)
  | some a => (a ++ [46], 0)
def othersK (ss : List ByteArray) (i : Nat) : List (List UInt8) := (ss.map fun s => Sp.key s.data.toList).filter fun k => decide (k ≠ Sp.key (at' ss i))
def shortestG (ss : List ByteArray) (i : Nat) : List UInt8 × Int :=
  firstG (othersK ss i) ((List.range ((Sp.key (at' ss i)).length - 1)).map fun m => cutsG (Sp.key (at' ss i)) (m + 1))
def fitG (ss : List ByteArray) (i : Nat) (width : Nat) : List UInt8 × Int :=
  if (Sp.key (at' ss i)).length ≤ width then (Sp.key (at' ss i), 0)
  else firstG (othersK ss i) ((List.range (width - 1)).map fun m => cutsG (Sp.key (at' ss i)) (width - 1 - m))

theorem outer_F {α : Type} [Inhabited α] (lt : α → α → Bool) (b : Nat) : ∀ (k i : Nat) (d : Array α), b - i = k → Sort.insOuter lt 0 b i d = insF lt k i d := by
  intro k
  induction k with
  | zero => intro i d h; rw [Sort.insOuter, if_neg (by omega)]; rfl
  | succ k ih => intro i d h; rw [Sort.insOuter, if_pos (by omega)]; exact ih (i + 1) _ (by omega)

/-- The indices of names in their order. -/
def sortM (ks : List Spell) (m : Nat) : List (Fin (m + 1)) := (insF (fun i j : Fin (m + 1) => decide (cmpSpell (ks.getD i.val (ByteArray.empty, 0)) (ks.getD j.val (ByteArray.empty, 0)) < 0)) m 1 (Array.ofFn (n := m + 1) id)).toList
def sortG (ks : List Spell) : List Int := match ks with
  | [] => []
  | _ :: t => (sortM ks t.length).map fun i => (i.val : Int)

def fourNames : List ByteArray := [⟨#[99, 104, 97, 100]⟩, ⟨#[67, 65, 68]⟩, ⟨#[97, 110, 110, 97]⟩, ⟨#[66, 69, 78]⟩]
theorem ex_sort : sortG (fourNames.map spellOf) = [2, 3, 0, 1] := by decide +kernel
theorem ex_chain : chainG [(⟨#[112, 104]⟩, ⟨#[102]⟩), (⟨#[121]⟩, ⟨#[105]⟩), (⟨#[101]⟩, ⟨#[]⟩)] ⟨#[115, 109, 121, 116, 104, 101]⟩ ⟨#[115, 109, 105, 116, 104]⟩ = ([⟨#[115, 109, 121, 116, 104, 101]⟩, ⟨#[115, 109, 105, 116, 104, 101]⟩, ⟨#[115, 109, 105, 116, 104]⟩], 0) := by decide +kernel
theorem ex_short : shortestG [⟨#[115, 109, 105, 116, 104]⟩, ⟨#[115, 109, 121, 116, 104]⟩, ⟨#[115, 97, 109]⟩] 0 = ([115, 105, 46], 0) ∧ fitG [⟨#[115, 109, 105, 116, 104]⟩, ⟨#[115, 109, 121, 116, 104]⟩, ⟨#[115, 97, 109]⟩] 0 4 = ([115, 105, 104, 46], 0) := by decide +kernel
end Go.Proofs.YtldianbhpfdhcaaGreatDoor
