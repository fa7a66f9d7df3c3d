/- The reference of names: lists in order. -/
import Derived.Test.YtapagncaadjiaabGreatDoorRefE
import Derived.StillTailTactics
namespace Go.Proofs.YtapagncaadjiaabGreatDoor
open Go.RowKit

/-- A list in order. -/
def orderedB : List ByteArray → Bool
  | [] => true
  | [_] => true
  | a :: b :: t => !beforeB b.data.toList a.data.toList && orderedB (b :: t)

def Valid (ss : List ByteArray) : Prop := ∀ s, s ∈ ss → 1 ≤ s.size ∧ s.size ≤ 6

def OrderedPost (ss : List ByteArray) (w : World) (e : Ending) (w' : World) : Prop :=
  e = .returned (.bool (orderedB ss)) ∧ Below w.heap.size w w'

theorem orderedB_drop (ss : List ByteArray) (k : Nat) (hk : k + 1 < ss.length) : orderedB (ss.drop k) = (!beforeB ss[k + 1].data.toList ss[k].data.toList && orderedB (ss.drop (k + 1))) := by
  rw [List.drop_eq_getElem_cons (by omega), List.drop_eq_getElem_cons hk]; rfl
theorem orderedB_end (ss : List ByteArray) (k : Nat) (hk : ss.length ≤ k + 1) : orderedB (ss.drop k) = true := by
  rcases Nat.lt_or_ge k ss.length with h | h
  · rw [List.drop_eq_getElem_cons h, List.drop_eq_nil_of_le hk]; rfl
  · rw [List.drop_eq_nil_of_le h]; rfl

end Go.Proofs.YtapagncaadjiaabGreatDoor

/- The reference of names: letters of a string, and parts of a string. -/
namespace Go.Proofs.YtapagncaadjiaabGreatDoor
open Go.RowKit

def lettersB (l : List UInt8) (lo hi : Int) : Bool := decide (lo ≤ l.length ∧ (l.length : Int) ≤ hi) && l.all Sp.latin

def LettersPost (s : ByteArray) (lo hi : Int) (w : World) (e : Ending) (w' : World) : Prop :=
  e = .returned (.bool (lettersB s.data.toList lo hi)) ∧ w = w'

theorem all_take (s : ByteArray) (k : Nat) (h : k < s.size) : (s.data.toList.take (k + 1)).all Sp.latin = ((s.data.toList.take k).all Sp.latin && Sp.latin s[k]) := by
  rw [take_snoc s k h, List.all_append]; simp

def partB : List UInt8 → List UInt8 → Bool
  | [], _ => true
  | _ :: _, [] => false
  | a :: s, c :: t => if c = a then partB s t else partB (a :: s) t

def PartPost (s t : ByteArray) (w : World) (e : Ending) (w' : World) : Prop :=
  e = .returned (.bool (partB s.data.toList t.data.toList)) ∧ ∃ j, w' = w.drewN j

theorem list_drop (s : ByteArray) (k : Nat) (h : k < s.size) : s.data.toList.drop k = s[k] :: s.data.toList.drop (k + 1) := by
  rw [List.drop_eq_getElem_cons (by simpa using h)]; rfl

/-- Whether some letters stand for a key. -/
def abbrB (s k : List UInt8) : Bool := decide (s.length < k.length) && (decide (s.head? = k.head?) && partB s k)

def AbbrPost (s k : ByteArray) (w : World) (e : Ending) (w' : World) : Prop :=
  e = .returned (.bool (abbrB s.data.toList k.data.toList)) ∧ ∃ j, w' = w.drewN j

theorem head_eq (s : ByteArray) (h : 0 < s.size) : s.data.toList.head? = some s[0] := by
  have h2 : 0 < s.data.toList.length := by simpa using h
  rw [List.head?_eq_getElem?, List.getElem?_eq_getElem h2]; rfl

end Go.Proofs.YtapagncaadjiaabGreatDoor
