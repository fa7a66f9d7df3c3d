/- How long rules and strings are. -/
import Derived.Test.YtapagncaadjiaabGreatDoorKitC
namespace Go.Proofs.YtapagncaadjiaabGreatDoor
open Go.RowKit

def LongPost (rs : List (ByteArray × ByteArray)) (ss : List ByteArray) (w : World) (e : Ending) (w' : World) : Prop :=
  e = .returned (.bool (longB rs ss)) ∧ Drew w w'

theorem any_drop {α : Type} (p : α → Bool) (xs : List α) (k : Nat) (hk : k < xs.length) : (xs.drop k).any p = (p xs[k] || (xs.drop (k + 1)).any p) := by
  rw [List.drop_eq_getElem_cons hk]; rfl

def strLong (s : ByteArray) : Bool := decide (20 < s.size)
def ruleLong (r : ByteArray × ByteArray) : Bool := decide (20 < r.1.size + r.2.size)
theorem longB_eq (rs : List (ByteArray × ByteArray)) (ss : List ByteArray) : longB rs ss = (ss.any strLong || rs.any ruleLong || decide (20 < ss.length) || decide (20 < rs.length)) := rfl

end Go.Proofs.YtapagncaadjiaabGreatDoor
