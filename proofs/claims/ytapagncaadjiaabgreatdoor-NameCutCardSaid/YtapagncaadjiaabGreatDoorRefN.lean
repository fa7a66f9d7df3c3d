/- The reference of names: the error of rules and of two names; lists without some names. -/
import Derived.Test.YtapagncaadjiaabGreatDoorRefJ
import Derived.Test.YtapagncaadjiaabGreatDoorRefK
namespace Go.Proofs.YtapagncaadjiaabGreatDoor
open Go.RowKit

theorem Drew.below {w w' : World} (h : Drew w w') (B : Nat) : Below B w w' := by
  obtain ⟨j, rfl⟩ := h
  exact ⟨rfl, rfl, rfl, Nat.le_refl _, fun _ _ => rfl⟩

def usesErr (rs : List (ByteArray × ByteArray)) (a b : List UInt8) : Int := if rulesErr rs = 0 then pairErr a b else rulesErr rs

def UsesErrPost (rs : List (ByteArray × ByteArray)) (a b : ByteArray) (w : World) (e : Ending) (w' : World) : Prop :=
  e = .returned (.int .i64 (usesErr rs a.data.toList b.data.toList)) ∧ Below w.heap.size w w'

/-- Whether a number is in a list. -/
def hasB (q : List Int) (x : Int) : Bool := q.contains x
/-- The names of a list whose index is not among some. -/
def withoutFrom (at_ : List Int) : Nat → List ByteArray → List ByteArray
  | _, [] => []
  | k, s :: t => if hasB at_ (k : Int) then withoutFrom at_ (k + 1) t else s :: withoutFrom at_ (k + 1) t
theorem withoutFrom_drop (q : List Int) (ss : List ByteArray) (k : Nat) (hk : k < ss.length) :
    withoutFrom q k (ss.drop k) = (if hasB q (k : Int) then [] else [ss[k]]) ++ withoutFrom q (k + 1) (ss.drop (k + 1)) := by
  rw [List.drop_eq_getElem_cons hk]
  show (if _ then _ else _) = _
  split <;> rfl

theorem has_step (q : List Int) (x : Int) (k : Nat) (hk : k < q.length) : hasB (q.take (k + 1)) x = (hasB (q.take k) x || (q[k] == x)) := by
  unfold hasB
  rw [List.take_succ_eq_append_getElem hk, Bool.eq_iff_iff]
  simp only [List.contains_iff_mem, List.mem_append, List.mem_singleton, Bool.or_eq_true, beq_iff_eq]
  exact or_congr Iff.rfl eq_comm

def WithoutPost (q : List Int) (ss : List ByteArray) (w : World) (e : Ending) (w' : World) : Prop :=
  ∃ o : Value, e = .returned o ∧ w'.ownsRow w.heap.size 9 1 o (withoutFrom q 0 ss).length ((withoutFrom q 0 ss).map Value.string) ∧ Below w.heap.size w w'

end Go.Proofs.YtapagncaadjiaabGreatDoor

/- The reference of names: strings in which a piece is replaced. -/
namespace Go.Proofs.YtapagncaadjiaabGreatDoor
open Go.RowKit

/-- What a string is after a piece is replaced at one place; none if it isn't there, or if nothing or too much is left. -/
def repAt (s a b : ByteArray) (i : Nat) : Option ByteArray :=
  if (s.extract i (i + a.size)).toList = a.toList then
    (if 1 ≤ (s.extract 0 i ++ b ++ s.extract (i + a.size) s.size).size ∧ (s.extract 0 i ++ b ++ s.extract (i + a.size) s.size).size ≤ 12 then some (s.extract 0 i ++ b ++ s.extract (i + a.size) s.size) else none)
  else none
def repTo (s a b : ByteArray) (k : Nat) : List ByteArray := (List.range k).filterMap (repAt s a b)
def repL (s a b : ByteArray) : List ByteArray := repTo s a b (s.size + 1 - a.size)

theorem repTo_succ (s a b : ByteArray) (k : Nat) : repTo s a b (k + 1) = repTo s a b k ++ (repAt s a b k).toList := by
  unfold repTo
  rw [List.range_succ, List.filterMap_append]
  cases h : repAt s a b k <;> simp [h]
theorem repTo_len (s a b : ByteArray) (k : Nat) : (repTo s a b k).length ≤ k := by
  unfold repTo
  exact Nat.le_trans (List.length_filterMap_le _ _) (by simp)

def StrsPost (xs : List ByteArray) (w : World) (e : Ending) (w' : World) : Prop :=
  ∃ o : Value, e = .returned o ∧ w'.ownsRow w.heap.size 9 1 o xs.length (xs.map Value.string) ∧ Below w.heap.size w w'

end Go.Proofs.YtapagncaadjiaabGreatDoor
