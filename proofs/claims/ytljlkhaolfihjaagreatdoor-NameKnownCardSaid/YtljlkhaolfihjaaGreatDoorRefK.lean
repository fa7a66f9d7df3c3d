/- The reference of names: the names of a list that an abbreviation stands for. -/
import Derived.Test.YtljlkhaolfihjaaGreatDoorRefI
import Derived.Test.YtljlkhaolfihjaaGreatDoorDiceF
import Derived.Deep.DeepCutAuto
namespace Go.Proofs.YtljlkhaolfihjaaGreatDoor
open Go.RowKit

theorem infoInt : (Tryz.prog.info? 3).map (fun i => (i.zero, i.size, i.bytes)) = some (some (.int .i64 0), 1, 8) := by kernel_rfl

theorem own_below {w w' : World} {base n size : Nat} {e : TypeId} {o : Value} {xs : List Value} (h : w.ownsRow base e size o n xs) (hb : Below w.heap.size w w') :
    w'.ownsRow base e size o n xs := by
  refine h.kept (row := none) ⟨hb.os, hb.tape, hb.output, hb.size, fun k hk _ => hb.block k hk⟩ ?_
  cases h2 : o.ownBlock with
  | none => exact .inl rfl
  | some g => exact .inr fun e => by cases e

/-- An append to a row of the call's own writes nothing below. -/
theorem below_append {w wl wa wn : World} {n size : Nat} {e : TypeId} {o : Value} {xs : List Value} (hown : wa.ownsRow w.heap.size e size o n xs) (hb : Below w.heap.size w wl)
    (ha : Below wl.heap.size wl wa) (hn : wa.grownBy wn o.ownBlock) : Below w.heap.size w wn :=
  (hb.trans (ha.mono hb.size)).grown hn (Nat.le_trans hb.size ha.size) fun k hk => (hown.lt k hk).1

/-- The indices, from one on, of the names that an abbreviation stands for. -/
def standsFrom (a : List UInt8) : Nat → List ByteArray → List Int
  | _, [] => []
  | k, s :: t => if shortB a s.data.toList then (k : Int) :: standsFrom a (k + 1) t else standsFrom a (k + 1) t
def standsErr (a : List UInt8) (ss : List ByteArray) : Int := if shortErr a = 0 then listErr ss else shortErr a
def standsL (a : List UInt8) (ss : List ByteArray) : List Int := if standsErr a ss = 0 then standsFrom a 0 ss else []

theorem standsFrom_drop (a : List UInt8) (ss : List ByteArray) (k : Nat) (hk : k < ss.length) :
    standsFrom a k (ss.drop k) = (if shortB a ss[k].data.toList then [(k : Int)] else []) ++ standsFrom a (k + 1) (ss.drop (k + 1)) := by
  rw [List.drop_eq_getElem_cons hk]
  show (if _ then _ else _) = _
  split <;> rfl

def IntsPost (xs : List Int) (err : Int) (w : World) (e : Ending) (w' : World) : Prop :=
  ∃ o : Value, e = .returned (.tuple #[o, .int .i64 err]) ∧ w'.ownsRow w.heap.size 3 1 o xs.length (xs.map (Value.int .i64)) ∧ Below w.heap.size w w'

end Go.Proofs.YtljlkhaolfihjaaGreatDoor
