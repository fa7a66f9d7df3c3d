/- Regions that draw their order and whose callees only lay memory of their own: walked once, in the order of the text. -/
import Derived.Test.YtljlkhaolfihjaaGreatDoorRefE
namespace Go.Proofs.YtljlkhaolfihjaaGreatDoor
open Go.RowKit

/-- All worlds of a class look alike to the region; each callee leaves a world of the class. -/
theorem wp_region_class {P : Program} {T : Type} (g : T → World) {id : Nat} {Q : Exit → Act → World → Prop} {a : Act} {w : World} {l : List Oper} (hC : ∃ x, w.drew = g x)
    (hm : P.follows .mixedOrders = true) (hB : Region.lexB .any l.toArray = true)
    (h : wpQuiet P l.toArray (fun w' => ∃ x, w' = g x) (fun a' => ∀ w', (∃ x, w' = g x) → Q .normal a' w') l a) : (Code.region id l.toArray true).wp P Q a w :=
  wp_region_quiet (C := fun w' => ∃ x, w' = g x) hm hB hC (by simpa using h)

/-- The worlds that a walk comes to from here on: nothing is written that lay there. -/
def Since (w : World) : Type := { w' : World // Below w.heap.size w w' }
theorem Since.cell {w : World} (x : Since w) {p : Addr} {v : Value} (h : w.cell? p = some v) : x.val.cell? p = some v := (x.property.cell (World.block_lt_of_cell? w _ h)).trans h
theorem Since.here (w : World) : ∃ x : Since w, w.drew = x.val := ⟨⟨w.drew, (Below.refl _ _).drew⟩, rfl⟩
/-- A contract that says a value and that memory only grows, met in a world of the class. -/
theorem Since.calls {P : Program} {f : FuncId} {args : Array Value} {w : World} {v : Value} (x : Since w)
    (h : Calls P f args x.val fun e w' => e = .returned v ∧ Below x.val.heap.size x.val w') : Calls P f args x.val fun e w' => e = .returned v ∧ ∃ y : Since w, w' = y.val :=
  h.mono fun _ w' h => ⟨h.1, ⟨⟨w', x.property.trans (h.2.mono x.property.size)⟩, rfl⟩⟩
end Go.Proofs.YtljlkhaolfihjaaGreatDoor
