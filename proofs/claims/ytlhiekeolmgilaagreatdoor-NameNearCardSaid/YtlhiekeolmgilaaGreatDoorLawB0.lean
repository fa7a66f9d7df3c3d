/- The numbers of a slice; the examples at any world. -/
import Derived.Test.YtlhiekeolmgilaaGreatDoorLawA
import Derived.Test.YtlhiekeolmgilaaGreatDoorKitE
import Derived.Test.YtlhiekeolmgilaaGreatDoorDiceF
namespace Go.Proofs.YtlhiekeolmgilaaGreatDoor
open Go.RowKit

/-- The numbers of a slice that came in. -/
def NumsIn (w : World) (A : Option Addr) (n : Nat) : Prop := ∀ i, i < n → ∃ (b off : Nat) (x : Int), A = some ⟨b, off, none⟩ ∧ w.cell? ⟨b, off + i, none⟩ = some (.int .i64 x)
theorem NumsIn.below {w w' : World} {A : Option Addr} {n : Nat} (h : NumsIn w A n) (hb : Below w.heap.size w w') : NumsIn w' A n := fun i hi => by
  obtain ⟨b, off, x, e, hc⟩ := h i hi
  exact ⟨b, off, x, e, (hb.cell (World.block_lt_of_cell? w _ hc)).trans hc⟩
def TruePost (w : World) (e : Ending) (w' : World) : Prop := e = .returned (.bool true) ∧ Below w.heap.size w w'

theorem spelling_at {w : World} (u : World) (h : Below w.heap.size w u) : Calls Tryz.prog 12 #[] u fun e w' => e = .returned (.bool true) ∧ Below w.heap.size w w' :=
  (spelling_any u).mono fun _ _ q => ⟨q.1, h.trans (q.2.mono h.size)⟩

end Go.Proofs.YtlhiekeolmgilaaGreatDoor
