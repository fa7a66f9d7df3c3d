/- One name of the other alphabet for each key: the walk. -/
import Derived.Test.YtapagncaadjiaabGreatDoorLawB0
import Derived.Test.YtapagncaadjiaabGreatDoorKitB
import Derived.Test.YtapagncaadjiaabGreatDoorKitD
import Derived.Test.YtapagncaadjiaabGreatDoorPgD
import Derived.Test.YtapagncaadjiaabGreatDoorSpecO
namespace Go.Proofs.YtapagncaadjiaabGreatDoor
open Go.RowKit

/-- A name that dice made. -/
def Made6 (s : ByteArray) : Prop := 1 ≤ s.size ∧ s.size ≤ 6 ∧ Letters s.data.toList
theorem key_call (s : ByteArray) (h : Sp.check s.data.toList = 0) (W : World) : Calls Tryz.prog 21 #[.string s] W fun e w' => e = .returned (.tuple #[.string (keyS s), .int .i64 0]) ∧ Below W.heap.size W w' := Key_ok s W h
theorem latin_call (s : ByteArray) (v : Bool) (h : 0 < s.size) (hv : lat s.data.toList = v) (W : World) : Calls Tryz.prog 74 #[.string s] W fun e w' => e = .returned (.bool v) ∧ W = w' := by
  have q := Latin_any s W h
  rw [show s.data.toList.head?.any Sp.latin = v from hv] at q
  exact q
theorem keyS_eq {a b : ByteArray} (h : Sp.key a.data.toList = Sp.key b.data.toList) : keyS a = keyS b := by unfold keyS; rw [h]

end Go.Proofs.YtapagncaadjiaabGreatDoor
