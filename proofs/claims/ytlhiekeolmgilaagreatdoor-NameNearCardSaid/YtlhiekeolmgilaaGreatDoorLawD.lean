/- One name of the other alphabet for each key: the walk. -/
import Derived.Test.YtlhiekeolmgilaaGreatDoorLawB0
import Derived.Test.YtlhiekeolmgilaaGreatDoorKitB
import Derived.Test.YtlhiekeolmgilaaGreatDoorKitD
import Derived.Test.YtlhiekeolmgilaaGreatDoorPgD
import Derived.Test.YtlhiekeolmgilaaGreatDoorSpecO
namespace Go.Proofs.YtlhiekeolmgilaaGreatDoor
open Go.RowKit

/-- A name that dice made. -/
def Made6 (s : ByteArray) : Prop := 1 ≤ s.size ∧ s.size ≤ 6 ∧ Letters s.data.toList
theorem key_call (s : ByteArray) (h : Sp.check s.data.toList = 0) (W : World) : Calls Tryz.prog 39 #[.string s] W fun e w' => e = .returned (.tuple #[.string (keyS s), .int .i64 0]) ∧ Below W.heap.size W w' := Key_ok s W h
theorem other_call (s : ByteArray) (p : ByteArray × Int) (hc : Sp.check s.data.toList = 0) (h : otherP s = p) (W : World) : Calls Tryz.prog 40 #[.string s] W fun e w' => e = .returned (.tuple #[.string p.1, .int .i64 p.2]) ∧ Below W.heap.size W w' := by
  have q := Other_ok s W hc
  unfold OtherOk at q
  rw [h] at q
  exact q
theorem latin_call (s : ByteArray) (v : Bool) (h : 0 < s.size) (hv : lat s.data.toList = v) (W : World) : Calls Tryz.prog 96 #[.string s] W fun e w' => e = .returned (.bool v) ∧ W = w' := by
  have q := Latin_any s W h
  rw [show s.data.toList.head?.any Sp.latin = v from hv] at q
  exact q
theorem keyS_eq {a b : ByteArray} (h : Sp.key a.data.toList = Sp.key b.data.toList) : keyS a = keyS b := by unfold keyS; rw [h]

end Go.Proofs.YtlhiekeolmgilaaGreatDoor
