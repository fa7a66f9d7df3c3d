/- Uses between made names, as the law asks for them. -/
import Derived.Test.YtlhiekeolmgilaaGreatDoorLawF0
import Derived.Test.YtlhiekeolmgilaaGreatDoorPgV
namespace Go.Proofs.YtlhiekeolmgilaaGreatDoor
open Go.RowKit

theorem made_key12 {s : ByteArray} (h : Made6 s) : Key12 (keyS s) := keyS_key12 (made_check h)
theorem law_uses {A : Option Addr} {nn c : Nat} {rs : List (ByteArray × ByteArray)} {a b : ByteArray} {N : Nat} {W0 : World} (hn : nn = rs.length) (hf : RulesOk rs) (hx : Cells W0 A (ruleCells rs)) (ha : Made6 a) (hb : Made6 b) (hN : uses9 rs (keyS b) (keyS a) = N) (W : World) (hW : Below W0.heap.size W0 W) :
    Calls Tryz.prog 52 #[.slice A nn c, .string a, .string b] W fun e w' => e = .returned (.tuple #[.int .i64 N, .bool true]) ∧ Below W.heap.size W w' := by
  subst hN
  exact lawUses_ok A nn c rs a b W hn hf (made_ok2 ha hb) (hx.below hW)
end Go.Proofs.YtlhiekeolmgilaaGreatDoor
