/- Rules that are compared. -/
import Derived.Test.YtapagncaadjiaabGreatDoorKitB
import Derived.Test.YtapagncaadjiaabGreatDoorRefJ
namespace Go.Proofs.YtapagncaadjiaabGreatDoor
open Go.RowKit

end Go.Proofs.YtapagncaadjiaabGreatDoor
