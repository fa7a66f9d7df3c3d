/- Rules that are compared. -/
import Derived.Test.YtljlkhaolfihjaaGreatDoorKitB
import Derived.Test.YtljlkhaolfihjaaGreatDoorRefJ
namespace Go.Proofs.YtljlkhaolfihjaaGreatDoor
open Go.RowKit

end Go.Proofs.YtljlkhaolfihjaaGreatDoor
