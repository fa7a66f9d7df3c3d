/- Which of two names comes first. -/
import Derived.Test.YtapagncaadjiaabGreatDoorPgJ
import Derived.Test.YtapagncaadjiaabGreatDoorPgE
import Derived.Test.YtapagncaadjiaabGreatDoorKitE
namespace Go.Proofs.YtapagncaadjiaabGreatDoor
open Go.RowKit Go.Shelf

end Go.Proofs.YtapagncaadjiaabGreatDoor
