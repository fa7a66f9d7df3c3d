/-
  DERIVED. GIVEN WITH THE SEED: THE CARDS: each row of YtljlkhaolfihjaaGreatDoorRows.lean that lists a variable, with what it lists TIED to the program's text (the seventh form; the later family's looks); each row that meets fmt, with fmt's text TOLD by the authors' own Lean function (tested against real Go, not proved from fmt's source: count such statements apart). THE CARD IS WHAT COUNTS. Prove the row's statement (the work); the ties are given (YtljlkhaolfihjaaGreatDoorTie.lean); close each card by the builder's one call (the guide's Derived/Test/ToyasCard.lean, 'card_holds'). Laid BY PROGRAM, IN A SANDBOX (cutbox-door.mjs). By AI agents, Wed Nov 11 2026. No macro, syntax, notation, axiom, sorry.
-/
import Derived.Test.YtljlkhaolfihjaaGreatDoorRows
import GoSem.ClaimSeven
namespace Go.Proofs.YtljlkhaolfihjaaGreatDoor
namespace Rows

/-- THE TIED CARD OF 'wayzgooselaw03.NameOrders'. -/
def nameOrdersCard : Claim7 := { stood := { row := nameOrdersRow, standIns := [], harness := (true, "9a7da6c7705679ac232da7827e1baf1d987d9ba5936a03966660eec8b871e23d"), looks := true }, kinds := [], alts := [], laidByText := true, laidKinds := [.handle], laidTests := true, laidLooks := .later }
def NameOrdersCardSaid : Prop := Claim7.holds Tryz.pinned (.plain (OpenSpec.ofChange nameOrdersSpec)) nameOrdersCard

/-- THE TIED CARD OF 'wayzgooselaw03.NameKnown'. -/
def nameKnownCard : Claim7 := { stood := { row := nameKnownRow, standIns := [], harness := (true, "9a7da6c7705679ac232da7827e1baf1d987d9ba5936a03966660eec8b871e23d"), looks := true }, kinds := [], alts := [], laidByText := true, laidKinds := [.handle], laidTests := true, laidLooks := .later }
def NameKnownCardSaid : Prop := Claim7.holds Tryz.pinned (.plain (OpenSpec.ofChange nameKnownSpec)) nameKnownCard

/-- THE TIED CARD OF 'wayzgooselaw03.NameSorted'. -/
def nameSortedCard : Claim7 := { stood := { row := nameSortedRow, standIns := [], harness := (true, "9a7da6c7705679ac232da7827e1baf1d987d9ba5936a03966660eec8b871e23d"), looks := true }, kinds := [], alts := [], laidByText := true, laidKinds := [.handle], laidTests := true, laidLooks := .later }
def NameSortedCardSaid : Prop := Claim7.holds Tryz.pinned (.plain (OpenSpec.ofChange nameSortedSpec)) nameSortedCard

/-- THE TIED CARD OF 'wayzgooselaw03.NameFewest'. -/
def nameFewestCard : Claim7 := { stood := { row := nameFewestRow, standIns := [], harness := (true, "9a7da6c7705679ac232da7827e1baf1d987d9ba5936a03966660eec8b871e23d"), looks := true }, kinds := [], alts := [], laidByText := true, laidKinds := [.handle], laidTests := true, laidLooks := .later }
def NameFewestCardSaid : Prop := Claim7.holds Tryz.pinned (.plain (OpenSpec.ofChange nameFewestSpec)) nameFewestCard

/-- THE SECOND FORM's CARD OF 'wayzgooselaw03.NameOrders'. -/
def nameOrdersUptoCard : Claim7 := { stood := { row := nameOrdersUptoRow, standIns := [], harness := (true, "9a7da6c7705679ac232da7827e1baf1d987d9ba5936a03966660eec8b871e23d"), looks := true }, kinds := [], alts := [], laidByText := true, laidKinds := [.handle], laidTests := true, laidLooks := .later }
def NameOrdersUptoCardSaid : Prop := Claim7.holds Tryz.pinned (.plain (OpenSpec.upto nameOrdersSpec)) nameOrdersUptoCard

/-- THE SECOND FORM's CARD OF 'wayzgooselaw03.NameKnown'. -/
def nameKnownUptoCard : Claim7 := { stood := { row := nameKnownUptoRow, standIns := [], harness := (true, "9a7da6c7705679ac232da7827e1baf1d987d9ba5936a03966660eec8b871e23d"), looks := true }, kinds := [], alts := [], laidByText := true, laidKinds := [.handle], laidTests := true, laidLooks := .later }
def NameKnownUptoCardSaid : Prop := Claim7.holds Tryz.pinned (.plain (OpenSpec.upto nameKnownSpec)) nameKnownUptoCard

/-- THE SECOND FORM's CARD OF 'wayzgooselaw03.NameSorted'. -/
def nameSortedUptoCard : Claim7 := { stood := { row := nameSortedUptoRow, standIns := [], harness := (true, "9a7da6c7705679ac232da7827e1baf1d987d9ba5936a03966660eec8b871e23d"), looks := true }, kinds := [], alts := [], laidByText := true, laidKinds := [.handle], laidTests := true, laidLooks := .later }
def NameSortedUptoCardSaid : Prop := Claim7.holds Tryz.pinned (.plain (OpenSpec.upto nameSortedSpec)) nameSortedUptoCard

/-- THE SECOND FORM's CARD OF 'wayzgooselaw03.NameFewest'. -/
def nameFewestUptoCard : Claim7 := { stood := { row := nameFewestUptoRow, standIns := [], harness := (true, "9a7da6c7705679ac232da7827e1baf1d987d9ba5936a03966660eec8b871e23d"), looks := true }, kinds := [], alts := [], laidByText := true, laidKinds := [.handle], laidTests := true, laidLooks := .later }
def NameFewestUptoCardSaid : Prop := Claim7.holds Tryz.pinned (.plain (OpenSpec.upto nameFewestSpec)) nameFewestUptoCard
end Rows
end Go.Proofs.YtljlkhaolfihjaaGreatDoor
