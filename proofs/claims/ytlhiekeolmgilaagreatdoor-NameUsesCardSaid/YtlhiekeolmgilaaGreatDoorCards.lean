/-
  DERIVED. GIVEN WITH THE SEED: THE CARDS: each row of YtlhiekeolmgilaaGreatDoorRows.lean that lists a variable, with what it lists TIED to the program's text (the seventh form; the later family's looks); each row that meets fmt, with fmt's text TOLD by the authors' own Lean function (tested against real Go, not proved from fmt's source: count such statements apart). THE CARD IS WHAT COUNTS. Prove the row's statement (the work); the ties are given (YtlhiekeolmgilaaGreatDoorTie.lean); close each card by the builder's one call (the guide's Derived/Test/ToyasCard.lean, 'card_holds'). Laid BY PROGRAM, IN A SANDBOX (cutbox-door.mjs). By AI agents, Wed Nov 11 2026. No macro, syntax, notation, axiom, sorry.
-/
import Derived.Test.YtlhiekeolmgilaaGreatDoorRows
import GoSem.ClaimSeven
namespace Go.Proofs.YtlhiekeolmgilaaGreatDoor
namespace Rows

/-- THE TIED CARD OF 'wayzgooselaw03.NameOrders'. -/
def nameOrdersCard : Claim7 := { stood := { row := nameOrdersRow, standIns := [], harness := (true, "eac5ec37a193330fe9fc9f8018802d50a2aa8cddca7bd46c9293e626261d0c3e"), looks := true }, kinds := [], alts := [], laidByText := true, laidKinds := [.handle], laidTests := true, laidLooks := .later }
def NameOrdersCardSaid : Prop := Claim7.holds Tryz.pinned (.plain (OpenSpec.ofChange nameOrdersSpec)) nameOrdersCard

/-- THE TIED CARD OF 'wayzgooselaw03.NameUses'. -/
def nameUsesCard : Claim7 := { stood := { row := nameUsesRow, standIns := [], harness := (true, "eac5ec37a193330fe9fc9f8018802d50a2aa8cddca7bd46c9293e626261d0c3e"), looks := true }, kinds := [], alts := [], laidByText := true, laidKinds := [.handle], laidTests := true, laidLooks := .later }
def NameUsesCardSaid : Prop := Claim7.holds Tryz.pinned (.plain (OpenSpec.ofChange nameUsesSpec)) nameUsesCard

/-- THE TIED CARD OF 'wayzgooselaw03.NameKnown'. -/
def nameKnownCard : Claim7 := { stood := { row := nameKnownRow, standIns := [], harness := (true, "eac5ec37a193330fe9fc9f8018802d50a2aa8cddca7bd46c9293e626261d0c3e"), looks := true }, kinds := [], alts := [], laidByText := true, laidKinds := [.handle], laidTests := true, laidLooks := .later }
def NameKnownCardSaid : Prop := Claim7.holds Tryz.pinned (.plain (OpenSpec.ofChange nameKnownSpec)) nameKnownCard

/-- THE TIED CARD OF 'wayzgooselaw03.NameSorted'. -/
def nameSortedCard : Claim7 := { stood := { row := nameSortedRow, standIns := [], harness := (true, "eac5ec37a193330fe9fc9f8018802d50a2aa8cddca7bd46c9293e626261d0c3e"), looks := true }, kinds := [], alts := [], laidByText := true, laidKinds := [.handle], laidTests := true, laidLooks := .later }
def NameSortedCardSaid : Prop := Claim7.holds Tryz.pinned (.plain (OpenSpec.ofChange nameSortedSpec)) nameSortedCard

/-- THE TIED CARD OF 'wayzgooselaw03.NameFewest'. -/
def nameFewestCard : Claim7 := { stood := { row := nameFewestRow, standIns := [], harness := (true, "eac5ec37a193330fe9fc9f8018802d50a2aa8cddca7bd46c9293e626261d0c3e"), looks := true }, kinds := [], alts := [], laidByText := true, laidKinds := [.handle], laidTests := true, laidLooks := .later }
def NameFewestCardSaid : Prop := Claim7.holds Tryz.pinned (.plain (OpenSpec.ofChange nameFewestSpec)) nameFewestCard

/-- THE TIED CARD OF 'wayzgooselaw03.NameNear'. -/
def nameNearCard : Claim7 := { stood := { row := nameNearRow, standIns := [], harness := (true, "eac5ec37a193330fe9fc9f8018802d50a2aa8cddca7bd46c9293e626261d0c3e"), looks := true }, kinds := [], alts := [], laidByText := true, laidKinds := [.handle], laidTests := true, laidLooks := .later }
def NameNearCardSaid : Prop := Claim7.holds Tryz.pinned (.plain (OpenSpec.ofChange nameNearSpec)) nameNearCard

/-- THE TIED CARD OF 'wayzgooselaw03.NameLeast'. -/
def nameLeastCard : Claim7 := { stood := { row := nameLeastRow, standIns := [], harness := (true, "eac5ec37a193330fe9fc9f8018802d50a2aa8cddca7bd46c9293e626261d0c3e"), looks := true }, kinds := [], alts := [], laidByText := true, laidKinds := [.handle], laidTests := true, laidLooks := .later }
def NameLeastCardSaid : Prop := Claim7.holds Tryz.pinned (.plain (OpenSpec.ofChange nameLeastSpec)) nameLeastCard

/-- THE TIED CARD OF 'wayzgooselaw03.NameColumn'. -/
def nameColumnCard : Claim7 := { stood := { row := nameColumnRow, standIns := [], harness := (true, "eac5ec37a193330fe9fc9f8018802d50a2aa8cddca7bd46c9293e626261d0c3e"), looks := true }, kinds := [], alts := [], laidByText := true, laidKinds := [.handle], laidTests := true, laidLooks := .later }
def NameColumnCardSaid : Prop := Claim7.holds Tryz.pinned (.plain (OpenSpec.ofChange nameColumnSpec)) nameColumnCard

/-- THE SECOND FORM's CARD OF 'wayzgooselaw03.NameOrders'. -/
def nameOrdersUptoCard : Claim7 := { stood := { row := nameOrdersUptoRow, standIns := [], harness := (true, "eac5ec37a193330fe9fc9f8018802d50a2aa8cddca7bd46c9293e626261d0c3e"), looks := true }, kinds := [], alts := [], laidByText := true, laidKinds := [.handle], laidTests := true, laidLooks := .later }
def NameOrdersUptoCardSaid : Prop := Claim7.holds Tryz.pinned (.plain (OpenSpec.upto nameOrdersSpec)) nameOrdersUptoCard

/-- THE SECOND FORM's CARD OF 'wayzgooselaw03.NameUses'. -/
def nameUsesUptoCard : Claim7 := { stood := { row := nameUsesUptoRow, standIns := [], harness := (true, "eac5ec37a193330fe9fc9f8018802d50a2aa8cddca7bd46c9293e626261d0c3e"), looks := true }, kinds := [], alts := [], laidByText := true, laidKinds := [.handle], laidTests := true, laidLooks := .later }
def NameUsesUptoCardSaid : Prop := Claim7.holds Tryz.pinned (.plain (OpenSpec.upto nameUsesSpec)) nameUsesUptoCard

/-- THE SECOND FORM's CARD OF 'wayzgooselaw03.NameKnown'. -/
def nameKnownUptoCard : Claim7 := { stood := { row := nameKnownUptoRow, standIns := [], harness := (true, "eac5ec37a193330fe9fc9f8018802d50a2aa8cddca7bd46c9293e626261d0c3e"), looks := true }, kinds := [], alts := [], laidByText := true, laidKinds := [.handle], laidTests := true, laidLooks := .later }
def NameKnownUptoCardSaid : Prop := Claim7.holds Tryz.pinned (.plain (OpenSpec.upto nameKnownSpec)) nameKnownUptoCard

/-- THE SECOND FORM's CARD OF 'wayzgooselaw03.NameSorted'. -/
def nameSortedUptoCard : Claim7 := { stood := { row := nameSortedUptoRow, standIns := [], harness := (true, "eac5ec37a193330fe9fc9f8018802d50a2aa8cddca7bd46c9293e626261d0c3e"), looks := true }, kinds := [], alts := [], laidByText := true, laidKinds := [.handle], laidTests := true, laidLooks := .later }
def NameSortedUptoCardSaid : Prop := Claim7.holds Tryz.pinned (.plain (OpenSpec.upto nameSortedSpec)) nameSortedUptoCard

/-- THE SECOND FORM's CARD OF 'wayzgooselaw03.NameFewest'. -/
def nameFewestUptoCard : Claim7 := { stood := { row := nameFewestUptoRow, standIns := [], harness := (true, "eac5ec37a193330fe9fc9f8018802d50a2aa8cddca7bd46c9293e626261d0c3e"), looks := true }, kinds := [], alts := [], laidByText := true, laidKinds := [.handle], laidTests := true, laidLooks := .later }
def NameFewestUptoCardSaid : Prop := Claim7.holds Tryz.pinned (.plain (OpenSpec.upto nameFewestSpec)) nameFewestUptoCard

/-- THE SECOND FORM's CARD OF 'wayzgooselaw03.NameNear'. -/
def nameNearUptoCard : Claim7 := { stood := { row := nameNearUptoRow, standIns := [], harness := (true, "eac5ec37a193330fe9fc9f8018802d50a2aa8cddca7bd46c9293e626261d0c3e"), looks := true }, kinds := [], alts := [], laidByText := true, laidKinds := [.handle], laidTests := true, laidLooks := .later }
def NameNearUptoCardSaid : Prop := Claim7.holds Tryz.pinned (.plain (OpenSpec.upto nameNearSpec)) nameNearUptoCard

/-- THE SECOND FORM's CARD OF 'wayzgooselaw03.NameLeast'. -/
def nameLeastUptoCard : Claim7 := { stood := { row := nameLeastUptoRow, standIns := [], harness := (true, "eac5ec37a193330fe9fc9f8018802d50a2aa8cddca7bd46c9293e626261d0c3e"), looks := true }, kinds := [], alts := [], laidByText := true, laidKinds := [.handle], laidTests := true, laidLooks := .later }
def NameLeastUptoCardSaid : Prop := Claim7.holds Tryz.pinned (.plain (OpenSpec.upto nameLeastSpec)) nameLeastUptoCard

/-- THE SECOND FORM's CARD OF 'wayzgooselaw03.NameColumn'. -/
def nameColumnUptoCard : Claim7 := { stood := { row := nameColumnUptoRow, standIns := [], harness := (true, "eac5ec37a193330fe9fc9f8018802d50a2aa8cddca7bd46c9293e626261d0c3e"), looks := true }, kinds := [], alts := [], laidByText := true, laidKinds := [.handle], laidTests := true, laidLooks := .later }
def NameColumnUptoCardSaid : Prop := Claim7.holds Tryz.pinned (.plain (OpenSpec.upto nameColumnSpec)) nameColumnUptoCard
end Rows
end Go.Proofs.YtlhiekeolmgilaaGreatDoor
