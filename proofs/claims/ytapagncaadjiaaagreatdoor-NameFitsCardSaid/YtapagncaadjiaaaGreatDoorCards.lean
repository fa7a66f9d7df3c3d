/-
  DERIVED. GIVEN WITH THE SEED: THE CARDS: each row of YtapagncaadjiaaaGreatDoorRows.lean that lists a variable, with what it lists TIED to the program's text (the seventh form; the later family's looks); each row that meets fmt, with fmt's text TOLD by the authors' own Lean function (tested against real Go, not proved from fmt's source: count such statements apart). THE CARD IS WHAT COUNTS. Prove the row's statement (the work); the ties are given (YtapagncaadjiaaaGreatDoorTie.lean); close each card by the builder's one call (the guide's Derived/Test/ToyasCard.lean, 'card_holds'). Laid BY PROGRAM, IN A SANDBOX (cutbox-door.mjs). By AI agents, Wed Nov 11 2026. No macro, syntax, notation, axiom, sorry.
-/
import Derived.Test.YtapagncaadjiaaaGreatDoorRows
import GoSem.ClaimSeven
namespace Go.Proofs.YtapagncaadjiaaaGreatDoor
namespace Rows

/-- THE TIED CARD OF 'wayzgooselaw03.NameKeys'. -/
def nameKeysCard : Claim7 := { stood := { row := nameKeysRow, standIns := [], harness := (true, "57a3e1b535a1a12528ef270fd13bbdb8492c14da1a387ed8ebfb0649c70efe4d"), looks := true }, kinds := [], alts := [], laidByText := true, laidKinds := [.handle], laidTests := true, laidLooks := .later }
def NameKeysCardSaid : Prop := Claim7.holds Tryz.pinned (.plain (OpenSpec.ofChange nameKeysSpec)) nameKeysCard

/-- THE TIED CARD OF 'wayzgooselaw03.NameOrders'. -/
def nameOrdersCard : Claim7 := { stood := { row := nameOrdersRow, standIns := [], harness := (true, "57a3e1b535a1a12528ef270fd13bbdb8492c14da1a387ed8ebfb0649c70efe4d"), looks := true }, kinds := [], alts := [], laidByText := true, laidKinds := [.handle], laidTests := true, laidLooks := .later }
def NameOrdersCardSaid : Prop := Claim7.holds Tryz.pinned (.plain (OpenSpec.ofChange nameOrdersSpec)) nameOrdersCard

/-- THE TIED CARD OF 'wayzgooselaw03.NameUses'. -/
def nameUsesCard : Claim7 := { stood := { row := nameUsesRow, standIns := [], harness := (true, "57a3e1b535a1a12528ef270fd13bbdb8492c14da1a387ed8ebfb0649c70efe4d"), looks := true }, kinds := [], alts := [], laidByText := true, laidKinds := [.handle], laidTests := true, laidLooks := .later }
def NameUsesCardSaid : Prop := Claim7.holds Tryz.pinned (.plain (OpenSpec.ofChange nameUsesSpec)) nameUsesCard

/-- THE TIED CARD OF 'wayzgooselaw03.NameShorts'. -/
def nameShortsCard : Claim7 := { stood := { row := nameShortsRow, standIns := [], harness := (true, "57a3e1b535a1a12528ef270fd13bbdb8492c14da1a387ed8ebfb0649c70efe4d"), looks := true }, kinds := [], alts := [], laidByText := true, laidKinds := [.handle], laidTests := true, laidLooks := .later }
def NameShortsCardSaid : Prop := Claim7.holds Tryz.pinned (.plain (OpenSpec.ofChange nameShortsSpec)) nameShortsCard

/-- THE TIED CARD OF 'wayzgooselaw03.NameFits'. -/
def nameFitsCard : Claim7 := { stood := { row := nameFitsRow, standIns := [], harness := (true, "57a3e1b535a1a12528ef270fd13bbdb8492c14da1a387ed8ebfb0649c70efe4d"), looks := true }, kinds := [], alts := [], laidByText := true, laidKinds := [.handle], laidTests := true, laidLooks := .later }
def NameFitsCardSaid : Prop := Claim7.holds Tryz.pinned (.plain (OpenSpec.ofChange nameFitsSpec)) nameFitsCard

/-- THE TIED CARD OF 'wayzgooselaw03.NameKnown'. -/
def nameKnownCard : Claim7 := { stood := { row := nameKnownRow, standIns := [], harness := (true, "57a3e1b535a1a12528ef270fd13bbdb8492c14da1a387ed8ebfb0649c70efe4d"), looks := true }, kinds := [], alts := [], laidByText := true, laidKinds := [.handle], laidTests := true, laidLooks := .later }
def NameKnownCardSaid : Prop := Claim7.holds Tryz.pinned (.plain (OpenSpec.ofChange nameKnownSpec)) nameKnownCard

/-- THE TIED CARD OF 'wayzgooselaw03.NameOne'. -/
def nameOneCard : Claim7 := { stood := { row := nameOneRow, standIns := [], harness := (true, "57a3e1b535a1a12528ef270fd13bbdb8492c14da1a387ed8ebfb0649c70efe4d"), looks := true }, kinds := [], alts := [], laidByText := true, laidKinds := [.handle], laidTests := true, laidLooks := .later }
def NameOneCardSaid : Prop := Claim7.holds Tryz.pinned (.plain (OpenSpec.ofChange nameOneSpec)) nameOneCard

/-- THE TIED CARD OF 'wayzgooselaw03.NameLine'. -/
def nameLineCard : Claim7 := { stood := { row := nameLineRow, standIns := [], harness := (true, "57a3e1b535a1a12528ef270fd13bbdb8492c14da1a387ed8ebfb0649c70efe4d"), looks := true }, kinds := [], alts := [], laidByText := true, laidKinds := [.handle], laidTests := true, laidLooks := .later }
def NameLineCardSaid : Prop := Claim7.holds Tryz.pinned (.plain (OpenSpec.ofChange nameLineSpec)) nameLineCard

/-- THE TIED CARD OF 'wayzgooselaw03.NameSorted'. -/
def nameSortedCard : Claim7 := { stood := { row := nameSortedRow, standIns := [], harness := (true, "57a3e1b535a1a12528ef270fd13bbdb8492c14da1a387ed8ebfb0649c70efe4d"), looks := true }, kinds := [], alts := [], laidByText := true, laidKinds := [.handle], laidTests := true, laidLooks := .later }
def NameSortedCardSaid : Prop := Claim7.holds Tryz.pinned (.plain (OpenSpec.ofChange nameSortedSpec)) nameSortedCard

/-- THE TIED CARD OF 'wayzgooselaw03.NameFewest'. -/
def nameFewestCard : Claim7 := { stood := { row := nameFewestRow, standIns := [], harness := (true, "57a3e1b535a1a12528ef270fd13bbdb8492c14da1a387ed8ebfb0649c70efe4d"), looks := true }, kinds := [], alts := [], laidByText := true, laidKinds := [.handle], laidTests := true, laidLooks := .later }
def NameFewestCardSaid : Prop := Claim7.holds Tryz.pinned (.plain (OpenSpec.ofChange nameFewestSpec)) nameFewestCard

/-- THE TIED CARD OF 'wayzgooselaw03.NameBoth'. -/
def nameBothCard : Claim7 := { stood := { row := nameBothRow, standIns := [], harness := (true, "57a3e1b535a1a12528ef270fd13bbdb8492c14da1a387ed8ebfb0649c70efe4d"), looks := true }, kinds := [], alts := [], laidByText := true, laidKinds := [.handle], laidTests := true, laidLooks := .later }
def NameBothCardSaid : Prop := Claim7.holds Tryz.pinned (.plain (OpenSpec.ofChange nameBothSpec)) nameBothCard

/-- THE TIED CARD OF 'wayzgooselaw03.NameSteps'. -/
def nameStepsCard : Claim7 := { stood := { row := nameStepsRow, standIns := [], harness := (true, "57a3e1b535a1a12528ef270fd13bbdb8492c14da1a387ed8ebfb0649c70efe4d"), looks := true }, kinds := [], alts := [], laidByText := true, laidKinds := [.handle], laidTests := true, laidLooks := .later }
def NameStepsCardSaid : Prop := Claim7.holds Tryz.pinned (.plain (OpenSpec.ofChange nameStepsSpec)) nameStepsCard

/-- THE SECOND FORM's CARD OF 'wayzgooselaw03.NameKeys'. -/
def nameKeysUptoCard : Claim7 := { stood := { row := nameKeysUptoRow, standIns := [], harness := (true, "57a3e1b535a1a12528ef270fd13bbdb8492c14da1a387ed8ebfb0649c70efe4d"), looks := true }, kinds := [], alts := [], laidByText := true, laidKinds := [.handle], laidTests := true, laidLooks := .later }
def NameKeysUptoCardSaid : Prop := Claim7.holds Tryz.pinned (.plain (OpenSpec.upto nameKeysSpec)) nameKeysUptoCard

/-- THE SECOND FORM's CARD OF 'wayzgooselaw03.NameOrders'. -/
def nameOrdersUptoCard : Claim7 := { stood := { row := nameOrdersUptoRow, standIns := [], harness := (true, "57a3e1b535a1a12528ef270fd13bbdb8492c14da1a387ed8ebfb0649c70efe4d"), looks := true }, kinds := [], alts := [], laidByText := true, laidKinds := [.handle], laidTests := true, laidLooks := .later }
def NameOrdersUptoCardSaid : Prop := Claim7.holds Tryz.pinned (.plain (OpenSpec.upto nameOrdersSpec)) nameOrdersUptoCard

/-- THE SECOND FORM's CARD OF 'wayzgooselaw03.NameUses'. -/
def nameUsesUptoCard : Claim7 := { stood := { row := nameUsesUptoRow, standIns := [], harness := (true, "57a3e1b535a1a12528ef270fd13bbdb8492c14da1a387ed8ebfb0649c70efe4d"), looks := true }, kinds := [], alts := [], laidByText := true, laidKinds := [.handle], laidTests := true, laidLooks := .later }
def NameUsesUptoCardSaid : Prop := Claim7.holds Tryz.pinned (.plain (OpenSpec.upto nameUsesSpec)) nameUsesUptoCard

/-- THE SECOND FORM's CARD OF 'wayzgooselaw03.NameShorts'. -/
def nameShortsUptoCard : Claim7 := { stood := { row := nameShortsUptoRow, standIns := [], harness := (true, "57a3e1b535a1a12528ef270fd13bbdb8492c14da1a387ed8ebfb0649c70efe4d"), looks := true }, kinds := [], alts := [], laidByText := true, laidKinds := [.handle], laidTests := true, laidLooks := .later }
def NameShortsUptoCardSaid : Prop := Claim7.holds Tryz.pinned (.plain (OpenSpec.upto nameShortsSpec)) nameShortsUptoCard

/-- THE SECOND FORM's CARD OF 'wayzgooselaw03.NameFits'. -/
def nameFitsUptoCard : Claim7 := { stood := { row := nameFitsUptoRow, standIns := [], harness := (true, "57a3e1b535a1a12528ef270fd13bbdb8492c14da1a387ed8ebfb0649c70efe4d"), looks := true }, kinds := [], alts := [], laidByText := true, laidKinds := [.handle], laidTests := true, laidLooks := .later }
def NameFitsUptoCardSaid : Prop := Claim7.holds Tryz.pinned (.plain (OpenSpec.upto nameFitsSpec)) nameFitsUptoCard

/-- THE SECOND FORM's CARD OF 'wayzgooselaw03.NameKnown'. -/
def nameKnownUptoCard : Claim7 := { stood := { row := nameKnownUptoRow, standIns := [], harness := (true, "57a3e1b535a1a12528ef270fd13bbdb8492c14da1a387ed8ebfb0649c70efe4d"), looks := true }, kinds := [], alts := [], laidByText := true, laidKinds := [.handle], laidTests := true, laidLooks := .later }
def NameKnownUptoCardSaid : Prop := Claim7.holds Tryz.pinned (.plain (OpenSpec.upto nameKnownSpec)) nameKnownUptoCard

/-- THE SECOND FORM's CARD OF 'wayzgooselaw03.NameOne'. -/
def nameOneUptoCard : Claim7 := { stood := { row := nameOneUptoRow, standIns := [], harness := (true, "57a3e1b535a1a12528ef270fd13bbdb8492c14da1a387ed8ebfb0649c70efe4d"), looks := true }, kinds := [], alts := [], laidByText := true, laidKinds := [.handle], laidTests := true, laidLooks := .later }
def NameOneUptoCardSaid : Prop := Claim7.holds Tryz.pinned (.plain (OpenSpec.upto nameOneSpec)) nameOneUptoCard

/-- THE SECOND FORM's CARD OF 'wayzgooselaw03.NameLine'. -/
def nameLineUptoCard : Claim7 := { stood := { row := nameLineUptoRow, standIns := [], harness := (true, "57a3e1b535a1a12528ef270fd13bbdb8492c14da1a387ed8ebfb0649c70efe4d"), looks := true }, kinds := [], alts := [], laidByText := true, laidKinds := [.handle], laidTests := true, laidLooks := .later }
def NameLineUptoCardSaid : Prop := Claim7.holds Tryz.pinned (.plain (OpenSpec.upto nameLineSpec)) nameLineUptoCard

/-- THE SECOND FORM's CARD OF 'wayzgooselaw03.NameSorted'. -/
def nameSortedUptoCard : Claim7 := { stood := { row := nameSortedUptoRow, standIns := [], harness := (true, "57a3e1b535a1a12528ef270fd13bbdb8492c14da1a387ed8ebfb0649c70efe4d"), looks := true }, kinds := [], alts := [], laidByText := true, laidKinds := [.handle], laidTests := true, laidLooks := .later }
def NameSortedUptoCardSaid : Prop := Claim7.holds Tryz.pinned (.plain (OpenSpec.upto nameSortedSpec)) nameSortedUptoCard

/-- THE SECOND FORM's CARD OF 'wayzgooselaw03.NameFewest'. -/
def nameFewestUptoCard : Claim7 := { stood := { row := nameFewestUptoRow, standIns := [], harness := (true, "57a3e1b535a1a12528ef270fd13bbdb8492c14da1a387ed8ebfb0649c70efe4d"), looks := true }, kinds := [], alts := [], laidByText := true, laidKinds := [.handle], laidTests := true, laidLooks := .later }
def NameFewestUptoCardSaid : Prop := Claim7.holds Tryz.pinned (.plain (OpenSpec.upto nameFewestSpec)) nameFewestUptoCard

/-- THE SECOND FORM's CARD OF 'wayzgooselaw03.NameBoth'. -/
def nameBothUptoCard : Claim7 := { stood := { row := nameBothUptoRow, standIns := [], harness := (true, "57a3e1b535a1a12528ef270fd13bbdb8492c14da1a387ed8ebfb0649c70efe4d"), looks := true }, kinds := [], alts := [], laidByText := true, laidKinds := [.handle], laidTests := true, laidLooks := .later }
def NameBothUptoCardSaid : Prop := Claim7.holds Tryz.pinned (.plain (OpenSpec.upto nameBothSpec)) nameBothUptoCard

/-- THE SECOND FORM's CARD OF 'wayzgooselaw03.NameSteps'. -/
def nameStepsUptoCard : Claim7 := { stood := { row := nameStepsUptoRow, standIns := [], harness := (true, "57a3e1b535a1a12528ef270fd13bbdb8492c14da1a387ed8ebfb0649c70efe4d"), looks := true }, kinds := [], alts := [], laidByText := true, laidKinds := [.handle], laidTests := true, laidLooks := .later }
def NameStepsUptoCardSaid : Prop := Claim7.holds Tryz.pinned (.plain (OpenSpec.upto nameStepsSpec)) nameStepsUptoCard
end Rows
end Go.Proofs.YtapagncaadjiaaaGreatDoor
