/-
  DERIVED. GIVEN WITH THE SEED: THE CARDS: each row of YtapagncaadjiaabGreatDoorRows.lean that lists a variable, with what it lists TIED to the program's text (the seventh form; the later family's looks); each row that meets fmt, with fmt's text TOLD by the authors' own Lean function (tested against real Go, not proved from fmt's source: count such statements apart). THE CARD IS WHAT COUNTS. Prove the row's statement (the work); the ties are given (YtapagncaadjiaabGreatDoorTie.lean); close each card by the builder's one call (the guide's Derived/Test/ToyasCard.lean, 'card_holds'). Laid BY PROGRAM, IN A SANDBOX (cutbox-door.mjs). By AI agents, Wed Nov 11 2026. No macro, syntax, notation, axiom, sorry.
-/
import Derived.Test.YtapagncaadjiaabGreatDoorRows
import GoSem.ClaimSeven
namespace Go.Proofs.YtapagncaadjiaabGreatDoor
namespace Rows

/-- THE TIED CARD OF 'wayzgooselaw03.NameNear'. -/
def nameNearCard : Claim7 := { stood := { row := nameNearRow, standIns := [], harness := (true, "7fe8c338080e2d563bdc97b87f1f62d30b22219c23f5e7ae8ccb4bb6b0c08e9d"), looks := true }, kinds := [], alts := [], laidByText := true, laidKinds := [.handle], laidTests := true, laidLooks := .later }
def NameNearCardSaid : Prop := Claim7.holds Tryz.pinned (.plain (OpenSpec.ofChange nameNearSpec)) nameNearCard

/-- THE TIED CARD OF 'wayzgooselaw03.NameRules'. -/
def nameRulesCard : Claim7 := { stood := { row := nameRulesRow, standIns := [], harness := (true, "7fe8c338080e2d563bdc97b87f1f62d30b22219c23f5e7ae8ccb4bb6b0c08e9d"), looks := true }, kinds := [], alts := [], laidByText := true, laidKinds := [.handle], laidTests := true, laidLooks := .later }
def NameRulesCardSaid : Prop := Claim7.holds Tryz.pinned (.plain (OpenSpec.ofChange nameRulesSpec)) nameRulesCard

/-- THE TIED CARD OF 'wayzgooselaw03.NameCut'. -/
def nameCutCard : Claim7 := { stood := { row := nameCutRow, standIns := [], harness := (true, "7fe8c338080e2d563bdc97b87f1f62d30b22219c23f5e7ae8ccb4bb6b0c08e9d"), looks := true }, kinds := [], alts := [], laidByText := true, laidKinds := [.handle], laidTests := true, laidLooks := .later }
def NameCutCardSaid : Prop := Claim7.holds Tryz.pinned (.plain (OpenSpec.ofChange nameCutSpec)) nameCutCard

/-- THE TIED CARD OF 'wayzgooselaw03.NameLeast'. -/
def nameLeastCard : Claim7 := { stood := { row := nameLeastRow, standIns := [], harness := (true, "7fe8c338080e2d563bdc97b87f1f62d30b22219c23f5e7ae8ccb4bb6b0c08e9d"), looks := true }, kinds := [], alts := [], laidByText := true, laidKinds := [.handle], laidTests := true, laidLooks := .later }
def NameLeastCardSaid : Prop := Claim7.holds Tryz.pinned (.plain (OpenSpec.ofChange nameLeastSpec)) nameLeastCard

/-- THE TIED CARD OF 'wayzgooselaw03.NameColumn'. -/
def nameColumnCard : Claim7 := { stood := { row := nameColumnRow, standIns := [], harness := (true, "7fe8c338080e2d563bdc97b87f1f62d30b22219c23f5e7ae8ccb4bb6b0c08e9d"), looks := true }, kinds := [], alts := [], laidByText := true, laidKinds := [.handle], laidTests := true, laidLooks := .later }
def NameColumnCardSaid : Prop := Claim7.holds Tryz.pinned (.plain (OpenSpec.ofChange nameColumnSpec)) nameColumnCard

/-- THE TIED CARD OF 'wayzgooselaw03.NameList'. -/
def nameListCard : Claim7 := { stood := { row := nameListRow, standIns := [], harness := (true, "7fe8c338080e2d563bdc97b87f1f62d30b22219c23f5e7ae8ccb4bb6b0c08e9d"), looks := true }, kinds := [], alts := [], laidByText := true, laidKinds := [.handle], laidTests := true, laidLooks := .later }
def NameListCardSaid : Prop := Claim7.holds Tryz.pinned (.plain (OpenSpec.ofChange nameListSpec)) nameListCard

/-- THE SECOND FORM's CARD OF 'wayzgooselaw03.NameNear'. -/
def nameNearUptoCard : Claim7 := { stood := { row := nameNearUptoRow, standIns := [], harness := (true, "7fe8c338080e2d563bdc97b87f1f62d30b22219c23f5e7ae8ccb4bb6b0c08e9d"), looks := true }, kinds := [], alts := [], laidByText := true, laidKinds := [.handle], laidTests := true, laidLooks := .later }
def NameNearUptoCardSaid : Prop := Claim7.holds Tryz.pinned (.plain (OpenSpec.upto nameNearSpec)) nameNearUptoCard

/-- THE SECOND FORM's CARD OF 'wayzgooselaw03.NameRules'. -/
def nameRulesUptoCard : Claim7 := { stood := { row := nameRulesUptoRow, standIns := [], harness := (true, "7fe8c338080e2d563bdc97b87f1f62d30b22219c23f5e7ae8ccb4bb6b0c08e9d"), looks := true }, kinds := [], alts := [], laidByText := true, laidKinds := [.handle], laidTests := true, laidLooks := .later }
def NameRulesUptoCardSaid : Prop := Claim7.holds Tryz.pinned (.plain (OpenSpec.upto nameRulesSpec)) nameRulesUptoCard

/-- THE SECOND FORM's CARD OF 'wayzgooselaw03.NameCut'. -/
def nameCutUptoCard : Claim7 := { stood := { row := nameCutUptoRow, standIns := [], harness := (true, "7fe8c338080e2d563bdc97b87f1f62d30b22219c23f5e7ae8ccb4bb6b0c08e9d"), looks := true }, kinds := [], alts := [], laidByText := true, laidKinds := [.handle], laidTests := true, laidLooks := .later }
def NameCutUptoCardSaid : Prop := Claim7.holds Tryz.pinned (.plain (OpenSpec.upto nameCutSpec)) nameCutUptoCard

/-- THE SECOND FORM's CARD OF 'wayzgooselaw03.NameLeast'. -/
def nameLeastUptoCard : Claim7 := { stood := { row := nameLeastUptoRow, standIns := [], harness := (true, "7fe8c338080e2d563bdc97b87f1f62d30b22219c23f5e7ae8ccb4bb6b0c08e9d"), looks := true }, kinds := [], alts := [], laidByText := true, laidKinds := [.handle], laidTests := true, laidLooks := .later }
def NameLeastUptoCardSaid : Prop := Claim7.holds Tryz.pinned (.plain (OpenSpec.upto nameLeastSpec)) nameLeastUptoCard

/-- THE SECOND FORM's CARD OF 'wayzgooselaw03.NameColumn'. -/
def nameColumnUptoCard : Claim7 := { stood := { row := nameColumnUptoRow, standIns := [], harness := (true, "7fe8c338080e2d563bdc97b87f1f62d30b22219c23f5e7ae8ccb4bb6b0c08e9d"), looks := true }, kinds := [], alts := [], laidByText := true, laidKinds := [.handle], laidTests := true, laidLooks := .later }
def NameColumnUptoCardSaid : Prop := Claim7.holds Tryz.pinned (.plain (OpenSpec.upto nameColumnSpec)) nameColumnUptoCard

/-- THE SECOND FORM's CARD OF 'wayzgooselaw03.NameList'. -/
def nameListUptoCard : Claim7 := { stood := { row := nameListUptoRow, standIns := [], harness := (true, "7fe8c338080e2d563bdc97b87f1f62d30b22219c23f5e7ae8ccb4bb6b0c08e9d"), looks := true }, kinds := [], alts := [], laidByText := true, laidKinds := [.handle], laidTests := true, laidLooks := .later }
def NameListUptoCardSaid : Prop := Claim7.holds Tryz.pinned (.plain (OpenSpec.upto nameListSpec)) nameListUptoCard
end Rows
end Go.Proofs.YtapagncaadjiaabGreatDoor
