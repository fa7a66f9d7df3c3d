/-
  NARROWER THAN 'FOR EVERY INPUT', by the rows' own cells (each row's printed sentence says how): NameKeys: laid · NameOrders: laid · NameUses: laid · NameShorts: laid · NameFits: laid · NameKnown: laid · NameOne: laid · NameLine: laid · NameSorted: laid · NameFewest: laid · NameBoth: laid · NameSteps: laid.
  DERIVED. THE GIVEN ROWS OF THIS SEAT. 12 by the template 'for every input the law returns true; each argument reads behind the call as it read before'; 0 by the template 'total and deterministic' (their statements: YtapagncaadjiaaaGreatDoorTotals.lean).
  GIVEN WITH THE SEED: the statements are not yours to turn. If you find one false, say at which input.
  Laid BY PROGRAM, IN A SANDBOX (cutbox-rows.mjs): the forced cells as the released guide's own fill.sh prints them over the translation cc4e48afc6bdf2e2… (all of the seat's roots in one cut). By AI agents, Wed Nov 11 2026. No macro, syntax, notation, axiom, sorry.
-/
import Derived.Test.YtapagncaadjiaaaGreatDoorChecked
import GoSem.Claim
import GoSem.ClaimJoined
import GoSem.ClaimMapViews
import Derived.JoinedTies
import Derived.KernelRfl
namespace Go.Proofs.YtapagncaadjiaaaGreatDoor
/- THE CELL 'sum', in the pinned program and in every row, IS THE sha256 OF THE DUMP (.gsa) THAT YtapagncaadjiaaaGreatDoorProg.lean LOADS. Nothing in Lean hashes anything: it is a label: what it is worth is what the hold of that sum in a sandbox is worth. -/
noncomputable def Tryz.pinned : Pinned := { name := "ytapagncaadjiaaagreatdoor", sum := "cc4e48afc6bdf2e24fddb8707240b6d2edd0a34640655d687ec5bfc77065938b", checked := Tryz.checked }
namespace Rows
def none {H : Type} : Left H := { results := [], args := [] }

/- WHAT THE LISTED PACKAGE-LEVEL VARIABLES READ AS WHEN THE CALL BEGINS. Each datum BY PROGRAM (the guide's laid-datum.mjs) off the statement by which the dump's own 'gosem.cut.vars' lays the variable. In a bare row this is a premise. The card (YtapagncaadjiaaaGreatDoorCards.lean) ties it to the program's text. -/
def laid_errors_errorType {H : Type} : DataW H := .iface "internal/reflectlite.rtype" (.agg [.ptr (.lit (.string [101, 114, 114, 111, 114]))])

/-- 'wayzgooselaw03.NameKeys': WHATEVER THE INPUT: true; the input reads as it did. -/
def nameKeysSpec : ChangeSpec := { name := "nameKeys", fn := fun _ => fun
  | [d1, d2] => { results := [.lit (.bool true)], args := [d1, d2] }
  | _ => none }
def nameKeysRow : OpenClaim := { program := "ytapagncaadjiaaagreatdoor", sum := "cc4e48afc6bdf2e24fddb8707240b6d2edd0a34640655d687ec5bfc77065938b", func := "wayzgoose/wayzgooselaw03.NameKeys", spec := "nameKeys", inPlace := ["internal/bytealg.IndexByteString", "internal/bytealg.IndexString", "internal/abi.NoEscape", "internal/reflectlite.ValueOf", "(internal/reflectlite.Value).Type", "(internal/reflectlite.Value).IsNil", "internal/reflectlite.TypeOf", "(internal/reflectlite.Value).Elem", "(internal/reflectlite.Value).Set", "internal/bytealg.abigen_runtime_cmpstring"], unfollowed := true, recurses := true, named := ["errors.errorType", "internal/bytealg.MaxLen"], apart := false, laid := [("errors.errorType", laid_errors_errorType)] }
def NameKeysSaid : Prop := nameKeysRow.holds Tryz.pinned (OpenSpec.ofChange nameKeysSpec)

/-- ITS FALSE NEIGHBOUR: 'it returns false'. Refute it at one input. -/
def nameKeysWrong : ChangeSpec := { name := "nameKeys", fn := fun _ => fun
  | [d1, d2] => { results := [.lit (.bool false)], args := [d1, d2] }
  | _ => none }
def NameKeysWrongFalsely : Prop := nameKeysRow.holds Tryz.pinned (OpenSpec.ofChange nameKeysWrong)

/-- 'wayzgooselaw03.NameOrders': WHATEVER THE INPUT: true; the input reads as it did. -/
def nameOrdersSpec : ChangeSpec := { name := "nameOrders", fn := fun _ => fun
  | [d1, d2, d3, d4] => { results := [.lit (.bool true)], args := [d1, d2, d3, d4] }
  | _ => none }
def nameOrdersRow : OpenClaim := { program := "ytapagncaadjiaaagreatdoor", sum := "cc4e48afc6bdf2e24fddb8707240b6d2edd0a34640655d687ec5bfc77065938b", func := "wayzgoose/wayzgooselaw03.NameOrders", spec := "nameOrders", inPlace := ["internal/bytealg.IndexByteString", "internal/bytealg.IndexString", "internal/abi.NoEscape", "internal/reflectlite.ValueOf", "(internal/reflectlite.Value).Type", "(internal/reflectlite.Value).IsNil", "internal/reflectlite.TypeOf", "(internal/reflectlite.Value).Elem", "(internal/reflectlite.Value).Set", "internal/bytealg.abigen_runtime_cmpstring"], unfollowed := true, recurses := true, named := ["errors.errorType", "internal/bytealg.MaxLen"], apart := false, laid := [("errors.errorType", laid_errors_errorType)] }
def NameOrdersSaid : Prop := nameOrdersRow.holds Tryz.pinned (OpenSpec.ofChange nameOrdersSpec)

/-- ITS FALSE NEIGHBOUR: 'it returns false'. Refute it at one input. -/
def nameOrdersWrong : ChangeSpec := { name := "nameOrders", fn := fun _ => fun
  | [d1, d2, d3, d4] => { results := [.lit (.bool false)], args := [d1, d2, d3, d4] }
  | _ => none }
def NameOrdersWrongFalsely : Prop := nameOrdersRow.holds Tryz.pinned (OpenSpec.ofChange nameOrdersWrong)

/-- 'wayzgooselaw03.NameUses': WHATEVER THE INPUT: true; the input reads as it did. -/
def nameUsesSpec : ChangeSpec := { name := "nameUses", fn := fun _ => fun
  | [d1, d2, d3, d4, d5] => { results := [.lit (.bool true)], args := [d1, d2, d3, d4, d5] }
  | _ => none }
def nameUsesRow : OpenClaim := { program := "ytapagncaadjiaaagreatdoor", sum := "cc4e48afc6bdf2e24fddb8707240b6d2edd0a34640655d687ec5bfc77065938b", func := "wayzgoose/wayzgooselaw03.NameUses", spec := "nameUses", inPlace := ["internal/bytealg.IndexByteString", "internal/bytealg.IndexString", "internal/abi.NoEscape", "internal/reflectlite.ValueOf", "(internal/reflectlite.Value).Type", "(internal/reflectlite.Value).IsNil", "internal/reflectlite.TypeOf", "(internal/reflectlite.Value).Elem", "(internal/reflectlite.Value).Set", "internal/bytealg.abigen_runtime_cmpstring"], unfollowed := true, recurses := true, named := ["errors.errorType", "internal/bytealg.MaxLen"], apart := false, laid := [("errors.errorType", laid_errors_errorType)] }
def NameUsesSaid : Prop := nameUsesRow.holds Tryz.pinned (OpenSpec.ofChange nameUsesSpec)

/-- ITS FALSE NEIGHBOUR: 'it returns false'. Refute it at one input. -/
def nameUsesWrong : ChangeSpec := { name := "nameUses", fn := fun _ => fun
  | [d1, d2, d3, d4, d5] => { results := [.lit (.bool false)], args := [d1, d2, d3, d4, d5] }
  | _ => none }
def NameUsesWrongFalsely : Prop := nameUsesRow.holds Tryz.pinned (OpenSpec.ofChange nameUsesWrong)

/-- 'wayzgooselaw03.NameShorts': WHATEVER THE INPUT: true; the input reads as it did. -/
def nameShortsSpec : ChangeSpec := { name := "nameShorts", fn := fun _ => fun
  | [d1, d2, d3, d4] => { results := [.lit (.bool true)], args := [d1, d2, d3, d4] }
  | _ => none }
def nameShortsRow : OpenClaim := { program := "ytapagncaadjiaaagreatdoor", sum := "cc4e48afc6bdf2e24fddb8707240b6d2edd0a34640655d687ec5bfc77065938b", func := "wayzgoose/wayzgooselaw03.NameShorts", spec := "nameShorts", inPlace := ["internal/bytealg.IndexByteString", "internal/bytealg.IndexString", "internal/abi.NoEscape", "internal/reflectlite.ValueOf", "(internal/reflectlite.Value).Type", "(internal/reflectlite.Value).IsNil", "internal/reflectlite.TypeOf", "(internal/reflectlite.Value).Elem", "(internal/reflectlite.Value).Set", "internal/bytealg.abigen_runtime_cmpstring"], unfollowed := true, recurses := true, named := ["errors.errorType", "internal/bytealg.MaxLen"], apart := false, laid := [("errors.errorType", laid_errors_errorType)] }
def NameShortsSaid : Prop := nameShortsRow.holds Tryz.pinned (OpenSpec.ofChange nameShortsSpec)

/-- ITS FALSE NEIGHBOUR: 'it returns false'. Refute it at one input. -/
def nameShortsWrong : ChangeSpec := { name := "nameShorts", fn := fun _ => fun
  | [d1, d2, d3, d4] => { results := [.lit (.bool false)], args := [d1, d2, d3, d4] }
  | _ => none }
def NameShortsWrongFalsely : Prop := nameShortsRow.holds Tryz.pinned (OpenSpec.ofChange nameShortsWrong)

/-- 'wayzgooselaw03.NameFits': WHATEVER THE INPUT: true; the input reads as it did. -/
def nameFitsSpec : ChangeSpec := { name := "nameFits", fn := fun _ => fun
  | [d1, d2, d3, d4] => { results := [.lit (.bool true)], args := [d1, d2, d3, d4] }
  | _ => none }
def nameFitsRow : OpenClaim := { program := "ytapagncaadjiaaagreatdoor", sum := "cc4e48afc6bdf2e24fddb8707240b6d2edd0a34640655d687ec5bfc77065938b", func := "wayzgoose/wayzgooselaw03.NameFits", spec := "nameFits", inPlace := ["internal/bytealg.IndexByteString", "internal/bytealg.IndexString", "internal/abi.NoEscape", "internal/reflectlite.ValueOf", "(internal/reflectlite.Value).Type", "(internal/reflectlite.Value).IsNil", "internal/reflectlite.TypeOf", "(internal/reflectlite.Value).Elem", "(internal/reflectlite.Value).Set", "internal/bytealg.abigen_runtime_cmpstring"], unfollowed := true, recurses := true, named := ["errors.errorType", "internal/bytealg.MaxLen"], apart := false, laid := [("errors.errorType", laid_errors_errorType)] }
def NameFitsSaid : Prop := nameFitsRow.holds Tryz.pinned (OpenSpec.ofChange nameFitsSpec)

/-- ITS FALSE NEIGHBOUR: 'it returns false'. Refute it at one input. -/
def nameFitsWrong : ChangeSpec := { name := "nameFits", fn := fun _ => fun
  | [d1, d2, d3, d4] => { results := [.lit (.bool false)], args := [d1, d2, d3, d4] }
  | _ => none }
def NameFitsWrongFalsely : Prop := nameFitsRow.holds Tryz.pinned (OpenSpec.ofChange nameFitsWrong)

/-- 'wayzgooselaw03.NameKnown': WHATEVER THE INPUT: true; the input reads as it did. -/
def nameKnownSpec : ChangeSpec := { name := "nameKnown", fn := fun _ => fun
  | [] => { results := [.lit (.bool true)], args := [] }
  | _ => none }
def nameKnownRow : OpenClaim := { program := "ytapagncaadjiaaagreatdoor", sum := "cc4e48afc6bdf2e24fddb8707240b6d2edd0a34640655d687ec5bfc77065938b", func := "wayzgoose/wayzgooselaw03.NameKnown", spec := "nameKnown", inPlace := ["internal/bytealg.IndexByteString", "internal/bytealg.IndexString", "internal/abi.NoEscape", "internal/reflectlite.ValueOf", "(internal/reflectlite.Value).Type", "(internal/reflectlite.Value).IsNil", "internal/reflectlite.TypeOf", "(internal/reflectlite.Value).Elem", "(internal/reflectlite.Value).Set", "internal/bytealg.abigen_runtime_cmpstring"], unfollowed := true, recurses := true, named := ["errors.errorType", "internal/bytealg.MaxLen"], apart := false, laid := [("errors.errorType", laid_errors_errorType)] }
def NameKnownSaid : Prop := nameKnownRow.holds Tryz.pinned (OpenSpec.ofChange nameKnownSpec)

/-- ITS FALSE NEIGHBOUR: 'it returns false'. Refute it at one input. -/
def nameKnownWrong : ChangeSpec := { name := "nameKnown", fn := fun _ => fun
  | [] => { results := [.lit (.bool false)], args := [] }
  | _ => none }
def NameKnownWrongFalsely : Prop := nameKnownRow.holds Tryz.pinned (OpenSpec.ofChange nameKnownWrong)

/-- 'wayzgooselaw03.NameOne': WHATEVER THE INPUT: true; the input reads as it did. -/
def nameOneSpec : ChangeSpec := { name := "nameOne", fn := fun _ => fun
  | [d] => { results := [.lit (.bool true)], args := [d] }
  | _ => none }
def nameOneRow : OpenClaim := { program := "ytapagncaadjiaaagreatdoor", sum := "cc4e48afc6bdf2e24fddb8707240b6d2edd0a34640655d687ec5bfc77065938b", func := "wayzgoose/wayzgooselaw03.NameOne", spec := "nameOne", inPlace := ["internal/bytealg.IndexByteString", "internal/bytealg.IndexString", "internal/abi.NoEscape", "internal/reflectlite.ValueOf", "(internal/reflectlite.Value).Type", "(internal/reflectlite.Value).IsNil", "internal/reflectlite.TypeOf", "(internal/reflectlite.Value).Elem", "(internal/reflectlite.Value).Set", "internal/bytealg.abigen_runtime_cmpstring"], unfollowed := true, recurses := true, named := ["errors.errorType", "internal/bytealg.MaxLen"], apart := false, laid := [("errors.errorType", laid_errors_errorType)] }
def NameOneSaid : Prop := nameOneRow.holds Tryz.pinned (OpenSpec.ofChange nameOneSpec)

/-- ITS FALSE NEIGHBOUR: 'it returns false'. Refute it at one input. -/
def nameOneWrong : ChangeSpec := { name := "nameOne", fn := fun _ => fun
  | [d] => { results := [.lit (.bool false)], args := [d] }
  | _ => none }
def NameOneWrongFalsely : Prop := nameOneRow.holds Tryz.pinned (OpenSpec.ofChange nameOneWrong)

/-- 'wayzgooselaw03.NameLine': WHATEVER THE INPUT: true; the input reads as it did. -/
def nameLineSpec : ChangeSpec := { name := "nameLine", fn := fun _ => fun
  | [d] => { results := [.lit (.bool true)], args := [d] }
  | _ => none }
def nameLineRow : OpenClaim := { program := "ytapagncaadjiaaagreatdoor", sum := "cc4e48afc6bdf2e24fddb8707240b6d2edd0a34640655d687ec5bfc77065938b", func := "wayzgoose/wayzgooselaw03.NameLine", spec := "nameLine", inPlace := ["internal/bytealg.IndexByteString", "internal/bytealg.IndexString", "internal/abi.NoEscape", "internal/reflectlite.ValueOf", "(internal/reflectlite.Value).Type", "(internal/reflectlite.Value).IsNil", "internal/reflectlite.TypeOf", "(internal/reflectlite.Value).Elem", "(internal/reflectlite.Value).Set", "internal/bytealg.abigen_runtime_cmpstring"], unfollowed := true, recurses := true, named := ["errors.errorType", "internal/bytealg.MaxLen"], apart := false, laid := [("errors.errorType", laid_errors_errorType)] }
def NameLineSaid : Prop := nameLineRow.holds Tryz.pinned (OpenSpec.ofChange nameLineSpec)

/-- ITS FALSE NEIGHBOUR: 'it returns false'. Refute it at one input. -/
def nameLineWrong : ChangeSpec := { name := "nameLine", fn := fun _ => fun
  | [d] => { results := [.lit (.bool false)], args := [d] }
  | _ => none }
def NameLineWrongFalsely : Prop := nameLineRow.holds Tryz.pinned (OpenSpec.ofChange nameLineWrong)

/-- 'wayzgooselaw03.NameSorted': WHATEVER THE INPUT: true; the input reads as it did. -/
def nameSortedSpec : ChangeSpec := { name := "nameSorted", fn := fun _ => fun
  | [d] => { results := [.lit (.bool true)], args := [d] }
  | _ => none }
def nameSortedRow : OpenClaim := { program := "ytapagncaadjiaaagreatdoor", sum := "cc4e48afc6bdf2e24fddb8707240b6d2edd0a34640655d687ec5bfc77065938b", func := "wayzgoose/wayzgooselaw03.NameSorted", spec := "nameSorted", inPlace := ["internal/bytealg.IndexByteString", "internal/bytealg.IndexString", "internal/abi.NoEscape", "internal/reflectlite.ValueOf", "(internal/reflectlite.Value).Type", "(internal/reflectlite.Value).IsNil", "internal/reflectlite.TypeOf", "(internal/reflectlite.Value).Elem", "(internal/reflectlite.Value).Set", "internal/bytealg.abigen_runtime_cmpstring"], unfollowed := true, recurses := true, named := ["errors.errorType", "internal/bytealg.MaxLen"], apart := false, laid := [("errors.errorType", laid_errors_errorType)] }
def NameSortedSaid : Prop := nameSortedRow.holds Tryz.pinned (OpenSpec.ofChange nameSortedSpec)

/-- ITS FALSE NEIGHBOUR: 'it returns false'. Refute it at one input. -/
def nameSortedWrong : ChangeSpec := { name := "nameSorted", fn := fun _ => fun
  | [d] => { results := [.lit (.bool false)], args := [d] }
  | _ => none }
def NameSortedWrongFalsely : Prop := nameSortedRow.holds Tryz.pinned (OpenSpec.ofChange nameSortedWrong)

/-- 'wayzgooselaw03.NameFewest': WHATEVER THE INPUT: true; the input reads as it did. -/
def nameFewestSpec : ChangeSpec := { name := "nameFewest", fn := fun _ => fun
  | [d] => { results := [.lit (.bool true)], args := [d] }
  | _ => none }
def nameFewestRow : OpenClaim := { program := "ytapagncaadjiaaagreatdoor", sum := "cc4e48afc6bdf2e24fddb8707240b6d2edd0a34640655d687ec5bfc77065938b", func := "wayzgoose/wayzgooselaw03.NameFewest", spec := "nameFewest", inPlace := ["internal/bytealg.IndexByteString", "internal/bytealg.IndexString", "internal/abi.NoEscape", "internal/reflectlite.ValueOf", "(internal/reflectlite.Value).Type", "(internal/reflectlite.Value).IsNil", "internal/reflectlite.TypeOf", "(internal/reflectlite.Value).Elem", "(internal/reflectlite.Value).Set", "internal/bytealg.abigen_runtime_cmpstring"], unfollowed := true, recurses := true, named := ["errors.errorType", "internal/bytealg.MaxLen"], apart := false, laid := [("errors.errorType", laid_errors_errorType)] }
def NameFewestSaid : Prop := nameFewestRow.holds Tryz.pinned (OpenSpec.ofChange nameFewestSpec)

/-- ITS FALSE NEIGHBOUR: 'it returns false'. Refute it at one input. -/
def nameFewestWrong : ChangeSpec := { name := "nameFewest", fn := fun _ => fun
  | [d] => { results := [.lit (.bool false)], args := [d] }
  | _ => none }
def NameFewestWrongFalsely : Prop := nameFewestRow.holds Tryz.pinned (OpenSpec.ofChange nameFewestWrong)

/-- 'wayzgooselaw03.NameBoth': WHATEVER THE INPUT: true; the input reads as it did. -/
def nameBothSpec : ChangeSpec := { name := "nameBoth", fn := fun _ => fun
  | [d] => { results := [.lit (.bool true)], args := [d] }
  | _ => none }
def nameBothRow : OpenClaim := { program := "ytapagncaadjiaaagreatdoor", sum := "cc4e48afc6bdf2e24fddb8707240b6d2edd0a34640655d687ec5bfc77065938b", func := "wayzgoose/wayzgooselaw03.NameBoth", spec := "nameBoth", inPlace := ["internal/bytealg.IndexByteString", "internal/bytealg.IndexString", "internal/abi.NoEscape", "internal/reflectlite.ValueOf", "(internal/reflectlite.Value).Type", "(internal/reflectlite.Value).IsNil", "internal/reflectlite.TypeOf", "(internal/reflectlite.Value).Elem", "(internal/reflectlite.Value).Set", "internal/bytealg.abigen_runtime_cmpstring"], unfollowed := true, recurses := true, named := ["errors.errorType", "internal/bytealg.MaxLen"], apart := false, laid := [("errors.errorType", laid_errors_errorType)] }
def NameBothSaid : Prop := nameBothRow.holds Tryz.pinned (OpenSpec.ofChange nameBothSpec)

/-- ITS FALSE NEIGHBOUR: 'it returns false'. Refute it at one input. -/
def nameBothWrong : ChangeSpec := { name := "nameBoth", fn := fun _ => fun
  | [d] => { results := [.lit (.bool false)], args := [d] }
  | _ => none }
def NameBothWrongFalsely : Prop := nameBothRow.holds Tryz.pinned (OpenSpec.ofChange nameBothWrong)

/-- 'wayzgooselaw03.NameSteps': WHATEVER THE INPUT: true; the input reads as it did. -/
def nameStepsSpec : ChangeSpec := { name := "nameSteps", fn := fun _ => fun
  | [d] => { results := [.lit (.bool true)], args := [d] }
  | _ => none }
def nameStepsRow : OpenClaim := { program := "ytapagncaadjiaaagreatdoor", sum := "cc4e48afc6bdf2e24fddb8707240b6d2edd0a34640655d687ec5bfc77065938b", func := "wayzgoose/wayzgooselaw03.NameSteps", spec := "nameSteps", inPlace := ["internal/bytealg.IndexByteString", "internal/bytealg.IndexString", "internal/abi.NoEscape", "internal/reflectlite.ValueOf", "(internal/reflectlite.Value).Type", "(internal/reflectlite.Value).IsNil", "internal/reflectlite.TypeOf", "(internal/reflectlite.Value).Elem", "(internal/reflectlite.Value).Set", "internal/bytealg.abigen_runtime_cmpstring"], unfollowed := true, recurses := true, named := ["errors.errorType", "internal/bytealg.MaxLen"], apart := false, laid := [("errors.errorType", laid_errors_errorType)] }
def NameStepsSaid : Prop := nameStepsRow.holds Tryz.pinned (OpenSpec.ofChange nameStepsSpec)

/-- ITS FALSE NEIGHBOUR: 'it returns false'. Refute it at one input. -/
def nameStepsWrong : ChangeSpec := { name := "nameSteps", fn := fun _ => fun
  | [d] => { results := [.lit (.bool false)], args := [d] }
  | _ => none }
def NameStepsWrongFalsely : Prop := nameStepsRow.holds Tryz.pinned (OpenSpec.ofChange nameStepsWrong)

/- THE SECOND FORM. 'bulk': how many values and letters a reading holds, each counted each time it is reached (what is shared counts as often as it is met; a slice's spare places count too). A statement '..UptoSaid' is the law's where the arguments, and the package variables that the reading takes, are together of bulk at most 1048576: NARROWER than '..Said'. Prove '..Said' where nothing that the law and all that it calls make is longer than what came in: it says more and counts as full. Else prove '..UptoSaid'. A law counts once. -/
mutual
def uptoBulk {H : Type} : DataW H → Nat
  | .lit (.string bytes) => bytes.length + 1
  | .lit _ => 1
  | .nil => 1
  | .ptr d => uptoBulk d + 1
  | .slice elems spare => uptoBulkAll elems + uptoBulkAll spare + 1
  | .agg parts => uptoBulkAll parts + 1
  | .iface _ d => uptoBulk d + 1
  | .map entries => uptoBulkEntries entries + 1
  | .held _ => 1
def uptoBulkAll {H : Type} : List (DataW H) → Nat
  | [] => 0
  | d :: r => uptoBulk d + uptoBulkAll r
def uptoBulkEntries {H : Type} : List (Lit × DataW H) → Nat
  | [] => 0
  | x :: r => uptoBulkEntry x + uptoBulkEntries r
def uptoBulkEntry {H : Type} : Lit × DataW H → Nat
  | (.string bytes, d) => bytes.length + uptoBulk d + 1
  | (_, d) => uptoBulk d + 1
 end
def uptoSmall : (H : Type) → List (DataW H) → Bool := fun _ ds => decide (uptoBulkAll ds ≤ 1048576)
def OpenSpec.upto (s : _root_.Go.ChangeSpec) : _root_.Go.OpenSpec := { _root_.Go.OpenSpec.ofChange s with cond := some uptoSmall }

/-- 'wayzgooselaw03.NameKeys', WHERE WHAT IT READS IS OF BULK AT MOST 1048576: true; the input reads as it did. -/
def nameKeysUptoRow : OpenClaim := { program := "ytapagncaadjiaaagreatdoor", sum := "cc4e48afc6bdf2e24fddb8707240b6d2edd0a34640655d687ec5bfc77065938b", func := "wayzgoose/wayzgooselaw03.NameKeys", spec := "nameKeys", inPlace := ["internal/bytealg.IndexByteString", "internal/bytealg.IndexString", "internal/abi.NoEscape", "internal/reflectlite.ValueOf", "(internal/reflectlite.Value).Type", "(internal/reflectlite.Value).IsNil", "internal/reflectlite.TypeOf", "(internal/reflectlite.Value).Elem", "(internal/reflectlite.Value).Set", "internal/bytealg.abigen_runtime_cmpstring"], unfollowed := true, recurses := true, named := ["errors.errorType", "internal/bytealg.MaxLen"], apart := false, laid := [("errors.errorType", laid_errors_errorType)], narrowed := true }
def NameKeysUptoSaid : Prop := nameKeysUptoRow.holds Tryz.pinned (OpenSpec.upto nameKeysSpec)

/-- 'wayzgooselaw03.NameOrders', WHERE WHAT IT READS IS OF BULK AT MOST 1048576: true; the input reads as it did. -/
def nameOrdersUptoRow : OpenClaim := { program := "ytapagncaadjiaaagreatdoor", sum := "cc4e48afc6bdf2e24fddb8707240b6d2edd0a34640655d687ec5bfc77065938b", func := "wayzgoose/wayzgooselaw03.NameOrders", spec := "nameOrders", inPlace := ["internal/bytealg.IndexByteString", "internal/bytealg.IndexString", "internal/abi.NoEscape", "internal/reflectlite.ValueOf", "(internal/reflectlite.Value).Type", "(internal/reflectlite.Value).IsNil", "internal/reflectlite.TypeOf", "(internal/reflectlite.Value).Elem", "(internal/reflectlite.Value).Set", "internal/bytealg.abigen_runtime_cmpstring"], unfollowed := true, recurses := true, named := ["errors.errorType", "internal/bytealg.MaxLen"], apart := false, laid := [("errors.errorType", laid_errors_errorType)], narrowed := true }
def NameOrdersUptoSaid : Prop := nameOrdersUptoRow.holds Tryz.pinned (OpenSpec.upto nameOrdersSpec)

/-- 'wayzgooselaw03.NameUses', WHERE WHAT IT READS IS OF BULK AT MOST 1048576: true; the input reads as it did. -/
def nameUsesUptoRow : OpenClaim := { program := "ytapagncaadjiaaagreatdoor", sum := "cc4e48afc6bdf2e24fddb8707240b6d2edd0a34640655d687ec5bfc77065938b", func := "wayzgoose/wayzgooselaw03.NameUses", spec := "nameUses", inPlace := ["internal/bytealg.IndexByteString", "internal/bytealg.IndexString", "internal/abi.NoEscape", "internal/reflectlite.ValueOf", "(internal/reflectlite.Value).Type", "(internal/reflectlite.Value).IsNil", "internal/reflectlite.TypeOf", "(internal/reflectlite.Value).Elem", "(internal/reflectlite.Value).Set", "internal/bytealg.abigen_runtime_cmpstring"], unfollowed := true, recurses := true, named := ["errors.errorType", "internal/bytealg.MaxLen"], apart := false, laid := [("errors.errorType", laid_errors_errorType)], narrowed := true }
def NameUsesUptoSaid : Prop := nameUsesUptoRow.holds Tryz.pinned (OpenSpec.upto nameUsesSpec)

/-- 'wayzgooselaw03.NameShorts', WHERE WHAT IT READS IS OF BULK AT MOST 1048576: true; the input reads as it did. -/
def nameShortsUptoRow : OpenClaim := { program := "ytapagncaadjiaaagreatdoor", sum := "cc4e48afc6bdf2e24fddb8707240b6d2edd0a34640655d687ec5bfc77065938b", func := "wayzgoose/wayzgooselaw03.NameShorts", spec := "nameShorts", inPlace := ["internal/bytealg.IndexByteString", "internal/bytealg.IndexString", "internal/abi.NoEscape", "internal/reflectlite.ValueOf", "(internal/reflectlite.Value).Type", "(internal/reflectlite.Value).IsNil", "internal/reflectlite.TypeOf", "(internal/reflectlite.Value).Elem", "(internal/reflectlite.Value).Set", "internal/bytealg.abigen_runtime_cmpstring"], unfollowed := true, recurses := true, named := ["errors.errorType", "internal/bytealg.MaxLen"], apart := false, laid := [("errors.errorType", laid_errors_errorType)], narrowed := true }
def NameShortsUptoSaid : Prop := nameShortsUptoRow.holds Tryz.pinned (OpenSpec.upto nameShortsSpec)

/-- 'wayzgooselaw03.NameFits', WHERE WHAT IT READS IS OF BULK AT MOST 1048576: true; the input reads as it did. -/
def nameFitsUptoRow : OpenClaim := { program := "ytapagncaadjiaaagreatdoor", sum := "cc4e48afc6bdf2e24fddb8707240b6d2edd0a34640655d687ec5bfc77065938b", func := "wayzgoose/wayzgooselaw03.NameFits", spec := "nameFits", inPlace := ["internal/bytealg.IndexByteString", "internal/bytealg.IndexString", "internal/abi.NoEscape", "internal/reflectlite.ValueOf", "(internal/reflectlite.Value).Type", "(internal/reflectlite.Value).IsNil", "internal/reflectlite.TypeOf", "(internal/reflectlite.Value).Elem", "(internal/reflectlite.Value).Set", "internal/bytealg.abigen_runtime_cmpstring"], unfollowed := true, recurses := true, named := ["errors.errorType", "internal/bytealg.MaxLen"], apart := false, laid := [("errors.errorType", laid_errors_errorType)], narrowed := true }
def NameFitsUptoSaid : Prop := nameFitsUptoRow.holds Tryz.pinned (OpenSpec.upto nameFitsSpec)

/-- 'wayzgooselaw03.NameKnown', WHERE WHAT IT READS IS OF BULK AT MOST 1048576: true; the input reads as it did. -/
def nameKnownUptoRow : OpenClaim := { program := "ytapagncaadjiaaagreatdoor", sum := "cc4e48afc6bdf2e24fddb8707240b6d2edd0a34640655d687ec5bfc77065938b", func := "wayzgoose/wayzgooselaw03.NameKnown", spec := "nameKnown", inPlace := ["internal/bytealg.IndexByteString", "internal/bytealg.IndexString", "internal/abi.NoEscape", "internal/reflectlite.ValueOf", "(internal/reflectlite.Value).Type", "(internal/reflectlite.Value).IsNil", "internal/reflectlite.TypeOf", "(internal/reflectlite.Value).Elem", "(internal/reflectlite.Value).Set", "internal/bytealg.abigen_runtime_cmpstring"], unfollowed := true, recurses := true, named := ["errors.errorType", "internal/bytealg.MaxLen"], apart := false, laid := [("errors.errorType", laid_errors_errorType)], narrowed := true }
def NameKnownUptoSaid : Prop := nameKnownUptoRow.holds Tryz.pinned (OpenSpec.upto nameKnownSpec)

/-- 'wayzgooselaw03.NameOne', WHERE WHAT IT READS IS OF BULK AT MOST 1048576: true; the input reads as it did. -/
def nameOneUptoRow : OpenClaim := { program := "ytapagncaadjiaaagreatdoor", sum := "cc4e48afc6bdf2e24fddb8707240b6d2edd0a34640655d687ec5bfc77065938b", func := "wayzgoose/wayzgooselaw03.NameOne", spec := "nameOne", inPlace := ["internal/bytealg.IndexByteString", "internal/bytealg.IndexString", "internal/abi.NoEscape", "internal/reflectlite.ValueOf", "(internal/reflectlite.Value).Type", "(internal/reflectlite.Value).IsNil", "internal/reflectlite.TypeOf", "(internal/reflectlite.Value).Elem", "(internal/reflectlite.Value).Set", "internal/bytealg.abigen_runtime_cmpstring"], unfollowed := true, recurses := true, named := ["errors.errorType", "internal/bytealg.MaxLen"], apart := false, laid := [("errors.errorType", laid_errors_errorType)], narrowed := true }
def NameOneUptoSaid : Prop := nameOneUptoRow.holds Tryz.pinned (OpenSpec.upto nameOneSpec)

/-- 'wayzgooselaw03.NameLine', WHERE WHAT IT READS IS OF BULK AT MOST 1048576: true; the input reads as it did. -/
def nameLineUptoRow : OpenClaim := { program := "ytapagncaadjiaaagreatdoor", sum := "cc4e48afc6bdf2e24fddb8707240b6d2edd0a34640655d687ec5bfc77065938b", func := "wayzgoose/wayzgooselaw03.NameLine", spec := "nameLine", inPlace := ["internal/bytealg.IndexByteString", "internal/bytealg.IndexString", "internal/abi.NoEscape", "internal/reflectlite.ValueOf", "(internal/reflectlite.Value).Type", "(internal/reflectlite.Value).IsNil", "internal/reflectlite.TypeOf", "(internal/reflectlite.Value).Elem", "(internal/reflectlite.Value).Set", "internal/bytealg.abigen_runtime_cmpstring"], unfollowed := true, recurses := true, named := ["errors.errorType", "internal/bytealg.MaxLen"], apart := false, laid := [("errors.errorType", laid_errors_errorType)], narrowed := true }
def NameLineUptoSaid : Prop := nameLineUptoRow.holds Tryz.pinned (OpenSpec.upto nameLineSpec)

/-- 'wayzgooselaw03.NameSorted', WHERE WHAT IT READS IS OF BULK AT MOST 1048576: true; the input reads as it did. -/
def nameSortedUptoRow : OpenClaim := { program := "ytapagncaadjiaaagreatdoor", sum := "cc4e48afc6bdf2e24fddb8707240b6d2edd0a34640655d687ec5bfc77065938b", func := "wayzgoose/wayzgooselaw03.NameSorted", spec := "nameSorted", inPlace := ["internal/bytealg.IndexByteString", "internal/bytealg.IndexString", "internal/abi.NoEscape", "internal/reflectlite.ValueOf", "(internal/reflectlite.Value).Type", "(internal/reflectlite.Value).IsNil", "internal/reflectlite.TypeOf", "(internal/reflectlite.Value).Elem", "(internal/reflectlite.Value).Set", "internal/bytealg.abigen_runtime_cmpstring"], unfollowed := true, recurses := true, named := ["errors.errorType", "internal/bytealg.MaxLen"], apart := false, laid := [("errors.errorType", laid_errors_errorType)], narrowed := true }
def NameSortedUptoSaid : Prop := nameSortedUptoRow.holds Tryz.pinned (OpenSpec.upto nameSortedSpec)

/-- 'wayzgooselaw03.NameFewest', WHERE WHAT IT READS IS OF BULK AT MOST 1048576: true; the input reads as it did. -/
def nameFewestUptoRow : OpenClaim := { program := "ytapagncaadjiaaagreatdoor", sum := "cc4e48afc6bdf2e24fddb8707240b6d2edd0a34640655d687ec5bfc77065938b", func := "wayzgoose/wayzgooselaw03.NameFewest", spec := "nameFewest", inPlace := ["internal/bytealg.IndexByteString", "internal/bytealg.IndexString", "internal/abi.NoEscape", "internal/reflectlite.ValueOf", "(internal/reflectlite.Value).Type", "(internal/reflectlite.Value).IsNil", "internal/reflectlite.TypeOf", "(internal/reflectlite.Value).Elem", "(internal/reflectlite.Value).Set", "internal/bytealg.abigen_runtime_cmpstring"], unfollowed := true, recurses := true, named := ["errors.errorType", "internal/bytealg.MaxLen"], apart := false, laid := [("errors.errorType", laid_errors_errorType)], narrowed := true }
def NameFewestUptoSaid : Prop := nameFewestUptoRow.holds Tryz.pinned (OpenSpec.upto nameFewestSpec)

/-- 'wayzgooselaw03.NameBoth', WHERE WHAT IT READS IS OF BULK AT MOST 1048576: true; the input reads as it did. -/
def nameBothUptoRow : OpenClaim := { program := "ytapagncaadjiaaagreatdoor", sum := "cc4e48afc6bdf2e24fddb8707240b6d2edd0a34640655d687ec5bfc77065938b", func := "wayzgoose/wayzgooselaw03.NameBoth", spec := "nameBoth", inPlace := ["internal/bytealg.IndexByteString", "internal/bytealg.IndexString", "internal/abi.NoEscape", "internal/reflectlite.ValueOf", "(internal/reflectlite.Value).Type", "(internal/reflectlite.Value).IsNil", "internal/reflectlite.TypeOf", "(internal/reflectlite.Value).Elem", "(internal/reflectlite.Value).Set", "internal/bytealg.abigen_runtime_cmpstring"], unfollowed := true, recurses := true, named := ["errors.errorType", "internal/bytealg.MaxLen"], apart := false, laid := [("errors.errorType", laid_errors_errorType)], narrowed := true }
def NameBothUptoSaid : Prop := nameBothUptoRow.holds Tryz.pinned (OpenSpec.upto nameBothSpec)

/-- 'wayzgooselaw03.NameSteps', WHERE WHAT IT READS IS OF BULK AT MOST 1048576: true; the input reads as it did. -/
def nameStepsUptoRow : OpenClaim := { program := "ytapagncaadjiaaagreatdoor", sum := "cc4e48afc6bdf2e24fddb8707240b6d2edd0a34640655d687ec5bfc77065938b", func := "wayzgoose/wayzgooselaw03.NameSteps", spec := "nameSteps", inPlace := ["internal/bytealg.IndexByteString", "internal/bytealg.IndexString", "internal/abi.NoEscape", "internal/reflectlite.ValueOf", "(internal/reflectlite.Value).Type", "(internal/reflectlite.Value).IsNil", "internal/reflectlite.TypeOf", "(internal/reflectlite.Value).Elem", "(internal/reflectlite.Value).Set", "internal/bytealg.abigen_runtime_cmpstring"], unfollowed := true, recurses := true, named := ["errors.errorType", "internal/bytealg.MaxLen"], apart := false, laid := [("errors.errorType", laid_errors_errorType)], narrowed := true }
def NameStepsUptoSaid : Prop := nameStepsUptoRow.holds Tryz.pinned (OpenSpec.upto nameStepsSpec)

end Rows
end Go.Proofs.YtapagncaadjiaaaGreatDoor
