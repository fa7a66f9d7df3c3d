/-
  NARROWER THAN 'FOR EVERY INPUT', by the rows' own cells (each row's printed sentence says how): NameNear: laid · NameRules: laid · NameCut: laid · NameLeast: laid · NameColumn: laid · NameList: laid.
  DERIVED. THE GIVEN ROWS OF THIS SEAT. 6 by the template 'for every input the law returns true; each argument reads behind the call as it read before'; 0 by the template 'total and deterministic' (their statements: YtapagncaadjiaabGreatDoorTotals.lean).
  GIVEN WITH THE SEED: the statements are not yours to turn. If you find one false, say at which input.
  Laid BY PROGRAM, IN A SANDBOX (cutbox-rows.mjs): the forced cells as the released guide's own fill.sh prints them over the translation bdbb10fc0fe7b4f6… (all of the seat's roots in one cut). By AI agents, Wed Nov 11 2026. No macro, syntax, notation, axiom, sorry.
-/
import Derived.Test.YtapagncaadjiaabGreatDoorChecked
import GoSem.Claim
import GoSem.ClaimJoined
import GoSem.ClaimMapViews
import Derived.JoinedTies
import Derived.KernelRfl
namespace Go.Proofs.YtapagncaadjiaabGreatDoor
/- THE CELL 'sum', in the pinned program and in every row, IS THE sha256 OF THE DUMP (.gsa) THAT YtapagncaadjiaabGreatDoorProg.lean LOADS. Nothing in Lean hashes anything: it is a label: what it is worth is what the hold of that sum in a sandbox is worth. -/
noncomputable def Tryz.pinned : Pinned := { name := "ytapagncaadjiaabgreatdoor", sum := "bdbb10fc0fe7b4f681328aac5a25cc984d124954519d3bcdbefcd46a6574a237", checked := Tryz.checked }
namespace Rows
def none {H : Type} : Left H := { results := [], args := [] }

/- WHAT THE LISTED PACKAGE-LEVEL VARIABLES READ AS WHEN THE CALL BEGINS. Each datum BY PROGRAM (the guide's laid-datum.mjs) off the statement by which the dump's own 'gosem.cut.vars' lays the variable. In a bare row this is a premise. The card (YtapagncaadjiaabGreatDoorCards.lean) ties it to the program's text. -/
def laid_errors_errorType {H : Type} : DataW H := .iface "internal/reflectlite.rtype" (.agg [.ptr (.lit (.string [101, 114, 114, 111, 114]))])

/-- 'wayzgooselaw03.NameNear': WHATEVER THE INPUT: true; the input reads as it did. -/
def nameNearSpec : ChangeSpec := { name := "nameNear", fn := fun _ => fun
  | [d] => { results := [.lit (.bool true)], args := [d] }
  | _ => none }
def nameNearRow : OpenClaim := { program := "ytapagncaadjiaabgreatdoor", sum := "bdbb10fc0fe7b4f681328aac5a25cc984d124954519d3bcdbefcd46a6574a237", func := "wayzgoose/wayzgooselaw03.NameNear", spec := "nameNear", inPlace := ["internal/bytealg.IndexByteString", "internal/bytealg.IndexString", "internal/reflectlite.ValueOf", "(internal/reflectlite.Value).Type", "(internal/reflectlite.Value).IsNil", "internal/reflectlite.TypeOf", "(internal/reflectlite.Value).Elem", "(internal/reflectlite.Value).Set", "internal/abi.NoEscape", "internal/bytealg.abigen_runtime_cmpstring"], unfollowed := true, recurses := true, named := ["errors.errorType", "internal/bytealg.MaxLen"], apart := false, laid := [("errors.errorType", laid_errors_errorType)] }
def NameNearSaid : Prop := nameNearRow.holds Tryz.pinned (OpenSpec.ofChange nameNearSpec)

/-- ITS FALSE NEIGHBOUR: 'it returns false'. Refute it at one input. -/
def nameNearWrong : ChangeSpec := { name := "nameNear", fn := fun _ => fun
  | [d] => { results := [.lit (.bool false)], args := [d] }
  | _ => none }
def NameNearWrongFalsely : Prop := nameNearRow.holds Tryz.pinned (OpenSpec.ofChange nameNearWrong)

/-- 'wayzgooselaw03.NameRules': WHATEVER THE INPUT: true; the input reads as it did. -/
def nameRulesSpec : ChangeSpec := { name := "nameRules", fn := fun _ => fun
  | [d] => { results := [.lit (.bool true)], args := [d] }
  | _ => none }
def nameRulesRow : OpenClaim := { program := "ytapagncaadjiaabgreatdoor", sum := "bdbb10fc0fe7b4f681328aac5a25cc984d124954519d3bcdbefcd46a6574a237", func := "wayzgoose/wayzgooselaw03.NameRules", spec := "nameRules", inPlace := ["internal/bytealg.IndexByteString", "internal/bytealg.IndexString", "internal/abi.NoEscape", "internal/reflectlite.ValueOf", "(internal/reflectlite.Value).Type", "(internal/reflectlite.Value).IsNil", "internal/reflectlite.TypeOf", "(internal/reflectlite.Value).Elem", "(internal/reflectlite.Value).Set", "internal/bytealg.abigen_runtime_cmpstring"], unfollowed := true, recurses := true, named := ["errors.errorType", "internal/bytealg.MaxLen"], apart := false, laid := [("errors.errorType", laid_errors_errorType)] }
def NameRulesSaid : Prop := nameRulesRow.holds Tryz.pinned (OpenSpec.ofChange nameRulesSpec)

/-- ITS FALSE NEIGHBOUR: 'it returns false'. Refute it at one input. -/
def nameRulesWrong : ChangeSpec := { name := "nameRules", fn := fun _ => fun
  | [d] => { results := [.lit (.bool false)], args := [d] }
  | _ => none }
def NameRulesWrongFalsely : Prop := nameRulesRow.holds Tryz.pinned (OpenSpec.ofChange nameRulesWrong)

/-- 'wayzgooselaw03.NameCut': WHATEVER THE INPUT: true; the input reads as it did. -/
def nameCutSpec : ChangeSpec := { name := "nameCut", fn := fun _ => fun
  | [d] => { results := [.lit (.bool true)], args := [d] }
  | _ => none }
def nameCutRow : OpenClaim := { program := "ytapagncaadjiaabgreatdoor", sum := "bdbb10fc0fe7b4f681328aac5a25cc984d124954519d3bcdbefcd46a6574a237", func := "wayzgoose/wayzgooselaw03.NameCut", spec := "nameCut", inPlace := ["internal/bytealg.IndexByteString", "internal/bytealg.IndexString", "internal/reflectlite.ValueOf", "(internal/reflectlite.Value).Type", "(internal/reflectlite.Value).IsNil", "internal/reflectlite.TypeOf", "(internal/reflectlite.Value).Elem", "(internal/reflectlite.Value).Set", "internal/abi.NoEscape", "internal/bytealg.abigen_runtime_cmpstring"], unfollowed := true, recurses := true, named := ["errors.errorType", "internal/bytealg.MaxLen"], apart := false, laid := [("errors.errorType", laid_errors_errorType)] }
def NameCutSaid : Prop := nameCutRow.holds Tryz.pinned (OpenSpec.ofChange nameCutSpec)

/-- ITS FALSE NEIGHBOUR: 'it returns false'. Refute it at one input. -/
def nameCutWrong : ChangeSpec := { name := "nameCut", fn := fun _ => fun
  | [d] => { results := [.lit (.bool false)], args := [d] }
  | _ => none }
def NameCutWrongFalsely : Prop := nameCutRow.holds Tryz.pinned (OpenSpec.ofChange nameCutWrong)

/-- 'wayzgooselaw03.NameLeast': WHATEVER THE INPUT: true; the input reads as it did. -/
def nameLeastSpec : ChangeSpec := { name := "nameLeast", fn := fun _ => fun
  | [d] => { results := [.lit (.bool true)], args := [d] }
  | _ => none }
def nameLeastRow : OpenClaim := { program := "ytapagncaadjiaabgreatdoor", sum := "bdbb10fc0fe7b4f681328aac5a25cc984d124954519d3bcdbefcd46a6574a237", func := "wayzgoose/wayzgooselaw03.NameLeast", spec := "nameLeast", inPlace := ["internal/bytealg.IndexByteString", "internal/bytealg.IndexString", "internal/abi.NoEscape", "internal/reflectlite.ValueOf", "(internal/reflectlite.Value).Type", "(internal/reflectlite.Value).IsNil", "internal/reflectlite.TypeOf", "(internal/reflectlite.Value).Elem", "(internal/reflectlite.Value).Set", "internal/bytealg.abigen_runtime_cmpstring"], unfollowed := true, recurses := true, named := ["errors.errorType", "internal/bytealg.MaxLen"], apart := false, laid := [("errors.errorType", laid_errors_errorType)] }
def NameLeastSaid : Prop := nameLeastRow.holds Tryz.pinned (OpenSpec.ofChange nameLeastSpec)

/-- ITS FALSE NEIGHBOUR: 'it returns false'. Refute it at one input. -/
def nameLeastWrong : ChangeSpec := { name := "nameLeast", fn := fun _ => fun
  | [d] => { results := [.lit (.bool false)], args := [d] }
  | _ => none }
def NameLeastWrongFalsely : Prop := nameLeastRow.holds Tryz.pinned (OpenSpec.ofChange nameLeastWrong)

/-- 'wayzgooselaw03.NameColumn': WHATEVER THE INPUT: true; the input reads as it did. -/
def nameColumnSpec : ChangeSpec := { name := "nameColumn", fn := fun _ => fun
  | [d] => { results := [.lit (.bool true)], args := [d] }
  | _ => none }
def nameColumnRow : OpenClaim := { program := "ytapagncaadjiaabgreatdoor", sum := "bdbb10fc0fe7b4f681328aac5a25cc984d124954519d3bcdbefcd46a6574a237", func := "wayzgoose/wayzgooselaw03.NameColumn", spec := "nameColumn", inPlace := ["internal/bytealg.IndexByteString", "internal/bytealg.IndexString", "internal/abi.NoEscape", "internal/reflectlite.ValueOf", "(internal/reflectlite.Value).Type", "(internal/reflectlite.Value).IsNil", "internal/reflectlite.TypeOf", "(internal/reflectlite.Value).Elem", "(internal/reflectlite.Value).Set", "internal/bytealg.abigen_runtime_cmpstring"], unfollowed := true, recurses := true, named := ["errors.errorType", "internal/bytealg.MaxLen"], apart := false, laid := [("errors.errorType", laid_errors_errorType)] }
def NameColumnSaid : Prop := nameColumnRow.holds Tryz.pinned (OpenSpec.ofChange nameColumnSpec)

/-- ITS FALSE NEIGHBOUR: 'it returns false'. Refute it at one input. -/
def nameColumnWrong : ChangeSpec := { name := "nameColumn", fn := fun _ => fun
  | [d] => { results := [.lit (.bool false)], args := [d] }
  | _ => none }
def NameColumnWrongFalsely : Prop := nameColumnRow.holds Tryz.pinned (OpenSpec.ofChange nameColumnWrong)

/-- 'wayzgooselaw03.NameList': WHATEVER THE INPUT: true; the input reads as it did. -/
def nameListSpec : ChangeSpec := { name := "nameList", fn := fun _ => fun
  | [d] => { results := [.lit (.bool true)], args := [d] }
  | _ => none }
def nameListRow : OpenClaim := { program := "ytapagncaadjiaabgreatdoor", sum := "bdbb10fc0fe7b4f681328aac5a25cc984d124954519d3bcdbefcd46a6574a237", func := "wayzgoose/wayzgooselaw03.NameList", spec := "nameList", inPlace := ["internal/bytealg.IndexByteString", "internal/bytealg.IndexString", "internal/abi.NoEscape", "internal/reflectlite.ValueOf", "(internal/reflectlite.Value).Type", "(internal/reflectlite.Value).IsNil", "internal/reflectlite.TypeOf", "(internal/reflectlite.Value).Elem", "(internal/reflectlite.Value).Set", "internal/bytealg.abigen_runtime_cmpstring"], unfollowed := true, recurses := true, named := ["errors.errorType", "internal/bytealg.MaxLen"], apart := false, laid := [("errors.errorType", laid_errors_errorType)] }
def NameListSaid : Prop := nameListRow.holds Tryz.pinned (OpenSpec.ofChange nameListSpec)

/-- ITS FALSE NEIGHBOUR: 'it returns false'. Refute it at one input. -/
def nameListWrong : ChangeSpec := { name := "nameList", fn := fun _ => fun
  | [d] => { results := [.lit (.bool false)], args := [d] }
  | _ => none }
def NameListWrongFalsely : Prop := nameListRow.holds Tryz.pinned (OpenSpec.ofChange nameListWrong)

/- THE SECOND FORM. 'bulk': how many values and letters a reading holds, each counted each time it is reached (what is shared counts as often as it is met; a slice's spare places count too). A statement '..UptoSaid' is the law's where the arguments, and the package variables that the reading takes, are together of bulk at most 1048576: NARROWER than '..Said'. Prove '..Said' where nothing that the law and all that it calls make is longer than what came in: it says more and counts as full. Else prove '..UptoSaid'. A law counts once. -/
mutual
def uptoBulk {H : Type} : DataW H → Nat
  | .lit (.string bytes) => bytes.length + 1
  | .lit _ => 1
  | .nil => 1
  | .ptr d => uptoBulk d + 1
  | .slice elems spare => uptoBulkAll elems + uptoBulkAll spare + 1
  | .agg parts => uptoBulkAll parts + 1
  | .iface _ d => uptoBulk d + 1
  | .map entries => uptoBulkEntries entries + 1
  | .held _ => 1
def uptoBulkAll {H : Type} : List (DataW H) → Nat
  | [] => 0
  | d :: r => uptoBulk d + uptoBulkAll r
def uptoBulkEntries {H : Type} : List (Lit × DataW H) → Nat
  | [] => 0
  | x :: r => uptoBulkEntry x + uptoBulkEntries r
def uptoBulkEntry {H : Type} : Lit × DataW H → Nat
  | (.string bytes, d) => bytes.length + uptoBulk d + 1
  | (_, d) => uptoBulk d + 1
 end
def uptoSmall : (H : Type) → List (DataW H) → Bool := fun _ ds => decide (uptoBulkAll ds ≤ 1048576)
def OpenSpec.upto (s : _root_.Go.ChangeSpec) : _root_.Go.OpenSpec := { _root_.Go.OpenSpec.ofChange s with cond := some uptoSmall }

/-- 'wayzgooselaw03.NameNear', WHERE WHAT IT READS IS OF BULK AT MOST 1048576: true; the input reads as it did. -/
def nameNearUptoRow : OpenClaim := { program := "ytapagncaadjiaabgreatdoor", sum := "bdbb10fc0fe7b4f681328aac5a25cc984d124954519d3bcdbefcd46a6574a237", func := "wayzgoose/wayzgooselaw03.NameNear", spec := "nameNear", inPlace := ["internal/bytealg.IndexByteString", "internal/bytealg.IndexString", "internal/reflectlite.ValueOf", "(internal/reflectlite.Value).Type", "(internal/reflectlite.Value).IsNil", "internal/reflectlite.TypeOf", "(internal/reflectlite.Value).Elem", "(internal/reflectlite.Value).Set", "internal/abi.NoEscape", "internal/bytealg.abigen_runtime_cmpstring"], unfollowed := true, recurses := true, named := ["errors.errorType", "internal/bytealg.MaxLen"], apart := false, laid := [("errors.errorType", laid_errors_errorType)], narrowed := true }
def NameNearUptoSaid : Prop := nameNearUptoRow.holds Tryz.pinned (OpenSpec.upto nameNearSpec)

/-- 'wayzgooselaw03.NameRules', WHERE WHAT IT READS IS OF BULK AT MOST 1048576: true; the input reads as it did. -/
def nameRulesUptoRow : OpenClaim := { program := "ytapagncaadjiaabgreatdoor", sum := "bdbb10fc0fe7b4f681328aac5a25cc984d124954519d3bcdbefcd46a6574a237", func := "wayzgoose/wayzgooselaw03.NameRules", spec := "nameRules", inPlace := ["internal/bytealg.IndexByteString", "internal/bytealg.IndexString", "internal/abi.NoEscape", "internal/reflectlite.ValueOf", "(internal/reflectlite.Value).Type", "(internal/reflectlite.Value).IsNil", "internal/reflectlite.TypeOf", "(internal/reflectlite.Value).Elem", "(internal/reflectlite.Value).Set", "internal/bytealg.abigen_runtime_cmpstring"], unfollowed := true, recurses := true, named := ["errors.errorType", "internal/bytealg.MaxLen"], apart := false, laid := [("errors.errorType", laid_errors_errorType)], narrowed := true }
def NameRulesUptoSaid : Prop := nameRulesUptoRow.holds Tryz.pinned (OpenSpec.upto nameRulesSpec)

/-- 'wayzgooselaw03.NameCut', WHERE WHAT IT READS IS OF BULK AT MOST 1048576: true; the input reads as it did. -/
def nameCutUptoRow : OpenClaim := { program := "ytapagncaadjiaabgreatdoor", sum := "bdbb10fc0fe7b4f681328aac5a25cc984d124954519d3bcdbefcd46a6574a237", func := "wayzgoose/wayzgooselaw03.NameCut", spec := "nameCut", inPlace := ["internal/bytealg.IndexByteString", "internal/bytealg.IndexString", "internal/reflectlite.ValueOf", "(internal/reflectlite.Value).Type", "(internal/reflectlite.Value).IsNil", "internal/reflectlite.TypeOf", "(internal/reflectlite.Value).Elem", "(internal/reflectlite.Value).Set", "internal/abi.NoEscape", "internal/bytealg.abigen_runtime_cmpstring"], unfollowed := true, recurses := true, named := ["errors.errorType", "internal/bytealg.MaxLen"], apart := false, laid := [("errors.errorType", laid_errors_errorType)], narrowed := true }
def NameCutUptoSaid : Prop := nameCutUptoRow.holds Tryz.pinned (OpenSpec.upto nameCutSpec)

/-- 'wayzgooselaw03.NameLeast', WHERE WHAT IT READS IS OF BULK AT MOST 1048576: true; the input reads as it did. -/
def nameLeastUptoRow : OpenClaim := { program := "ytapagncaadjiaabgreatdoor", sum := "bdbb10fc0fe7b4f681328aac5a25cc984d124954519d3bcdbefcd46a6574a237", func := "wayzgoose/wayzgooselaw03.NameLeast", spec := "nameLeast", inPlace := ["internal/bytealg.IndexByteString", "internal/bytealg.IndexString", "internal/abi.NoEscape", "internal/reflectlite.ValueOf", "(internal/reflectlite.Value).Type", "(internal/reflectlite.Value).IsNil", "internal/reflectlite.TypeOf", "(internal/reflectlite.Value).Elem", "(internal/reflectlite.Value).Set", "internal/bytealg.abigen_runtime_cmpstring"], unfollowed := true, recurses := true, named := ["errors.errorType", "internal/bytealg.MaxLen"], apart := false, laid := [("errors.errorType", laid_errors_errorType)], narrowed := true }
def NameLeastUptoSaid : Prop := nameLeastUptoRow.holds Tryz.pinned (OpenSpec.upto nameLeastSpec)

/-- 'wayzgooselaw03.NameColumn', WHERE WHAT IT READS IS OF BULK AT MOST 1048576: true; the input reads as it did. -/
def nameColumnUptoRow : OpenClaim := { program := "ytapagncaadjiaabgreatdoor", sum := "bdbb10fc0fe7b4f681328aac5a25cc984d124954519d3bcdbefcd46a6574a237", func := "wayzgoose/wayzgooselaw03.NameColumn", spec := "nameColumn", inPlace := ["internal/bytealg.IndexByteString", "internal/bytealg.IndexString", "internal/abi.NoEscape", "internal/reflectlite.ValueOf", "(internal/reflectlite.Value).Type", "(internal/reflectlite.Value).IsNil", "internal/reflectlite.TypeOf", "(internal/reflectlite.Value).Elem", "(internal/reflectlite.Value).Set", "internal/bytealg.abigen_runtime_cmpstring"], unfollowed := true, recurses := true, named := ["errors.errorType", "internal/bytealg.MaxLen"], apart := false, laid := [("errors.errorType", laid_errors_errorType)], narrowed := true }
def NameColumnUptoSaid : Prop := nameColumnUptoRow.holds Tryz.pinned (OpenSpec.upto nameColumnSpec)

/-- 'wayzgooselaw03.NameList', WHERE WHAT IT READS IS OF BULK AT MOST 1048576: true; the input reads as it did. -/
def nameListUptoRow : OpenClaim := { program := "ytapagncaadjiaabgreatdoor", sum := "bdbb10fc0fe7b4f681328aac5a25cc984d124954519d3bcdbefcd46a6574a237", func := "wayzgoose/wayzgooselaw03.NameList", spec := "nameList", inPlace := ["internal/bytealg.IndexByteString", "internal/bytealg.IndexString", "internal/abi.NoEscape", "internal/reflectlite.ValueOf", "(internal/reflectlite.Value).Type", "(internal/reflectlite.Value).IsNil", "internal/reflectlite.TypeOf", "(internal/reflectlite.Value).Elem", "(internal/reflectlite.Value).Set", "internal/bytealg.abigen_runtime_cmpstring"], unfollowed := true, recurses := true, named := ["errors.errorType", "internal/bytealg.MaxLen"], apart := false, laid := [("errors.errorType", laid_errors_errorType)], narrowed := true }
def NameListUptoSaid : Prop := nameListUptoRow.holds Tryz.pinned (OpenSpec.upto nameListSpec)

end Rows
end Go.Proofs.YtapagncaadjiaabGreatDoor
