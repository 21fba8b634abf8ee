/-
  NARROWER THAN 'FOR EVERY INPUT', by the rows' own cells (each row's printed sentence says how): FnInners: laid · FnExactInnerOk: laid · FnExactInnerText: laid · FnExactReadInner: laid.
  DERIVED. THE GIVEN ROWS OF THIS SEAT. 4 by the template 'for every input the law returns true; each argument reads behind the call as it read before'; 0 by the template 'total and deterministic' (their statements: YthiicpbedgcmlaaDoorTotals.lean).
  GIVEN WITH THE SEED: the statements are not yours to turn. If you find one false, say at which input.
  Laid BY PROGRAM, IN A SANDBOX (cutbox-rows.mjs): the forced cells as the released guide's own fill.sh prints them over the translation ac4eddd12a71d405… (all of the seat's roots in one cut). By AI agents, Wed Nov 11 2026. No macro, syntax, notation, axiom, sorry.
-/
import Derived.Test.YthiicpbedgcmlaaDoorChecked
import GoSem.Claim
import GoSem.ClaimJoined
import GoSem.ClaimMapViews
import Derived.JoinedTies
import Derived.KernelRfl
namespace Go.Proofs.YthiicpbedgcmlaaDoor
/- THE CELL 'sum', in the pinned program and in every row, IS THE sha256 OF THE DUMP (.gsa) THAT YthiicpbedgcmlaaDoorProg.lean LOADS. Nothing in Lean hashes anything: it is a label: what it is worth is what the hold of that sum in a sandbox is worth. -/
noncomputable def Tryd.pinned : Pinned := { name := "ythiicpbedgcmlaadoor", sum := "ac4eddd12a71d405ea24bde3700495ed44cb98e0bc5a21f3619955d3daa48bc3", checked := Tryd.checked }
namespace Rows
def none {H : Type} : Left H := { results := [], args := [] }

/- WHAT THE LISTED PACKAGE-LEVEL VARIABLES READ AS WHEN THE CALL BEGINS. Each datum BY PROGRAM (the guide's laid-datum.mjs) off the statement by which the dump's own 'gosem.cut.vars' lays the variable. In a bare row this is a premise. The card (YthiicpbedgcmlaaDoorCards.lean) ties it to the program's text. -/
def laid_errors_errorType {H : Type} : DataW H := .iface "internal/reflectlite.rtype" (.agg [.ptr (.lit (.string [101, 114, 114, 111, 114]))])

/-- 'laws.FnInners': WHATEVER THE INPUT: true; the input reads as it did. -/
def fnInnersSpec : ChangeSpec := { name := "fnInners", fn := fun _ => fun
  | [d] => { results := [.lit (.bool true)], args := [d] }
  | _ => none }
def fnInnersRow : OpenClaim := { program := "ythiicpbedgcmlaadoor", sum := "ac4eddd12a71d405ea24bde3700495ed44cb98e0bc5a21f3619955d3daa48bc3", func := "loop.example/g00193/laws.FnInners", spec := "fnInners", inPlace := ["internal/reflectlite.ValueOf", "(internal/reflectlite.Value).Type", "(internal/reflectlite.Value).IsNil", "internal/reflectlite.TypeOf", "(internal/reflectlite.Value).Elem", "(internal/reflectlite.Value).Set"], unfollowed := true, recurses := true, named := ["errors.errorType"], apart := false, laid := [("errors.errorType", laid_errors_errorType)] }
def FnInnersSaid : Prop := fnInnersRow.holds Tryd.pinned (OpenSpec.ofChange fnInnersSpec)

/-- ITS FALSE NEIGHBOUR: 'it returns false'. Refute it at one input. -/
def fnInnersWrong : ChangeSpec := { name := "fnInners", fn := fun _ => fun
  | [d] => { results := [.lit (.bool false)], args := [d] }
  | _ => none }
def FnInnersWrongFalsely : Prop := fnInnersRow.holds Tryd.pinned (OpenSpec.ofChange fnInnersWrong)

/-- 'laws.FnExactInnerOk': WHATEVER THE INPUT: true; the input reads as it did. -/
def fnExactInnerOkSpec : ChangeSpec := { name := "fnExactInnerOk", fn := fun _ => fun
  | [d] => { results := [.lit (.bool true)], args := [d] }
  | _ => none }
def fnExactInnerOkRow : OpenClaim := { program := "ythiicpbedgcmlaadoor", sum := "ac4eddd12a71d405ea24bde3700495ed44cb98e0bc5a21f3619955d3daa48bc3", func := "loop.example/g00193/laws.FnExactInnerOk", spec := "fnExactInnerOk", inPlace := ["internal/reflectlite.ValueOf", "(internal/reflectlite.Value).Type", "(internal/reflectlite.Value).IsNil", "internal/reflectlite.TypeOf", "(internal/reflectlite.Value).Elem", "(internal/reflectlite.Value).Set"], unfollowed := true, recurses := true, named := ["errors.errorType"], apart := false, laid := [("errors.errorType", laid_errors_errorType)] }
def FnExactInnerOkSaid : Prop := fnExactInnerOkRow.holds Tryd.pinned (OpenSpec.ofChange fnExactInnerOkSpec)

/-- ITS FALSE NEIGHBOUR: 'it returns false'. Refute it at one input. -/
def fnExactInnerOkWrong : ChangeSpec := { name := "fnExactInnerOk", fn := fun _ => fun
  | [d] => { results := [.lit (.bool false)], args := [d] }
  | _ => none }
def FnExactInnerOkWrongFalsely : Prop := fnExactInnerOkRow.holds Tryd.pinned (OpenSpec.ofChange fnExactInnerOkWrong)

/-- 'laws.FnExactInnerText': WHATEVER THE INPUT: true; the input reads as it did. -/
def fnExactInnerTextSpec : ChangeSpec := { name := "fnExactInnerText", fn := fun _ => fun
  | [d] => { results := [.lit (.bool true)], args := [d] }
  | _ => none }
def fnExactInnerTextRow : OpenClaim := { program := "ythiicpbedgcmlaadoor", sum := "ac4eddd12a71d405ea24bde3700495ed44cb98e0bc5a21f3619955d3daa48bc3", func := "loop.example/g00193/laws.FnExactInnerText", spec := "fnExactInnerText", inPlace := ["internal/reflectlite.ValueOf", "(internal/reflectlite.Value).Type", "(internal/reflectlite.Value).IsNil", "internal/reflectlite.TypeOf", "(internal/reflectlite.Value).Elem", "(internal/reflectlite.Value).Set"], unfollowed := true, recurses := true, named := ["errors.errorType"], apart := false, laid := [("errors.errorType", laid_errors_errorType)] }
def FnExactInnerTextSaid : Prop := fnExactInnerTextRow.holds Tryd.pinned (OpenSpec.ofChange fnExactInnerTextSpec)

/-- ITS FALSE NEIGHBOUR: 'it returns false'. Refute it at one input. -/
def fnExactInnerTextWrong : ChangeSpec := { name := "fnExactInnerText", fn := fun _ => fun
  | [d] => { results := [.lit (.bool false)], args := [d] }
  | _ => none }
def FnExactInnerTextWrongFalsely : Prop := fnExactInnerTextRow.holds Tryd.pinned (OpenSpec.ofChange fnExactInnerTextWrong)

/-- 'laws.FnExactReadInner': WHATEVER THE INPUT: true; the input reads as it did. -/
def fnExactReadInnerSpec : ChangeSpec := { name := "fnExactReadInner", fn := fun _ => fun
  | [d] => { results := [.lit (.bool true)], args := [d] }
  | _ => none }
def fnExactReadInnerRow : OpenClaim := { program := "ythiicpbedgcmlaadoor", sum := "ac4eddd12a71d405ea24bde3700495ed44cb98e0bc5a21f3619955d3daa48bc3", func := "loop.example/g00193/laws.FnExactReadInner", spec := "fnExactReadInner", inPlace := ["internal/reflectlite.ValueOf", "(internal/reflectlite.Value).Type", "(internal/reflectlite.Value).IsNil", "internal/reflectlite.TypeOf", "(internal/reflectlite.Value).Elem", "(internal/reflectlite.Value).Set"], unfollowed := true, recurses := true, named := ["errors.errorType"], apart := false, laid := [("errors.errorType", laid_errors_errorType)] }
def FnExactReadInnerSaid : Prop := fnExactReadInnerRow.holds Tryd.pinned (OpenSpec.ofChange fnExactReadInnerSpec)

/-- ITS FALSE NEIGHBOUR: 'it returns false'. Refute it at one input. -/
def fnExactReadInnerWrong : ChangeSpec := { name := "fnExactReadInner", fn := fun _ => fun
  | [d] => { results := [.lit (.bool false)], args := [d] }
  | _ => none }
def FnExactReadInnerWrongFalsely : Prop := fnExactReadInnerRow.holds Tryd.pinned (OpenSpec.ofChange fnExactReadInnerWrong)

/- THE SECOND FORM. 'bulk': how many values and letters a reading holds, each counted each time it is reached (what is shared counts as often as it is met; a slice's spare places count too). A statement '..UptoSaid' is the law's where the arguments, and the package variables that the reading takes, are together of bulk at most 1048576: NARROWER than '..Said'. Prove '..Said' where nothing that the law and all that it calls make is longer than what came in: it says more and counts as full. Else prove '..UptoSaid'. A law counts once. -/
mutual
def uptoBulk {H : Type} : DataW H → Nat
  | .lit (.string bytes) => bytes.length + 1
  | .lit _ => 1
  | .nil => 1
  | .ptr d => uptoBulk d + 1
  | .slice elems spare => uptoBulkAll elems + uptoBulkAll spare + 1
  | .agg parts => uptoBulkAll parts + 1
  | .iface _ d => uptoBulk d + 1
  | .map entries => uptoBulkEntries entries + 1
  | .held _ => 1
def uptoBulkAll {H : Type} : List (DataW H) → Nat
  | [] => 0
  | d :: r => uptoBulk d + uptoBulkAll r
def uptoBulkEntries {H : Type} : List (Lit × DataW H) → Nat
  | [] => 0
  | x :: r => uptoBulkEntry x + uptoBulkEntries r
def uptoBulkEntry {H : Type} : Lit × DataW H → Nat
  | (.string bytes, d) => bytes.length + uptoBulk d + 1
  | (_, d) => uptoBulk d + 1
 end
def uptoSmall : (H : Type) → List (DataW H) → Bool := fun _ ds => decide (uptoBulkAll ds ≤ 1048576)
def OpenSpec.upto (s : _root_.Go.ChangeSpec) : _root_.Go.OpenSpec := { _root_.Go.OpenSpec.ofChange s with cond := some uptoSmall }

/-- 'laws.FnInners', WHERE WHAT IT READS IS OF BULK AT MOST 1048576: true; the input reads as it did. -/
def fnInnersUptoRow : OpenClaim := { program := "ythiicpbedgcmlaadoor", sum := "ac4eddd12a71d405ea24bde3700495ed44cb98e0bc5a21f3619955d3daa48bc3", func := "loop.example/g00193/laws.FnInners", spec := "fnInners", inPlace := ["internal/reflectlite.ValueOf", "(internal/reflectlite.Value).Type", "(internal/reflectlite.Value).IsNil", "internal/reflectlite.TypeOf", "(internal/reflectlite.Value).Elem", "(internal/reflectlite.Value).Set"], unfollowed := true, recurses := true, named := ["errors.errorType"], apart := false, laid := [("errors.errorType", laid_errors_errorType)], narrowed := true }
def FnInnersUptoSaid : Prop := fnInnersUptoRow.holds Tryd.pinned (OpenSpec.upto fnInnersSpec)

/-- 'laws.FnExactInnerOk', WHERE WHAT IT READS IS OF BULK AT MOST 1048576: true; the input reads as it did. -/
def fnExactInnerOkUptoRow : OpenClaim := { program := "ythiicpbedgcmlaadoor", sum := "ac4eddd12a71d405ea24bde3700495ed44cb98e0bc5a21f3619955d3daa48bc3", func := "loop.example/g00193/laws.FnExactInnerOk", spec := "fnExactInnerOk", inPlace := ["internal/reflectlite.ValueOf", "(internal/reflectlite.Value).Type", "(internal/reflectlite.Value).IsNil", "internal/reflectlite.TypeOf", "(internal/reflectlite.Value).Elem", "(internal/reflectlite.Value).Set"], unfollowed := true, recurses := true, named := ["errors.errorType"], apart := false, laid := [("errors.errorType", laid_errors_errorType)], narrowed := true }
def FnExactInnerOkUptoSaid : Prop := fnExactInnerOkUptoRow.holds Tryd.pinned (OpenSpec.upto fnExactInnerOkSpec)

/-- 'laws.FnExactInnerText', WHERE WHAT IT READS IS OF BULK AT MOST 1048576: true; the input reads as it did. -/
def fnExactInnerTextUptoRow : OpenClaim := { program := "ythiicpbedgcmlaadoor", sum := "ac4eddd12a71d405ea24bde3700495ed44cb98e0bc5a21f3619955d3daa48bc3", func := "loop.example/g00193/laws.FnExactInnerText", spec := "fnExactInnerText", inPlace := ["internal/reflectlite.ValueOf", "(internal/reflectlite.Value).Type", "(internal/reflectlite.Value).IsNil", "internal/reflectlite.TypeOf", "(internal/reflectlite.Value).Elem", "(internal/reflectlite.Value).Set"], unfollowed := true, recurses := true, named := ["errors.errorType"], apart := false, laid := [("errors.errorType", laid_errors_errorType)], narrowed := true }
def FnExactInnerTextUptoSaid : Prop := fnExactInnerTextUptoRow.holds Tryd.pinned (OpenSpec.upto fnExactInnerTextSpec)

/-- 'laws.FnExactReadInner', WHERE WHAT IT READS IS OF BULK AT MOST 1048576: true; the input reads as it did. -/
def fnExactReadInnerUptoRow : OpenClaim := { program := "ythiicpbedgcmlaadoor", sum := "ac4eddd12a71d405ea24bde3700495ed44cb98e0bc5a21f3619955d3daa48bc3", func := "loop.example/g00193/laws.FnExactReadInner", spec := "fnExactReadInner", inPlace := ["internal/reflectlite.ValueOf", "(internal/reflectlite.Value).Type", "(internal/reflectlite.Value).IsNil", "internal/reflectlite.TypeOf", "(internal/reflectlite.Value).Elem", "(internal/reflectlite.Value).Set"], unfollowed := true, recurses := true, named := ["errors.errorType"], apart := false, laid := [("errors.errorType", laid_errors_errorType)], narrowed := true }
def FnExactReadInnerUptoSaid : Prop := fnExactReadInnerUptoRow.holds Tryd.pinned (OpenSpec.upto fnExactReadInnerSpec)

end Rows
end Go.Proofs.YthiicpbedgcmlaaDoor
