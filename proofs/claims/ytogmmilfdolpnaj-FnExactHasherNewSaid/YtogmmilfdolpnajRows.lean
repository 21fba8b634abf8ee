/-
  No cell of these rows narrows 'for every input' (looked for: loops, veiled, ifaces, maps, wideKeys, modest, calm, conditions, laid).
  DERIVED. THE GIVEN ROWS OF THIS SEAT. 5 by the template 'for every input the law returns true; each argument reads behind the call as it read before'; 0 by the template 'total and deterministic' (their statements: YtogmmilfdolpnajTotals.lean).
  GIVEN WITH THE SEED: the statements are not yours to turn. If you find one false, say at which input.
  Laid BY PROGRAM, IN A SANDBOX (cutbox-rows.mjs): the forced cells as the released guide's own fill.sh prints them over the translation 2db72a756215fc26… (all of the seat's roots in one cut). By AI agents, Wed Nov 11 2026. No macro, syntax, notation, axiom, sorry.
-/
import Derived.Test.YtogmmilfdolpnajChecked
import GoSem.Claim
import GoSem.ClaimJoined
import GoSem.ClaimMapViews
import Derived.JoinedTies
import Derived.KernelRfl
namespace Go.Proofs.Ytogmmilfdolpnaj
/- THE CELL 'sum', in the pinned program and in every row, IS THE sha256 OF THE DUMP (.gsa) THAT YtogmmilfdolpnajProg.lean LOADS. Nothing in Lean hashes anything: it is a label: what it is worth is what the hold of that sum in a sandbox is worth. -/
noncomputable def Try.pinned : Pinned := { name := "ytogmmilfdolpnaj", sum := "2db72a756215fc26455825ca1d09375ae02faad9d16b2bd74cb3bbe313b3646c", checked := Try.checked }
namespace Rows
def none {H : Type} : Left H := { results := [], args := [] }

/-- 'laws.FnExactPowP': WHATEVER THE INPUT: true; the input reads as it did. -/
def fnExactPowPSpec : ChangeSpec := { name := "fnExactPowP", fn := fun _ => fun
  | [d1, d2] => { results := [.lit (.bool true)], args := [d1, d2] }
  | _ => none }
def fnExactPowPRow : OpenClaim := { program := "ytogmmilfdolpnaj", sum := "2db72a756215fc26455825ca1d09375ae02faad9d16b2bd74cb3bbe313b3646c", func := "loop.example/g00193/laws.FnExactPowP", spec := "fnExactPowP", apart := false }
def FnExactPowPSaid : Prop := fnExactPowPRow.holds Try.pinned (OpenSpec.ofChange fnExactPowPSpec)

/-- ITS FALSE NEIGHBOUR: 'it returns false'. Refute it at one input. -/
def fnExactPowPWrong : ChangeSpec := { name := "fnExactPowP", fn := fun _ => fun
  | [d1, d2] => { results := [.lit (.bool false)], args := [d1, d2] }
  | _ => none }
def FnExactPowPWrongFalsely : Prop := fnExactPowPRow.holds Try.pinned (OpenSpec.ofChange fnExactPowPWrong)

/-- 'laws.FnExactInGroup': WHATEVER THE INPUT: true; the input reads as it did. -/
def fnExactInGroupSpec : ChangeSpec := { name := "fnExactInGroup", fn := fun _ => fun
  | [d] => { results := [.lit (.bool true)], args := [d] }
  | _ => none }
def fnExactInGroupRow : OpenClaim := { program := "ytogmmilfdolpnaj", sum := "2db72a756215fc26455825ca1d09375ae02faad9d16b2bd74cb3bbe313b3646c", func := "loop.example/g00193/laws.FnExactInGroup", spec := "fnExactInGroup", apart := false }
def FnExactInGroupSaid : Prop := fnExactInGroupRow.holds Try.pinned (OpenSpec.ofChange fnExactInGroupSpec)

/-- ITS FALSE NEIGHBOUR: 'it returns false'. Refute it at one input. -/
def fnExactInGroupWrong : ChangeSpec := { name := "fnExactInGroup", fn := fun _ => fun
  | [d] => { results := [.lit (.bool false)], args := [d] }
  | _ => none }
def FnExactInGroupWrongFalsely : Prop := fnExactInGroupRow.holds Try.pinned (OpenSpec.ofChange fnExactInGroupWrong)

/-- 'laws.FnExactNumberText': WHATEVER THE INPUT: true; the input reads as it did. -/
def fnExactNumberTextSpec : ChangeSpec := { name := "fnExactNumberText", fn := fun _ => fun
  | [d] => { results := [.lit (.bool true)], args := [d] }
  | _ => none }
def fnExactNumberTextRow : OpenClaim := { program := "ytogmmilfdolpnaj", sum := "2db72a756215fc26455825ca1d09375ae02faad9d16b2bd74cb3bbe313b3646c", func := "loop.example/g00193/laws.FnExactNumberText", spec := "fnExactNumberText", apart := false }
def FnExactNumberTextSaid : Prop := fnExactNumberTextRow.holds Try.pinned (OpenSpec.ofChange fnExactNumberTextSpec)

/-- ITS FALSE NEIGHBOUR: 'it returns false'. Refute it at one input. -/
def fnExactNumberTextWrong : ChangeSpec := { name := "fnExactNumberText", fn := fun _ => fun
  | [d] => { results := [.lit (.bool false)], args := [d] }
  | _ => none }
def FnExactNumberTextWrongFalsely : Prop := fnExactNumberTextRow.holds Try.pinned (OpenSpec.ofChange fnExactNumberTextWrong)

/-- 'laws.FnExactReadNumber': WHATEVER THE INPUT: true; the input reads as it did. -/
def fnExactReadNumberSpec : ChangeSpec := { name := "fnExactReadNumber", fn := fun _ => fun
  | [d] => { results := [.lit (.bool true)], args := [d] }
  | _ => none }
def fnExactReadNumberRow : OpenClaim := { program := "ytogmmilfdolpnaj", sum := "2db72a756215fc26455825ca1d09375ae02faad9d16b2bd74cb3bbe313b3646c", func := "loop.example/g00193/laws.FnExactReadNumber", spec := "fnExactReadNumber", apart := false }
def FnExactReadNumberSaid : Prop := fnExactReadNumberRow.holds Try.pinned (OpenSpec.ofChange fnExactReadNumberSpec)

/-- ITS FALSE NEIGHBOUR: 'it returns false'. Refute it at one input. -/
def fnExactReadNumberWrong : ChangeSpec := { name := "fnExactReadNumber", fn := fun _ => fun
  | [d] => { results := [.lit (.bool false)], args := [d] }
  | _ => none }
def FnExactReadNumberWrongFalsely : Prop := fnExactReadNumberRow.holds Try.pinned (OpenSpec.ofChange fnExactReadNumberWrong)

/-- 'laws.FnExactHasherNew': WHATEVER THE INPUT: true; the input reads as it did. -/
def fnExactHasherNewSpec : ChangeSpec := { name := "fnExactHasherNew", fn := fun _ => fun
  | [] => { results := [.lit (.bool true)], args := [] }
  | _ => none }
def fnExactHasherNewRow : OpenClaim := { program := "ytogmmilfdolpnaj", sum := "2db72a756215fc26455825ca1d09375ae02faad9d16b2bd74cb3bbe313b3646c", func := "loop.example/g00193/laws.FnExactHasherNew", spec := "fnExactHasherNew", inPlace := ["internal/abi.NoEscape"], apart := false }
def FnExactHasherNewSaid : Prop := fnExactHasherNewRow.holds Try.pinned (OpenSpec.ofChange fnExactHasherNewSpec)

/-- ITS FALSE NEIGHBOUR: 'it returns false'. Refute it at one input. -/
def fnExactHasherNewWrong : ChangeSpec := { name := "fnExactHasherNew", fn := fun _ => fun
  | [] => { results := [.lit (.bool false)], args := [] }
  | _ => none }
def FnExactHasherNewWrongFalsely : Prop := fnExactHasherNewRow.holds Try.pinned (OpenSpec.ofChange fnExactHasherNewWrong)

/- THE SECOND FORM. 'bulk': how many values and letters a reading holds, each counted each time it is reached (what is shared counts as often as it is met; a slice's spare places count too). A statement '..UptoSaid' is the law's where the arguments, and the package variables that the reading takes, are together of bulk at most 1048576: NARROWER than '..Said'. Prove '..Said' where nothing that the law and all that it calls make is longer than what came in: it says more and counts as full. Else prove '..UptoSaid'. A law counts once. -/
mutual
def uptoBulk {H : Type} : DataW H → Nat
  | .lit (.string bytes) => bytes.length + 1
  | .lit _ => 1
  | .nil => 1
  | .ptr d => uptoBulk d + 1
  | .slice elems spare => uptoBulkAll elems + uptoBulkAll spare + 1
  | .agg parts => uptoBulkAll parts + 1
  | .iface _ d => uptoBulk d + 1
  | .map entries => uptoBulkEntries entries + 1
  | .held _ => 1
def uptoBulkAll {H : Type} : List (DataW H) → Nat
  | [] => 0
  | d :: r => uptoBulk d + uptoBulkAll r
def uptoBulkEntries {H : Type} : List (Lit × DataW H) → Nat
  | [] => 0
  | x :: r => uptoBulkEntry x + uptoBulkEntries r
def uptoBulkEntry {H : Type} : Lit × DataW H → Nat
  | (.string bytes, d) => bytes.length + uptoBulk d + 1
  | (_, d) => uptoBulk d + 1
 end
def uptoSmall : (H : Type) → List (DataW H) → Bool := fun _ ds => decide (uptoBulkAll ds ≤ 1048576)
def OpenSpec.upto (s : _root_.Go.ChangeSpec) : _root_.Go.OpenSpec := { _root_.Go.OpenSpec.ofChange s with cond := some uptoSmall }

/-- 'laws.FnExactPowP', WHERE WHAT IT READS IS OF BULK AT MOST 1048576: true; the input reads as it did. -/
def fnExactPowPUptoRow : OpenClaim := { program := "ytogmmilfdolpnaj", sum := "2db72a756215fc26455825ca1d09375ae02faad9d16b2bd74cb3bbe313b3646c", func := "loop.example/g00193/laws.FnExactPowP", spec := "fnExactPowP", apart := false, narrowed := true }
def FnExactPowPUptoSaid : Prop := fnExactPowPUptoRow.holds Try.pinned (OpenSpec.upto fnExactPowPSpec)

/-- 'laws.FnExactInGroup', WHERE WHAT IT READS IS OF BULK AT MOST 1048576: true; the input reads as it did. -/
def fnExactInGroupUptoRow : OpenClaim := { program := "ytogmmilfdolpnaj", sum := "2db72a756215fc26455825ca1d09375ae02faad9d16b2bd74cb3bbe313b3646c", func := "loop.example/g00193/laws.FnExactInGroup", spec := "fnExactInGroup", apart := false, narrowed := true }
def FnExactInGroupUptoSaid : Prop := fnExactInGroupUptoRow.holds Try.pinned (OpenSpec.upto fnExactInGroupSpec)

/-- 'laws.FnExactNumberText', WHERE WHAT IT READS IS OF BULK AT MOST 1048576: true; the input reads as it did. -/
def fnExactNumberTextUptoRow : OpenClaim := { program := "ytogmmilfdolpnaj", sum := "2db72a756215fc26455825ca1d09375ae02faad9d16b2bd74cb3bbe313b3646c", func := "loop.example/g00193/laws.FnExactNumberText", spec := "fnExactNumberText", apart := false, narrowed := true }
def FnExactNumberTextUptoSaid : Prop := fnExactNumberTextUptoRow.holds Try.pinned (OpenSpec.upto fnExactNumberTextSpec)

/-- 'laws.FnExactReadNumber', WHERE WHAT IT READS IS OF BULK AT MOST 1048576: true; the input reads as it did. -/
def fnExactReadNumberUptoRow : OpenClaim := { program := "ytogmmilfdolpnaj", sum := "2db72a756215fc26455825ca1d09375ae02faad9d16b2bd74cb3bbe313b3646c", func := "loop.example/g00193/laws.FnExactReadNumber", spec := "fnExactReadNumber", apart := false, narrowed := true }
def FnExactReadNumberUptoSaid : Prop := fnExactReadNumberUptoRow.holds Try.pinned (OpenSpec.upto fnExactReadNumberSpec)

/-- 'laws.FnExactHasherNew', WHERE WHAT IT READS IS OF BULK AT MOST 1048576: true; the input reads as it did. -/
def fnExactHasherNewUptoRow : OpenClaim := { program := "ytogmmilfdolpnaj", sum := "2db72a756215fc26455825ca1d09375ae02faad9d16b2bd74cb3bbe313b3646c", func := "loop.example/g00193/laws.FnExactHasherNew", spec := "fnExactHasherNew", inPlace := ["internal/abi.NoEscape"], apart := false, narrowed := true }
def FnExactHasherNewUptoSaid : Prop := fnExactHasherNewUptoRow.holds Try.pinned (OpenSpec.upto fnExactHasherNewSpec)

end Rows
end Go.Proofs.Ytogmmilfdolpnaj
