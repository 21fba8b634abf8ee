/-
  No cell of these rows narrows 'for every input' (looked for: loops, veiled, ifaces, maps, wideKeys, modest, calm, conditions, laid).
  DERIVED. THE GIVEN ROWS OF THIS SEAT. 3 by the template 'for every input the law returns true; each argument reads behind the call as it read before'; 0 by the template 'total and deterministic' (their statements: YtfhlpgngeiploabTotals.lean).
  GIVEN WITH THE SEED: the statements are not yours to turn. If you find one false, say at which input.
  Laid BY PROGRAM, IN A SANDBOX (cutbox-rows.mjs): the forced cells as the released guide's own fill.sh prints them over the translation 02e533ce31a7d1ca… (all of the seat's roots in one cut). By AI agents, Wed Nov 11 2026. No macro, syntax, notation, axiom, sorry.
-/
import Derived.Test.YtfhlpgngeiploabChecked
import GoSem.Claim
import GoSem.ClaimJoined
import GoSem.ClaimMapViews
import Derived.JoinedTies
import Derived.KernelRfl
namespace Go.Proofs.Ytfhlpgngeiploab
/- THE CELL 'sum', in the pinned program and in every row, IS THE sha256 OF THE DUMP (.gsa) THAT YtfhlpgngeiploabProg.lean LOADS. Nothing in Lean hashes anything: it is a label: what it is worth is what the hold of that sum in a sandbox is worth. -/
noncomputable def Try.pinned : Pinned := { name := "ytfhlpgngeiploab", sum := "02e533ce31a7d1ca64c1032f7656bfef215d37d06196eaf8139e927b383f6a49", checked := Try.checked }
namespace Rows
def none {H : Type} : Left H := { results := [], args := [] }

/-- 'laws.FnExactShelfOk': WHATEVER THE INPUT: true; the input reads as it did. -/
def fnExactShelfOkSpec : ChangeSpec := { name := "fnExactShelfOk", fn := fun _ => fun
  | [d] => { results := [.lit (.bool true)], args := [d] }
  | _ => none }
def fnExactShelfOkRow : OpenClaim := { program := "ytfhlpgngeiploab", sum := "02e533ce31a7d1ca64c1032f7656bfef215d37d06196eaf8139e927b383f6a49", func := "loop.example/g00193/laws.FnExactShelfOk", spec := "fnExactShelfOk", unfollowed := true, recurses := true, apart := false }
def FnExactShelfOkSaid : Prop := fnExactShelfOkRow.holds Try.pinned (OpenSpec.ofChange fnExactShelfOkSpec)

/-- ITS FALSE NEIGHBOUR: 'it returns false'. Refute it at one input. -/
def fnExactShelfOkWrong : ChangeSpec := { name := "fnExactShelfOk", fn := fun _ => fun
  | [d] => { results := [.lit (.bool false)], args := [d] }
  | _ => none }
def FnExactShelfOkWrongFalsely : Prop := fnExactShelfOkRow.holds Try.pinned (OpenSpec.ofChange fnExactShelfOkWrong)

/-- 'laws.FnExactAddPart': WHATEVER THE INPUT: true; the input reads as it did. -/
def fnExactAddPartSpec : ChangeSpec := { name := "fnExactAddPart", fn := fun _ => fun
  | [d1, d2, d3, d4] => { results := [.lit (.bool true)], args := [d1, d2, d3, d4] }
  | _ => none }
def fnExactAddPartRow : OpenClaim := { program := "ytfhlpgngeiploab", sum := "02e533ce31a7d1ca64c1032f7656bfef215d37d06196eaf8139e927b383f6a49", func := "loop.example/g00193/laws.FnExactAddPart", spec := "fnExactAddPart", unfollowed := true, recurses := true, apart := false }
def FnExactAddPartSaid : Prop := fnExactAddPartRow.holds Try.pinned (OpenSpec.ofChange fnExactAddPartSpec)

/-- ITS FALSE NEIGHBOUR: 'it returns false'. Refute it at one input. -/
def fnExactAddPartWrong : ChangeSpec := { name := "fnExactAddPart", fn := fun _ => fun
  | [d1, d2, d3, d4] => { results := [.lit (.bool false)], args := [d1, d2, d3, d4] }
  | _ => none }
def FnExactAddPartWrongFalsely : Prop := fnExactAddPartRow.holds Try.pinned (OpenSpec.ofChange fnExactAddPartWrong)

/-- 'laws.FnExactTidyShelf': WHATEVER THE INPUT: true; the input reads as it did. -/
def fnExactTidyShelfSpec : ChangeSpec := { name := "fnExactTidyShelf", fn := fun _ => fun
  | [d1, d2] => { results := [.lit (.bool true)], args := [d1, d2] }
  | _ => none }
def fnExactTidyShelfRow : OpenClaim := { program := "ytfhlpgngeiploab", sum := "02e533ce31a7d1ca64c1032f7656bfef215d37d06196eaf8139e927b383f6a49", func := "loop.example/g00193/laws.FnExactTidyShelf", spec := "fnExactTidyShelf", apart := false }
def FnExactTidyShelfSaid : Prop := fnExactTidyShelfRow.holds Try.pinned (OpenSpec.ofChange fnExactTidyShelfSpec)

/-- ITS FALSE NEIGHBOUR: 'it returns false'. Refute it at one input. -/
def fnExactTidyShelfWrong : ChangeSpec := { name := "fnExactTidyShelf", fn := fun _ => fun
  | [d1, d2] => { results := [.lit (.bool false)], args := [d1, d2] }
  | _ => none }
def FnExactTidyShelfWrongFalsely : Prop := fnExactTidyShelfRow.holds Try.pinned (OpenSpec.ofChange fnExactTidyShelfWrong)

/- THE SECOND FORM. 'bulk': how many values and letters a reading holds, each counted each time it is reached (what is shared counts as often as it is met; a slice's spare places count too). A statement '..UptoSaid' is the law's where the arguments, and the package variables that the reading takes, are together of bulk at most 1048576: NARROWER than '..Said'. Prove '..Said' where nothing that the law and all that it calls make is longer than what came in: it says more and counts as full. Else prove '..UptoSaid'. A law counts once. -/
mutual
def uptoBulk {H : Type} : DataW H → Nat
  | .lit (.string bytes) => bytes.length + 1
  | .lit _ => 1
  | .nil => 1
  | .ptr d => uptoBulk d + 1
  | .slice elems spare => uptoBulkAll elems + uptoBulkAll spare + 1
  | .agg parts => uptoBulkAll parts + 1
  | .iface _ d => uptoBulk d + 1
  | .map entries => uptoBulkEntries entries + 1
  | .held _ => 1
def uptoBulkAll {H : Type} : List (DataW H) → Nat
  | [] => 0
  | d :: r => uptoBulk d + uptoBulkAll r
def uptoBulkEntries {H : Type} : List (Lit × DataW H) → Nat
  | [] => 0
  | x :: r => uptoBulkEntry x + uptoBulkEntries r
def uptoBulkEntry {H : Type} : Lit × DataW H → Nat
  | (.string bytes, d) => bytes.length + uptoBulk d + 1
  | (_, d) => uptoBulk d + 1
 end
def uptoSmall : (H : Type) → List (DataW H) → Bool := fun _ ds => decide (uptoBulkAll ds ≤ 1048576)
def OpenSpec.upto (s : _root_.Go.ChangeSpec) : _root_.Go.OpenSpec := { _root_.Go.OpenSpec.ofChange s with cond := some uptoSmall }

/-- 'laws.FnExactShelfOk', WHERE WHAT IT READS IS OF BULK AT MOST 1048576: true; the input reads as it did. -/
def fnExactShelfOkUptoRow : OpenClaim := { program := "ytfhlpgngeiploab", sum := "02e533ce31a7d1ca64c1032f7656bfef215d37d06196eaf8139e927b383f6a49", func := "loop.example/g00193/laws.FnExactShelfOk", spec := "fnExactShelfOk", unfollowed := true, recurses := true, apart := false, narrowed := true }
def FnExactShelfOkUptoSaid : Prop := fnExactShelfOkUptoRow.holds Try.pinned (OpenSpec.upto fnExactShelfOkSpec)

/-- 'laws.FnExactAddPart', WHERE WHAT IT READS IS OF BULK AT MOST 1048576: true; the input reads as it did. -/
def fnExactAddPartUptoRow : OpenClaim := { program := "ytfhlpgngeiploab", sum := "02e533ce31a7d1ca64c1032f7656bfef215d37d06196eaf8139e927b383f6a49", func := "loop.example/g00193/laws.FnExactAddPart", spec := "fnExactAddPart", unfollowed := true, recurses := true, apart := false, narrowed := true }
def FnExactAddPartUptoSaid : Prop := fnExactAddPartUptoRow.holds Try.pinned (OpenSpec.upto fnExactAddPartSpec)

/-- 'laws.FnExactTidyShelf', WHERE WHAT IT READS IS OF BULK AT MOST 1048576: true; the input reads as it did. -/
def fnExactTidyShelfUptoRow : OpenClaim := { program := "ytfhlpgngeiploab", sum := "02e533ce31a7d1ca64c1032f7656bfef215d37d06196eaf8139e927b383f6a49", func := "loop.example/g00193/laws.FnExactTidyShelf", spec := "fnExactTidyShelf", apart := false, narrowed := true }
def FnExactTidyShelfUptoSaid : Prop := fnExactTidyShelfUptoRow.holds Try.pinned (OpenSpec.upto fnExactTidyShelfSpec)

end Rows
end Go.Proofs.Ytfhlpgngeiploab
