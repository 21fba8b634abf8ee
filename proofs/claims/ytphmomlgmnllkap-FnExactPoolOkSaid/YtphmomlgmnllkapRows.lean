/-
  No cell of these rows narrows 'for every input' (looked for: loops, veiled, ifaces, maps, wideKeys, modest, calm, conditions, laid).
  DERIVED. THE GIVEN ROWS OF THIS SEAT. 5 by the template 'for every input the law returns true; each argument reads behind the call as it read before'; 0 by the template 'total and deterministic' (their statements: YtphmomlgmnllkapTotals.lean).
  GIVEN WITH THE SEED: the statements are not yours to turn. If you find one false, say at which input.
  Laid BY PROGRAM, IN A SANDBOX (cutbox-rows.mjs): the forced cells as the released guide's own fill.sh prints them over the translation 50c5974521399c82… (all of the seat's roots in one cut). By AI agents, Wed Nov 11 2026. No macro, syntax, notation, axiom, sorry.
-/
import Derived.Test.YtphmomlgmnllkapChecked
import GoSem.Claim
import GoSem.ClaimJoined
import GoSem.ClaimMapViews
import Derived.JoinedTies
import Derived.KernelRfl
namespace Go.Proofs.Ytphmomlgmnllkap
/- THE CELL 'sum', in the pinned program and in every row, IS THE sha256 OF THE DUMP (.gsa) THAT YtphmomlgmnllkapProg.lean LOADS. Nothing in Lean hashes anything: it is a label: what it is worth is what the hold of that sum in a sandbox is worth. -/
noncomputable def Try.pinned : Pinned := { name := "ytphmomlgmnllkap", sum := "50c5974521399c82785e3bd1e84eb836b1bbe64475dc1dd2cdb531c5f48671d6", checked := Try.checked }
namespace Rows
def none {H : Type} : Left H := { results := [], args := [] }

/-- 'laws.FnExactTrieNew': WHATEVER THE INPUT: true; the input reads as it did. -/
def fnExactTrieNewSpec : ChangeSpec := { name := "fnExactTrieNew", fn := fun _ => fun
  | [] => { results := [.lit (.bool true)], args := [] }
  | _ => none }
def fnExactTrieNewRow : OpenClaim := { program := "ytphmomlgmnllkap", sum := "50c5974521399c82785e3bd1e84eb836b1bbe64475dc1dd2cdb531c5f48671d6", func := "loop.example/g00193/laws.FnExactTrieNew", spec := "fnExactTrieNew", apart := false }
def FnExactTrieNewSaid : Prop := fnExactTrieNewRow.holds Try.pinned (OpenSpec.ofChange fnExactTrieNewSpec)

/-- ITS FALSE NEIGHBOUR: 'it returns false'. Refute it at one input. -/
def fnExactTrieNewWrong : ChangeSpec := { name := "fnExactTrieNew", fn := fun _ => fun
  | [] => { results := [.lit (.bool false)], args := [] }
  | _ => none }
def FnExactTrieNewWrongFalsely : Prop := fnExactTrieNewRow.holds Try.pinned (OpenSpec.ofChange fnExactTrieNewWrong)

/-- 'laws.FnExactTrieOk': WHATEVER THE INPUT: true; the input reads as it did. -/
def fnExactTrieOkSpec : ChangeSpec := { name := "fnExactTrieOk", fn := fun _ => fun
  | [d] => { results := [.lit (.bool true)], args := [d] }
  | _ => none }
def fnExactTrieOkRow : OpenClaim := { program := "ytphmomlgmnllkap", sum := "50c5974521399c82785e3bd1e84eb836b1bbe64475dc1dd2cdb531c5f48671d6", func := "loop.example/g00193/laws.FnExactTrieOk", spec := "fnExactTrieOk", apart := false }
def FnExactTrieOkSaid : Prop := fnExactTrieOkRow.holds Try.pinned (OpenSpec.ofChange fnExactTrieOkSpec)

/-- ITS FALSE NEIGHBOUR: 'it returns false'. Refute it at one input. -/
def fnExactTrieOkWrong : ChangeSpec := { name := "fnExactTrieOk", fn := fun _ => fun
  | [d] => { results := [.lit (.bool false)], args := [d] }
  | _ => none }
def FnExactTrieOkWrongFalsely : Prop := fnExactTrieOkRow.holds Try.pinned (OpenSpec.ofChange fnExactTrieOkWrong)

/-- 'laws.FnExactTriePut': WHATEVER THE INPUT: true; the input reads as it did. -/
def fnExactTriePutSpec : ChangeSpec := { name := "fnExactTriePut", fn := fun _ => fun
  | [d1, d2, d3] => { results := [.lit (.bool true)], args := [d1, d2, d3] }
  | _ => none }
def fnExactTriePutRow : OpenClaim := { program := "ytphmomlgmnllkap", sum := "50c5974521399c82785e3bd1e84eb836b1bbe64475dc1dd2cdb531c5f48671d6", func := "loop.example/g00193/laws.FnExactTriePut", spec := "fnExactTriePut", apart := false }
def FnExactTriePutSaid : Prop := fnExactTriePutRow.holds Try.pinned (OpenSpec.ofChange fnExactTriePutSpec)

/-- ITS FALSE NEIGHBOUR: 'it returns false'. Refute it at one input. -/
def fnExactTriePutWrong : ChangeSpec := { name := "fnExactTriePut", fn := fun _ => fun
  | [d1, d2, d3] => { results := [.lit (.bool false)], args := [d1, d2, d3] }
  | _ => none }
def FnExactTriePutWrongFalsely : Prop := fnExactTriePutRow.holds Try.pinned (OpenSpec.ofChange fnExactTriePutWrong)

/-- 'laws.FnExactTrieFind': WHATEVER THE INPUT: true; the input reads as it did. -/
def fnExactTrieFindSpec : ChangeSpec := { name := "fnExactTrieFind", fn := fun _ => fun
  | [d1, d2] => { results := [.lit (.bool true)], args := [d1, d2] }
  | _ => none }
def fnExactTrieFindRow : OpenClaim := { program := "ytphmomlgmnllkap", sum := "50c5974521399c82785e3bd1e84eb836b1bbe64475dc1dd2cdb531c5f48671d6", func := "loop.example/g00193/laws.FnExactTrieFind", spec := "fnExactTrieFind", apart := false }
def FnExactTrieFindSaid : Prop := fnExactTrieFindRow.holds Try.pinned (OpenSpec.ofChange fnExactTrieFindSpec)

/-- ITS FALSE NEIGHBOUR: 'it returns false'. Refute it at one input. -/
def fnExactTrieFindWrong : ChangeSpec := { name := "fnExactTrieFind", fn := fun _ => fun
  | [d1, d2] => { results := [.lit (.bool false)], args := [d1, d2] }
  | _ => none }
def FnExactTrieFindWrongFalsely : Prop := fnExactTrieFindRow.holds Try.pinned (OpenSpec.ofChange fnExactTrieFindWrong)

/-- 'laws.FnExactPoolOk': WHATEVER THE INPUT: true; the input reads as it did. -/
def fnExactPoolOkSpec : ChangeSpec := { name := "fnExactPoolOk", fn := fun _ => fun
  | [d] => { results := [.lit (.bool true)], args := [d] }
  | _ => none }
def fnExactPoolOkRow : OpenClaim := { program := "ytphmomlgmnllkap", sum := "50c5974521399c82785e3bd1e84eb836b1bbe64475dc1dd2cdb531c5f48671d6", func := "loop.example/g00193/laws.FnExactPoolOk", spec := "fnExactPoolOk", unfollowed := true, recurses := true, apart := false }
def FnExactPoolOkSaid : Prop := fnExactPoolOkRow.holds Try.pinned (OpenSpec.ofChange fnExactPoolOkSpec)

/-- ITS FALSE NEIGHBOUR: 'it returns false'. Refute it at one input. -/
def fnExactPoolOkWrong : ChangeSpec := { name := "fnExactPoolOk", fn := fun _ => fun
  | [d] => { results := [.lit (.bool false)], args := [d] }
  | _ => none }
def FnExactPoolOkWrongFalsely : Prop := fnExactPoolOkRow.holds Try.pinned (OpenSpec.ofChange fnExactPoolOkWrong)

/- THE SECOND FORM. 'bulk': how many values and letters a reading holds, each counted each time it is reached (what is shared counts as often as it is met; a slice's spare places count too). A statement '..UptoSaid' is the law's where the arguments, and the package variables that the reading takes, are together of bulk at most 1048576: NARROWER than '..Said'. Prove '..Said' where nothing that the law and all that it calls make is longer than what came in: it says more and counts as full. Else prove '..UptoSaid'. A law counts once. -/
mutual
def uptoBulk {H : Type} : DataW H → Nat
  | .lit (.string bytes) => bytes.length + 1
  | .lit _ => 1
  | .nil => 1
  | .ptr d => uptoBulk d + 1
  | .slice elems spare => uptoBulkAll elems + uptoBulkAll spare + 1
  | .agg parts => uptoBulkAll parts + 1
  | .iface _ d => uptoBulk d + 1
  | .map entries => uptoBulkEntries entries + 1
  | .held _ => 1
def uptoBulkAll {H : Type} : List (DataW H) → Nat
  | [] => 0
  | d :: r => uptoBulk d + uptoBulkAll r
def uptoBulkEntries {H : Type} : List (Lit × DataW H) → Nat
  | [] => 0
  | x :: r => uptoBulkEntry x + uptoBulkEntries r
def uptoBulkEntry {H : Type} : Lit × DataW H → Nat
  | (.string bytes, d) => bytes.length + uptoBulk d + 1
  | (_, d) => uptoBulk d + 1
 end
def uptoSmall : (H : Type) → List (DataW H) → Bool := fun _ ds => decide (uptoBulkAll ds ≤ 1048576)
def OpenSpec.upto (s : _root_.Go.ChangeSpec) : _root_.Go.OpenSpec := { _root_.Go.OpenSpec.ofChange s with cond := some uptoSmall }

/-- 'laws.FnExactTrieNew', WHERE WHAT IT READS IS OF BULK AT MOST 1048576: true; the input reads as it did. -/
def fnExactTrieNewUptoRow : OpenClaim := { program := "ytphmomlgmnllkap", sum := "50c5974521399c82785e3bd1e84eb836b1bbe64475dc1dd2cdb531c5f48671d6", func := "loop.example/g00193/laws.FnExactTrieNew", spec := "fnExactTrieNew", apart := false, narrowed := true }
def FnExactTrieNewUptoSaid : Prop := fnExactTrieNewUptoRow.holds Try.pinned (OpenSpec.upto fnExactTrieNewSpec)

/-- 'laws.FnExactTrieOk', WHERE WHAT IT READS IS OF BULK AT MOST 1048576: true; the input reads as it did. -/
def fnExactTrieOkUptoRow : OpenClaim := { program := "ytphmomlgmnllkap", sum := "50c5974521399c82785e3bd1e84eb836b1bbe64475dc1dd2cdb531c5f48671d6", func := "loop.example/g00193/laws.FnExactTrieOk", spec := "fnExactTrieOk", apart := false, narrowed := true }
def FnExactTrieOkUptoSaid : Prop := fnExactTrieOkUptoRow.holds Try.pinned (OpenSpec.upto fnExactTrieOkSpec)

/-- 'laws.FnExactTriePut', WHERE WHAT IT READS IS OF BULK AT MOST 1048576: true; the input reads as it did. -/
def fnExactTriePutUptoRow : OpenClaim := { program := "ytphmomlgmnllkap", sum := "50c5974521399c82785e3bd1e84eb836b1bbe64475dc1dd2cdb531c5f48671d6", func := "loop.example/g00193/laws.FnExactTriePut", spec := "fnExactTriePut", apart := false, narrowed := true }
def FnExactTriePutUptoSaid : Prop := fnExactTriePutUptoRow.holds Try.pinned (OpenSpec.upto fnExactTriePutSpec)

/-- 'laws.FnExactTrieFind', WHERE WHAT IT READS IS OF BULK AT MOST 1048576: true; the input reads as it did. -/
def fnExactTrieFindUptoRow : OpenClaim := { program := "ytphmomlgmnllkap", sum := "50c5974521399c82785e3bd1e84eb836b1bbe64475dc1dd2cdb531c5f48671d6", func := "loop.example/g00193/laws.FnExactTrieFind", spec := "fnExactTrieFind", apart := false, narrowed := true }
def FnExactTrieFindUptoSaid : Prop := fnExactTrieFindUptoRow.holds Try.pinned (OpenSpec.upto fnExactTrieFindSpec)

/-- 'laws.FnExactPoolOk', WHERE WHAT IT READS IS OF BULK AT MOST 1048576: true; the input reads as it did. -/
def fnExactPoolOkUptoRow : OpenClaim := { program := "ytphmomlgmnllkap", sum := "50c5974521399c82785e3bd1e84eb836b1bbe64475dc1dd2cdb531c5f48671d6", func := "loop.example/g00193/laws.FnExactPoolOk", spec := "fnExactPoolOk", unfollowed := true, recurses := true, apart := false, narrowed := true }
def FnExactPoolOkUptoSaid : Prop := fnExactPoolOkUptoRow.holds Try.pinned (OpenSpec.upto fnExactPoolOkSpec)

end Rows
end Go.Proofs.Ytphmomlgmnllkap
