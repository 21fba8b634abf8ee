/-
  No cell of these rows narrows 'for every input' (looked for: loops, veiled, ifaces, maps, wideKeys, modest, calm, conditions, laid).
  DERIVED. THE GIVEN ROWS OF THIS SEAT. 4 by the template 'for every input the law returns true; each argument reads behind the call as it read before'; 0 by the template 'total and deterministic' (their statements: YtogninaejehinavTotals.lean).
  GIVEN WITH THE SEED: the statements are not yours to turn. If you find one false, say at which input.
  Laid BY PROGRAM, IN A SANDBOX (cutbox-rows.mjs): the forced cells as the released guide's own fill.sh prints them over the translation 1637a9c522487fb6… (all of the seat's roots in one cut). By AI agents, Wed Nov 11 2026. No macro, syntax, notation, axiom, sorry.
-/
import Derived.Test.YtogninaejehinavChecked
import GoSem.Claim
import GoSem.ClaimJoined
import GoSem.ClaimMapViews
import Derived.JoinedTies
import Derived.KernelRfl
namespace Go.Proofs.Ytogninaejehinav
/- THE CELL 'sum', in the pinned program and in every row, IS THE sha256 OF THE DUMP (.gsa) THAT YtogninaejehinavProg.lean LOADS. Nothing in Lean hashes anything: it is a label: what it is worth is what the hold of that sum in a sandbox is worth. -/
noncomputable def Try.pinned : Pinned := { name := "ytogninaejehinav", sum := "1637a9c522487fb6ece4d6d4dd2d6092c430fcdf7a8186caa3b6af6b8d78a7c4", checked := Try.checked }
namespace Rows
def none {H : Type} : Left H := { results := [], args := [] }

/-- 'laws.FnExactTidySlots': WHATEVER THE INPUT: true; the input reads as it did. -/
def fnExactTidySlotsSpec : ChangeSpec := { name := "fnExactTidySlots", fn := fun _ => fun
  | [d1, d2] => { results := [.lit (.bool true)], args := [d1, d2] }
  | _ => none }
def fnExactTidySlotsRow : OpenClaim := { program := "ytogninaejehinav", sum := "1637a9c522487fb6ece4d6d4dd2d6092c430fcdf7a8186caa3b6af6b8d78a7c4", func := "loop.example/g00193/laws.FnExactTidySlots", spec := "fnExactTidySlots", apart := false }
def FnExactTidySlotsSaid : Prop := fnExactTidySlotsRow.holds Try.pinned (OpenSpec.ofChange fnExactTidySlotsSpec)

/-- ITS FALSE NEIGHBOUR: 'it returns false'. Refute it at one input. -/
def fnExactTidySlotsWrong : ChangeSpec := { name := "fnExactTidySlots", fn := fun _ => fun
  | [d1, d2] => { results := [.lit (.bool false)], args := [d1, d2] }
  | _ => none }
def FnExactTidySlotsWrongFalsely : Prop := fnExactTidySlotsRow.holds Try.pinned (OpenSpec.ofChange fnExactTidySlotsWrong)

/-- 'laws.FnExactSeenOk': WHATEVER THE INPUT: true; the input reads as it did. -/
def fnExactSeenOkSpec : ChangeSpec := { name := "fnExactSeenOk", fn := fun _ => fun
  | [d] => { results := [.lit (.bool true)], args := [d] }
  | _ => none }
def fnExactSeenOkRow : OpenClaim := { program := "ytogninaejehinav", sum := "1637a9c522487fb6ece4d6d4dd2d6092c430fcdf7a8186caa3b6af6b8d78a7c4", func := "loop.example/g00193/laws.FnExactSeenOk", spec := "fnExactSeenOk", apart := false }
def FnExactSeenOkSaid : Prop := fnExactSeenOkRow.holds Try.pinned (OpenSpec.ofChange fnExactSeenOkSpec)

/-- ITS FALSE NEIGHBOUR: 'it returns false'. Refute it at one input. -/
def fnExactSeenOkWrong : ChangeSpec := { name := "fnExactSeenOk", fn := fun _ => fun
  | [d] => { results := [.lit (.bool false)], args := [d] }
  | _ => none }
def FnExactSeenOkWrongFalsely : Prop := fnExactSeenOkRow.holds Try.pinned (OpenSpec.ofChange fnExactSeenOkWrong)

/-- 'laws.FnExactIsFresh': WHATEVER THE INPUT: true; the input reads as it did. -/
def fnExactIsFreshSpec : ChangeSpec := { name := "fnExactIsFresh", fn := fun _ => fun
  | [d1, d2] => { results := [.lit (.bool true)], args := [d1, d2] }
  | _ => none }
def fnExactIsFreshRow : OpenClaim := { program := "ytogninaejehinav", sum := "1637a9c522487fb6ece4d6d4dd2d6092c430fcdf7a8186caa3b6af6b8d78a7c4", func := "loop.example/g00193/laws.FnExactIsFresh", spec := "fnExactIsFresh", apart := false }
def FnExactIsFreshSaid : Prop := fnExactIsFreshRow.holds Try.pinned (OpenSpec.ofChange fnExactIsFreshSpec)

/-- ITS FALSE NEIGHBOUR: 'it returns false'. Refute it at one input. -/
def fnExactIsFreshWrong : ChangeSpec := { name := "fnExactIsFresh", fn := fun _ => fun
  | [d1, d2] => { results := [.lit (.bool false)], args := [d1, d2] }
  | _ => none }
def FnExactIsFreshWrongFalsely : Prop := fnExactIsFreshRow.holds Try.pinned (OpenSpec.ofChange fnExactIsFreshWrong)

/-- 'laws.FnExactNoteSeen': WHATEVER THE INPUT: true; the input reads as it did. -/
def fnExactNoteSeenSpec : ChangeSpec := { name := "fnExactNoteSeen", fn := fun _ => fun
  | [d1, d2] => { results := [.lit (.bool true)], args := [d1, d2] }
  | _ => none }
def fnExactNoteSeenRow : OpenClaim := { program := "ytogninaejehinav", sum := "1637a9c522487fb6ece4d6d4dd2d6092c430fcdf7a8186caa3b6af6b8d78a7c4", func := "loop.example/g00193/laws.FnExactNoteSeen", spec := "fnExactNoteSeen", apart := false }
def FnExactNoteSeenSaid : Prop := fnExactNoteSeenRow.holds Try.pinned (OpenSpec.ofChange fnExactNoteSeenSpec)

/-- ITS FALSE NEIGHBOUR: 'it returns false'. Refute it at one input. -/
def fnExactNoteSeenWrong : ChangeSpec := { name := "fnExactNoteSeen", fn := fun _ => fun
  | [d1, d2] => { results := [.lit (.bool false)], args := [d1, d2] }
  | _ => none }
def FnExactNoteSeenWrongFalsely : Prop := fnExactNoteSeenRow.holds Try.pinned (OpenSpec.ofChange fnExactNoteSeenWrong)

/- THE SECOND FORM. 'bulk': how many values and letters a reading holds, each counted each time it is reached (what is shared counts as often as it is met; a slice's spare places count too). A statement '..UptoSaid' is the law's where the arguments, and the package variables that the reading takes, are together of bulk at most 1048576: NARROWER than '..Said'. Prove '..Said' where nothing that the law and all that it calls make is longer than what came in: it says more and counts as full. Else prove '..UptoSaid'. A law counts once. -/
mutual
def uptoBulk {H : Type} : DataW H → Nat
  | .lit (.string bytes) => bytes.length + 1
  | .lit _ => 1
  | .nil => 1
  | .ptr d => uptoBulk d + 1
  | .slice elems spare => uptoBulkAll elems + uptoBulkAll spare + 1
  | .agg parts => uptoBulkAll parts + 1
  | .iface _ d => uptoBulk d + 1
  | .map entries => uptoBulkEntries entries + 1
  | .held _ => 1
def uptoBulkAll {H : Type} : List (DataW H) → Nat
  | [] => 0
  | d :: r => uptoBulk d + uptoBulkAll r
def uptoBulkEntries {H : Type} : List (Lit × DataW H) → Nat
  | [] => 0
  | x :: r => uptoBulkEntry x + uptoBulkEntries r
def uptoBulkEntry {H : Type} : Lit × DataW H → Nat
  | (.string bytes, d) => bytes.length + uptoBulk d + 1
  | (_, d) => uptoBulk d + 1
 end
def uptoSmall : (H : Type) → List (DataW H) → Bool := fun _ ds => decide (uptoBulkAll ds ≤ 1048576)
def OpenSpec.upto (s : _root_.Go.ChangeSpec) : _root_.Go.OpenSpec := { _root_.Go.OpenSpec.ofChange s with cond := some uptoSmall }

/-- 'laws.FnExactTidySlots', WHERE WHAT IT READS IS OF BULK AT MOST 1048576: true; the input reads as it did. -/
def fnExactTidySlotsUptoRow : OpenClaim := { program := "ytogninaejehinav", sum := "1637a9c522487fb6ece4d6d4dd2d6092c430fcdf7a8186caa3b6af6b8d78a7c4", func := "loop.example/g00193/laws.FnExactTidySlots", spec := "fnExactTidySlots", apart := false, narrowed := true }
def FnExactTidySlotsUptoSaid : Prop := fnExactTidySlotsUptoRow.holds Try.pinned (OpenSpec.upto fnExactTidySlotsSpec)

/-- 'laws.FnExactSeenOk', WHERE WHAT IT READS IS OF BULK AT MOST 1048576: true; the input reads as it did. -/
def fnExactSeenOkUptoRow : OpenClaim := { program := "ytogninaejehinav", sum := "1637a9c522487fb6ece4d6d4dd2d6092c430fcdf7a8186caa3b6af6b8d78a7c4", func := "loop.example/g00193/laws.FnExactSeenOk", spec := "fnExactSeenOk", apart := false, narrowed := true }
def FnExactSeenOkUptoSaid : Prop := fnExactSeenOkUptoRow.holds Try.pinned (OpenSpec.upto fnExactSeenOkSpec)

/-- 'laws.FnExactIsFresh', WHERE WHAT IT READS IS OF BULK AT MOST 1048576: true; the input reads as it did. -/
def fnExactIsFreshUptoRow : OpenClaim := { program := "ytogninaejehinav", sum := "1637a9c522487fb6ece4d6d4dd2d6092c430fcdf7a8186caa3b6af6b8d78a7c4", func := "loop.example/g00193/laws.FnExactIsFresh", spec := "fnExactIsFresh", apart := false, narrowed := true }
def FnExactIsFreshUptoSaid : Prop := fnExactIsFreshUptoRow.holds Try.pinned (OpenSpec.upto fnExactIsFreshSpec)

/-- 'laws.FnExactNoteSeen', WHERE WHAT IT READS IS OF BULK AT MOST 1048576: true; the input reads as it did. -/
def fnExactNoteSeenUptoRow : OpenClaim := { program := "ytogninaejehinav", sum := "1637a9c522487fb6ece4d6d4dd2d6092c430fcdf7a8186caa3b6af6b8d78a7c4", func := "loop.example/g00193/laws.FnExactNoteSeen", spec := "fnExactNoteSeen", apart := false, narrowed := true }
def FnExactNoteSeenUptoSaid : Prop := fnExactNoteSeenUptoRow.holds Try.pinned (OpenSpec.upto fnExactNoteSeenSpec)

end Rows
end Go.Proofs.Ytogninaejehinav
