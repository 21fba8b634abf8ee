/-
  A prefix as an argument: opened, shut again; the laws' own small functions over prefixes; the exact laws of chapter 8 out of the program's contracts.
-/
import Derived.Test.YtmmippdommemmaoDoorRows
import Derived.Test.YtmmippdommemmaoDoorKit
import Derived.Test.YtmmippdommemmaoDoorReadPrefixSpec
import Derived.ProofKit
import Derived.OpenShut
import Derived.ShutString
import Derived.ChangeOld
import Derived.ChangeSame
import Derived.Below
namespace Go.Proofs.YtmmippdommemmaoDoor
open Go.ChangeShapes Go.WideShapes Go.ChangeAt Go.RowKit
open Go.ChangeMaps (open_string shut_string)

theorem intCellsP : Tryd.prog.cellsOf 3 = 1 := by kernel_rfl

set_option maxRecDepth 100000 in
set_option maxHeartbeats 400000 in
theorem eqPrefix_same (a n : Int) (w : World) :
    Calls Tryd.prog 6 #[.agg #[.int .i64 a, .int .i64 n], .agg #[.int .i64 a, .int .i64 n]] w fun e w' => e = .returned (.bool true) ∧ Below w.heap.size w w' := by
  go_enter Tryd.func6, Tryd.ntmps6
  go_wp2_with fail
  go_ret
  exact ⟨rfl, ((Below.refl _ _).alloc (Nat.le_refl _) _).alloc (by simp) _⟩

set_option maxRecDepth 100000 in
set_option maxHeartbeats 400000 in
theorem lawReadPrefix_big (s : ByteArray) (h : 1048576 < s.size) (w : World) :
    Calls Tryd.prog 3 #[.string s] w fun e w' => e = .returned (.bool true) ∧ Below w.heap.size w w' := by
  go_enter Tryd.func3, Tryd.ntmps3
  go_wp2
  go_ret
  exact ⟨rfl, Below.refl _ _⟩

set_option maxRecDepth 100000 in
set_option maxHeartbeats 400000 in
/-- The exact law on ReadPrefix, out of one answer that both give. -/
theorem lawReadPrefixF (L : World → Prop) (stays : ∀ X Y, L X → Below X.heap.size X Y → L Y) (s : ByteArray) (hs : s.size ≤ 1048576) (x y : Int) (b : Bool) (hI : (∀ X, L X → Calls Tryd.prog 5 #[.string s] X fun e X' => e = .returned (.tuple #[.agg #[.int .i64 x, .int .i64 y], .bool b]) ∧ Below X.heap.size X X')) (hS : (∀ X, Calls Tryd.prog 4 #[.string s] X fun e X' => e = .returned (.tuple #[.agg #[.int .i64 x, .int .i64 y], .bool b]) ∧ Below X.heap.size X X')) (w : World) (ht : L w) :
    Calls Tryd.prog 3 #[.string s] w fun e w' => e = .returned (.bool true) ∧ Below w.heap.size w w' := by
  have HI := Lib.hid hI
  have HS := Lib.hid hS
  have HT : Hid (∀ X, Below w.heap.size w X → L X) := fun X hX => stays w X ht hX
  clear hI hS ht stays
  have EQ := Lib.hid (fun X => eqPrefix_same x y X)
  go_enter Tryd.func3, Tryd.ntmps3
  go_wp2_with fail
  refine (HS.out _).mono ?_
  rintro e w1 ⟨rfl, hb1⟩
  have V1 := Lib.hid (VarP.new w1 PT (.int .i64 x) (.int .i64 y))
  have B1 := Lib.hid (hb1.alloc hb1.size (.cells #[.int .i64 x, .int .i64 y] PT))
  clear hb1
  go_wp2_with fail
  refine (HI.out _ (HT.out _ B1.out)).mono ?_
  rintro e w2 ⟨rfl, hb2⟩
  have V2 := Lib.hid ((V1.out.next hb2).next ((Below.refl _ _).alloc (Nat.le_refl _) (.cells #[.int .i64 x, .int .i64 y] PT)))
  have hb3 := B1.out.trans (hb2.mono B1.out.size)
  have B3 := Lib.hid (hb3.alloc hb3.size (.cells #[.int .i64 x, .int .i64 y] PT))
  have c0 := V2.out.c0
  have c1 := V2.out.c1
  clear hb2 hb3
  go_wp2_with fail
  refine (EQ.out _).mono ?_
  rintro e w4 ⟨rfl, hb4⟩
  have B4 := Lib.hid (B3.out.trans (hb4.mono B3.out.size))
  clear hb4
  go_wp2
  go_ret
  exact ⟨rfl, B4.out⟩

end Go.Proofs.YtmmippdommemmaoDoor
