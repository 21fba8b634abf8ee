/-
  A prefix as an argument: opened, shut again; the laws' own small functions over prefixes; the exact laws of chapter 8 out of the program's contracts.
-/
import Derived.Test.YtmmippdommemmanDoorRows
import Derived.Test.YtmmippdommemmanDoorKit
import Derived.Test.YtmmippdommemmanDoorReadPrefixSpec
import Derived.ProofKit
import Derived.OpenShut
import Derived.ShutString
import Derived.ChangeOld
import Derived.ChangeSame
import Derived.Below
namespace Go.Proofs.YtmmippdommemmanDoor
open Go.ChangeShapes Go.WideShapes Go.ChangeAt Go.RowKit
open Go.ChangeMaps (open_string shut_string)

theorem prefixCells : Tryd.prog.cellsOf 28 = 2 := by kernel_rfl
theorem intCellsP : Tryd.prog.cellsOf 3 = 1 := by kernel_rfl

set_option maxRecDepth 100000 in
/-- A prefix, opened: its two parts, and how it is read again in every world. -/
theorem open_prefix {H : Type} {enc : TypeId × Value → H} {W : World} {r : Reach} {base : Nat} {v : Value} {d : DataW H} {p : List MemPlace}
    (hok : Value.okWide Tryd.prog W r base 28 v) (h : DataW.Trod enc Tryd.prog W 0 (fun _ => true) true 28 v d p) :
    ∃ a n : Int, v = .agg #[.int .i64 a, .int .i64 n] ∧ p = [] ∧
      ∀ (W' : World) (sp : Nat → Bool), DataW.Trod enc Tryd.prog W' 0 sp true 28 v d [] := by
  obtain ⟨cs, rfl, hsz⟩ := okWide_struct Tryd.underlying28 hok
  rw [prefixCells] at hsz
  obtain ⟨l⟩ := cs
  match l, hsz with
  | [c0, c1], _ =>
  obtain ⟨fuel, hf⟩ := h
  obtain ⟨xs, m, _, hx, _, hlen, hp⟩ := DataW.trod_struct Tryd.underlying28 hf
  match xs, hlen with
  | [y0, y1], _ =>
  have g0 := hp 0 _ rfl
  have g1 := hp 1 _ rfl
  obtain ⟨a, e0, f0, w0⟩ := DataW.trod_int Tryd.underlying3 (by simpa [intCellsP] using g0)
  obtain ⟨n, e1, f1, w1⟩ := DataW.trod_int Tryd.underlying3 (by simpa [intCellsP] using g1)
  simp [Value.cells] at e0 e1
  subst e0 e1
  subst f0 f1
  simp at hx
  obtain ⟨rfl, rfl⟩ := hx
  refine ⟨a, n, rfl, rfl, fun W' sp => ⟨2, ?_⟩⟩
  have k0 : DataW.trod enc Tryd.prog W' 0 sp true 1 3 [.int .i64 a] = some (.lit (.int .i64 a), []) := by simp [DataW.trod, Tryd.underlying3, w0]
  have k1 : DataW.trod enc Tryd.prog W' 0 sp true 1 3 [.int .i64 n] = some (.lit (.int .i64 n), []) := by simp [DataW.trod, Tryd.underlying3, w1]
  have := trod_struct_mk (enc := enc) (w := W') (base := 0) (spare := sp) (held := true) (n := 1) (cs := [.int .i64 a, .int .i64 n]) (xs := [(.lit (.int .i64 a), []), (.lit (.int .i64 n), [])]) Tryd.underlying28 (by simp [prefixCells])
    (by simp [intCellsP, k0, k1])
  simpa [Value.cells] using this

set_option maxRecDepth 100000 in
set_option maxHeartbeats 400000 in
theorem toPrefix_any (a n : Int) (w : World) :
    Calls Tryd.prog 11 #[.agg #[.int .i64 a, .int .i64 n]] w fun e w' => e = .returned (.agg #[.int .i64 a, .int .i64 n]) ∧ Below w.heap.size w w' := by
  go_enter Tryd.func11, Tryd.ntmps11
  go_wp2_with fail
  refine bodyPost_ret (v := .agg #[.int .i64 a, .int .i64 n]) (by simp [results, Tryd.results11, go_sem]) rfl ⟨rfl, ?_⟩
  exact (((Below.refl w.heap.size w).alloc (Nat.le_refl _) _).alloc (by simp) _).alloc (by simp; omega) _

set_option maxRecDepth 100000 in
set_option maxHeartbeats 400000 in
/-- The exact law on AddrText, out of one answer that both give. -/
theorem lawAddrTextF (L : World → Prop) (stays : ∀ X Y, L X → Below X.heap.size X Y → L Y) (a : Int) (t : ByteArray) (hI : (∀ X, L X → Calls Tryd.prog 7 #[.int .i64 a] X fun e X' => e = .returned (.string t) ∧ Below X.heap.size X X')) (hS : (∀ X, Calls Tryd.prog 6 #[.int .i64 a] X fun e X' => e = .returned (.string t) ∧ Below X.heap.size X X')) (w : World) (ht : L w) :
    Calls Tryd.prog 3 #[.int .i64 a] w fun e w' => e = .returned (.bool true) ∧ Below w.heap.size w w' := by
  have HI := Lib.hid hI
  have HS := Lib.hid hS
  have HT : Hid (∀ X, Below w.heap.size w X → L X) := fun X hX => stays w X ht hX
  clear hI hS ht stays
  go_enter Tryd.func3, Tryd.ntmps3
  go_wp2_with fail
  refine (HS.out _).mono ?_
  rintro e w1 ⟨rfl, hb1⟩
  have HB1 := Lib.hid hb1
  clear hb1
  go_wp2_with fail
  refine (HI.out _ (HT.out _ HB1.out)).mono ?_
  rintro e w2 ⟨rfl, hb2⟩
  have HB2 := Lib.hid (HB1.out.trans (hb2.mono HB1.out.size))
  clear hb2
  go_wp2
  go_ret
  exact ⟨rfl, HB2.out⟩

set_option maxRecDepth 100000 in
set_option maxHeartbeats 400000 in
theorem lawReadAddr_big (s : ByteArray) (h : 1048576 < s.size) (w : World) :
    Calls Tryd.prog 4 #[.string s] w fun e w' => e = .returned (.bool true) ∧ Below w.heap.size w w' := by
  go_enter Tryd.func4, Tryd.ntmps4
  go_wp2
  go_ret
  exact ⟨rfl, Below.refl _ _⟩

set_option maxRecDepth 100000 in
set_option maxHeartbeats 400000 in
/-- The exact law on ReadAddr, out of one answer that both give. -/
theorem lawReadAddrF (L : World → Prop) (stays : ∀ X Y, L X → Below X.heap.size X Y → L Y) (s : ByteArray) (hs : s.size ≤ 1048576) (x : Int) (b : Bool) (hI : (∀ X, L X → Calls Tryd.prog 9 #[.string s] X fun e X' => e = .returned (.tuple #[.int .i64 x, .bool b]) ∧ Below X.heap.size X X')) (hS : (∀ X, Calls Tryd.prog 8 #[.string s] X fun e X' => e = .returned (.tuple #[.int .i64 x, .bool b]) ∧ Below X.heap.size X X')) (w : World) (ht : L w) :
    Calls Tryd.prog 4 #[.string s] w fun e w' => e = .returned (.bool true) ∧ Below w.heap.size w w' := by
  have HI := Lib.hid hI
  have HS := Lib.hid hS
  have HT : Hid (∀ X, Below w.heap.size w X → L X) := fun X hX => stays w X ht hX
  clear hI hS ht stays
  go_enter Tryd.func4, Tryd.ntmps4
  go_wp2_with fail
  refine (HS.out _).mono ?_
  rintro e w1 ⟨rfl, hb1⟩
  have HB1 := Lib.hid hb1
  clear hb1
  go_wp2_with fail
  refine (HI.out _ (HT.out _ HB1.out)).mono ?_
  rintro e w2 ⟨rfl, hb2⟩
  have HB2 := Lib.hid (HB1.out.trans (hb2.mono HB1.out.size))
  clear hb2
  go_wp2
  go_ret
  exact ⟨rfl, HB2.out⟩

set_option maxRecDepth 100000 in
set_option maxHeartbeats 400000 in
/-- The exact law on PrefixText, out of one answer that both give. -/
theorem lawPrefixTextF (L : World → Prop) (stays : ∀ X Y, L X → Below X.heap.size X Y → L Y) (a n : Int) (t : ByteArray) (b : Bool) (hI : (∀ X, L X → Calls Tryd.prog 12 #[.agg #[.int .i64 a, .int .i64 n]] X fun e X' => e = .returned (.tuple #[.string t, .bool b]) ∧ Below X.heap.size X X')) (hS : (∀ X, Calls Tryd.prog 10 #[.agg #[.int .i64 a, .int .i64 n]] X fun e X' => e = .returned (.tuple #[.string t, .bool b]) ∧ Below X.heap.size X X')) (w : World) (ht : L w) :
    Calls Tryd.prog 5 #[.agg #[.int .i64 a, .int .i64 n]] w fun e w' => e = .returned (.bool true) ∧ Below w.heap.size w w' := by
  have HI := Lib.hid hI
  have HS := Lib.hid hS
  have HT : Hid (∀ X, Below w.heap.size w X → L X) := fun X hX => stays w X ht hX
  clear hI hS ht stays
  have TP := Lib.hid (fun X => toPrefix_any a n X)
  have P0 := Lib.hid (PV.new w 28 (.int .i64 a) (.int .i64 n))
  go_enter Tryd.func5, Tryd.ntmps5
  go_wp2_with fail
  refine (TP.out _).mono ?_
  rintro e w1 ⟨rfl, hb1⟩
  have P1 := Lib.hid (P0.out.next hb1)
  clear hb1
  go_wp2_with fail
  refine (HS.out _).mono ?_
  rintro e w2 ⟨rfl, hb2⟩
  have P2 := Lib.hid (P1.out.next hb2)
  have c0 := P2.out.v.c0
  have c1 := P2.out.v.c1
  clear hb2
  go_wp2_with fail
  refine (TP.out _).mono ?_
  rintro e w3 ⟨rfl, hb3⟩
  have P3 := Lib.hid (P2.out.next hb3)
  clear hb3 c0 c1
  go_wp2_with fail
  refine (HI.out _ (HT.out _ P3.out.below)).mono ?_
  rintro e w4 ⟨rfl, hb4⟩
  have P4 := Lib.hid (P3.out.next hb4)
  clear hb4
  go_wp2
  go_ret
  exact ⟨rfl, P4.out.below⟩

end Go.Proofs.YtmmippdommemmanDoor
