/-
  A prefix as an argument: opened, shut again; the laws' own small functions over prefixes; the exact laws of chapter 8 out of the program's contracts.
-/
import Derived.Test.YtmmippdommemmanRows
import Derived.Test.YtmmippdommemmanKit
import Derived.Test.YtmmippdommemmanReadPrefixSpec
import Derived.ProofKit
import Derived.OpenShut
import Derived.ShutString
import Derived.ChangeOld
import Derived.ChangeSame
import Derived.Below
namespace Go.Proofs.Ytmmippdommemman
open Go.ChangeShapes Go.WideShapes Go.ChangeAt Go.RowKit
open Go.ChangeMaps (open_string shut_string)

theorem prefixCells : Try.prog.cellsOf 23 = 2 := by kernel_rfl
theorem intCellsP : Try.prog.cellsOf 3 = 1 := by kernel_rfl

set_option maxRecDepth 100000 in
/-- A prefix, opened: its two parts, and how it is read again in every world. -/
theorem open_prefix {H : Type} {enc : TypeId × Value → H} {W : World} {r : Reach} {base : Nat} {v : Value} {d : DataW H} {p : List MemPlace}
    (hok : Value.okWide Try.prog W r base 23 v) (h : DataW.Trod enc Try.prog W 0 (fun _ => true) true 23 v d p) :
    ∃ a n : Int, v = .agg #[.int .i64 a, .int .i64 n] ∧ p = [] ∧
      ∀ (W' : World) (sp : Nat → Bool), DataW.Trod enc Try.prog W' 0 sp true 23 v d [] := by
  obtain ⟨cs, rfl, hsz⟩ := okWide_struct Try.underlying23 hok
  rw [prefixCells] at hsz
  obtain ⟨l⟩ := cs
  match l, hsz with
  | [c0, c1], _ =>
  obtain ⟨fuel, hf⟩ := h
  obtain ⟨xs, m, _, hx, _, hlen, hp⟩ := DataW.trod_struct Try.underlying23 hf
  match xs, hlen with
  | [y0, y1], _ =>
  have g0 := hp 0 _ rfl
  have g1 := hp 1 _ rfl
  obtain ⟨a, e0, f0, w0⟩ := DataW.trod_int Try.underlying3 (by simpa [intCellsP] using g0)
  obtain ⟨n, e1, f1, w1⟩ := DataW.trod_int Try.underlying3 (by simpa [intCellsP] using g1)
  simp [Value.cells] at e0 e1
  subst e0 e1
  subst f0 f1
  simp at hx
  obtain ⟨rfl, rfl⟩ := hx
  refine ⟨a, n, rfl, rfl, fun W' sp => ⟨2, ?_⟩⟩
  have k0 : DataW.trod enc Try.prog W' 0 sp true 1 3 [.int .i64 a] = some (.lit (.int .i64 a), []) := by simp [DataW.trod, Try.underlying3, w0]
  have k1 : DataW.trod enc Try.prog W' 0 sp true 1 3 [.int .i64 n] = some (.lit (.int .i64 n), []) := by simp [DataW.trod, Try.underlying3, w1]
  have := trod_struct_mk (enc := enc) (w := W') (base := 0) (spare := sp) (held := true) (n := 1) (cs := [.int .i64 a, .int .i64 n]) (xs := [(.lit (.int .i64 a), []), (.lit (.int .i64 n), [])]) Try.underlying23 (by simp [prefixCells])
    (by simp [intCellsP, k0, k1])
  simpa [Value.cells] using this

set_option maxRecDepth 100000 in
set_option maxHeartbeats 400000 in
theorem toPrefix_any (a n : Int) (w : World) :
    Calls Try.prog 7 #[.agg #[.int .i64 a, .int .i64 n]] w fun e w' => e = .returned (.agg #[.int .i64 a, .int .i64 n]) ∧ Below w.heap.size w w' := by
  go_enter Try.func7, Try.ntmps7
  go_wp2_with fail
  refine bodyPost_ret (v := .agg #[.int .i64 a, .int .i64 n]) (by simp [results, Try.results7, go_sem]) rfl ⟨rfl, ?_⟩
  exact (((Below.refl w.heap.size w).alloc (Nat.le_refl _) _).alloc (by simp) _).alloc (by simp; omega) _

set_option maxRecDepth 100000 in
set_option maxHeartbeats 400000 in
theorem eqPrefix_same (a n : Int) (w : World) :
    Calls Try.prog 11 #[.agg #[.int .i64 a, .int .i64 n], .agg #[.int .i64 a, .int .i64 n]] w fun e w' => e = .returned (.bool true) ∧ Below w.heap.size w w' := by
  go_enter Try.func11, Try.ntmps11
  go_wp2_with fail
  go_ret
  exact ⟨rfl, ((Below.refl _ _).alloc (Nat.le_refl _) _).alloc (by simp) _⟩

set_option maxRecDepth 100000 in
set_option maxHeartbeats 400000 in
/-- The exact law on PrefixOk, out of one answer that both give. -/
theorem lawPrefixOkF (L : World → Prop) (stays : ∀ X Y, L X → Below X.heap.size X Y → L Y) (a n : Int) (b : Bool) (hI : (∀ X, L X → Calls Try.prog 8 #[.agg #[.int .i64 a, .int .i64 n]] X fun e X' => e = .returned (.bool b) ∧ Below X.heap.size X X')) (hS : (∀ X, Calls Try.prog 6 #[.agg #[.int .i64 a, .int .i64 n]] X fun e X' => e = .returned (.bool b) ∧ Below X.heap.size X X')) (w : World) (ht : L w) :
    Calls Try.prog 3 #[.agg #[.int .i64 a, .int .i64 n]] w fun e w' => e = .returned (.bool true) ∧ Below w.heap.size w w' := by
  have HI := Lib.hid hI
  have HS := Lib.hid hS
  have HT : Hid (∀ X, Below w.heap.size w X → L X) := fun X hX => stays w X ht hX
  clear hI hS ht stays
  have TP := Lib.hid (fun X => toPrefix_any a n X)
  have P0 := Lib.hid (PV.new w 23 (.int .i64 a) (.int .i64 n))
  go_enter Try.func3, Try.ntmps3
  go_wp2_with fail
  refine (TP.out _).mono ?_
  rintro e w1 ⟨rfl, hb1⟩
  have P1 := Lib.hid (P0.out.next hb1)
  clear hb1
  go_wp2_with fail
  refine (HS.out _).mono ?_
  rintro e w2 ⟨rfl, hb2⟩
  have P2 := Lib.hid (P1.out.next hb2)
  have c0 := P2.out.v.c0
  have c1 := P2.out.v.c1
  clear hb2
  go_wp2_with fail
  refine (TP.out _).mono ?_
  rintro e w3 ⟨rfl, hb3⟩
  have P3 := Lib.hid (P2.out.next hb3)
  clear hb3 c0 c1
  go_wp2_with fail
  refine (HI.out _ (HT.out _ P3.out.below)).mono ?_
  rintro e w4 ⟨rfl, hb4⟩
  have P4 := Lib.hid (P3.out.next hb4)
  clear hb4
  go_wp2
  go_ret
  exact ⟨rfl, P4.out.below⟩

set_option maxRecDepth 100000 in
set_option maxHeartbeats 400000 in
/-- The exact law on InPrefix, out of one answer that both give. -/
theorem lawInPrefixF (L : World → Prop) (stays : ∀ X Y, L X → Below X.heap.size X Y → L Y) (a n x : Int) (b : Bool) (hI : (∀ X, L X → Calls Try.prog 13 #[.agg #[.int .i64 a, .int .i64 n], .int .i64 x] X fun e X' => e = .returned (.bool b) ∧ Below X.heap.size X X')) (hS : (∀ X, Calls Try.prog 12 #[.agg #[.int .i64 a, .int .i64 n], .int .i64 x] X fun e X' => e = .returned (.bool b) ∧ Below X.heap.size X X')) (w : World) (ht : L w) :
    Calls Try.prog 5 #[.agg #[.int .i64 a, .int .i64 n], .int .i64 x] w fun e w' => e = .returned (.bool true) ∧ Below w.heap.size w w' := by
  have HI := Lib.hid hI
  have HS := Lib.hid hS
  have HT : Hid (∀ X, Below w.heap.size w X → L X) := fun X hX => stays w X ht hX
  clear hI hS ht stays
  have TP := Lib.hid (fun X => toPrefix_any a n X)
  have P0 := Lib.hid (PV.new w 23 (.int .i64 a) (.int .i64 n))
  go_enter Try.func5, Try.ntmps5
  go_wp2_with fail
  refine (TP.out _).mono ?_
  rintro e w1 ⟨rfl, hb1⟩
  have P1 := Lib.hid (P0.out.next hb1)
  clear hb1
  go_wp2_with fail
  refine (HS.out _).mono ?_
  rintro e w2 ⟨rfl, hb2⟩
  have P2 := Lib.hid (P1.out.next hb2)
  have c0 := P2.out.v.c0
  have c1 := P2.out.v.c1
  clear hb2
  go_wp2_with fail
  refine (TP.out _).mono ?_
  rintro e w3 ⟨rfl, hb3⟩
  have P3 := Lib.hid (P2.out.next hb3)
  clear hb3 c0 c1
  go_wp2_with fail
  refine (HI.out _ (HT.out _ P3.out.below)).mono ?_
  rintro e w4 ⟨rfl, hb4⟩
  have P4 := Lib.hid (P3.out.next hb4)
  clear hb4
  go_wp2
  go_ret
  exact ⟨rfl, P4.out.below⟩

set_option maxRecDepth 100000 in
set_option maxHeartbeats 400000 in
/-- The exact law on PrefixOf, out of one answer that both give. -/
theorem lawPrefixOfF (L : World → Prop) (stays : ∀ X Y, L X → Below X.heap.size X Y → L Y) (a n : Int) (x y : Int) (b : Bool) (hI : (∀ X, L X → Calls Try.prog 10 #[.int .i64 a, .int .i64 n] X fun e X' => e = .returned (.tuple #[.agg #[.int .i64 x, .int .i64 y], .bool b]) ∧ Below X.heap.size X X')) (hS : (∀ X, Calls Try.prog 9 #[.int .i64 a, .int .i64 n] X fun e X' => e = .returned (.tuple #[.agg #[.int .i64 x, .int .i64 y], .bool b]) ∧ Below X.heap.size X X')) (w : World) (ht : L w) :
    Calls Try.prog 4 #[.int .i64 a, .int .i64 n] w fun e w' => e = .returned (.bool true) ∧ Below w.heap.size w w' := by
  have HI := Lib.hid hI
  have HS := Lib.hid hS
  have HT : Hid (∀ X, Below w.heap.size w X → L X) := fun X hX => stays w X ht hX
  clear hI hS ht stays
  have EQ := Lib.hid (fun X => eqPrefix_same x y X)
  go_enter Try.func4, Try.ntmps4
  go_wp2_with fail
  refine (HS.out _).mono ?_
  rintro e w1 ⟨rfl, hb1⟩
  have V1 := Lib.hid (VarP.new w1 PT (.int .i64 x) (.int .i64 y))
  have B1 := Lib.hid (hb1.alloc hb1.size (.cells #[.int .i64 x, .int .i64 y] PT))
  clear hb1
  go_wp2_with fail
  refine (HI.out _ (HT.out _ B1.out)).mono ?_
  rintro e w2 ⟨rfl, hb2⟩
  have V2 := Lib.hid ((V1.out.next hb2).next ((Below.refl _ _).alloc (Nat.le_refl _) (.cells #[.int .i64 x, .int .i64 y] PT)))
  have hb3 := B1.out.trans (hb2.mono B1.out.size)
  have B3 := Lib.hid (hb3.alloc hb3.size (.cells #[.int .i64 x, .int .i64 y] PT))
  have c0 := V2.out.c0
  have c1 := V2.out.c1
  clear hb2 hb3
  go_wp2_with fail
  refine (EQ.out _).mono ?_
  rintro e w4 ⟨rfl, hb4⟩
  have B4 := Lib.hid (B3.out.trans (hb4.mono B3.out.size))
  clear hb4
  go_wp2
  go_ret
  exact ⟨rfl, B4.out⟩

end Go.Proofs.Ytmmippdommemman
