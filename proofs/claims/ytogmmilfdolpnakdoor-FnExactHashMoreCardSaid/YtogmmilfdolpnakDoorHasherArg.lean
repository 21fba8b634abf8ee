/-
  A hasher as an argument: opened, shut again; the laws' own small functions over hashers.
-/
import Derived.Test.YtogmmilfdolpnakDoorRows
import Derived.Test.YtogmmilfdolpnakDoorKit
import Derived.ProofKit
import Derived.OpenShut
import Derived.ShutString
import Derived.ChangeOld
import Derived.ChangeSame
import Derived.Below
import Derived.Deep.RegionHeld3
import Derived.BigQuiet
import Derived.Deep.QuietTactic
import Derived.Deep.LoopGhost
import Derived.Deep.DeepCutAuto
namespace Go.Proofs.YtogmmilfdolpnakDoor
open Go.ChangeShapes Go.WideShapes Go.ChangeAt Go.RowKit
open Go.ChangeMaps (open_string shut_string)

theorem hasherCells : Tryd.prog.cellsOf 23 = 3 := by kernel_rfl
theorem stringCells : Tryd.prog.cellsOf 9 = 1 := by kernel_rfl
theorem intCells : Tryd.prog.cellsOf 3 = 1 := by kernel_rfl

/-- A hasher, opened: its three parts, and how it is read again in every world. -/
theorem open_hasher {H : Type} {enc : TypeId × Value → H} {W : World} {r : Reach} {base : Nat} {v : Value} {d : DataW H} {p : List MemPlace}
    (hok : Value.okWide Tryd.prog W r base 23 v) (h : DataW.Trod enc Tryd.prog W 0 (fun _ => true) true 23 v d p) :
    ∃ (st rest : ByteArray) (n : Int), v = .agg #[.string st, .string rest, .int .i64 n] ∧ p = [] ∧ st.size ≤ maxLen ∧ rest.size ≤ maxLen ∧
      ∀ (W' : World) (sp : Nat → Bool), DataW.Trod enc Tryd.prog W' 0 sp true 23 v d [] := by
  obtain ⟨cs, rfl, hsz⟩ := okWide_struct Tryd.underlying23 hok
  rw [hasherCells] at hsz
  obtain ⟨l⟩ := cs
  match l, hsz with
  | [c0, c1, c2], _ =>
  obtain ⟨fuel, hf⟩ := h
  obtain ⟨xs, m, _, hx, _, hlen, hp⟩ := DataW.trod_struct Tryd.underlying23 hf
  match xs, hlen with
  | [y0, y1, y2], _ =>
  have g0 := hp 0 _ rfl
  have g1 := hp 1 _ rfl
  have g2 := hp 2 _ rfl
  obtain ⟨st, e0, f0, w0⟩ := DataW.trod_string Tryd.underlying9 (by simpa [stringCells] using g0)
  obtain ⟨rest, e1, f1, w1⟩ := DataW.trod_string Tryd.underlying9 (by simpa [stringCells] using g1)
  obtain ⟨n, e2, f2, w2⟩ := DataW.trod_int Tryd.underlying3 (by simpa [intCells] using g2)
  simp [Value.cells] at e0 e1 e2
  subst e0 e1 e2
  subst f0 f1 f2
  simp at hx
  obtain ⟨rfl, rfl⟩ := hx
  refine ⟨st, rest, n, rfl, rfl, w0, w1, fun W' sp => ⟨2, ?_⟩⟩
  have k0 : DataW.trod enc Tryd.prog W' 0 sp true 1 9 [.string st] = some (.lit (.string st.data.toList), []) := by simp [DataW.trod, Tryd.underlying9, w0]
  have k1 : DataW.trod enc Tryd.prog W' 0 sp true 1 9 [.string rest] = some (.lit (.string rest.data.toList), []) := by simp [DataW.trod, Tryd.underlying9, w1]
  have k2 : DataW.trod enc Tryd.prog W' 0 sp true 1 3 [.int .i64 n] = some (.lit (.int .i64 n), []) := by simp [DataW.trod, Tryd.underlying3, w2]
  have := trod_struct_mk (enc := enc) (w := W') (base := 0) (spare := sp) (held := true) (n := 1) (cs := [.string st, .string rest, .int .i64 n]) (xs := [(.lit (.string st.data.toList), []), (.lit (.string rest.data.toList), []), (.lit (.int .i64 n), [])]) Tryd.underlying23 (by simp [hasherCells])
    (by simp [stringCells, intCells, k0, k1, k2])
  simpa [Value.cells] using this

/-- The argument's variable. -/
structure ArgV (w : World) (t : TypeId) (a b c : Value) (X : World) : Prop where
  row : X.heap[w.heap.size]? = some (.cells #[a, b, c] t (0, 0))
  below : Below w.heap.size w X
theorem ArgV.new (w : World) (t : TypeId) (a b c : Value) : ArgV w t a b c (w.alloc (.cells #[a, b, c] t)) := ⟨heap_alloc_new w _, (Below.refl _ _).alloc (Nat.le_refl _) _⟩
theorem ArgV.next {w : World} {t : TypeId} {a b c : Value} {X Y : World} (h : ArgV w t a b c X) (hb : Below X.heap.size X Y) : ArgV w t a b c Y := ⟨by rw [hb.block _ (lt_of_block h.row)]; exact h.row, h.below.trans (hb.mono h.below.size)⟩
theorem ArgV.c0 {w : World} {t : TypeId} {a b c : Value} {X : World} (h : ArgV w t a b c X) : X.cell? ⟨w.heap.size, 0, none⟩ = some a := by rw [cell_of_row X _ 0 _ t (0, 0) h.row]; rfl
theorem ArgV.c1 {w : World} {t : TypeId} {a b c : Value} {X : World} (h : ArgV w t a b c X) : X.cell? ⟨w.heap.size, 1, none⟩ = some b := by rw [cell_of_row X _ 1 _ t (0, 0) h.row]; rfl
theorem ArgV.c2 {w : World} {t : TypeId} {a b c : Value} {X : World} (h : ArgV w t a b c X) : X.cell? ⟨w.heap.size, 2, none⟩ = some c := by rw [cell_of_row X _ 2 _ t (0, 0) h.row]; rfl

set_option maxRecDepth 100000 in
set_option maxHeartbeats 400000 in
theorem toHasher_any (st rest : ByteArray) (n : Int) (w : World) :
    Calls Tryd.prog 9 #[.agg #[.string st, .string rest, .int .i64 n]] w fun e w' => e = .returned (.agg #[.string st, .string rest, .int .i64 n]) ∧ Below w.heap.size w w' := by
  go_enter Tryd.func9, Tryd.ntmps9
  go_wp2_with fail
  refine bodyPost_ret (v := .agg #[.string st, .string rest, .int .i64 n]) (by simp [results, Tryd.results9, go_sem]) rfl ⟨rfl, ?_⟩
  exact (((Below.refl w.heap.size w).alloc (Nat.le_refl _) _).alloc (by simp) _).alloc (by simp; omega) _

set_option maxRecDepth 100000 in
set_option maxHeartbeats 400000 in
theorem szHasher_yes (st rest : ByteArray) (n : Int) (h : st.size + rest.size ≤ 1048576) (w : World) :
    Calls Tryd.prog 7 #[.agg #[.string st, .string rest, .int .i64 n], .int .i64 1048576] w fun e w' => e = .returned (.int .i64 (1048576 - (st.size : Int) - (rest.size : Int))) ∧ Below w.heap.size w w' := by
  have a1 : ¬ (1048576 - (st.size : Int) < 0) := by omega
  have a2 : ¬ (1048576 - (st.size : Int) - (rest.size : Int) < 0) := by omega
  have b1 : IntKind.i64.wrap (1048576 - (st.size : Int)) = 1048576 - (st.size : Int) := by rw [IntKind.wrap_i64]; omega
  have b2 : IntKind.i64.wrap (1048576 - (st.size : Int) - (rest.size : Int)) = 1048576 - (st.size : Int) - (rest.size : Int) := by rw [IntKind.wrap_i64]; omega
  go_enter Tryd.func7, Tryd.ntmps7
  go_wp2_with fail
  go_ret
  exact ⟨rfl, (Below.refl _ _).alloc (Nat.le_refl _) _⟩

set_option maxRecDepth 100000 in
set_option maxHeartbeats 400000 in
theorem szHasher_no (st rest : ByteArray) (n : Int) (h : 1048576 < st.size + rest.size) (hs : st.size ≤ maxLen) (hr : rest.size ≤ maxLen) (w : World) :
    Calls Tryd.prog 7 #[.agg #[.string st, .string rest, .int .i64 n], .int .i64 1048576] w fun e w' => e = .returned (.int .i64 (-1)) ∧ Below w.heap.size w w' := by
  unfold maxLen at hs hr
  have b1 : IntKind.i64.wrap (1048576 - (st.size : Int)) = 1048576 - (st.size : Int) := by rw [IntKind.wrap_i64]; omega
  by_cases a1 : 1048576 - (st.size : Int) < 0
  · clear h
    go_enter Tryd.func7, Tryd.ntmps7
    go_wp2_with fail
    go_ret
    exact ⟨rfl, (Below.refl _ _).alloc (Nat.le_refl _) _⟩
  · have a2 : 1048576 - (st.size : Int) - (rest.size : Int) < 0 := by omega
    have b2 : IntKind.i64.wrap (1048576 - (st.size : Int) - (rest.size : Int)) = 1048576 - (st.size : Int) - (rest.size : Int) := by rw [IntKind.wrap_i64]; omega
    clear h
    go_enter Tryd.func7, Tryd.ntmps7
    go_wp2_with fail
    go_ret
    exact ⟨rfl, (Below.refl _ _).alloc (Nat.le_refl _) _⟩

set_option maxRecDepth 100000 in
set_option maxHeartbeats 400000 in
theorem eqHasher_same (st rest : ByteArray) (n : Int) (w : World) :
    Calls Tryd.prog 11 #[.agg #[.string st, .string rest, .int .i64 n], .agg #[.string st, .string rest, .int .i64 n]] w fun e w' => e = .returned (.bool true) ∧ Below w.heap.size w w' := by
  go_enter Tryd.func11, Tryd.ntmps11
  go_wp2_with fail
  go_ret
  exact ⟨rfl, ((Below.refl _ _).alloc (Nat.le_refl _) _).alloc (by simp) _⟩

end Go.Proofs.YtogmmilfdolpnakDoor
