/-
  Rows of routes as arguments; the laws' own small functions over them.
  The laws' own functions that write marks into rows of routes, find them again, and hold rows against each other.
  Routes compared as values; rows of routes held against each other by values.
-/
import Derived.Test.YtpcdmfimjnhejacDropToSpec
import Derived.Test.YtpcdmfimjnhejacKitArg
import Derived.Test.YtpcdmfimjnhejacVarTwo
import Derived.Deep.RegionHeld3
import Derived.BigQuiet
import Derived.Deep.QuietTactic
import Derived.Deep.LoopGhost
import Derived.Deep.DeepCutAuto
import Derived.ProofKit
import Derived.OpenShut
import Derived.ShutString
import Derived.ChangeOld
import Derived.ChangeSame
import Derived.Below
import Derived.Test.YtpcdmfimjnhejacPrefEq
namespace Go.Proofs.Ytpcdmfimjnhejac
open Go.ChangeShapes Go.WideShapes Go.ChangeAt Go.RowKit

abbrev RTI : TypeId := 35
theorem lawIntCells : Try.prog.cellsOf 3 = 1 := by kernel_rfl
theorem infoRouteZ : (Try.prog.info? 35).map (fun i => (i.zero, i.size, i.bytes)) = some (some (.agg #[.int .i64 0, .int .i64 0, .int .i64 0]), 3, 24) := by kernel_rfl
theorem info_zero {P : Program} {t : TypeId} {n b : Nat} {z : Value} (h : (P.info? t).map (fun i => (i.zero, i.size, i.bytes)) = some (some z, n, b)) : ∃ i : TypeInfo, P.info? t = some i ∧ i.zero = some z ∧ i.size = n ∧ i.bytes = b := by
  cases hi : P.info? t with
  | none => simp [hi] at h
  | some i =>
    simp [hi] at h
    exact ⟨i, rfl, h.1, h.2.1, h.2.2⟩

theorem src_three {w : World} {b off : Nat} {xs : List Rt} (h : ∀ j t x, xs[j]? = some x → t < rtRec.k → w.cell? ⟨b, off + (rtRec.k * j + t), none⟩ = (rtRec.enc x)[t]?) (j : Nat) (x : Rt) (hx : xs[j]? = some x) :
    w.cell? ⟨b, off + j * 3, none⟩ = some (.int .i64 x.1) ∧ w.cell? ⟨b, off + j * 3 + 1, none⟩ = some (.int .i64 x.2.1) ∧ w.cell? ⟨b, off + j * 3 + 2, none⟩ = some (.int .i64 x.2.2) := by
  have h0 := h j 0 x hx (by decide)
  have h1 := h j 1 x hx (by decide)
  have h2 := h j 2 x hx (by decide)
  have e : rtRec.k * j = j * 3 := Nat.mul_comm _ _
  rw [e, ← Nat.add_assoc] at h0 h1 h2
  exact ⟨h0, h1, h2⟩
theorem put_three {w : World} {base g cap : Nat} {l : List Rt} (h : OwnR rtRec w base RTI (.slice (some ⟨g, 0, none⟩) l.length cap) l) (j : Nat) (a b c : Int) (hj : j < l.length) :
    OwnR rtRec (((w.setCell ⟨g, j * 3, none⟩ (.int .i64 a)).setCell ⟨g, j * 3 + 1, none⟩ (.int .i64 b)).setCell ⟨g, j * 3 + 2, none⟩ (.int .i64 c)) base RTI (.slice (some ⟨g, 0, none⟩) l.length cap) (l.set j (a, b, c)) ∧ w.grownBy (((w.setCell ⟨g, j * 3, none⟩ (.int .i64 a)).setCell ⟨g, j * 3 + 1, none⟩ (.int .i64 b)).setCell ⟨g, j * 3 + 2, none⟩ (.int .i64 c)) (some g) := by
  have h1 := OwnR.put h j (a, b, c) hj
  have e : rtRec.k * j = j * 3 := Nat.mul_comm _ _
  rw [e] at h1
  exact h1
theorem own_three {w : World} {base g cap : Nat} {l : List Rt} (h : OwnR rtRec w base RTI (.slice (some ⟨g, 0, none⟩) l.length cap) l) (j : Nat) (hj : j < l.length) :
    ∃ x : Rt, l[j]? = some x ∧ w.cell? ⟨g, j * 3, none⟩ = some (.int .i64 x.1) ∧ w.cell? ⟨g, j * 3 + 1, none⟩ = some (.int .i64 x.2.1) ∧ w.cell? ⟨g, j * 3 + 2, none⟩ = some (.int .i64 x.2.2) ∧ w.frozen? ⟨g, j * 3, none⟩ = false ∧ w.frozen? ⟨g, j * 3 + 1, none⟩ = false ∧ w.frozen? ⟨g, j * 3 + 2, none⟩ = false := by
  have hx := List.getElem?_eq_getElem hj
  obtain ⟨ao, c, hv, hf⟩ := h.form
  obtain ⟨g', hg, _, _, hc⟩ := hf (by omega)
  subst hg
  simp only [Value.slice.injEq, Option.some.injEq, Addr.mk.injEq, and_true, true_and] at hv
  obtain ⟨rfl, rfl⟩ := hv
  have h0 := hc j 0 _ hx (by decide)
  have h1 := hc j 1 _ hx (by decide)
  have h2 := hc j 2 _ hx (by decide)
  have e : rtRec.k * j = j * 3 := Nat.mul_comm _ _
  rw [e] at h0 h1 h2
  exact ⟨_, hx, h0.1, h1.1, h2.1, h0.2, h1.2, h2.2⟩
theorem set_mid {α : Type} (A B : List α) (j : Nat) (x : α) (hA : A.length = j) (hj : j < B.length) : (A ++ B.drop j).set j x = (A ++ [x]) ++ B.drop (j + 1) := by
  subst hA
  rw [List.set_append_right _ _ (Nat.le_refl _), Nat.sub_self, List.drop_eq_getElem_cons hj, List.set_cons_zero, List.append_assoc]
  rfl

end Go.Proofs.Ytpcdmfimjnhejac
namespace Go.Proofs.Ytpcdmfimjnhejac
open Go.RowKit

/-- The marks of a row, from a number on. -/
def marks (k : Int) (n : Nat) : List Rt := (List.range n).map fun (j : Nat) => (k + 3 * (j : Int), k + 3 * (j : Int) + 1, k + 3 * (j : Int) + 1 + 1)
theorem marks_length (k : Int) (n : Nat) : (marks k n).length = n := by simp [marks]
theorem marks_succ (k : Int) (n : Nat) : marks k (n + 1) = marks k n ++ [(k + 3 * (n : Int), k + 3 * (n : Int) + 1, k + 3 * (n : Int) + 1 + 1)] := by simp [marks, List.range_succ]
theorem marks_get (k : Int) (n j : Nat) (h : j < n) : (marks k n)[j]? = some (k + 3 * (j : Int), k + 3 * (j : Int) + 1, k + 3 * (j : Int) + 1 + 1) := by
  unfold marks
  rw [List.getElem?_map, List.getElem?_range h]
  rfl

/-- Two rows' records in hand. -/
structure EqH (w : World) (g h : Nat) (j : Nat) (x : Rt) (X : World) : Prop where
  c0 : X.cell? ⟨g, j * 3, none⟩ = some (.int .i64 x.1)
  c1 : X.cell? ⟨g, j * 3 + 1, none⟩ = some (.int .i64 x.2.1)
  c2 : X.cell? ⟨g, j * 3 + 2, none⟩ = some (.int .i64 x.2.2)
  d0 : X.cell? ⟨h, j * 3, none⟩ = some (.int .i64 x.1)
  d1 : X.cell? ⟨h, j * 3 + 1, none⟩ = some (.int .i64 x.2.1)
  d2 : X.cell? ⟨h, j * 3 + 2, none⟩ = some (.int .i64 x.2.2)
  below : Below w.heap.size w X
theorem EqH.next {w : World} {g h j : Nat} {x : Rt} {X Y : World} (H : EqH w g h j x X) (hb : Below X.heap.size X Y) : EqH w g h j x Y := by
  have hg : g < X.heap.size := cell_size (p := ⟨g, j * 3, none⟩) H.c0
  have hh : h < X.heap.size := cell_size (p := ⟨h, j * 3, none⟩) H.d0
  refine ⟨?_, ?_, ?_, ?_, ?_, ?_, H.below.trans (hb.mono H.below.size)⟩
  · rw [hb.cell (p := ⟨g, j * 3, none⟩) hg]; exact H.c0
  · rw [hb.cell (p := ⟨g, j * 3 + 1, none⟩) hg]; exact H.c1
  · rw [hb.cell (p := ⟨g, j * 3 + 2, none⟩) hg]; exact H.c2
  · rw [hb.cell (p := ⟨h, j * 3, none⟩) hh]; exact H.d0
  · rw [hb.cell (p := ⟨h, j * 3 + 1, none⟩) hh]; exact H.d1
  · rw [hb.cell (p := ⟨h, j * 3 + 2, none⟩) hh]; exact H.d2
theorem EqH.all {w : World} {g h j : Nat} {x : Rt} {X : World} (H : EqH w g h j x X) : X.cell? ⟨g, j * 3, none⟩ = some (.int .i64 x.1) ∧ X.cell? ⟨g, j * 3 + 1, none⟩ = some (.int .i64 x.2.1) ∧ X.cell? ⟨g, j * 3 + 2, none⟩ = some (.int .i64 x.2.2) ∧ X.cell? ⟨h, j * 3, none⟩ = some (.int .i64 x.1) ∧ X.cell? ⟨h, j * 3 + 1, none⟩ = some (.int .i64 x.2.1) ∧ X.cell? ⟨h, j * 3 + 2, none⟩ = some (.int .i64 x.2.2) ∧ EqH w g h j x X := ⟨H.c0, H.c1, H.c2, H.d0, H.d1, H.d2, H⟩

end Go.Proofs.Ytpcdmfimjnhejac
namespace Go.Proofs.Ytpcdmfimjnhejac
open Go.RowKit

theorem routeFields : Try.prog.underlying RTI = some (.struct (Try.prog.fieldsOf RTI)) := by kernel_rfl
theorem routeStood : Try.prog.stoodInHeld RTI = false := by kernel_rfl
set_option maxRecDepth 100000 in
theorem route_same (a b c : Int) (w : World) : (Op.equalIn 10000 35 (.agg #[.int .i64 a, .int .i64 b, .int .i64 c]) (.agg #[.int .i64 a, .int .i64 b, .int .i64 c])).run Try.prog w = .ok true w := by
  have u3 := Try.underlying3
  have a3 := Try.isAgg3
  have z3 := Try.sizeOf3
  have ap := Try.isAgg29
  have zp := Try.sizeOf29
  rw [show (10000 : Nat) = 9999 + 1 from rfl, run_equalIn_agg w 9999 35 _ _ routeFields routeStood]
  simp only [Program.fieldsOf, Try.underlying35]
  have hp : (Op.equalIn 9999 29 (.agg #[.int .i64 a, .int .i64 b]) (.agg #[.int .i64 a, .int .i64 b])).run Try.prog w = .ok true w := by
    rw [show (9999 : Nat) = 9998 + 1 from rfl, run_equalIn_agg w 9998 29 _ _ prefFields prefStood]
    simp only [Program.fieldsOf, Try.underlying29]
    go_simp
  go_simp

set_option maxRecDepth 100000 in
set_option maxHeartbeats 1600000 in
theorem sameRoutes_same (v u : Value) (xs : List Rt) (hl : xs.length ≤ 100000000) (w : World) (hv : RowR rtRec w v xs) (hu : RowR rtRec w u xs) :
    Calls Try.prog 10 #[v, u] w fun e w' => e = .returned (.bool true) ∧ Below w.heap.size w w' := by
  obtain ⟨ao, cp, rfl, hf⟩ := hv.form
  obtain ⟨bo, dp, rfl, hh⟩ := hu.form
  clear hv hu
  go_enter Try.func10, Try.ntmps10
  go_wp2_with fail
  go_loopw [5] (fun c wr => ∃ j : Nat, j ≤ xs.length ∧ c = .int .i64 j ∧ Below w.heap.size w wr) (fun c _ => xs.length - (intOf c).toNat)
  case atStart => exact ⟨0, Nat.zero_le _, rfl, Below.refl _ _⟩
  case round =>
    obtain ⟨j, hj, rfl, hb2⟩ := hrel
    by_cases hlt : j < xs.length
    · have hlt' : (j : Int) < (xs.length : Int) := by omega
      obtain ⟨g, rfl, hg, hcell⟩ := hf (by omega)
      obtain ⟨h, rfl, hh2, hcell2⟩ := hh (by omega)
      obtain ⟨c0, c1, c2⟩ := row_three hcell j xs[j] (List.getElem?_eq_getElem hlt)
      obtain ⟨d0, d1, d2⟩ := row_three hcell2 j xs[j] (List.getElem?_eq_getElem hlt)
      generalize xs[j] = x at c0 c1 c2 d0 d1 d2
      rw [← hb2.cell (p := ⟨g, j * 3, none⟩) hg] at c0
      rw [← hb2.cell (p := ⟨g, j * 3 + 1, none⟩) hg] at c1
      rw [← hb2.cell (p := ⟨g, j * 3 + 2, none⟩) hg] at c2
      rw [← hb2.cell (p := ⟨h, j * 3, none⟩) hh2] at d0
      rw [← hb2.cell (p := ⟨h, j * 3 + 1, none⟩) hh2] at d1
      rw [← hb2.cell (p := ⟨h, j * 3 + 2, none⟩) hh2] at d2
      obtain ⟨xa, xn, xt⟩ := x
      have hq := fun X => route_same xa xn xt X
      have HB := Lib.hid hb2
      clear hcell hcell2 hf hh hb2
      go_wp2_with fail
      go_quiet (fail)
      go_wp2_with fail
      go_roundw
      case rel => exact ⟨j + 1, by omega, by go_num, below_drewN HB.out _⟩
      case measure => simp [intOf]; omega
    · have hlt' : ¬ ((j : Int) < (xs.length : Int)) := by omega
      go_wp2_with fail
      go_ret
      exact ⟨rfl, hb2⟩

end Go.Proofs.Ytpcdmfimjnhejac
