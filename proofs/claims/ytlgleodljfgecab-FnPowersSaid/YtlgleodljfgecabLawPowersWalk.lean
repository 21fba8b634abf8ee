/-
  The walk of the law on powers.
-/
import Derived.Test.YtlgleodljfgecabPlainPowers
import Derived.Test.YtlgleodljfgecabNumText
import Derived.Test.YtlgleodljfgecabGroupPowSpec
import Derived.Test.YtlgleodljfgecabDrawPlaces
namespace Go.Proofs.Ytlgleodljfgecab
open Go.RowKit

theorem big_any (a : Option Addr) (len cap : Nat) (w : World) :
    Calls Try.prog 4 #[.slice a len cap] w fun e w' => e = .returned (.bool (decide (1048576 < (len : Int)))) ∧ w' = w := by
  go_enter Try.func4, Try.ntmps4
  go_wp2_with fail
  go_ret
  exact ⟨rfl, rfl⟩

theorem lawPowers_big (a : Option Addr) (len cap : Nat) (h : 1048576 < len) (w : World) :
    Calls Try.prog 3 #[.slice a len cap] w fun e w' => e = .returned (.bool true) ∧ Below w.heap.size w w' := by
  have hd : decide (1048576 < (len : Int)) = true := decide_eq_true (by omega)
  have HB := Lib.hid (fun w => big_any a len cap w)
  rw [hd] at HB
  go_enter Try.func3, Try.ntmps3
  go_wp2_with fail
  refine (HB.out _).mono ?_
  rintro e w1 ⟨rfl, rfl⟩
  go_wp2
  go_ret
  exact ⟨rfl, Below.refl _ _⟩

/-- Twelve numbers lie in block g; what was there ahead of w is as it was. -/
structure Held (w : World) (g : Nat) (zs : List Int) (X : World) : Prop where
  below : Below w.heap.size w X
  lt : g < X.heap.size
  cells : ∀ j, j < 12 → X.cell? ⟨g, j, none⟩ = some (.int .i64 (zs.getD j 0))
theorem Held.next {w : World} {g : Nat} {zs : List Int} {X Y : World} (h : Held w g zs X) (hb : Below X.heap.size X Y) : Held w g zs Y :=
  ⟨h.below.trans (hb.mono h.below.size), Nat.lt_of_lt_of_le h.lt hb.size, fun j hj => by rw [hb.cell (p := ⟨g, j, none⟩) h.lt]; exact h.cells j hj⟩

theorem Held.drewN {w : World} {g : Nat} {zs : List Int} {X : World} (h : Held w g zs X) (n : Nat) : Held w g zs (X.drewN n) := h.next (below_drewN (Below.refl _ X) n)
theorem Held.drew {w : World} {g : Nat} {zs : List Int} {X : World} (h : Held w g zs X) : Held w g zs X.drew := h.next ((Below.refl _ X).drew)
theorem two_drew {w : World} {g i j : Nat} {u v : Value} {zs : List Int} {X : World} (h : X.cell? ⟨g, i, none⟩ = some u ∧ X.cell? ⟨g, j, none⟩ = some v ∧ Held w g zs X) : X.drew.cell? ⟨g, i, none⟩ = some u ∧ X.drew.cell? ⟨g, j, none⟩ = some v ∧ Held w g zs X.drew := ⟨h.1, h.2.1, h.2.2.drew⟩
/-- A call that leaves what was there as it was keeps two cells and the rest. -/
theorem keep_two {P : Program} {f : FuncId} {args : Array Value} {r : Ending} {w : World} {g : Nat} {zs : List Int} (hc : ∀ X, Calls P f args X fun e X' => e = r ∧ Below X.heap.size X X') (i j : Nat) (u v : Value) (X : World)
    (h : X.cell? ⟨g, i, none⟩ = some u ∧ X.cell? ⟨g, j, none⟩ = some v ∧ Held w g zs X) :
    Calls P f args X fun e X' => e = r ∧ X'.cell? ⟨g, i, none⟩ = some u ∧ X'.cell? ⟨g, j, none⟩ = some v ∧ Held w g zs X' :=
  (hc X).mono fun e X' ⟨he, hb⟩ => ⟨he, by rw [hb.cell (p := ⟨g, i, none⟩) h.2.2.lt]; exact h.1, by rw [hb.cell (p := ⟨g, j, none⟩) h.2.2.lt]; exact h.2.1, h.2.2.next hb⟩

set_option maxRecDepth 100000 in
set_option maxHeartbeats 1600000 in
theorem lawPowers (a : Option Addr) (len cap : Nat) (w : World) (H : Src a len w) :
    Calls Try.prog 3 #[.slice a len cap] w fun e w' => e = .returned (.bool true) ∧ Below w.heap.size w w' := by
  have hd : decide (1048576 < (len : Int)) = false := decide_eq_false (by have := H.few; omega)
  have HB := Lib.hid (fun w => big_any a len cap w)
  rw [hd] at HB
  have HS := Lib.hid H
  clear H hd
  go_enter Try.func3, Try.ntmps3
  go_wp2_with fail
  refine (HB.out _).mono ?_
  rintro e w1 ⟨rfl, rfl⟩
  go_wp2_with fail
  refine (drawPlaces_any a len cap _ HS.out).mono ?_
  rintro e w3 ⟨g, cp, zs, hz, hzs, rfl, hg, hcell, hb3⟩
  have hin : ∀ j, j < 12 → 0 ≤ zs.getD j 0 ∧ zs.getD j 0 ≤ 9999 := fun j hj => hzs _ (by rw [List.getD_eq_getElem?_getD, List.getElem?_eq_getElem (by omega)]; exact List.getElem_mem _)
  have HH := Lib.hid (Held.mk hb3 hg hcell : Held w1 g zs w3)
  have c0 := hcell 0 (by omega)
  have c1 := hcell 1 (by omega)
  have c2 := hcell 2 (by omega)
  obtain ⟨x0, hx0, l0⟩ : ∃ x : Nat, zs.getD 0 0 = (x : Int) ∧ x ≤ 9999 := ⟨(zs.getD 0 0).toNat, by have := hin 0 (by omega); omega, by have := hin 0 (by omega); omega⟩
  obtain ⟨x1, hx1, l1⟩ : ∃ x : Nat, zs.getD 1 0 = (x : Int) ∧ x ≤ 9999 := ⟨(zs.getD 1 0).toNat, by have := hin 1 (by omega); omega, by have := hin 1 (by omega); omega⟩
  obtain ⟨x2, hx2, l2⟩ : ∃ x : Nat, zs.getD 2 0 = (x : Int) ∧ x ≤ 9999 := ⟨(zs.getD 2 0).toNat, by have := hin 2 (by omega); omega, by have := hin 2 (by omega); omega⟩
  obtain ⟨x3, hx3, l3⟩ : ∃ x : Nat, zs.getD 3 0 = (x : Int) ∧ x ≤ 9999 := ⟨(zs.getD 3 0).toNat, by have := hin 3 (by omega); omega, by have := hin 3 (by omega); omega⟩
  obtain ⟨x4, hx4, l4⟩ : ∃ x : Nat, zs.getD 4 0 = (x : Int) ∧ x ≤ 9999 := ⟨(zs.getD 4 0).toNat, by have := hin 4 (by omega); omega, by have := hin 4 (by omega); omega⟩
  obtain ⟨x5, hx5, l5⟩ : ∃ x : Nat, zs.getD 5 0 = (x : Int) ∧ x ≤ 9999 := ⟨(zs.getD 5 0).toNat, by have := hin 5 (by omega); omega, by have := hin 5 (by omega); omega⟩
  obtain ⟨x6, hx6, l6⟩ : ∃ x : Nat, zs.getD 6 0 = (x : Int) ∧ x ≤ 9999 := ⟨(zs.getD 6 0).toNat, by have := hin 6 (by omega); omega, by have := hin 6 (by omega); omega⟩
  obtain ⟨x7, hx7, l7⟩ : ∃ x : Nat, zs.getD 7 0 = (x : Int) ∧ x ≤ 9999 := ⟨(zs.getD 7 0).toNat, by have := hin 7 (by omega); omega, by have := hin 7 (by omega); omega⟩
  rw [hx0] at c0
  rw [hx1] at c1
  rw [hx2] at c2
  have X0 := Lib.hid hx0
  have X1 := Lib.hid hx1
  have X3 := Lib.hid hx3
  have X4 := Lib.hid hx4
  have X5 := Lib.hid hx5
  have X6 := Lib.hid hx6
  have X7 := Lib.hid hx7
  clear hx0 hx1 hx2 hx3 hx4 hx5 hx6 hx7 hin hcell hb3 hzs hz hg HB HS
  obtain ⟨m1, hm1, lm1, M1⟩ : ∃ m : Nat, (x0 : Int) * (x1 : Int) = (m : Int) ∧ m ≤ 99980001 ∧ Hid (m = x0 * x1) := ⟨x0 * x1, by rw [Int.natCast_mul], by have := Nat.mul_le_mul l0 l1; omega, rfl⟩
  obtain ⟨m2, hm2, lm2, M2⟩ : ∃ m : Nat, (x3 : Int) * (x4 : Int) = (m : Int) ∧ m ≤ 99980001 ∧ Hid (m = x3 * x4) := ⟨x3 * x4, by rw [Int.natCast_mul], by have := Nat.mul_le_mul l3 l4; omega, rfl⟩
  obtain ⟨A, hA, lA⟩ : ∃ A : Nat, (m1 : Int) + (x2 : Int) = (A : Int) ∧ A ≤ 99990000 := ⟨m1 + x2, by omega, by omega⟩
  obtain ⟨B, hB, lB⟩ : ∃ B : Nat, (m2 : Int) + (x5 : Int) = (B : Int) ∧ B ≤ 99990000 := ⟨m2 + x5, by omega, by omega⟩
  have hw1 : IntKind.i64.wrap (m1 : Int) = (m1 : Int) := by rw [IntKind.wrap_i64]; omega
  have hw2 : IntKind.i64.wrap (A : Int) = (A : Int) := by rw [IntKind.wrap_i64]; omega
  have hw3 : IntKind.i64.wrap (m2 : Int) = (m2 : Int) := by rw [IntKind.wrap_i64]; omega
  have hw4 : IntKind.i64.wrap (B : Int) = (B : Int) := by rw [IntKind.wrap_i64]; omega
  go_wp2_with fail
  go_quiet (fail)
  have HH1 := Lib.hid (HH.out.drewN nq)
  generalize w3.drewN nq = W1 at HH1
  clear HH c0 c1 c2
  have c3 : W1.cell? ⟨g, 3, none⟩ = some (.int .i64 x3) := by rw [HH1.out.cells 3 (by omega), X3.out]
  have c4 : W1.cell? ⟨g, 4, none⟩ = some (.int .i64 x4) := by rw [HH1.out.cells 4 (by omega), X4.out]
  have c5 : W1.cell? ⟨g, 5, none⟩ = some (.int .i64 x5) := by rw [HH1.out.cells 5 (by omega), X5.out]
  go_wp2_with fail
  go_quiet (fail)
  have HH2 := Lib.hid (HH1.out.drewN nq)
  generalize W1.drewN nq = W2 at HH2
  clear HH1 c3 c4 c5 X3 X4 X5 hA hB hm2 hw2 hw3 hw4
  obtain ⟨pw, PW⟩ : ∃ pw : Int → Int → Nat, Hid (pw = powI) := ⟨powI, rfl⟩
  obtain ⟨mu, MU⟩ : ∃ mu : Int → Int → Nat, Hid (mu = mulP) := ⟨mulP, rfl⟩
  have HPW : Hid (∀ (b e : Int) X, Calls Try.prog 6 #[.int .i64 b, .int .i64 e] X fun r X' => r = .returned (.int .i64 (pw b e : Nat)) ∧ Below X.heap.size X X') := Lib.hid (by rw [PW.out]; exact implPowP_any)
  have HSW : Hid (∀ (b e : Int) X, Calls Try.prog 8 #[.int .i64 b, .int .i64 e] X fun r X' => r = .returned (.int .i64 (pw b e : Nat)) ∧ Below X.heap.size X X') := Lib.hid (by rw [PW.out]; exact fun b e X => (specPowP_any b e X).mono fun r X' ⟨h1, h2⟩ => ⟨h1, by rw [h2]; exact Below.refl _ _⟩)
  have HMU : Hid (∀ (b e : Int) X, Calls Try.prog 7 #[.int .i64 b, .int .i64 e] X fun r X' => r = .returned (.int .i64 (mu b e : Nat)) ∧ Below X.heap.size X X') := Lib.hid (by rw [MU.out]; exact implMulP_any)
  have HSU : Hid (∀ (b e : Int) X, Calls Try.prog 12 #[.int .i64 b, .int .i64 e] X fun r X' => r = .returned (.int .i64 (mu b e : Nat)) ∧ Below X.heap.size X X') := Lib.hid (by rw [MU.out]; exact fun b e X => (specMulP_any b e X).mono fun r X' ⟨h1, h2⟩ => ⟨h1, by rw [h2]; exact Below.refl _ _⟩)
  obtain ⟨x, hx, XX⟩ : ∃ x : Nat, pw 4 A = x ∧ Hid (x = powI 4 A) := ⟨_, rfl, by rw [PW.out]; rfl⟩
  obtain ⟨y, hy, YY⟩ : ∃ y : Nat, pw 4 B = y ∧ Hid (y = powI 4 B) := ⟨_, rfl, by rw [PW.out]; rfl⟩
  go_wp2_with fail
  refine (HPW.out _ _ _).mono ?_
  rintro e w4 ⟨rfl, hb4⟩
  rw [hx]
  have HH4 := Lib.hid (HH2.out.next hb4)
  clear hb4 HH2
  go_wp2_with fail
  refine (HPW.out _ _ _).mono ?_
  rintro e w5 ⟨rfl, hb5⟩
  rw [hy]
  have HH5 := Lib.hid (HH4.out.next hb5)
  clear hb5 HH4
  have f1 : mu (x : Nat) (y : Nat) = pw 4 ((A : Int) + (B : Int)) := by rw [MU.out, PW.out, XX.out, YY.out]; exact pow_sum A B (by omega)
  have f3 : pw (pw 4 (x0 : Int) : Nat) (x1 : Int) = pw 4 (m1 : Int) := by rw [PW.out, M1.out]; exact pow_prod x0 x1 (by omega) (by omega) (by have := M1.out; omega)
  have hwab : IntKind.i64.wrap ((A : Int) + (B : Int)) = (A : Int) + (B : Int) := by rw [IntKind.wrap_i64]; omega
  have c0 : w5.cell? ⟨g, 0, none⟩ = some (.int .i64 x0) := by rw [HH5.out.cells 0 (by omega), X0.out]
  have c1 : w5.cell? ⟨g, 1, none⟩ = some (.int .i64 x1) := by rw [HH5.out.cells 1 (by omega), X1.out]
  have KP := Lib.hid (fun (b e : Int) => keep_two (w := w1) (g := g) (zs := zs) (HPW.out b e) 0 1 (.int .i64 x0) (.int .i64 x1))
  have KS := Lib.hid (fun (b e : Int) => keep_two (w := w1) (g := g) (zs := zs) (HSW.out b e) 0 1 (.int .i64 x0) (.int .i64 x1))
  have KM := Lib.hid (fun (b e : Int) => keep_two (w := w1) (g := g) (zs := zs) (HMU.out b e) 0 1 (.int .i64 x0) (.int .i64 x1))
  go_wp2_with fail
  go_cut [73] (fun v wx => v = .bool false ∧ Hid (Held w1 g zs wx))
  case first =>
    go_region_held3 (fun X => X.cell? ⟨g, 0, none⟩ = some (.int .i64 x0) ∧ X.cell? ⟨g, 1, none⟩ = some (.int .i64 x1) ∧ Held w1 g zs X) (first | assumption | exact two_drew ⟨c0, c1, HH5.out⟩ | (exact ⟨by assumption, by assumption, by assumption⟩)) (first | (go_at_call 6; refine (KP.out _ _ _ (by assumption)).mono ?_; rintro e v1 ⟨rfl, k1, k2, k3⟩) | (go_at_call 8; refine (KS.out _ _ _ (by assumption)).mono ?_; rintro e v1 ⟨rfl, k1, k2, k3⟩) | (go_at_call 7; refine (KM.out _ _ _ (by assumption)).mono ?_; rintro e v1 ⟨rfl, k1, k2, k3⟩))
    all_goals
      go_wp2_with fail
      go_meet
      exact ⟨rfl, Lib.hid (by assumption)⟩
  case rest =>
    obtain ⟨rfl, HHc⟩ := hcut
    clear HH5 c0 c1 KP KS KM f1 f3 hwab hw1 hm1 hx hy
    have lx : x < 2147483579 := by rw [XX.out]; exact powI_lt _ _
    have HN := Lib.hid (implNumberText_yes x (by omega))
    have HR := Lib.hid (implReadNumber_yes ⟨(four x).toArray⟩ rfl)
    rw [show fourBack (⟨(four x).toArray⟩ : ByteArray).data.toList = x from fourBack_four x (by omega)] at HR
    go_wp2_with fail
    refine (HN.out _).mono ?_
    rintro e w6 ⟨rfl, hb6⟩
    have HH6 := Lib.hid (HHc.out.next hb6)
    clear hb6 HHc
    go_wp2_with fail
    refine (HR.out _).mono ?_
    rintro e w7 ⟨rfl, hb7⟩
    have HH7 := Lib.hid (HH6.out.next hb7)
    clear hb7 HH6 HN HR
    have c6 : w7.cell? ⟨g, 6, none⟩ = some (.int .i64 x6) := by rw [HH7.out.cells 6 (by omega), X6.out]
    have c7 : w7.cell? ⟨g, 7, none⟩ = some (.int .i64 x7) := by rw [HH7.out.cells 7 (by omega), X7.out]
    have hw6 : IntKind.i64.wrap ((x6 : Int) * 7919) = (x6 : Int) * 7919 := by rw [IntKind.wrap_i64]; omega
    have hw7 : IntKind.i64.wrap ((x7 : Int) * 6007) = (x7 : Int) * 6007 := by rw [IntKind.wrap_i64]; omega
    have KM := Lib.hid (fun (b e : Int) => keep_two (w := w1) (g := g) (zs := zs) (HMU.out b e) 6 7 (.int .i64 x6) (.int .i64 x7))
    have KS := Lib.hid (fun (b e : Int) => keep_two (w := w1) (g := g) (zs := zs) (HSU.out b e) 6 7 (.int .i64 x6) (.int .i64 x7))
    have KP := Lib.hid (fun (b e : Int) => keep_two (w := w1) (g := g) (zs := zs) (HPW.out b e) 6 7 (.int .i64 x6) (.int .i64 x7))
    obtain ⟨M, hM, lM, HM⟩ : ∃ M : Nat, mu ((x6 : Int) * 7919) ((x7 : Int) * 6007) = M ∧ M < 2147483579 ∧ Hid (M = mulP ((x6 : Int) * 7919) ((x7 : Int) * 6007)) := ⟨_, rfl, by rw [MU.out]; exact mulP_lt _ _, by rw [MU.out]; rfl⟩
    go_wp2_with fail
    go_cut [10] (fun v wx => v = .int .i64 M ∧ Hid (Held w1 g zs wx))
    case first =>
      go_region_held3 (fun X => X.cell? ⟨g, 6, none⟩ = some (.int .i64 x6) ∧ X.cell? ⟨g, 7, none⟩ = some (.int .i64 x7) ∧ Held w1 g zs X) (first | assumption | exact two_drew ⟨c6, c7, HH7.out⟩ | (exact ⟨by assumption, by assumption, by assumption⟩)) (first | (go_at_call 7; refine (KM.out _ _ _ (by assumption)).mono ?_; rintro e v1 ⟨rfl, k1, k2, k3⟩))
      all_goals
        go_wp2_with fail
        go_meet
        exact ⟨rfl, Lib.hid (by assumption)⟩
    case rest =>
      obtain ⟨rfl, HHd⟩ := hcut
      clear HH7 c6 c7
      have c6 : wc.cell? ⟨g, 6, none⟩ = some (.int .i64 x6) := by rw [HHd.out.cells 6 (by omega), X6.out]
      have c7 : wc.cell? ⟨g, 7, none⟩ = some (.int .i64 x7) := by rw [HHd.out.cells 7 (by omega), X7.out]
      have fo : pw 4 1073741789 = 1 := by rw [PW.out]; exact pow_order
      have f5 : pw 5 (-1) = 0 := by rw [PW.out]; exact pow_below
      obtain ⟨K, fK, fK2⟩ : ∃ K : Nat, mu (-1) (M : Int) = K ∧ ((2147483579 : Int) - (M : Int)).tmod 2147483579 = (K : Int) := by
        refine ⟨_, rfl, ?_⟩
        rw [MU.out, mul_minus M lM, Int.tmod_eq_emod_of_nonneg (by omega)]
      have hwM : IntKind.i64.wrap ((2147483579 : Int) - (M : Int)) = (2147483579 : Int) - (M : Int) := by rw [IntKind.wrap_i64]; omega
      have hAo : (A : Int).tmod 1073741789 = (A : Int) := by rw [Int.tmod_eq_emod_of_nonneg (by omega)]; omega
      by_cases hA0 : A = 0
      · subst hA0
        go_wp2_with fail
        first | (go_region_held (fun X => X.cell? ⟨g, 6, none⟩ = some (.int .i64 x6) ∧ X.cell? ⟨g, 7, none⟩ = some (.int .i64 x7) ∧ Held w1 g zs X) (first | assumption | exact two_drew ⟨c6, c7, HHd.out⟩ | (exact ⟨by assumption, by assumption, by assumption⟩)) (first | (go_at_call 6; refine (KP.out _ _ _ (by assumption)).mono ?_; rintro e v1 ⟨rfl, k1, k2, k3⟩) | (go_at_call 12; refine (KS.out _ _ _ (by assumption)).mono ?_; rintro e v1 ⟨rfl, k1, k2, k3⟩) | (go_at_call 7; refine (KM.out _ _ _ (by assumption)).mono ?_; rintro e v1 ⟨rfl, k1, k2, k3⟩))) | fail
        all_goals
          go_wp2
          go_ret
          exact ⟨rfl, Held.below (by assumption)⟩
      · have hz : ((A : Int) == 0) = false := beq_eq_false_iff_ne.2 (by omega)
        have HG : ∀ X, Calls Try.prog 11 #[.int .i64 x] X fun r X' => r = .returned (.bool true) ∧ Below X.heap.size X X' := by
          intro X
          have h := implInGroup_any (x : Int) X
          rw [show inGroup (x : Int) = true by rw [XX.out]; exact pow_in A hA0 (by omega)] at h
          exact h
        have KG := Lib.hid (keep_two (w := w1) (g := g) (zs := zs) HG 6 7 (.int .i64 x6) (.int .i64 x7))
        clear hA0 HG
        go_wp2_with fail
        go_region_held3 (fun X => X.cell? ⟨g, 6, none⟩ = some (.int .i64 x6) ∧ X.cell? ⟨g, 7, none⟩ = some (.int .i64 x7) ∧ Held w1 g zs X) (first | assumption | exact two_drew ⟨c6, c7, HHd.out⟩ | (exact ⟨by assumption, by assumption, by assumption⟩)) (first | (go_at_call 6; refine (KP.out _ _ _ (by assumption)).mono ?_; rintro e v1 ⟨rfl, k1, k2, k3⟩) | (go_at_call 12; refine (KS.out _ _ _ (by assumption)).mono ?_; rintro e v1 ⟨rfl, k1, k2, k3⟩) | (go_at_call 7; refine (KM.out _ _ _ (by assumption)).mono ?_; rintro e v1 ⟨rfl, k1, k2, k3⟩) | (go_at_call 11; refine (KG.out _ (by assumption)).mono ?_; rintro e v1 ⟨rfl, k1, k2, k3⟩))
        all_goals
          go_wp2
          go_ret
          exact ⟨rfl, Held.below (by assumption)⟩

end Go.Proofs.Ytlgleodljfgecab
