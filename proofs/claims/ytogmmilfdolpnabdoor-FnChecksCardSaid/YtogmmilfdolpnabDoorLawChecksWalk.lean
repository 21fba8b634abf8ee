/-
  The law on checked signatures: its walk.
-/
import Derived.Test.YtogmmilfdolpnabDoorLawSignsWalk
import Derived.Test.YtogmmilfdolpnabDoorDrawSigs
namespace Go.Proofs.YtogmmilfdolpnabDoor
open Go.RowKit

set_option maxRecDepth 100000 in
set_option maxHeartbeats 400000 in
theorem lawChecks_big (a : Option Addr) (len cap : Nat) (h : 1048576 < len) (w : World) :
    Calls Tryd.prog 5 #[.slice a len cap] w fun e w' => e = .returned (.bool true) ∧ Below w.heap.size w w' := by
  have hd : decide (1048576 < (len : Int)) = true := decide_eq_true (by omega)
  have HB := Lib.hid (fun w => bigS_any a len cap w)
  rw [hd] at HB
  go_enter Tryd.func5, Tryd.ntmps5
  go_wp2_with fail
  refine (HB.out _).mono ?_
  rintro e w1 ⟨rfl, rfl⟩
  go_wp2
  go_ret
  exact ⟨rfl, Below.refl _ _⟩

/-- A variable of two cells behind what was there. -/
structure CV (w : World) (t : TypeId) (q : Nat) (a b : Value) (X : World) : Prop where
  below : Below w.heap.size w X
  one : VarP q t a b X
theorem CV.next {w : World} {t : TypeId} {q : Nat} {a b : Value} {X Y : World} (h : CV w t q a b X) (hb : Below X.heap.size X Y) : CV w t q a b Y := ⟨h.below.trans (hb.mono h.below.size), h.one.next hb⟩
theorem CV.drew {w : World} {t : TypeId} {q : Nat} {a b : Value} {X : World} (h : CV w t q a b X) : CV w t q a b X.drew := h.next ((Below.refl _ _).drew)
theorem CV.two {w : World} {t : TypeId} {q : Nat} {a b : Value} {X : World} (h : CV w t q a b X) : X.cell? ⟨q, 0, none⟩ = some a ∧ X.cell? ⟨q, 1, none⟩ = some b ∧ CV w t q a b X := ⟨h.one.c0, h.one.c1, h⟩

set_option maxRecDepth 100000 in
set_option maxHeartbeats 4000000 in
theorem lawChecksF (F : SignFns) (a : Option Addr) (len cap : Nat) (w : World) (H : Src a len w) (ht : LaidK w) :
    Calls Tryd.prog 5 #[.slice a len cap] w fun e w' => e = .returned (.bool true) ∧ Below w.heap.size w w' := by
  have hd : decide (1048576 < (len : Int)) = false := decide_eq_false (by have := H.few; omega)
  have HB := Lib.hid (fun w => bigS_any a len cap w)
  rw [hd] at HB
  have HS := Lib.hid H
  have HT := Lib.hid ht
  clear H ht hd
  go_enter Tryd.func5, Tryd.ntmps5
  go_wp2_with fail
  refine (HB.out _).mono ?_
  rintro e w1 ⟨rfl, rfl⟩
  go_wp2_with fail
  refine (drawCheckText_any a len cap _ HS.out).mono ?_
  rintro e w2 ⟨p, m, E, S, ⟨hp, hm, hE, hS⟩, rfl, hb2⟩
  have V2 : Hid (CV w1 34 w2.heap.size (.int .i64 E) (.int .i64 S) (w2.alloc (.cells #[.int .i64 E, .int .i64 S] 34))) := ⟨hb2.alloc hb2.size _, VarP.new _ _ _ _⟩
  have HS2 := Lib.hid (HS.out.below V2.out.below)
  clear hb2 HB hp hE hS
  go_wp2_with fail
  refine (drawReadSig_any a len cap _ HS2.out).mono ?_
  rintro e w3 ⟨t, htl, rfl, hb3⟩
  have V3 := Lib.hid (V2.out.next hb3)
  clear hb3 V2 HS2
  generalize w2.heap.size = q at *
  obtain ⟨E2, S2, b, t2, o, k1, k2, k3, hbt⟩ := read_both F t
  have K1 := Lib.hid k1
  have K2 := Lib.hid k2
  have K3 := Lib.hid k3
  clear k1 k2 k3
  go_wp2_with fail
  refine (K1.out _).mono ?_
  rintro e w4 ⟨rfl, hb4⟩
  have hV4 := V3.out.next hb4
  have V4 := Lib.hid (hV4.next ((Below.refl _ _).alloc (Nat.le_refl _) (.cells #[.int .i64 E2, .int .i64 S2] 34)))
  have W4 := Lib.hid (VarP.new w4 34 (.int .i64 E2) (.int .i64 S2))
  clear hb4 V3 hV4
  go_wp2_with fail
  refine (K2.out _).mono ?_
  rintro e w5 ⟨rfl, hb5⟩
  have ha5 : Below w5.heap.size w5 (w5.alloc (.cells #[.int .i64 E2, .int .i64 S2] 34)) := (Below.refl _ _).alloc (Nat.le_refl _) _
  have V5 := Lib.hid ((V4.out.next hb5).next ha5)
  have hW5 := (W4.out.next hb5).next ha5
  have c0 := hW5.c0
  have c1 := hW5.c1
  clear hb5 V4 W4 hW5 ha5
  go_wp2_with fail
  refine (K3.out _).mono ?_
  rintro e w6 ⟨rfl, hb6⟩
  have V6 := Lib.hid (V5.out.next hb6)
  have HS6 := Lib.hid (HS.out.below V6.out.below)
  clear hb6 V5 c0 c1
  go_wp2_with fail
  refine (drawChallenge_any a len cap _ HS6.out).mono ?_
  rintro e w7 ⟨x, y, u, hx, hy, hul, rfl, hb7⟩
  have V7 := Lib.hid (V6.out.next hb7)
  clear hb7 V6 HS6 hx hy
  obtain ⟨cb, k4, k5⟩ := check_both F p m E S (by omega)
  obtain ⟨cc, k6, k7⟩ := chal_both F x y u (by omega)
  have k8 := F.check_group 0 m E S (inGroup_low 0 _ (by omega))
  have K4 : Hid (∀ X, (X.cell? ⟨q, 0, none⟩ = some (.int .i64 E) ∧ X.cell? ⟨q, 1, none⟩ = some (.int .i64 S) ∧ CV w1 34 q (.int .i64 E) (.int .i64 S) X) → Calls Tryd.prog 23 #[.int .i64 p, .string m, .agg #[.int .i64 E, .int .i64 S]] X fun e Y => e = .returned (.bool cb) ∧ (Y.cell? ⟨q, 0, none⟩ = some (.int .i64 E) ∧ Y.cell? ⟨q, 1, none⟩ = some (.int .i64 S) ∧ CV w1 34 q (.int .i64 E) (.int .i64 S) Y)) := fun X hX => by
    refine (k4 X (HT.out.stays hX.2.2.below (Nat.le_refl _))).mono ?_
    rintro e Y ⟨rfl, hb⟩
    exact ⟨rfl, (hX.2.2.next hb).two⟩
  have K5 : Hid (∀ X, (X.cell? ⟨q, 0, none⟩ = some (.int .i64 E) ∧ X.cell? ⟨q, 1, none⟩ = some (.int .i64 S) ∧ CV w1 34 q (.int .i64 E) (.int .i64 S) X) → Calls Tryd.prog 24 #[.int .i64 p, .string m, .agg #[.int .i64 E, .int .i64 S]] X fun e Y => e = .returned (.bool cb) ∧ (Y.cell? ⟨q, 0, none⟩ = some (.int .i64 E) ∧ Y.cell? ⟨q, 1, none⟩ = some (.int .i64 S) ∧ CV w1 34 q (.int .i64 E) (.int .i64 S) Y)) := fun X hX => by
    refine (k5 X).mono ?_
    rintro e Y ⟨rfl, hb⟩
    exact ⟨rfl, (hX.2.2.next hb).two⟩
  have K6 : Hid (∀ X, (X.cell? ⟨q, 0, none⟩ = some (.int .i64 E) ∧ X.cell? ⟨q, 1, none⟩ = some (.int .i64 S) ∧ CV w1 34 q (.int .i64 E) (.int .i64 S) X) → Calls Tryd.prog 29 #[.int .i64 x, .int .i64 y, .string u] X fun e Y => e = .returned (.int .i64 cc) ∧ (Y.cell? ⟨q, 0, none⟩ = some (.int .i64 E) ∧ Y.cell? ⟨q, 1, none⟩ = some (.int .i64 S) ∧ CV w1 34 q (.int .i64 E) (.int .i64 S) Y)) := fun X hX => by
    refine (k6 X (HT.out.stays hX.2.2.below (Nat.le_refl _))).mono ?_
    rintro e Y ⟨rfl, hb⟩
    exact ⟨rfl, (hX.2.2.next hb).two⟩
  have K7 : Hid (∀ X, (X.cell? ⟨q, 0, none⟩ = some (.int .i64 E) ∧ X.cell? ⟨q, 1, none⟩ = some (.int .i64 S) ∧ CV w1 34 q (.int .i64 E) (.int .i64 S) X) → Calls Tryd.prog 30 #[.int .i64 x, .int .i64 y, .string u] X fun e Y => e = .returned (.int .i64 cc) ∧ (Y.cell? ⟨q, 0, none⟩ = some (.int .i64 E) ∧ Y.cell? ⟨q, 1, none⟩ = some (.int .i64 S) ∧ CV w1 34 q (.int .i64 E) (.int .i64 S) Y)) := fun X hX => by
    refine (k7 X).mono ?_
    rintro e Y ⟨rfl, hb⟩
    exact ⟨rfl, (hX.2.2.next hb).two⟩
  have K8 : Hid (∀ X, (X.cell? ⟨q, 0, none⟩ = some (.int .i64 E) ∧ X.cell? ⟨q, 1, none⟩ = some (.int .i64 S) ∧ CV w1 34 q (.int .i64 E) (.int .i64 S) X) → Calls Tryd.prog 23 #[.int .i64 0, .string m, .agg #[.int .i64 E, .int .i64 S]] X fun e Y => e = .returned (.bool false) ∧ (Y.cell? ⟨q, 0, none⟩ = some (.int .i64 E) ∧ Y.cell? ⟨q, 1, none⟩ = some (.int .i64 S) ∧ CV w1 34 q (.int .i64 E) (.int .i64 S) Y)) := fun X hX => by
    refine (k8 X (HT.out.stays hX.2.2.below (Nat.le_refl _))).mono ?_
    rintro e Y ⟨rfl, hb⟩
    exact ⟨rfl, (hX.2.2.next hb).two⟩
  clear k4 k5 k6 k7 k8 K1 K2 K3 HS
  cases b
  · clear hbt
    go_wp2_with fail
    first | (go_region_held (fun X => X.cell? ⟨q, 0, none⟩ = some (.int .i64 E) ∧ X.cell? ⟨q, 1, none⟩ = some (.int .i64 S) ∧ CV w1 34 q (.int .i64 E) (.int .i64 S) X) (first | (with_reducible assumption) | (with_reducible exact (CV.drew V7.out).two)) (first | (go_at_call_of 23 (Value.int IntKind.i64 p); refine (K4.out _ (by assumption)).mono ?_; rintro e v1 ⟨rfl, hS1⟩) | (go_at_call 24; refine (K5.out _ (by assumption)).mono ?_; rintro e v1 ⟨rfl, hS1⟩) | (go_at_call 29; refine (K6.out _ (by assumption)).mono ?_; rintro e v1 ⟨rfl, hS1⟩) | (go_at_call 30; refine (K7.out _ (by assumption)).mono ?_; rintro e v1 ⟨rfl, hS1⟩) | (go_at_call_of 23 (Value.int IntKind.i64 0); refine (K8.out _ (by assumption)).mono ?_; rintro e v1 ⟨rfl, hS1⟩))) | fail
    all_goals
      go_wp2_with fail
      go_ret
      exact ⟨rfl, hS1.2.2.below⟩
  · have hbt2 := hbt rfl
    subst hbt2
    clear hbt
    go_wp2_with fail
    go_region_held3 (fun X => X.cell? ⟨q, 0, none⟩ = some (.int .i64 E) ∧ X.cell? ⟨q, 1, none⟩ = some (.int .i64 S) ∧ CV w1 34 q (.int .i64 E) (.int .i64 S) X) (first | (with_reducible assumption) | (with_reducible exact (CV.drew V7.out).two)) (first | (go_at_call_of 23 (Value.int IntKind.i64 p); refine (K4.out _ (by assumption)).mono ?_; rintro e v1 ⟨rfl, hS1⟩) | (go_at_call 24; refine (K5.out _ (by assumption)).mono ?_; rintro e v1 ⟨rfl, hS1⟩) | (go_at_call 29; refine (K6.out _ (by assumption)).mono ?_; rintro e v1 ⟨rfl, hS1⟩) | (go_at_call 30; refine (K7.out _ (by assumption)).mono ?_; rintro e v1 ⟨rfl, hS1⟩) | (go_at_call_of 23 (Value.int IntKind.i64 0); refine (K8.out _ (by assumption)).mono ?_; rintro e v1 ⟨rfl, hS1⟩))
    all_goals
      go_wp2_with fail
      go_ret
      exact ⟨rfl, hS1.2.2.below⟩

end Go.Proofs.YtogmmilfdolpnabDoor
