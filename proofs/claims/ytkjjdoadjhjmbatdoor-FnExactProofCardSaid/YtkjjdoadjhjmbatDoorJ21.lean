/-
  The given signatures: signed, checked, as bytes.
-/
import Derived.Test.YtkjjdoadjhjmbatDoorJ20
import Derived.Deep.RegionHeld3
import Derived.BigQuiet
import Derived.Deep.QuietTactic
namespace Go.Proofs.YtkjjdoadjhjmbatDoor
open Go.RowKit

theorem powP_few (b e : Nat) : powP b e < 2147483579 := powP_lt b e
/-- A signature as one value. -/
def sigV (e s : Int) : Value := .agg #[.int .i64 e, .int .i64 s]

set_option maxRecDepth 100000 in
set_option maxHeartbeats 800000 in
theorem specSignText_yes (secret : Nat) (m : ByteArray) (h1 : 1 ≤ secret) (h2 : secret ≤ 1073741788) (hm : m.size ≤ 300000000) (w : World) :
    Calls Tryd.prog 33 #[.int .i64 secret, .string m] w fun e w' => e = .returned (.tuple #[.agg #[.int .i64 (signE secret m : Nat), .int .i64 (signS secret m : Nat)], .bool true]) ∧ Below w.heap.size w w' := by
  have H0 := Lib.hid (inRange_yes (secret : Int) 1 1073741788 (by omega) (by omega))
  have k1 := specNumberText_yes secret (by omega)
  have e1 : (⟨(four secret).toArray⟩ : ByteArray) = numB secret := rfl
  rw [e1] at k1
  have z1 := numB_size secret
  have k2 := specSecretOf_any (numB secret ++ m) (by rw [ByteArray.size_append, z1]; omega)
  have hK : secretP (numB secret ++ m) = keyOfP secret m := rfl
  rw [hK] at k2
  have hk := secretP_in (numB secret ++ m)
  rw [hK] at hk
  have k3 := specPowP_any 4 (keyOfP secret m : Nat)
  rw [powI_pow (keyOfP secret m) (by omega)] at k3
  have k4 := specPublicOf_yes secret h1 h2
  have hr := powP_few 4 (keyOfP secret m)
  have hp : publicP secret < 2147483579 := powP_few 4 secret
  have k5 := specChallenge_yes (powP 4 (keyOfP secret m)) (publicP secret) m (by omega) (by omega) (by omega)
  have hE : chalP (powP 4 (keyOfP secret m)) (publicP secret) m = signE secret m := rfl
  rw [hE] at k5
  have he := signE_lt secret m
  have hS : signS secret m = (keyOfP secret m + signE secret m * secret % 1073741789) % 1073741789 := rfl
  obtain ⟨nb, NB⟩ : ∃ n, Hid (n = numB secret) := ⟨_, rfl⟩
  obtain ⟨k, K⟩ : ∃ n, Hid (n = keyOfP secret m) := ⟨_, rfl⟩
  rw [← NB.out] at k1 k2 z1
  rw [← K.out] at k2 k3 k5 hk hr hS
  obtain ⟨r, R⟩ : ∃ n, Hid (n = powP 4 k) := ⟨_, rfl⟩
  rw [← R.out] at k3 k5 hr
  obtain ⟨p, P⟩ : ∃ n, Hid (n = publicP secret) := ⟨_, rfl⟩
  rw [← P.out] at k4 k5 hp
  obtain ⟨e, E⟩ : ∃ n, Hid (n = signE secret m) := ⟨_, rfl⟩
  rw [← E.out] at k5 he hS ⊢
  obtain ⟨x, hx, hx2⟩ : ∃ x : Nat, (e : Int) * (secret : Int) = (x : Int) ∧ x = e * secret := ⟨e * secret, by simp, rfl⟩
  have hxl : x < 1152921504606846976 := by
    rw [hx2]
    calc e * secret < 1073741824 * 1073741824 := Nat.mul_lt_mul'' (by omega) (by omega)
      _ = 1152921504606846976 := by decide
  obtain ⟨y, hy1, hy2, hy3⟩ : ∃ y : Nat, (x : Int) % 1073741789 = (y : Int) ∧ (x : Int).tmod 1073741789 = (y : Int) ∧ y = x % 1073741789 := ⟨x % 1073741789, by omega, by rw [Int.tmod_eq_emod_of_nonneg (by omega)]; omega, rfl⟩
  have hyl : y < 1073741789 := by omega
  obtain ⟨t, ht1, ht2, ht3⟩ : ∃ t : Nat, ((k : Int) + (y : Int)) % 1073741789 = (t : Int) ∧ ((k : Int) + (y : Int)).tmod 1073741789 = (t : Int) ∧ t = (k + y) % 1073741789 := ⟨(k + y) % 1073741789, by omega, by rw [Int.tmod_eq_emod_of_nonneg (by omega)]; omega, rfl⟩
  rw [hS, ← hx2, ← hy3, ← ht3]
  have H1 := Lib.hid k1
  have H2 := Lib.hid k2
  have H3 := Lib.hid k3
  have H4 := Lib.hid k4
  have H5 := Lib.hid k5
  have s1 : ¬ (9223372036854775807 < nb.size + m.size) := by omega
  have V0 := Lib.hid (PV.new w 58 (.int .i64 0) (.int .i64 0))
  clear k1 k2 k3 k4 k5 hK hE hS e1 hx2 hy3 ht3 NB K R P E z1
  go_enter Tryd.func33, Tryd.ntmps33
  go_wp2_with fail
  refine (H0.out _).mono ?_
  rintro e w1 ⟨rfl, rfl⟩
  go_wp2_with fail
  refine (H1.out _).mono ?_
  rintro e w2 ⟨rfl, hb2⟩
  have V2 := Lib.hid (V0.out.next hb2)
  clear hb2 V0
  go_wp2_with fail
  refine (H2.out _).mono ?_
  rintro e w3 ⟨rfl, hb3⟩
  have V3 := Lib.hid (V2.out.next hb3)
  clear hb3 V2
  go_wp2_with fail
  refine (H3.out _).mono ?_
  rintro e w4 ⟨rfl, rfl⟩
  go_wp2_with fail
  refine (H4.out _).mono ?_
  rintro e w5 ⟨rfl, rfl⟩
  go_wp2_with fail
  refine (H5.out _).mono ?_
  rintro e w6 ⟨rfl, hb6⟩
  have V6 := Lib.hid (V3.out.next hb6)
  have c0 := V6.out.v.c0
  have c1 := V6.out.v.c1
  have f0 := V6.out.v.free 0
  have f1 := V6.out.v.free 1
  clear hb6 V3
  have V7 := Lib.hid (V6.out.set2 (.int .i64 (e : Int)) (.int .i64 (t : Int)))
  go_wp2_with fail
  have d0 := V7.out.v.c0
  have d1 := V7.out.v.c1
  refine bodyPost_ret (v := .tuple #[.agg #[.int .i64 (e : Int), .int .i64 (t : Int)], .bool true]) (by simp [results, Tryd.results33, go_sem, d0, d1]) rfl ⟨rfl, V7.out.below⟩

set_option maxRecDepth 100000 in
set_option maxHeartbeats 400000 in
theorem specSignText_no (secret : Int) (m : ByteArray) (h : secret < 1 ∨ 1073741788 < secret) (w : World) :
    Calls Tryd.prog 33 #[.int .i64 secret, .string m] w fun e w' => e = .returned (.tuple #[.agg #[.int .i64 0, .int .i64 0], .bool false]) ∧ Below w.heap.size w w' := by
  have H0 := Lib.hid (inRange_no secret 1 1073741788 h)
  have V0 := Lib.hid (PV.new w 58 (.int .i64 0) (.int .i64 0))
  have V1 := Lib.hid (V0.out.set2 (.int .i64 0) (.int .i64 0))
  have c0 := V0.out.v.c0
  have c1 := V0.out.v.c1
  have f0 := V0.out.v.free 0
  have f1 := V0.out.v.free 1
  clear h
  go_enter Tryd.func33, Tryd.ntmps33
  go_wp2_with fail
  refine (H0.out _).mono ?_
  rintro e w1 ⟨rfl, rfl⟩
  go_wp2_with fail
  refine bodyPost_ret (v := .tuple #[.agg #[.int .i64 0, .int .i64 0], .bool false]) (by simp [results, Tryd.results33, go_sem]) rfl ⟨rfl, ?_⟩
  first | exact V0.out.below | exact V1.out.below

/-- Whether a signature is right in its bounds. -/
def SigIn (E S : Int) : Prop := (0 ≤ E ∧ E ≤ 1073741788) ∧ (0 ≤ S ∧ S ≤ 1073741788)

set_option maxRecDepth 100000 in
set_option maxHeartbeats 800000 in
theorem specSigText_yes (E S : Nat) (hE : E < 1073741789) (hS : S < 1073741789) (w : World) :
    Calls Tryd.prog 36 #[.agg #[.int .i64 E, .int .i64 S]] w fun e w' => e = .returned (.tuple #[.string (numB E ++ numB S), .bool true]) ∧ Below w.heap.size w w' := by
  have H0 := Lib.hid (inRange_yes (E : Int) 0 1073741788 (by omega) (by omega))
  have H1 := Lib.hid (inRange_yes (S : Int) 0 1073741788 (by omega) (by omega))
  have P0 := Lib.hid (PV.new w 58 (.int .i64 E) (.int .i64 S))
  have k1 := specNumberText_yes E (by omega)
  have k2 := specNumberText_yes S (by omega)
  have e1 : (⟨(four E).toArray⟩ : ByteArray) = numB E := rfl
  have e2 : (⟨(four S).toArray⟩ : ByteArray) = numB S := rfl
  rw [e1] at k1
  rw [e2] at k2
  have z1 := numB_size E
  have z2 := numB_size S
  obtain ⟨a, A⟩ : ∃ n, Hid (n = numB E) := ⟨_, rfl⟩
  obtain ⟨b, B⟩ : ∃ n, Hid (n = numB S) := ⟨_, rfl⟩
  rw [← A.out] at k1 z1 ⊢
  rw [← B.out] at k2 z2 ⊢
  have m1 : ∀ X, (Op.stringOp .add a b).run Tryd.prog X = .ok (.string (a ++ b)) X := fun X => run_string_add_sum X a b (by omega)
  have K1 : Hid (∀ X, (X.cell? ⟨w.heap.size, 0, none⟩ = some (.int .i64 E) ∧ X.cell? ⟨w.heap.size, 1, none⟩ = some (.int .i64 S) ∧ PV w 58 (.int .i64 E) (.int .i64 S) X) → Calls Tryd.prog 58 #[.int .i64 E] X fun e Y => e = .returned (.string a) ∧ (Y.cell? ⟨w.heap.size, 0, none⟩ = some (.int .i64 E) ∧ Y.cell? ⟨w.heap.size, 1, none⟩ = some (.int .i64 S) ∧ PV w 58 (.int .i64 E) (.int .i64 S) Y)) := fun X hX => by
    refine (k1 X).mono ?_
    rintro e Y ⟨rfl, hb⟩
    exact ⟨rfl, (hX.2.2.next hb).two⟩
  have K2 : Hid (∀ X, (X.cell? ⟨w.heap.size, 0, none⟩ = some (.int .i64 E) ∧ X.cell? ⟨w.heap.size, 1, none⟩ = some (.int .i64 S) ∧ PV w 58 (.int .i64 E) (.int .i64 S) X) → Calls Tryd.prog 58 #[.int .i64 S] X fun e Y => e = .returned (.string b) ∧ (Y.cell? ⟨w.heap.size, 0, none⟩ = some (.int .i64 E) ∧ Y.cell? ⟨w.heap.size, 1, none⟩ = some (.int .i64 S) ∧ PV w 58 (.int .i64 E) (.int .i64 S) Y)) := fun X hX => by
    refine (k2 X).mono ?_
    rintro e Y ⟨rfl, hb⟩
    exact ⟨rfl, (hX.2.2.next hb).two⟩
  clear k1 k2 e1 e2
  go_enter Tryd.func36, Tryd.ntmps36
  go_wp2_with fail
  refine (H0.out _).mono ?_
  rintro e w1 ⟨rfl, rfl⟩
  go_wp2_with fail
  refine (H1.out _).mono ?_
  rintro e w2 ⟨rfl, rfl⟩
  go_wp2_with fail
  go_region_held3 (fun X => X.cell? ⟨w.heap.size, 0, none⟩ = some (.int .i64 E) ∧ X.cell? ⟨w.heap.size, 1, none⟩ = some (.int .i64 S) ∧ PV w 58 (.int .i64 E) (.int .i64 S) X) (first | (with_reducible assumption) | (with_reducible exact (PV.drew P0.out).two)) (first | (go_at_call_of 58 (Value.int IntKind.i64 (E : Int)); refine (K1.out _ (by assumption)).mono ?_; rintro e v1 ⟨rfl, hS⟩) | (go_at_call_of 58 (Value.int IntKind.i64 (S : Int)); refine (K2.out _ (by assumption)).mono ?_; rintro e v1 ⟨rfl, hS⟩))
  all_goals
    go_wp2_with fail
    go_ret2
    exact ⟨rfl, hS.2.2.below⟩

set_option maxRecDepth 100000 in
set_option maxHeartbeats 400000 in
theorem specSigText_no (E S : Int) (h : (E < 0 ∨ 1073741788 < E) ∨ (S < 0 ∨ 1073741788 < S)) (w : World) :
    Calls Tryd.prog 36 #[.agg #[.int .i64 E, .int .i64 S]] w fun e w' => e = .returned (.tuple #[.string ⟨#[]⟩, .bool false]) ∧ Below w.heap.size w w' := by
  have P0 := Lib.hid (PV.new w 58 (.int .i64 E) (.int .i64 S))
  by_cases h1 : E < 0 ∨ 1073741788 < E
  · have H0 := Lib.hid (inRange_no E 0 1073741788 h1)
    clear h h1
    go_enter Tryd.func36, Tryd.ntmps36
    go_wp2_with fail
    refine (H0.out _).mono ?_
    rintro e w1 ⟨rfl, rfl⟩
    go_wp2_with fail
    go_ret2
    exact ⟨rfl, P0.out.below⟩
  · have H0 := Lib.hid (inRange_yes E 0 1073741788 (by omega) (by omega))
    have H1 := Lib.hid (inRange_no S 0 1073741788 (by omega))
    clear h h1
    go_enter Tryd.func36, Tryd.ntmps36
    go_wp2_with fail
    refine (H0.out _).mono ?_
    rintro e w1 ⟨rfl, rfl⟩
    go_wp2_with fail
    refine (H1.out _).mono ?_
    rintro e w2 ⟨rfl, rfl⟩
    go_wp2_with fail
    go_ret2
    exact ⟨rfl, P0.out.below⟩

/-- Two variables of two cells: the result, and another. -/
structure PQ (w : World) (t : TypeId) (a b : Value) (x y : Value) (X : World) : Prop where
  one : PV w t a b X
  two : VarP (w.heap.size + 1) t x y X
theorem PQ.next {w : World} {t : TypeId} {a b x y : Value} {X Y : World} (h : PQ w t a b x y X) (hb : Below X.heap.size X Y) : PQ w t a b x y Y := ⟨h.one.next hb, h.two.next hb⟩

theorem PQ.set0 {w : World} {t : TypeId} {a b x y : Value} {X : World} (h : PQ w t a b x y X) (x' : Value) : PQ w t a b x' y (X.setCell ⟨w.heap.size + 1, 0, none⟩ x') :=
  ⟨⟨h.one.v.only (Only.setCell 0 x') (by omega), h.one.below.trans ((Only.setCell (c := w.heap.size + 1) 0 x').below (by omega) h.one.below.size)⟩, h.two.set0 x'⟩
theorem PQ.set1 {w : World} {t : TypeId} {a b x y : Value} {X : World} (h : PQ w t a b x y X) (y' : Value) : PQ w t a b x y' (X.setCell ⟨w.heap.size + 1, 1, none⟩ y') :=
  ⟨⟨h.one.v.only (Only.setCell 1 y') (by omega), h.one.below.trans ((Only.setCell (c := w.heap.size + 1) 1 y').below (by omega) h.one.below.size)⟩, h.two.set1 y'⟩
theorem PQ.new (w : World) (t : TypeId) (a b x y : Value) : PQ w t a b x y ((w.alloc (.cells #[a, b] t)).alloc (.cells #[x, y] t)) := by
  refine ⟨(PV.new w t a b).next ((Below.refl _ _).alloc (Nat.le_refl _) _), ?_⟩
  have h := VarP.new (w.alloc (.cells #[a, b] t)) t x y
  have e : (w.alloc (.cells #[a, b] t)).heap.size = w.heap.size + 1 := by simp
  rw [e] at h
  exact h

end Go.Proofs.YtkjjdoadjhjmbatDoor
