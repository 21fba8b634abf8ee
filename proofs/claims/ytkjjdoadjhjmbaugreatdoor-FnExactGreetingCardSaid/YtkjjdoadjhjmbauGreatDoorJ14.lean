/-
  Variables of two cells; no program is spoken of here.
  The given signatures: signed, checked, as bytes.
-/
import Derived.Test.YtkjjdoadjhjmbauGreatDoorJ03
import Derived.Test.YtkjjdoadjhjmbauGreatDoorJ10
import Derived.Test.YtkjjdoadjhjmbauGreatDoorJ13
import Derived.Deep.RegionHeld3
import Derived.BigQuiet
import Derived.Deep.QuietTactic
namespace Go.Proofs.YtkjjdoadjhjmbauGreatDoor
open Go.RowKit

/-- A variable of two cells in a block of its own. -/
structure VarP (r : Nat) (t : TypeId) (a b : Value) (X : World) : Prop where
  row : X.heap[r]? = some (.cells #[a, b] t (0, 0))
theorem VarP.next {r : Nat} {t : TypeId} {a b : Value} {X Y : World} (h : VarP r t a b X) (hb : Below X.heap.size X Y) : VarP r t a b Y := ⟨by rw [hb.block r (lt_of_block h.row)]; exact h.row⟩
theorem VarP.drew {r : Nat} {t : TypeId} {a b : Value} {X : World} (h : VarP r t a b X) : VarP r t a b X.drew := ⟨h.row⟩
theorem VarP.c0 {r : Nat} {t : TypeId} {a b : Value} {X : World} (h : VarP r t a b X) : X.cell? ⟨r, 0, none⟩ = some a := by rw [cell_of_row X r 0 _ t (0, 0) h.row]; rfl
theorem VarP.c1 {r : Nat} {t : TypeId} {a b : Value} {X : World} (h : VarP r t a b X) : X.cell? ⟨r, 1, none⟩ = some b := by rw [cell_of_row X r 1 _ t (0, 0) h.row]; rfl
theorem VarP.free {r : Nat} {t : TypeId} {a b : Value} {X : World} (h : VarP r t a b X) (j : Nat) : X.frozen? ⟨r, j, none⟩ = false := frozen_of_row X r j _ t h.row
theorem VarP.set2 {r : Nat} {t : TypeId} {a b : Value} {X : World} (h : VarP r t a b X) (a' b' : Value) : VarP r t a' b' ((X.setCell ⟨r, 0, none⟩ a').setCell ⟨r, 1, none⟩ b') :=
  ⟨by have h1 := h.row; simp [World.setCell, Array.getElem?_modify, h1]⟩
theorem Only.set2 (w : World) (r : Nat) (v0 v1 : Value) : Only r w ((w.setCell ⟨r, 0, none⟩ v0).setCell ⟨r, 1, none⟩ v1) := (Only.setCell 0 v0).trans (Only.setCell 1 v1)
theorem VarP.set0 {r : Nat} {t : TypeId} {a b : Value} {X : World} (h : VarP r t a b X) (a' : Value) : VarP r t a' b (X.setCell ⟨r, 0, none⟩ a') := ⟨by have h1 := h.row; simp [World.setCell, Array.getElem?_modify, h1]⟩
theorem VarP.set1 {r : Nat} {t : TypeId} {a b : Value} {X : World} (h : VarP r t a b X) (b' : Value) : VarP r t a b' (X.setCell ⟨r, 1, none⟩ b') := ⟨by have h1 := h.row; simp [World.setCell, Array.getElem?_modify, h1]⟩
theorem VarP.only {r q : Nat} {t : TypeId} {a b : Value} {X Y : World} (h : VarP r t a b X) (ho : Only q X Y) (hr : r ≠ q) : VarP r t a b Y := ⟨by rw [ho.block r (lt_of_block h.row) hr]; exact h.row⟩
theorem VarP.new (w : World) (t : TypeId) (a b : Value) : VarP w.heap.size t a b (w.alloc (.cells #[a, b] t)) := ⟨heap_alloc_new w _⟩

/-- A variable of two cells that the call itself has made, and nothing below it is changed. -/
structure PV (w : World) (t : TypeId) (a b : Value) (X : World) : Prop where
  v : VarP w.heap.size t a b X
  below : Below w.heap.size w X
theorem PV.next {w : World} {t : TypeId} {a b : Value} {X Y : World} (h : PV w t a b X) (hb : Below X.heap.size X Y) : PV w t a b Y := ⟨h.v.next hb, h.below.trans (hb.mono h.below.size)⟩
theorem PV.drew {w : World} {t : TypeId} {a b : Value} {X : World} (h : PV w t a b X) : PV w t a b X.drew := ⟨h.v.drew, h.below.drew⟩
theorem PV.two {w : World} {t : TypeId} {a b : Value} {X : World} (h : PV w t a b X) : X.cell? ⟨w.heap.size, 0, none⟩ = some a ∧ X.cell? ⟨w.heap.size, 1, none⟩ = some b ∧ PV w t a b X := ⟨h.v.c0, h.v.c1, h⟩
theorem PV.new (w : World) (t : TypeId) (a b : Value) : PV w t a b (w.alloc (.cells #[a, b] t)) := ⟨VarP.new w t a b, (Below.refl _ _).alloc (Nat.le_refl _) _⟩
theorem PV.set2 {w : World} {t : TypeId} {a b : Value} {X : World} (h : PV w t a b X) (a' b' : Value) : PV w t a' b' ((X.setCell ⟨w.heap.size, 0, none⟩ a').setCell ⟨w.heap.size, 1, none⟩ b') :=
  ⟨h.v.set2 a' b', h.below.trans ((Only.set2 X w.heap.size a' b').below (Nat.le_refl _) h.below.size)⟩

end Go.Proofs.YtkjjdoadjhjmbauGreatDoor
namespace Go.Proofs.YtkjjdoadjhjmbauGreatDoor
open Go.RowKit

theorem powP_few (b e : Nat) : powP b e < 2147483579 := powP_lt b e
/-- A signature as one value. -/
def sigV (e s : Int) : Value := .agg #[.int .i64 e, .int .i64 s]

set_option maxRecDepth 100000 in
set_option maxHeartbeats 800000 in
theorem specSignText_yes (secret : Nat) (m : ByteArray) (h1 : 1 ≤ secret) (h2 : secret ≤ 1073741788) (hm : m.size ≤ 300000000) (w : World) :
    Calls Tryz.prog 43 #[.int .i64 secret, .string m] w fun e w' => e = .returned (.tuple #[.agg #[.int .i64 (signE secret m : Nat), .int .i64 (signS secret m : Nat)], .bool true]) ∧ Below w.heap.size w w' := by
  have H0 := Lib.hid (inRange_yes (secret : Int) 1 1073741788 (by omega) (by omega))
  have k1 := specNumberText_yes secret (by omega)
  have e1 : (⟨(four secret).toArray⟩ : ByteArray) = numB secret := rfl
  rw [e1] at k1
  have z1 := numB_size secret
  have k2 := specSecretOf_any (numB secret ++ m) (by rw [ByteArray.size_append, z1]; omega)
  have hK : secretP (numB secret ++ m) = keyOfP secret m := rfl
  rw [hK] at k2
  have hk := secretP_in (numB secret ++ m)
  rw [hK] at hk
  have k3 := specPowP_any 4 (keyOfP secret m : Nat)
  rw [powI_pow (keyOfP secret m) (by omega)] at k3
  have k4 := specPublicOf_yes secret h1 h2
  have hr := powP_few 4 (keyOfP secret m)
  have hp : publicP secret < 2147483579 := powP_few 4 secret
  have k5 := specChallenge_yes (powP 4 (keyOfP secret m)) (publicP secret) m (by omega) (by omega) (by omega)
  have hE : chalP (powP 4 (keyOfP secret m)) (publicP secret) m = signE secret m := rfl
  rw [hE] at k5
  have he := signE_lt secret m
  have hS : signS secret m = (keyOfP secret m + signE secret m * secret % 1073741789) % 1073741789 := rfl
  obtain ⟨nb, NB⟩ : ∃ n, Hid (n = numB secret) := ⟨_, rfl⟩
  obtain ⟨k, K⟩ : ∃ n, Hid (n = keyOfP secret m) := ⟨_, rfl⟩
  rw [← NB.out] at k1 k2 z1
  rw [← K.out] at k2 k3 k5 hk hr hS
  obtain ⟨r, R⟩ : ∃ n, Hid (n = powP 4 k) := ⟨_, rfl⟩
  rw [← R.out] at k3 k5 hr
  obtain ⟨p, P⟩ : ∃ n, Hid (n = publicP secret) := ⟨_, rfl⟩
  rw [← P.out] at k4 k5 hp
  obtain ⟨e, E⟩ : ∃ n, Hid (n = signE secret m) := ⟨_, rfl⟩
  rw [← E.out] at k5 he hS ⊢
  obtain ⟨x, hx, hx2⟩ : ∃ x : Nat, (e : Int) * (secret : Int) = (x : Int) ∧ x = e * secret := ⟨e * secret, by simp, rfl⟩
  have hxl : x < 1152921504606846976 := by
    rw [hx2]
    calc e * secret < 1073741824 * 1073741824 := Nat.mul_lt_mul'' (by omega) (by omega)
      _ = 1152921504606846976 := by decide
  obtain ⟨y, hy1, hy2, hy3⟩ : ∃ y : Nat, (x : Int) % 1073741789 = (y : Int) ∧ (x : Int).tmod 1073741789 = (y : Int) ∧ y = x % 1073741789 := ⟨x % 1073741789, by omega, by rw [Int.tmod_eq_emod_of_nonneg (by omega)]; omega, rfl⟩
  have hyl : y < 1073741789 := by omega
  obtain ⟨t, ht1, ht2, ht3⟩ : ∃ t : Nat, ((k : Int) + (y : Int)) % 1073741789 = (t : Int) ∧ ((k : Int) + (y : Int)).tmod 1073741789 = (t : Int) ∧ t = (k + y) % 1073741789 := ⟨(k + y) % 1073741789, by omega, by rw [Int.tmod_eq_emod_of_nonneg (by omega)]; omega, rfl⟩
  rw [hS, ← hx2, ← hy3, ← ht3]
  have H1 := Lib.hid k1
  have H2 := Lib.hid k2
  have H3 := Lib.hid k3
  have H4 := Lib.hid k4
  have H5 := Lib.hid k5
  have s1 : ¬ (9223372036854775807 < nb.size + m.size) := by omega
  have V0 := Lib.hid (PV.new w 49 (.int .i64 0) (.int .i64 0))
  clear k1 k2 k3 k4 k5 hK hE hS e1 hx2 hy3 ht3 NB K R P E z1
  go_enter Tryz.func43, Tryz.ntmps43
  go_wp2_with fail
  refine (H0.out _).mono ?_
  rintro e w1 ⟨rfl, rfl⟩
  go_wp2_with fail
  refine (H1.out _).mono ?_
  rintro e w2 ⟨rfl, hb2⟩
  have V2 := Lib.hid (V0.out.next hb2)
  clear hb2 V0
  go_wp2_with fail
  refine (H2.out _).mono ?_
  rintro e w3 ⟨rfl, hb3⟩
  have V3 := Lib.hid (V2.out.next hb3)
  clear hb3 V2
  go_wp2_with fail
  refine (H3.out _).mono ?_
  rintro e w4 ⟨rfl, rfl⟩
  go_wp2_with fail
  refine (H4.out _).mono ?_
  rintro e w5 ⟨rfl, rfl⟩
  go_wp2_with fail
  refine (H5.out _).mono ?_
  rintro e w6 ⟨rfl, hb6⟩
  have V6 := Lib.hid (V3.out.next hb6)
  have c0 := V6.out.v.c0
  have c1 := V6.out.v.c1
  have f0 := V6.out.v.free 0
  have f1 := V6.out.v.free 1
  clear hb6 V3
  have V7 := Lib.hid (V6.out.set2 (.int .i64 (e : Int)) (.int .i64 (t : Int)))
  go_wp2_with fail
  have d0 := V7.out.v.c0
  have d1 := V7.out.v.c1
  refine bodyPost_ret (v := .tuple #[.agg #[.int .i64 (e : Int), .int .i64 (t : Int)], .bool true]) (by simp [results, Tryz.results43, go_sem, d0, d1]) rfl ⟨rfl, V7.out.below⟩

set_option maxRecDepth 100000 in
set_option maxHeartbeats 400000 in
theorem specSignText_no (secret : Int) (m : ByteArray) (h : secret < 1 ∨ 1073741788 < secret) (w : World) :
    Calls Tryz.prog 43 #[.int .i64 secret, .string m] w fun e w' => e = .returned (.tuple #[.agg #[.int .i64 0, .int .i64 0], .bool false]) ∧ Below w.heap.size w w' := by
  have H0 := Lib.hid (inRange_no secret 1 1073741788 h)
  have V0 := Lib.hid (PV.new w 49 (.int .i64 0) (.int .i64 0))
  have V1 := Lib.hid (V0.out.set2 (.int .i64 0) (.int .i64 0))
  have c0 := V0.out.v.c0
  have c1 := V0.out.v.c1
  have f0 := V0.out.v.free 0
  have f1 := V0.out.v.free 1
  clear h
  go_enter Tryz.func43, Tryz.ntmps43
  go_wp2_with fail
  refine (H0.out _).mono ?_
  rintro e w1 ⟨rfl, rfl⟩
  go_wp2_with fail
  refine bodyPost_ret (v := .tuple #[.agg #[.int .i64 0, .int .i64 0], .bool false]) (by simp [results, Tryz.results43, go_sem]) rfl ⟨rfl, ?_⟩
  first | exact V0.out.below | exact V1.out.below

/-- Whether a signature is right in its bounds. -/
def SigIn (E S : Int) : Prop := (0 ≤ E ∧ E ≤ 1073741788) ∧ (0 ≤ S ∧ S ≤ 1073741788)

set_option maxRecDepth 100000 in
set_option maxHeartbeats 800000 in
theorem specSigText_yes (E S : Nat) (hE : E < 1073741789) (hS : S < 1073741789) (w : World) :
    Calls Tryz.prog 44 #[.agg #[.int .i64 E, .int .i64 S]] w fun e w' => e = .returned (.tuple #[.string (numB E ++ numB S), .bool true]) ∧ Below w.heap.size w w' := by
  have H0 := Lib.hid (inRange_yes (E : Int) 0 1073741788 (by omega) (by omega))
  have H1 := Lib.hid (inRange_yes (S : Int) 0 1073741788 (by omega) (by omega))
  have P0 := Lib.hid (PV.new w 49 (.int .i64 E) (.int .i64 S))
  have k1 := specNumberText_yes E (by omega)
  have k2 := specNumberText_yes S (by omega)
  have e1 : (⟨(four E).toArray⟩ : ByteArray) = numB E := rfl
  have e2 : (⟨(four S).toArray⟩ : ByteArray) = numB S := rfl
  rw [e1] at k1
  rw [e2] at k2
  have z1 := numB_size E
  have z2 := numB_size S
  obtain ⟨a, A⟩ : ∃ n, Hid (n = numB E) := ⟨_, rfl⟩
  obtain ⟨b, B⟩ : ∃ n, Hid (n = numB S) := ⟨_, rfl⟩
  rw [← A.out] at k1 z1 ⊢
  rw [← B.out] at k2 z2 ⊢
  have m1 : ∀ X, (Op.stringOp .add a b).run Tryz.prog X = .ok (.string (a ++ b)) X := fun X => run_string_add_sum X a b (by omega)
  have K1 : Hid (∀ X, (X.cell? ⟨w.heap.size, 0, none⟩ = some (.int .i64 E) ∧ X.cell? ⟨w.heap.size, 1, none⟩ = some (.int .i64 S) ∧ PV w 49 (.int .i64 E) (.int .i64 S) X) → Calls Tryz.prog 54 #[.int .i64 E] X fun e Y => e = .returned (.string a) ∧ (Y.cell? ⟨w.heap.size, 0, none⟩ = some (.int .i64 E) ∧ Y.cell? ⟨w.heap.size, 1, none⟩ = some (.int .i64 S) ∧ PV w 49 (.int .i64 E) (.int .i64 S) Y)) := fun X hX => by
    refine (k1 X).mono ?_
    rintro e Y ⟨rfl, hb⟩
    exact ⟨rfl, (hX.2.2.next hb).two⟩
  have K2 : Hid (∀ X, (X.cell? ⟨w.heap.size, 0, none⟩ = some (.int .i64 E) ∧ X.cell? ⟨w.heap.size, 1, none⟩ = some (.int .i64 S) ∧ PV w 49 (.int .i64 E) (.int .i64 S) X) → Calls Tryz.prog 54 #[.int .i64 S] X fun e Y => e = .returned (.string b) ∧ (Y.cell? ⟨w.heap.size, 0, none⟩ = some (.int .i64 E) ∧ Y.cell? ⟨w.heap.size, 1, none⟩ = some (.int .i64 S) ∧ PV w 49 (.int .i64 E) (.int .i64 S) Y)) := fun X hX => by
    refine (k2 X).mono ?_
    rintro e Y ⟨rfl, hb⟩
    exact ⟨rfl, (hX.2.2.next hb).two⟩
  clear k1 k2 e1 e2
  go_enter Tryz.func44, Tryz.ntmps44
  go_wp2_with fail
  refine (H0.out _).mono ?_
  rintro e w1 ⟨rfl, rfl⟩
  go_wp2_with fail
  refine (H1.out _).mono ?_
  rintro e w2 ⟨rfl, rfl⟩
  go_wp2_with fail
  go_region_held3 (fun X => X.cell? ⟨w.heap.size, 0, none⟩ = some (.int .i64 E) ∧ X.cell? ⟨w.heap.size, 1, none⟩ = some (.int .i64 S) ∧ PV w 49 (.int .i64 E) (.int .i64 S) X) (first | (with_reducible assumption) | (with_reducible exact (PV.drew P0.out).two)) (first | (go_at_call_of 54 (Value.int IntKind.i64 (E : Int)); refine (K1.out _ (by assumption)).mono ?_; rintro e v1 ⟨rfl, hS⟩) | (go_at_call_of 54 (Value.int IntKind.i64 (S : Int)); refine (K2.out _ (by assumption)).mono ?_; rintro e v1 ⟨rfl, hS⟩))
  all_goals
    go_wp2_with fail
    go_ret2
    exact ⟨rfl, hS.2.2.below⟩

set_option maxRecDepth 100000 in
set_option maxHeartbeats 400000 in
theorem specSigText_no (E S : Int) (h : (E < 0 ∨ 1073741788 < E) ∨ (S < 0 ∨ 1073741788 < S)) (w : World) :
    Calls Tryz.prog 44 #[.agg #[.int .i64 E, .int .i64 S]] w fun e w' => e = .returned (.tuple #[.string ⟨#[]⟩, .bool false]) ∧ Below w.heap.size w w' := by
  have P0 := Lib.hid (PV.new w 49 (.int .i64 E) (.int .i64 S))
  by_cases h1 : E < 0 ∨ 1073741788 < E
  · have H0 := Lib.hid (inRange_no E 0 1073741788 h1)
    clear h h1
    go_enter Tryz.func44, Tryz.ntmps44
    go_wp2_with fail
    refine (H0.out _).mono ?_
    rintro e w1 ⟨rfl, rfl⟩
    go_wp2_with fail
    go_ret2
    exact ⟨rfl, P0.out.below⟩
  · have H0 := Lib.hid (inRange_yes E 0 1073741788 (by omega) (by omega))
    have H1 := Lib.hid (inRange_no S 0 1073741788 (by omega))
    clear h h1
    go_enter Tryz.func44, Tryz.ntmps44
    go_wp2_with fail
    refine (H0.out _).mono ?_
    rintro e w1 ⟨rfl, rfl⟩
    go_wp2_with fail
    refine (H1.out _).mono ?_
    rintro e w2 ⟨rfl, rfl⟩
    go_wp2_with fail
    go_ret2
    exact ⟨rfl, P0.out.below⟩

set_option maxRecDepth 100000 in
set_option maxHeartbeats 400000 in
theorem specReadSig_size (text : ByteArray) (h : text.size ≠ 8) (w : World) :
    Calls Tryz.prog 24 #[.string text] w fun e w' => e = .returned (.tuple #[.agg #[.int .i64 0, .int .i64 0], .bool false]) ∧ Below w.heap.size w w' := by
  have h1 : ((text.size : Int) != 8) = true := by rw [bne_iff_ne]; omega
  have V0 := Lib.hid (PV.new w 49 (.int .i64 0) (.int .i64 0))
  go_enter Tryz.func24, Tryz.ntmps24
  go_wp2_with fail
  refine bodyPost_ret (v := .tuple #[.agg #[.int .i64 0, .int .i64 0], .bool false]) (by simp [results, Tryz.results24, go_sem]) rfl ⟨rfl, V0.out.below⟩

/-- Two variables of two cells: the result, and another. -/
structure PQ (w : World) (t : TypeId) (a b : Value) (x y : Value) (X : World) : Prop where
  one : PV w t a b X
  two : VarP (w.heap.size + 1) t x y X
theorem PQ.next {w : World} {t : TypeId} {a b x y : Value} {X Y : World} (h : PQ w t a b x y X) (hb : Below X.heap.size X Y) : PQ w t a b x y Y := ⟨h.one.next hb, h.two.next hb⟩

theorem PQ.set0 {w : World} {t : TypeId} {a b x y : Value} {X : World} (h : PQ w t a b x y X) (x' : Value) : PQ w t a b x' y (X.setCell ⟨w.heap.size + 1, 0, none⟩ x') :=
  ⟨⟨h.one.v.only (Only.setCell 0 x') (by omega), h.one.below.trans ((Only.setCell (c := w.heap.size + 1) 0 x').below (by omega) h.one.below.size)⟩, h.two.set0 x'⟩
theorem PQ.set1 {w : World} {t : TypeId} {a b x y : Value} {X : World} (h : PQ w t a b x y X) (y' : Value) : PQ w t a b x y' (X.setCell ⟨w.heap.size + 1, 1, none⟩ y') :=
  ⟨⟨h.one.v.only (Only.setCell 1 y') (by omega), h.one.below.trans ((Only.setCell (c := w.heap.size + 1) 1 y').below (by omega) h.one.below.size)⟩, h.two.set1 y'⟩
theorem PQ.new (w : World) (t : TypeId) (a b x y : Value) : PQ w t a b x y ((w.alloc (.cells #[a, b] t)).alloc (.cells #[x, y] t)) := by
  refine ⟨(PV.new w t a b).next ((Below.refl _ _).alloc (Nat.le_refl _) _), ?_⟩
  have h := VarP.new (w.alloc (.cells #[a, b] t)) t x y
  have e : (w.alloc (.cells #[a, b] t)).heap.size = w.heap.size + 1 := by simp
  rw [e] at h
  exact h

set_option maxRecDepth 100000 in
set_option maxHeartbeats 800000 in
theorem specReadSig_eight (text l r : ByteArray) (h : text.size = 8) (hl : text.extract 0 4 = l) (hr : text.extract 4 8 = r) (v : Value) (hv : (fourBack l.data.toList < 1073741789 ∧ fourBack r.data.toList < 1073741789 ∧ v = .tuple #[.agg #[.int .i64 (fourBack l.data.toList : Nat), .int .i64 (fourBack r.data.toList : Nat)], .bool true]) ∨ ((1073741789 ≤ fourBack l.data.toList ∨ 1073741789 ≤ fourBack r.data.toList) ∧ v = .tuple #[.agg #[.int .i64 0, .int .i64 0], .bool false])) (w : World) :
    Calls Tryz.prog 24 #[.string text] w fun e w' => e = .returned v ∧ Below w.heap.size w w' := by
  have z1 : l.size = 4 := by rw [← hl, ByteArray.size_extract]; omega
  have z2 : r.size = 4 := by rw [← hr, ByteArray.size_extract]; omega
  have k1 := specReadNumber_yes l z1
  have k2 := specReadNumber_yes r z2
  obtain ⟨a, A⟩ : ∃ n, Hid (n = fourBack l.data.toList) := ⟨_, rfl⟩
  obtain ⟨b, B⟩ : ∃ n, Hid (n = fourBack r.data.toList) := ⟨_, rfl⟩
  rw [← A.out] at k1 hv
  rw [← B.out] at k2 hv
  have HV := Lib.hid hv
  have H1 := Lib.hid k1
  have H2 := Lib.hid k2
  have h1 : ((text.size : Int) != 8) = false := by rw [bne_eq_false_iff_eq]; omega
  have h8 : (text.size : Int) = 8 := by omega
  have hz8 : text.size = 8 := h
  clear k1 k2 z1 z2 A B h hv
  have V0 := Lib.hid (PQ.new w 49 (.int .i64 0) (.int .i64 0) (.int .i64 0) (.int .i64 0))
  go_enter Tryz.func24, Tryz.ntmps24
  go_wp2_with fail
  refine (H1.out _).mono ?_
  rintro e w1 ⟨rfl, hb1⟩
  have hV1 := V0.out.next hb1
  have c0 := hV1.two.c0
  have g0 := hV1.two.free 0
  have V2 := Lib.hid (hV1.set0 (.int .i64 (a : Int)))
  clear hb1 V0 hV1
  go_wp2_with fail
  refine (H2.out _).mono ?_
  rintro e w3 ⟨rfl, hb3⟩
  have hV3 := V2.out.next hb3
  have c1 := hV3.two.c1
  have g1 := hV3.two.free 1
  have hV4 := hV3.set1 (.int .i64 (b : Int))
  have d0 := hV4.two.c0
  have d1 := hV4.two.c1
  have o0 := hV4.one.v.c0
  have o1 := hV4.one.v.c1
  have p0 := hV4.one.v.free 0
  have p1 := hV4.one.v.free 1
  have W4 := Lib.hid hV4.one
  have W5 := Lib.hid (hV4.one.set2 (.int .i64 0) (.int .i64 0))
  have W6 := Lib.hid (hV4.one.set2 (.int .i64 (a : Int)) (.int .i64 (b : Int)))
  clear hb3 V2 hV3 hV4 c0 g0
  go_upto_region 6 with fail
  generalize w3.setCell ⟨w.heap.size + 1, 1, none⟩ (.int .i64 (b : Int)) = w4 at *
  clear c1 g1
  rcases HV.out with ⟨ha, hb, rfl⟩ | ⟨hab, rfl⟩
  · have ha2 : ¬ ((1073741789 : Int) ≤ (a : Int)) := by omega
    have hb2 : ¬ ((1073741789 : Int) ≤ (b : Int)) := by omega
    clear HV ha hb
    go_wp2_with fail
    have i0 := W6.out.v.c0
    have i1 := W6.out.v.c1
    refine bodyPost_ret (v := .tuple #[.agg #[.int .i64 (a : Int), .int .i64 (b : Int)], .bool true]) (by simp [results, Tryz.results24, go_sem, i0, i1]) rfl ⟨rfl, W6.out.below⟩
  · clear HV
    have i0 := W5.out.v.c0
    have i1 := W5.out.v.c1
    by_cases ha : (1073741789 : Int) ≤ (a : Int)
    · clear hab
      go_wp2_with fail
      refine bodyPost_ret (v := .tuple #[.agg #[.int .i64 0, .int .i64 0], .bool false]) (by simp [results, Tryz.results24, go_sem, i0, i1]) rfl ⟨rfl, W5.out.below⟩
    · have hb : (1073741789 : Int) ≤ (b : Int) := by omega
      clear hab
      go_wp2_with fail
      refine bodyPost_ret (v := .tuple #[.agg #[.int .i64 0, .int .i64 0], .bool false]) (by simp [results, Tryz.results24, go_sem, i0, i1]) rfl ⟨rfl, W5.out.below⟩

end Go.Proofs.YtkjjdoadjhjmbauGreatDoor
