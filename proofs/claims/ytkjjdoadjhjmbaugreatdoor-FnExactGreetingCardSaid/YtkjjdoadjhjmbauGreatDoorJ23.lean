/-
  The program's secrets, challenges, signed texts and checks: what they answer.
-/
import Derived.Test.YtkjjdoadjhjmbauGreatDoorJ15
import Derived.Test.YtkjjdoadjhjmbauGreatDoorJ16
import Derived.Test.YtkjjdoadjhjmbauGreatDoorJ21
import Derived.Test.YtkjjdoadjhjmbauGreatDoorJ22
namespace Go.Proofs.YtkjjdoadjhjmbauGreatDoor
open Go.RowKit

theorem full_text (s : ByteArray) (h : 0 < s.size) : s.toList.isEmpty = false := by
  have h2 : s.data.toList.length = s.size := by simp
  rw [ByteArray.toList_eq, List.isEmpty_eq_false_iff]
  intro e
  rw [e] at h2
  simp at h2
  omega
/-- NumberText answers some text, the empty one where the number is none. -/
theorem numText_some (n : Int) : ∃ a : ByteArray, (n < 0 ∨ 4294967295 < n → a = ⟨#[]⟩) ∧ ∀ X, Calls Tryz.prog 92 #[.int .i64 n] X fun e X' => e = .returned (.string a) ∧ Below X.heap.size X X' := by
  by_cases h : n < 0 ∨ 4294967295 < n
  · exact ⟨_, fun _ => rfl, implNumberText_no n h⟩
  · obtain ⟨N, rfl⟩ : ∃ N : Nat, n = (N : Int) := ⟨n.toNat, by omega⟩
    exact ⟨_, fun h2 => absurd h2 h, implNumberText_yes N (by omega)⟩

theorem implDigS_any (s : ByteArray) (hs : s.size ≤ 500000000) (w : World) (hK : LaidK w) :
    Calls Tryz.prog 90 #[.string s] w fun e w' => e = .returned (.string (digP s)) ∧ Below w.heap.size w w' := implDigestOf_any s hs w hK

set_option maxRecDepth 100000 in
set_option maxHeartbeats 400000 in
theorem digestNumber_any (s : ByteArray) (hs : s.size ≤ 500000000) (w : World) (hK : LaidK w) :
    Calls Tryz.prog 71 #[.string s] w fun e w' => e = .returned (.int .i64 (firstP (digP s) : Nat)) ∧ Below w.heap.size w w' := by
  have k1 := implDigS_any s hs
  have k2 := textWord_head (digP s) (by rw [digP_size]; omega)
  have hF : fourBack ((digP s).extract 0 4).data.toList = firstP (digP s) := rfl
  rw [hF] at k2
  have hl := firstP_lt (digP s)
  obtain ⟨d, D⟩ : ∃ d, Hid (d = digP s) := ⟨_, rfl⟩
  rw [← D.out] at k1 k2 hl ⊢
  obtain ⟨n, N⟩ : ∃ n, Hid (n = firstP d) := ⟨_, rfl⟩
  rw [← N.out] at k2 hl ⊢
  have H1 := Lib.hid k1
  have H2 := Lib.hid k2
  have HK := Lib.hid hK
  have hw : IntKind.i64.wrap (n : Int) = (n : Int) := by rw [IntKind.wrap_i64]; omega
  clear k1 k2 hF hK
  go_enter Tryz.func71, Tryz.ntmps71
  go_wp2_with fail
  refine (H1.out _ HK.out).mono ?_
  rintro e w1 ⟨rfl, hb1⟩
  have HB1 := Lib.hid hb1
  clear hb1
  go_wp2_with fail
  refine (H2.out _).mono ?_
  rintro e w2 ⟨rfl, hb2⟩
  have HB2 := Lib.hid (HB1.out.trans (hb2.mono HB1.out.size))
  clear hb2
  go_wp2_with fail
  go_ret
  exact ⟨rfl, HB2.out⟩

set_option maxRecDepth 100000 in
set_option maxHeartbeats 400000 in
theorem implSecretOf_any (seed : ByteArray) (hs : seed.size ≤ 400000000) (w : World) (hK : LaidK w) :
    Calls Tryz.prog 56 #[.string seed] w fun e w' => e = .returned (.int .i64 (secretP seed : Nat)) ∧ Below w.heap.size w w' := by
  have z0 : (⟨#[115]⟩ : ByteArray).size = 1 := rfl
  have h1 := digestNumber_any (seed ++ (⟨#[115]⟩ : ByteArray)) (by rw [ByteArray.size_append, z0]; omega)
  have hl := firstP_lt (digP (seed ++ (⟨#[115]⟩ : ByteArray)))
  have hS : secretP seed = 1 + firstP (digP (seed ++ (⟨#[115]⟩ : ByteArray))) % 1073741788 := rfl
  obtain ⟨n, N⟩ : ∃ n, Hid (n = firstP (digP (seed ++ (⟨#[115]⟩ : ByteArray)))) := ⟨_, rfl⟩
  rw [← N.out] at h1 hl hS
  have H1 := Lib.hid h1
  have HK := Lib.hid hK
  obtain ⟨m, hm, hm2, hm3⟩ : ∃ m : Nat, (n : Int) % 1073741788 = (m : Int) ∧ (n : Int).tmod 1073741788 = (m : Int) ∧ m = n % 1073741788 := ⟨n % 1073741788, by omega, by rw [Int.tmod_eq_emod_of_nonneg (by omega)]; omega, rfl⟩
  have HS : Hid (((1 : Int) + (m : Int)) = ((secretP seed : Nat) : Int)) := by show _ = _; rw [hS]; omega
  have hml : m < 1073741788 := by omega
  have s1 : ¬ (9223372036854775807 < seed.size + 1) := by omega
  clear h1 hS N hm3 hl z0 hK
  rw [← HS.out]
  go_enter Tryz.func56, Tryz.ntmps56
  go_wp2_with fail
  refine (H1.out _ HK.out).mono ?_
  rintro e w1 ⟨rfl, hb1⟩
  have HB1 := Lib.hid hb1
  clear hb1
  go_wp2_with fail
  go_ret
  exact ⟨rfl, HB1.out⟩

set_option maxRecDepth 100000 in
set_option maxHeartbeats 400000 in
theorem implChallenge_yes (r p : Nat) (m : ByteArray) (hr : r < 4294967296) (hp : p < 4294967296) (hm : m.size ≤ 400000000) (w : World) (hK : LaidK w) :
    Calls Tryz.prog 94 #[.int .i64 r, .int .i64 p, .string m] w fun e w' => e = .returned (.int .i64 (chalP r p m : Nat)) ∧ Below w.heap.size w w' := by
  have h2 := implNumberText_yes r hr
  have h3 := implNumberText_yes p hp
  have z1 := numB_size r
  have z2 := numB_size p
  have h4 := digestNumber_any (numB r ++ numB p ++ m) (by rw [ByteArray.size_append, ByteArray.size_append, z1, z2]; omega)
  have hl := firstP_lt (digP (numB r ++ numB p ++ m))
  have hC : chalP r p m = firstP (digP (numB r ++ numB p ++ m)) % 1073741789 := rfl
  have e1 : (⟨(four r).toArray⟩ : ByteArray) = numB r := rfl
  have e2 : (⟨(four p).toArray⟩ : ByteArray) = numB p := rfl
  rw [e1] at h2
  rw [e2] at h3
  obtain ⟨a, A⟩ : ∃ d, Hid (d = numB r) := ⟨_, rfl⟩
  obtain ⟨b, B⟩ : ∃ d, Hid (d = numB p) := ⟨_, rfl⟩
  rw [← A.out] at h2 h4 hl hC z1
  rw [← B.out] at h3 h4 hl hC z2
  obtain ⟨n, N⟩ : ∃ n, Hid (n = firstP (digP (a ++ b ++ m))) := ⟨_, rfl⟩
  rw [← N.out] at h4 hl hC
  have H2 := Lib.hid h2
  have H3 := Lib.hid h3
  have H4 := Lib.hid h4
  have HK := Lib.hid hK
  obtain ⟨c, hc1, hc2, hc3⟩ : ∃ c : Nat, (n : Int) % 1073741789 = (c : Int) ∧ (n : Int).tmod 1073741789 = (c : Int) ∧ c = n % 1073741789 := ⟨n % 1073741789, by omega, by rw [Int.tmod_eq_emod_of_nonneg (by omega)]; omega, rfl⟩
  rw [hC, ← hc3]
  have q1 : a.toList.isEmpty = false := full_text a (by omega)
  have q2 : b.toList.isEmpty = false := full_text b (by omega)
  have s1 : ¬ (9223372036854775807 < a.size + b.size) := by omega
  have s2 : ¬ (9223372036854775807 < a.size + b.size + m.size) := by omega
  clear h2 h3 h4 hC e1 e2 A B N hc3 hl hK
  go_enter Tryz.func94, Tryz.ntmps94
  go_wp2_with fail
  refine (H2.out _).mono ?_
  rintro e w3 ⟨rfl, hb3⟩
  have HB3 := Lib.hid hb3
  clear hb3
  go_wp2_with fail
  refine (H3.out _).mono ?_
  rintro e w4 ⟨rfl, hb4⟩
  have HB4 := Lib.hid (HB3.out.trans (hb4.mono HB3.out.size))
  clear hb4
  go_wp2_with fail
  refine (H4.out _ (HK.out.stays HB4.out (Nat.le_refl _))).mono ?_
  rintro e w5 ⟨rfl, hb5⟩
  have HB5 := Lib.hid (HB4.out.trans (hb5.mono HB4.out.size))
  clear hb5
  go_wp2_with fail
  go_ret
  exact ⟨rfl, HB5.out⟩

set_option maxRecDepth 100000 in
set_option maxHeartbeats 400000 in
theorem implChallenge_no (r p : Int) (m : ByteArray) (h : (r < 0 ∨ 4294967295 < r) ∨ (p < 0 ∨ 4294967295 < p)) (w : World) :
    Calls Tryz.prog 94 #[.int .i64 r, .int .i64 p, .string m] w fun e w' => e = .returned (.int .i64 0) ∧ Below w.heap.size w w' := by
  obtain ⟨a, ha, ka⟩ := numText_some r
  obtain ⟨b, hb, kb⟩ := numText_some p
  have HA := Lib.hid ka
  have HB := Lib.hid kb
  clear ka kb
  by_cases h1 : r < 0 ∨ 4294967295 < r
  · obtain rfl := ha h1
    clear ha hb h h1
    go_enter Tryz.func94, Tryz.ntmps94
    go_wp2_with fail
    refine (HA.out _).mono ?_
    rintro e w3 ⟨rfl, hb3⟩
    have HB3 := Lib.hid hb3
    clear hb3
    go_wp2_with fail
    refine (HB.out _).mono ?_
    rintro e w4 ⟨rfl, hb4⟩
    have HB4 := Lib.hid (HB3.out.trans (hb4.mono HB3.out.size))
    clear hb4
    go_wp2_with fail
    go_ret
    exact ⟨rfl, HB4.out⟩
  · have h2 : p < 0 ∨ 4294967295 < p := by rcases h with h | h; · exact absurd h h1
                                           · exact h
    obtain rfl := hb h2
    obtain ⟨o, ho⟩ : ∃ o, a.toList.isEmpty = o := ⟨_, rfl⟩
    clear ha hb h h1 h2
    cases o
    all_goals
      go_enter Tryz.func94, Tryz.ntmps94
      go_wp2_with fail
      refine (HA.out _).mono ?_
      rintro e w3 ⟨rfl, hb3⟩
      have HB3 := Lib.hid hb3
      clear hb3
      go_wp2_with fail
      refine (HB.out _).mono ?_
      rintro e w4 ⟨rfl, hb4⟩
      have HB4 := Lib.hid (HB3.out.trans (hb4.mono HB3.out.size))
      clear hb4
      go_wp2_with fail
      go_ret
      exact ⟨rfl, HB4.out⟩

def mulO (a b : Int) : Nat := modO a * modO b % 1073741789
theorem mulO_in (a b : Nat) (ha : a < 1073741789) (hb : b < 1073741789) : mulO (a : Int) (b : Int) = a * b % 1073741789 := by unfold mulO; rw [modO_in a ha, modO_in b hb]
theorem prodO_lt (x y : Nat) (hx : x < 1073741789) (hy : y < 1073741789) : x * y < 9223372036854775807 := by
  have h : x * y < 1073741824 * 1073741824 := Nat.mul_lt_mul'' (by omega) (by omega)
  have e : (1073741824 * 1073741824 : Nat) = 1152921504606846976 := by decide
  omega
/-- A variable of the modulus, in the first block that the call has made. -/
theorem ofO_keep (a : Int) (w W : World) (v : Value) (h : W.cell? ⟨w.heap.size, 0, none⟩ = some v ∧ Below w.heap.size w W) :
    Calls Tryz.prog 96 #[.agg #[.int .i64 1073741789], .int .i64 a] W fun e w' => e = .returned (.int .i64 (modO a : Nat)) ∧ w'.cell? ⟨w.heap.size, 0, none⟩ = some v ∧ Below w.heap.size w w' := by
  refine (ofO_any a W).mono fun e w' ⟨he, hb⟩ => ⟨he, ?_, h.2.trans (hb.mono h.2.size)⟩
  rw [hb.cell (p := ⟨w.heap.size, 0, none⟩) (cell_size (p := ⟨w.heap.size, 0, none⟩) h.1)]
  exact h.1

set_option maxRecDepth 100000 in
set_option maxHeartbeats 400000 in
theorem productO_any (a b : Int) (w : World) :
    Calls Tryz.prog 97 #[.agg #[.int .i64 1073741789], .int .i64 a, .int .i64 b] w fun e w' => e = .returned (.int .i64 (mulO a b : Nat)) ∧ Below w.heap.size w w' := by
  have hx : modO a < 1073741789 := modO_lt a
  have hy : modO b < 1073741789 := modO_lt b
  have H1 := Lib.hid (fun a => ofO_keep a w)
  obtain ⟨m, hm, hm1, HM⟩ : ∃ m : Nat, (modO a : Int) * (modO b : Int) = (m : Int) ∧ m < 9223372036854775807 ∧ Hid (m = modO a * modO b) := ⟨modO a * modO b, by rw [Int.natCast_mul], prodO_lt _ _ hx hy, rfl⟩
  obtain ⟨r, hr, HR⟩ : ∃ r : Nat, (m : Int).tmod 1073741789 = (r : Int) ∧ Hid (r = mulO a b) := by
    refine ⟨m % 1073741789, by rw [Int.tmod_eq_emod_of_nonneg (by omega)]; omega, ?_⟩
    show m % 1073741789 = mulO a b
    rw [HM.out]
    rfl
  have hwm : IntKind.i64.wrap (m : Int) = (m : Int) := by rw [IntKind.wrap_i64]; omega
  rw [← HR.out]
  have h0 : (w.alloc (.cells #[.int .i64 1073741789] 117)).cell? ⟨w.heap.size, 0, none⟩ = some (.int .i64 1073741789) ∧ Below w.heap.size w (w.alloc (.cells #[.int .i64 1073741789] 117)) := ⟨by simp, (Below.refl _ _).alloc (Nat.le_refl _) _⟩
  go_enter Tryz.func97, Tryz.ntmps97
  go_wp2_with fail
  generalize w.alloc (.cells #[.int .i64 1073741789] 117) = W at h0
  obtain ⟨h1, h2⟩ := h0
  go_region_held3 (fun X => X.cell? ⟨w.heap.size, 0, none⟩ = some (.int .i64 1073741789) ∧ Below w.heap.size w X) (first | assumption | exact held_drew ⟨h1, h2⟩ | (exact ⟨by assumption, by assumption⟩)) (first | (go_at_call 96; refine (H1.out _ _ (.int .i64 1073741789) (by assumption)).mono ?_; rintro e w1 ⟨rfl, hc1, hb1⟩))
  all_goals
    go_wp2
    go_ret
    exact ⟨rfl, by assumption⟩

/-- The result's variable, whatever it holds, and one of the modulus in another block. -/
structure RW (w : World) (q : Nat) (X : World) : Prop where
  sig : ∃ a b, PV w 49 a b X
  row : X.heap[q]? = some (.cells #[.int .i64 1073741789] 117 (0, 0))
  ne : q ≠ w.heap.size
theorem RW.next {w : World} {q : Nat} {X Y : World} (h : RW w q X) (hb : Below X.heap.size X Y) : RW w q Y := by
  obtain ⟨⟨a, b, hP⟩, hr, hn⟩ := h
  exact ⟨⟨a, b, hP.next hb⟩, by rw [hb.block q (lt_of_block hr)]; exact hr, hn⟩
theorem RW.drew {w : World} {q : Nat} {X : World} (h : RW w q X) : RW w q X.drew := by
  obtain ⟨⟨a, b, hP⟩, hr, hn⟩ := h
  exact ⟨⟨a, b, hP.drew⟩, hr, hn⟩
theorem RW.two {w : World} {q : Nat} {X : World} (h : RW w q X) : X.cell? ⟨q, 0, none⟩ = some (.int .i64 1073741789) ∧ RW w q X := ⟨by rw [cell_of_row X q 0 _ _ (0, 0) h.row]; rfl, h⟩
theorem RW.set2 {w : World} {q : Nat} {a b : Value} {X : World} (h : RW w q X) (hP : PV w 49 a b X) (a' b' : Value) : RW w q ((X.setCell ⟨w.heap.size, 0, none⟩ a').setCell ⟨w.heap.size, 1, none⟩ b') :=
  ⟨⟨a', b', hP.set2 a' b'⟩, by rw [(Only.set2 X w.heap.size a' b').block q (lt_of_block h.row) h.ne]; exact h.row, h.ne⟩

set_option maxRecDepth 100000 in
set_option maxHeartbeats 1600000 in
theorem implSignText_yes (secret : Nat) (m : ByteArray) (h1 : 1 ≤ secret) (h2 : secret ≤ 1073741788) (hm : m.size ≤ 300000000) (w : World) (hK0 : LaidK w) :
    Calls Tryz.prog 75 #[.int .i64 secret, .string m] w fun e w' => e = .returned (.tuple #[.agg #[.int .i64 (signE secret m : Nat), .int .i64 (signS secret m : Nat)], .bool true]) ∧ Below w.heap.size w w' := by
  have H0 := Lib.hid (isSecret_yes (secret : Int) (by omega) (by omega))
  have k1 := implNumberText_yes secret (by omega)
  have e1 : (⟨(four secret).toArray⟩ : ByteArray) = numB secret := rfl
  rw [e1] at k1
  have z1 := numB_size secret
  have k2 := implSecretOf_any (numB secret ++ m) (by rw [ByteArray.size_append, z1]; omega)
  have hK : secretP (numB secret ++ m) = keyOfP secret m := rfl
  rw [hK] at k2
  have hk := secretP_in (numB secret ++ m)
  rw [hK] at hk
  have k3 := implPowP_any 4 (keyOfP secret m : Nat)
  rw [powI_pow (keyOfP secret m) (by omega)] at k3
  have k4 := implPublicOf_yes secret h1 h2
  have hr := powP_few 4 (keyOfP secret m)
  have hp : publicP secret < 2147483579 := powP_few 4 secret
  have k5 := implChallenge_yes (powP 4 (keyOfP secret m)) (publicP secret) m (by omega) (by omega) (by omega)
  have hE : chalP (powP 4 (keyOfP secret m)) (publicP secret) m = signE secret m := rfl
  rw [hE] at k5
  have he := signE_lt secret m
  have hS : signS secret m = (keyOfP secret m + signE secret m * secret % 1073741789) % 1073741789 := rfl
  obtain ⟨nb, NB⟩ : ∃ n, Hid (n = numB secret) := ⟨_, rfl⟩
  obtain ⟨k, K⟩ : ∃ n, Hid (n = keyOfP secret m) := ⟨_, rfl⟩
  rw [← NB.out] at k1 k2 z1
  rw [← K.out] at k2 k3 k5 hk hr hS
  obtain ⟨r, R⟩ : ∃ n, Hid (n = powP 4 k) := ⟨_, rfl⟩
  rw [← R.out] at k3 k5 hr
  obtain ⟨p, P⟩ : ∃ n, Hid (n = publicP secret) := ⟨_, rfl⟩
  rw [← P.out] at k4 k5 hp
  obtain ⟨e, E⟩ : ∃ n, Hid (n = signE secret m) := ⟨_, rfl⟩
  rw [← E.out] at k5 he hS ⊢
  have k6 := productO_any (e : Nat) (secret : Nat)
  rw [mulO_in e secret he (by omega)] at k6
  have hyl : e * secret % 1073741789 < 1073741789 := Nat.mod_lt _ (by omega)
  obtain ⟨y, Y⟩ : ∃ n, Hid (n = e * secret % 1073741789) := ⟨_, rfl⟩
  rw [← Y.out] at k6 hS hyl
  have k7 := ofO_any ((k : Int) + (y : Int))
  have ht : modO ((k : Int) + (y : Int)) = signS secret m := by
    rw [hS]
    have e : (k : Int) + (y : Int) = ((k + y : Nat) : Int) := by omega
    rw [e, modO_nat]
  rw [ht] at k7
  obtain ⟨t, TT⟩ : ∃ n, Hid (n = signS secret m) := ⟨_, rfl⟩
  rw [← TT.out] at k7 ⊢
  have hw : IntKind.i64.wrap ((k : Int) + (y : Int)) = (k : Int) + (y : Int) := by rw [IntKind.wrap_i64]; omega
  have H1 := Lib.hid k1
  have H2 := Lib.hid k2
  have H3 := Lib.hid k3
  have H4 := Lib.hid k4
  have H5 := Lib.hid k5
  have HO := Lib.hid byOrder_any
  have HK := Lib.hid hK0
  have s1 : ¬ (9223372036854775807 < nb.size + m.size) := by omega
  have V0 := Lib.hid (PV.new w 49 (.int .i64 0) (.int .i64 0))
  clear k1 k2 k3 k4 k5 hK hE hS e1 NB K R P E z1 hK0 ht Y TT hk
  go_enter Tryz.func75, Tryz.ntmps75
  go_wp2_with fail
  refine (H0.out _).mono ?_
  rintro e w1 ⟨rfl, rfl⟩
  go_wp2_with fail
  refine (H1.out _).mono ?_
  rintro e w2 ⟨rfl, hb2⟩
  have V2 := Lib.hid (V0.out.next hb2)
  clear hb2 V0
  go_wp2_with fail
  refine (H2.out _ (HK.out.stays V2.out.below (Nat.le_refl _))).mono ?_
  rintro e w3 ⟨rfl, hb3⟩
  have V3 := Lib.hid (V2.out.next hb3)
  clear hb3 V2
  go_wp2_with fail
  refine (H3.out _).mono ?_
  rintro e w4 ⟨rfl, hb4⟩
  have V4 := Lib.hid (V3.out.next hb4)
  clear hb4 V3
  go_wp2_with fail
  refine (H4.out _).mono ?_
  rintro e w5 ⟨rfl, hb5⟩
  have V5 := Lib.hid (V4.out.next hb5)
  clear hb5 V4
  go_wp2_with fail
  refine (H5.out _ (HK.out.stays V5.out.below (Nat.le_refl _))).mono ?_
  rintro e w6 ⟨rfl, hb6⟩
  have V6 := Lib.hid (V5.out.next hb6)
  clear hb6 V5
  go_wp2_with fail
  refine (HO.out _).mono ?_
  rintro e w7 ⟨rfl, hb7⟩
  have V7 := V6.out.next hb7
  have R8 : RW w w7.heap.size (w7.alloc (.cells #[.int .i64 1073741789] 117)) := ⟨⟨_, _, V7.alloc _⟩, heap_alloc_new w7 _, by have := lt_of_block V7.v.row; omega⟩
  have K6 : Hid (∀ X, (X.cell? ⟨w7.heap.size, 0, none⟩ = some (.int .i64 1073741789) ∧ RW w w7.heap.size X) → Calls Tryz.prog 97 #[.agg #[.int .i64 1073741789], .int .i64 e, .int .i64 secret] X fun x Z => x = .returned (.int .i64 y) ∧ (Z.cell? ⟨w7.heap.size, 0, none⟩ = some (.int .i64 1073741789) ∧ RW w w7.heap.size Z)) := fun X hX => by
    refine (k6 X).mono ?_
    rintro x Z ⟨rfl, hb⟩
    exact ⟨rfl, (hX.2.next hb).two⟩
  have K7 : Hid (∀ X, (X.cell? ⟨w7.heap.size, 0, none⟩ = some (.int .i64 1073741789) ∧ RW w w7.heap.size X) → Calls Tryz.prog 96 #[.agg #[.int .i64 1073741789], .int .i64 ((k : Int) + (y : Int))] X fun x Z => x = .returned (.int .i64 t) ∧ (Z.cell? ⟨w7.heap.size, 0, none⟩ = some (.int .i64 1073741789) ∧ RW w w7.heap.size Z)) := fun X hX => by
    refine (k7 X).mono ?_
    rintro x Z ⟨rfl, hb⟩
    exact ⟨rfl, (hX.2.next hb).two⟩
  clear hb7 V6 V7 k6 k7
  go_upto_region 6 with fail
  generalize w7.alloc (.cells #[.int .i64 1073741789] 117) = w8 at *
  generalize w7.heap.size = q at *
  have R9 := Lib.hid R8
  clear R8
  go_region_held3 (fun X => X.cell? ⟨q, 0, none⟩ = some (.int .i64 1073741789) ∧ RW w q X) (first | (with_reducible assumption) | (with_reducible exact (RW.drew R9.out).two)) (first | (go_at_call 97; refine (K6.out _ (by assumption)).mono ?_; rintro x v1 ⟨rfl, hS1⟩) | (go_at_call 96; refine (K7.out _ (by assumption)).mono ?_; rintro x v2 ⟨rfl, hS2⟩; obtain ⟨a', b', hP⟩ := hS2.2.sig; have c0 := hP.v.c0; have c1 := hP.v.c1; have f0 := hP.v.free 0; have f1 := hP.v.free 1; have hS5 := (hS2.2.set2 hP (.int .i64 (e : Int)) (.int .i64 (t : Int))).two; have hP5 := hP.set2 (.int .i64 (e : Int)) (.int .i64 (t : Int))))
  all_goals
    have P6 := Lib.hid hP5
    have d0 := P6.out.v.c0
    have d1 := P6.out.v.c1
    clear hP5
    go_wp2_with fail
    refine bodyPost_ret (v := .tuple #[.agg #[.int .i64 (e : Int), .int .i64 (t : Int)], .bool true]) (by simp [results, Tryz.results75, go_sem, d0, d1]) rfl ⟨rfl, P6.out.below⟩

set_option maxRecDepth 100000 in
set_option maxHeartbeats 400000 in
theorem implSignText_no (secret : Int) (m : ByteArray) (h : secret < 1 ∨ 1073741788 < secret) (w : World) :
    Calls Tryz.prog 75 #[.int .i64 secret, .string m] w fun e w' => e = .returned (.tuple #[.agg #[.int .i64 0, .int .i64 0], .bool false]) ∧ Below w.heap.size w w' := by
  have H0 := Lib.hid (isSecret_no secret h)
  have V0 := Lib.hid (PV.new w 49 (.int .i64 0) (.int .i64 0))
  have V1 := Lib.hid (V0.out.set2 (.int .i64 0) (.int .i64 0))
  have c0 := V0.out.v.c0
  have c1 := V0.out.v.c1
  have f0 := V0.out.v.free 0
  have f1 := V0.out.v.free 1
  clear h
  go_enter Tryz.func75, Tryz.ntmps75
  go_wp2_with fail
  refine (H0.out _).mono ?_
  rintro e w1 ⟨rfl, rfl⟩
  go_wp2_with fail
  refine bodyPost_ret (v := .tuple #[.agg #[.int .i64 0, .int .i64 0], .bool false]) (by simp [results, Tryz.results75, go_sem]) rfl ⟨rfl, ?_⟩
  first | exact V0.out.below | exact V1.out.below

end Go.Proofs.YtkjjdoadjhjmbauGreatDoor
