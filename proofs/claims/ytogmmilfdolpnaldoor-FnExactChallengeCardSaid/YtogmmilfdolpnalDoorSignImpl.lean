/-
  The program's secrets, challenges, signed texts and checks: what they answer.
-/
import Derived.Test.YtogmmilfdolpnalDoorSharedImpl
import Derived.Test.YtogmmilfdolpnalDoorSigImpl
import Derived.Test.YtogmmilfdolpnalDoorDigestImpl
import Derived.Test.YtogmmilfdolpnalDoorSignFns
namespace Go.Proofs.YtogmmilfdolpnalDoor
open Go.RowKit

theorem full_text (s : ByteArray) (h : 0 < s.size) : s.toList.isEmpty = false := by
  have h2 : s.data.toList.length = s.size := by simp
  rw [ByteArray.toList_eq, List.isEmpty_eq_false_iff]
  intro e
  rw [e] at h2
  simp at h2
  omega
/-- NumberText answers some text, the empty one where the number is none. -/
theorem numText_some (n : Int) : ∃ a : ByteArray, (n < 0 ∨ 4294967295 < n → a = ⟨#[]⟩) ∧ ∀ X, Calls Tryd.prog 41 #[.int .i64 n] X fun e X' => e = .returned (.string a) ∧ Below X.heap.size X X' := by
  by_cases h : n < 0 ∨ 4294967295 < n
  · exact ⟨_, fun _ => rfl, implNumberText_no n h⟩
  · obtain ⟨N, rfl⟩ : ∃ N : Nat, n = (N : Int) := ⟨n.toNat, by omega⟩
    exact ⟨_, fun h2 => absurd h2 h, implNumberText_yes N (by omega)⟩

theorem implDigS_any (s : ByteArray) (hs : s.size ≤ 500000000) (w : World) (hK : LaidK w) :
    Calls Tryd.prog 43 #[.string s] w fun e w' => e = .returned (.string (digP s)) ∧ Below w.heap.size w w' := implDigestOf_any s hs w hK

set_option maxRecDepth 100000 in
set_option maxHeartbeats 400000 in
theorem digestNumber_any (s : ByteArray) (hs : s.size ≤ 500000000) (w : World) (hK : LaidK w) :
    Calls Tryd.prog 39 #[.string s] w fun e w' => e = .returned (.int .i64 (firstP (digP s) : Nat)) ∧ Below w.heap.size w w' := by
  have k1 := implDigS_any s hs
  have k2 := textWord_head (digP s) (by rw [digP_size]; omega)
  have hF : fourBack ((digP s).extract 0 4).data.toList = firstP (digP s) := rfl
  rw [hF] at k2
  have hl := firstP_lt (digP s)
  obtain ⟨d, D⟩ : ∃ d, Hid (d = digP s) := ⟨_, rfl⟩
  rw [← D.out] at k1 k2 hl ⊢
  obtain ⟨n, N⟩ : ∃ n, Hid (n = firstP d) := ⟨_, rfl⟩
  rw [← N.out] at k2 hl ⊢
  have H1 := Lib.hid k1
  have H2 := Lib.hid k2
  have HK := Lib.hid hK
  have hw : IntKind.i64.wrap (n : Int) = (n : Int) := by rw [IntKind.wrap_i64]; omega
  clear k1 k2 hF hK
  go_enter Tryd.func39, Tryd.ntmps39
  go_wp2_with fail
  refine (H1.out _ HK.out).mono ?_
  rintro e w1 ⟨rfl, hb1⟩
  have HB1 := Lib.hid hb1
  clear hb1
  go_wp2_with fail
  refine (H2.out _).mono ?_
  rintro e w2 ⟨rfl, hb2⟩
  have HB2 := Lib.hid (HB1.out.trans (hb2.mono HB1.out.size))
  clear hb2
  go_wp2_with fail
  go_ret
  exact ⟨rfl, HB2.out⟩

set_option maxRecDepth 100000 in
set_option maxHeartbeats 400000 in
theorem implSecretOf_any (seed : ByteArray) (hs : seed.size ≤ 400000000) (w : World) (hK : LaidK w) :
    Calls Tryd.prog 15 #[.string seed] w fun e w' => e = .returned (.int .i64 (secretP seed : Nat)) ∧ Below w.heap.size w w' := by
  have z0 : (⟨#[115]⟩ : ByteArray).size = 1 := rfl
  have h1 := digestNumber_any (seed ++ (⟨#[115]⟩ : ByteArray)) (by rw [ByteArray.size_append, z0]; omega)
  have hl := firstP_lt (digP (seed ++ (⟨#[115]⟩ : ByteArray)))
  have hS : secretP seed = 1 + firstP (digP (seed ++ (⟨#[115]⟩ : ByteArray))) % 1073741788 := rfl
  obtain ⟨n, N⟩ : ∃ n, Hid (n = firstP (digP (seed ++ (⟨#[115]⟩ : ByteArray)))) := ⟨_, rfl⟩
  rw [← N.out] at h1 hl hS
  have H1 := Lib.hid h1
  have HK := Lib.hid hK
  obtain ⟨m, hm, hm2, hm3⟩ : ∃ m : Nat, (n : Int) % 1073741788 = (m : Int) ∧ (n : Int).tmod 1073741788 = (m : Int) ∧ m = n % 1073741788 := ⟨n % 1073741788, by omega, by rw [Int.tmod_eq_emod_of_nonneg (by omega)]; omega, rfl⟩
  have HS : Hid (((1 : Int) + (m : Int)) = ((secretP seed : Nat) : Int)) := by show _ = _; rw [hS]; omega
  have hml : m < 1073741788 := by omega
  have s1 : ¬ (9223372036854775807 < seed.size + 1) := by omega
  clear h1 hS N hm3 hl z0 hK
  rw [← HS.out]
  go_enter Tryd.func15, Tryd.ntmps15
  go_wp2_with fail
  refine (H1.out _ HK.out).mono ?_
  rintro e w1 ⟨rfl, hb1⟩
  have HB1 := Lib.hid hb1
  clear hb1
  go_wp2_with fail
  go_ret
  exact ⟨rfl, HB1.out⟩

set_option maxRecDepth 100000 in
set_option maxHeartbeats 400000 in
theorem implChallenge_yes (r p : Nat) (m : ByteArray) (hr : r < 4294967296) (hp : p < 4294967296) (hm : m.size ≤ 400000000) (w : World) (hK : LaidK w) :
    Calls Tryd.prog 17 #[.int .i64 r, .int .i64 p, .string m] w fun e w' => e = .returned (.int .i64 (chalP r p m : Nat)) ∧ Below w.heap.size w w' := by
  have h2 := implNumberText_yes r hr
  have h3 := implNumberText_yes p hp
  have z1 := numB_size r
  have z2 := numB_size p
  have h4 := digestNumber_any (numB r ++ numB p ++ m) (by rw [ByteArray.size_append, ByteArray.size_append, z1, z2]; omega)
  have hl := firstP_lt (digP (numB r ++ numB p ++ m))
  have hC : chalP r p m = firstP (digP (numB r ++ numB p ++ m)) % 1073741789 := rfl
  have e1 : (⟨(four r).toArray⟩ : ByteArray) = numB r := rfl
  have e2 : (⟨(four p).toArray⟩ : ByteArray) = numB p := rfl
  rw [e1] at h2
  rw [e2] at h3
  obtain ⟨a, A⟩ : ∃ d, Hid (d = numB r) := ⟨_, rfl⟩
  obtain ⟨b, B⟩ : ∃ d, Hid (d = numB p) := ⟨_, rfl⟩
  rw [← A.out] at h2 h4 hl hC z1
  rw [← B.out] at h3 h4 hl hC z2
  obtain ⟨n, N⟩ : ∃ n, Hid (n = firstP (digP (a ++ b ++ m))) := ⟨_, rfl⟩
  rw [← N.out] at h4 hl hC
  have H2 := Lib.hid h2
  have H3 := Lib.hid h3
  have H4 := Lib.hid h4
  have HK := Lib.hid hK
  obtain ⟨c, hc1, hc2, hc3⟩ : ∃ c : Nat, (n : Int) % 1073741789 = (c : Int) ∧ (n : Int).tmod 1073741789 = (c : Int) ∧ c = n % 1073741789 := ⟨n % 1073741789, by omega, by rw [Int.tmod_eq_emod_of_nonneg (by omega)]; omega, rfl⟩
  rw [hC, ← hc3]
  have q1 : a.toList.isEmpty = false := full_text a (by omega)
  have q2 : b.toList.isEmpty = false := full_text b (by omega)
  have s1 : ¬ (9223372036854775807 < a.size + b.size) := by omega
  have s2 : ¬ (9223372036854775807 < a.size + b.size + m.size) := by omega
  clear h2 h3 h4 hC e1 e2 A B N hc3 hl hK
  go_enter Tryd.func17, Tryd.ntmps17
  go_wp2_with fail
  refine (H2.out _).mono ?_
  rintro e w3 ⟨rfl, hb3⟩
  have HB3 := Lib.hid hb3
  clear hb3
  go_wp2_with fail
  refine (H3.out _).mono ?_
  rintro e w4 ⟨rfl, hb4⟩
  have HB4 := Lib.hid (HB3.out.trans (hb4.mono HB3.out.size))
  clear hb4
  go_wp2_with fail
  refine (H4.out _ (HK.out.stays HB4.out (Nat.le_refl _))).mono ?_
  rintro e w5 ⟨rfl, hb5⟩
  have HB5 := Lib.hid (HB4.out.trans (hb5.mono HB4.out.size))
  clear hb5
  go_wp2_with fail
  go_ret
  exact ⟨rfl, HB5.out⟩

set_option maxRecDepth 100000 in
set_option maxHeartbeats 400000 in
theorem implChallenge_no (r p : Int) (m : ByteArray) (h : (r < 0 ∨ 4294967295 < r) ∨ (p < 0 ∨ 4294967295 < p)) (w : World) :
    Calls Tryd.prog 17 #[.int .i64 r, .int .i64 p, .string m] w fun e w' => e = .returned (.int .i64 0) ∧ Below w.heap.size w w' := by
  obtain ⟨a, ha, ka⟩ := numText_some r
  obtain ⟨b, hb, kb⟩ := numText_some p
  have HA := Lib.hid ka
  have HB := Lib.hid kb
  clear ka kb
  by_cases h1 : r < 0 ∨ 4294967295 < r
  · obtain rfl := ha h1
    clear ha hb h h1
    go_enter Tryd.func17, Tryd.ntmps17
    go_wp2_with fail
    refine (HA.out _).mono ?_
    rintro e w3 ⟨rfl, hb3⟩
    have HB3 := Lib.hid hb3
    clear hb3
    go_wp2_with fail
    refine (HB.out _).mono ?_
    rintro e w4 ⟨rfl, hb4⟩
    have HB4 := Lib.hid (HB3.out.trans (hb4.mono HB3.out.size))
    clear hb4
    go_wp2_with fail
    go_ret
    exact ⟨rfl, HB4.out⟩
  · have h2 : p < 0 ∨ 4294967295 < p := by rcases h with h | h; · exact absurd h h1
                                           · exact h
    obtain rfl := hb h2
    obtain ⟨o, ho⟩ : ∃ o, a.toList.isEmpty = o := ⟨_, rfl⟩
    clear ha hb h h1 h2
    cases o
    all_goals
      go_enter Tryd.func17, Tryd.ntmps17
      go_wp2_with fail
      refine (HA.out _).mono ?_
      rintro e w3 ⟨rfl, hb3⟩
      have HB3 := Lib.hid hb3
      clear hb3
      go_wp2_with fail
      refine (HB.out _).mono ?_
      rintro e w4 ⟨rfl, hb4⟩
      have HB4 := Lib.hid (HB3.out.trans (hb4.mono HB3.out.size))
      clear hb4
      go_wp2_with fail
      go_ret
      exact ⟨rfl, HB4.out⟩

def mulO (a b : Int) : Nat := modO a * modO b % 1073741789
theorem mulO_in (a b : Nat) (ha : a < 1073741789) (hb : b < 1073741789) : mulO (a : Int) (b : Int) = a * b % 1073741789 := by unfold mulO; rw [modO_in a ha, modO_in b hb]
theorem prodO_lt (x y : Nat) (hx : x < 1073741789) (hy : y < 1073741789) : x * y < 9223372036854775807 := by
  have h : x * y < 1073741824 * 1073741824 := Nat.mul_lt_mul'' (by omega) (by omega)
  have e : (1073741824 * 1073741824 : Nat) = 1152921504606846976 := by decide
  omega
end Go.Proofs.YtogmmilfdolpnalDoor
