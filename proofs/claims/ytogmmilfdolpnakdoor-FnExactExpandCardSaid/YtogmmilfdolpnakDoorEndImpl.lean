/-
  The program's ending of a text: what it is filled up with.
-/
import Derived.Test.YtogmmilfdolpnakDoorStateImpl
import Derived.Lib.Repeat
namespace Go.Proofs.YtogmmilfdolpnakDoor
open Go.RowKit

theorem bytes_mk (a b : List UInt8) : (⟨a.toArray⟩ : ByteArray) ++ ⟨b.toArray⟩ = ⟨(a ++ b).toArray⟩ := by
  apply ByteArray.ext
  simp
/-- The ending of a text of n bytes. -/
def endL (n : Nat) : List UInt8 := [128] ++ List.replicate (zerosFor (n % 64)) 0 ++ beUp (8 * n) 8
theorem tailOf_end (rest : List UInt8) (n : Nat) (h : rest.length = n % 64) : tailOf rest n = rest ++ endL n := by
  unfold tailOf endL
  rw [h]
  simp only [List.append_assoc]
theorem be_two (m : Nat) (h : m < 18446744073709551616) : beUp m 8 = four (m / 4294967296) ++ four (m % 4294967296) := by
  have e : beUp m 8 = [UInt8.ofNat (m / 256 ^ 7 % 256), UInt8.ofNat (m / 256 ^ 6 % 256), UInt8.ofNat (m / 256 ^ 5 % 256), UInt8.ofNat (m / 256 ^ 4 % 256), UInt8.ofNat (m / 256 ^ 3 % 256), UInt8.ofNat (m / 256 ^ 2 % 256), UInt8.ofNat (m / 256 ^ 1 % 256), UInt8.ofNat (m / 256 ^ 0 % 256)] := rfl
  rw [e]
  unfold four
  have e7 : m / 256 ^ 7 % 256 = m / 4294967296 / 16777216 := by omega
  have e6 : m / 256 ^ 6 % 256 = m / 4294967296 / 65536 % 256 := by omega
  have e5 : m / 256 ^ 5 % 256 = m / 4294967296 / 256 % 256 := by omega
  have e4 : m / 256 ^ 4 % 256 = m / 4294967296 % 256 := by omega
  have e3 : m / 256 ^ 3 % 256 = m % 4294967296 / 16777216 := by omega
  have e2 : m / 256 ^ 2 % 256 = m % 4294967296 / 65536 % 256 := by omega
  have e1 : m / 256 ^ 1 % 256 = m % 4294967296 / 256 % 256 := by omega
  have e0 : m / 256 ^ 0 % 256 = m % 4294967296 % 256 := by omega
  rw [e7, e6, e5, e4, e3, e2, e1, e0]
  rfl

set_option maxRecDepth 100000 in
set_option maxHeartbeats 800000 in
theorem endingOf_any (n : Nat) (hn : n ≤ 1152921504606846975) (w : World) :
    Calls Tryd.prog 28 #[.int .i64 n] w fun e w' => e = .returned (.string ⟨(endL n).toArray⟩) ∧ Below w.heap.size w w' := by
  obtain ⟨r, r1, r2, R⟩ : ∃ r : Nat, (n : Int) % 64 = (r : Int) ∧ r < 64 ∧ Hid (r = n % 64) := ⟨n % 64, by omega, by omega, rfl⟩
  obtain ⟨z, z1, z2, Z⟩ : ∃ z : Nat, (120 - ((r : Int) + 1)) % 64 = (z : Int) ∧ z < 64 ∧ Hid (z = zerosFor (n % 64)) := ⟨zerosFor r, by unfold zerosFor; omega, by unfold zerosFor; omega, by show _ = _; rw [R.out]⟩
  obtain ⟨m, m1, M⟩ : ∃ m : Nat, (n : Int) * 8 = (m : Int) ∧ Hid (m = 8 * n) := ⟨8 * n, by omega, rfl⟩
  have ml : m < 18446744073709551616 := by have := M.out; omega
  have H1 := Lib.hid (Tryd.strings_Repeat ⟨#[0]⟩ z · (by omega) (by show 1 * z ≤ _; omega))
  obtain ⟨hi, h1, h2, h3, HI⟩ : ∃ hi : Nat, (m : Int) / 4294967296 = (hi : Int) ∧ hi < 4294967296 ∧ (hi : Int) % 4294967296 = (hi : Int) ∧ Hid (hi = m / 4294967296) := ⟨m / 4294967296, by omega, by omega, by omega, rfl⟩
  obtain ⟨lo, l1, l2, LO⟩ : ∃ lo : Nat, (m : Int) % 4294967296 = (lo : Int) ∧ lo < 4294967296 ∧ Hid (lo = m % 4294967296) := ⟨m % 4294967296, by omega, by omega, rfl⟩
  have H2 := Lib.hid (wordText_any hi h2)
  have H3 := Lib.hid (wordText_any lo l2)
  have HE : Hid (endL n = [128] ++ List.replicate z 0 ++ four hi ++ four lo) := by
    show _ = _
    unfold endL
    rw [be_two (8 * n) (by omega), Z.out, HI.out, LO.out, M.out]
    simp only [List.append_assoc]
  have e0 : Lib.repeatL [(0 : UInt8)] z = List.replicate z 0 := by
    have := Lib.repeatL_replicate 0 1 z
    rw [Nat.mul_one] at this
    exact this
  obtain ⟨zs, s0, ZS⟩ : ∃ b : ByteArray, b.size = z ∧ Hid (b = ⟨(List.replicate z (0 : UInt8)).toArray⟩) := ⟨_, by show (List.replicate z (0 : UInt8)).toArray.size = z; simp, rfl⟩
  obtain ⟨b1, s1, BB1⟩ : ∃ b : ByteArray, b.size = 4 ∧ Hid (b = ⟨(four hi).toArray⟩) := ⟨_, rfl, rfl⟩
  obtain ⟨b2, s2, BB2⟩ : ∃ b : ByteArray, b.size = 4 ∧ Hid (b = ⟨(four lo).toArray⟩) := ⟨_, rfl, rfl⟩
  have E0 : Hid (∀ x, Calls Tryd.prog 44 #[.string ⟨#[0]⟩, .int .i64 z] x fun e w' => e = .returned (.string zs) ∧ Below x.heap.size x w') := fun x => by
    have := H1.out x
    rw [e0, ← ZS.out] at this
    exact this
  rw [← BB1.out] at H2
  rw [← BB2.out] at H3
  have t0 : (⟨#[128]⟩ : ByteArray).size = 1 := rfl
  clear H1 e0
  go_enter Tryd.func28, Tryd.ntmps28
  go_wp2_with fail
  refine (E0.out _).mono ?_
  rintro e w1 ⟨rfl, hb1⟩
  have HB1 := Lib.hid hb1
  clear hb1
  go_wp2_with fail
  refine (H2.out _).mono ?_
  rintro e w2 ⟨rfl, hb2⟩
  have HB2 := Lib.hid (HB1.out.trans (hb2.mono HB1.out.size))
  clear hb2
  go_wp2_with fail
  refine (H3.out _).mono ?_
  rintro e w3 ⟨rfl, hb3⟩
  have HB3 := Lib.hid (HB2.out.trans (hb3.mono HB2.out.size))
  clear hb3
  go_wp2_with fail
  go_ret
  refine ⟨congrArg (fun z => Ending.returned (.string z)) ?_, HB3.out⟩
  rw [HE.out, ← bytes_mk, ← bytes_mk, ← bytes_mk, ZS.out, BB1.out, BB2.out]

end Go.Proofs.YtogmmilfdolpnakDoor
