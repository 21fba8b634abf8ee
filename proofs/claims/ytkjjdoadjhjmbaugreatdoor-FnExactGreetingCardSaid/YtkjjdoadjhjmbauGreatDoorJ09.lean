/-
  The given l05Byte at every number, and the given Transcript.
  The given test of a range, by what it answers.
  The given powers modulo the prime, by what they answer.
  Who is in the group, by the given one: what it answers.
  Four bytes of a sum, as the program and as the given one lay them.
  Numbers in four bytes, by the program and by the given ones: what they answer.
  Numbers in four bytes, by the given ones: what they answer.
  A number read from four bytes, by the given one: what it answers.
  The given words of digests: turned, read of a text.
-/
import Derived.Test.YtkjjdoadjhjmbauGreatDoorJ04
import Derived.Test.YtkjjdoadjhjmbauGreatDoorJ07
import Derived.Test.YtkjjdoadjhjmbauGreatDoorRows
import Derived.Test.YtkjjdoadjhjmbauGreatDoorJ02
import Derived.Test.YtkjjdoadjhjmbauGreatDoorJ03
import Derived.Test.YtkjjdoadjhjmbauGreatDoorJ01
import Derived.Deep.RegionHeld3
import Derived.BigQuiet
import Derived.Deep.QuietTactic
import Derived.Deep.DeepCutAuto
import Derived.Deep.LoopGhost
namespace Go.Proofs.YtkjjdoadjhjmbauGreatDoor
open Go.RowKit

theorem ret_s {a b : ByteArray} (h : a = b) : Ending.returned (.string b) = .returned (.string a) := by rw [h]
theorem u8_wrap (b : UInt8) : IntKind.u8.wrap (b.toNat : Int) = (b.toNat : Int) := by
  have := b.toNat_lt
  rw [IntKind.wrap_u8]
  omega
set_option maxRecDepth 100000 in
set_option maxHeartbeats 800000 in
theorem specByteZ_any (n : Int) (hn0 : -9223372036854775808 ≤ n) (hn1 : n ≤ 9223372036854775807) (w : World) :
    Calls Tryz.prog 27 #[.int .i64 n] w fun e w' => e = .returned (.string (oneB n)) ∧ Below w.heap.size w w' := by
  have hb := byteZ_nat n
  have hr := run_string_one (P := Tryz.prog) w 85 9 5 Tryz.underlying85 Tryz.underlying5 Tryz.underlying9 (byteZ n)
  have HO : Hid (oneB n = ⟨#[byteZ n]⟩) := Lib.hid rfl
  generalize byteZ n = b at hb hr HO
  obtain ⟨m, hm⟩ : ∃ m, n.tmod 256 = m := ⟨_, rfl⟩
  have hmn : (0 ≤ m ∧ m = (b.toNat : Int)) ∨ (m < 0 ∧ m + 256 = (b.toNat : Int)) := by
    rcases Int.lt_or_le n 0 with h | h
    · have e1 : n.tmod 256 = -((-n) % 256) := by
        have h2 := Int.neg_tmod (-n) 256
        rw [Int.neg_neg] at h2
        rw [h2, Int.tmod_eq_emod_of_nonneg (by omega)]
      omega
    · have e1 : n.tmod 256 = n % 256 := Int.tmod_eq_emod_of_nonneg h
      omega
  have hb2 := b.toNat_lt
  clear hb
  rcases hmn with ⟨h1, h2⟩ | ⟨h1, h2⟩
  · have h3 : ¬ (m < 0) := by omega
    have h4 : IntKind.u8.wrap m = (b.toNat : Int) := by rw [h2]; exact u8_wrap b
    go_enter Tryz.func27, Tryz.ntmps27
    go_wp2_with fail
    go_ret
    exact ⟨ret_s HO.out, (Below.refl _ _).alloc (Nat.le_refl _) _⟩
  · have h5 : IntKind.i64.wrap (m + 256) = (b.toNat : Int) := by rw [IntKind.wrap_i64, h2]; omega
    have h4 : IntKind.u8.wrap (b.toNat : Int) = (b.toNat : Int) := u8_wrap b
    go_enter Tryz.func27, Tryz.ntmps27
    go_wp2_with fail
    go_ret
    exact ⟨ret_s HO.out, (Below.refl _ _).alloc (Nat.le_refl _) _⟩

set_option maxRecDepth 100000 in
set_option maxHeartbeats 800000 in
theorem specTranscript_any (x0 x1 x2 x3 x4 : Int) (x5 x6 : ByteArray) (h5 : x5.size ≤ 100000000) (h6 : x6.size ≤ 100000000) (w : World) :
    Calls Tryz.prog 26 #[.agg #[.int .i64 x0, .int .i64 x1, .int .i64 x2, .int .i64 x3, .int .i64 x4, .string x5, .string x6]] w fun e w' => e = .returned (.string (transB x0 x5 x6)) ∧ Below w.heap.size w w' := by
  have A0 := Lib.hid (VarA.new w GreeterT #[.int .i64 x0, .int .i64 x1, .int .i64 x2, .int .i64 x3, .int .i64 x4, .string x5, .string x6])
  have B0 := Lib.hid ((Below.refl w.heap.size w).alloc (Nat.le_refl _) (.cells #[.int .i64 x0, .int .i64 x1, .int .i64 x2, .int .i64 x3, .int .i64 x4, .string x5, .string x6] GreeterT))
  have s1 : ¬ (9223372036854775807 < x5.size + x6.size) := by omega
  have s2 : ¬ (9223372036854775807 < x6.size + x5.size) := by omega
  obtain ⟨t, HT⟩ : ∃ t, Hid (transB x0 x5 x6 = t) := ⟨_, Lib.hid rfl⟩
  rw [HT.out]
  go_enter Tryz.func26, Tryz.ntmps26
  go_upto_region 1 with fail
  generalize w.alloc (.cells #[.int .i64 x0, .int .i64 x1, .int .i64 x2, .int .i64 x3, .int .i64 x4, .string x5, .string x6] GreeterT) = Y0 at *
  have c0 : Y0.cell? ⟨w.heap.size, 0, none⟩ = some (.int .i64 x0) := A0.out.cell 0
  have c5 : Y0.cell? ⟨w.heap.size, 5, none⟩ = some (.string x5) := A0.out.cell 5
  have c6 : Y0.cell? ⟨w.heap.size, 6, none⟩ = some (.string x6) := A0.out.cell 6
  by_cases hr : x0 = 1
  · have k1 : (x0 == 1) = true := by rw [beq_iff_eq]; exact hr
    have HE : Hid (t = x5 ++ x6) := Lib.hid (by rw [← HT.out]; unfold transB; rw [if_pos hr])
    clear hr
    go_wp2_with fail
    go_ret
    exact ⟨ret_s HE.out, B0.out⟩
  · have k1 : (x0 == 1) = false := by rw [beq_eq_false_iff_ne]; exact hr
    have HE : Hid (t = x6 ++ x5) := Lib.hid (by rw [← HT.out]; unfold transB; rw [if_neg hr])
    clear hr
    go_wp2_with fail
    go_ret
    exact ⟨ret_s HE.out, B0.out⟩

end Go.Proofs.YtkjjdoadjhjmbauGreatDoor
namespace Go.Proofs.YtkjjdoadjhjmbauGreatDoor
open Go.RowKit

theorem inRange_yes (x a b : Int) (h0 : a ≤ x) (h1 : x ≤ b) (w : World) :
    Calls Tryz.prog 45 #[.int .i64 x, .int .i64 a, .int .i64 b] w fun e w' => e = .returned (.bool true) ∧ w' = w := by
  go_enter Tryz.func45, Tryz.ntmps45
  go_wp2
  go_ret
  exact ⟨rfl, rfl⟩

theorem inRange_no (x a b : Int) (h : x < a ∨ b < x) (w : World) :
    Calls Tryz.prog 45 #[.int .i64 x, .int .i64 a, .int .i64 b] w fun e w' => e = .returned (.bool false) ∧ w' = w := by
  by_cases hx : x < a
  · go_enter Tryz.func45, Tryz.ntmps45
    go_wp2
    go_ret
    exact ⟨rfl, rfl⟩
  · have h0 : a ≤ x := by omega
    have h1 : decide (x ≤ b) = false := decide_eq_false (by omega)
    clear h hx
    go_enter Tryz.func45, Tryz.ntmps45
    go_wp2
    go_ret
    exact ⟨rfl, rfl⟩

end Go.Proofs.YtkjjdoadjhjmbauGreatDoor
namespace Go.Proofs.YtkjjdoadjhjmbauGreatDoor
open Go.RowKit

/-- A product of two remainders, as the walk spells it. -/
theorem mul_mod (x y : Nat) (hx : x < prime) (hy : y < prime) : ∃ m : Nat, (x : Int) * (y : Int) = (m : Int) ∧ m < 9223372036854775807 ∧ Hid (m % 2147483579 = x * y % prime) :=
  ⟨x * y, by rw [Int.natCast_mul], prod_lt _ _ hx hy, rfl⟩

set_option maxRecDepth 100000 in
set_option maxHeartbeats 800000 in
theorem specPow_in (b : Int) (e : Nat) (he : e ≤ 2147483579) (w : World) :
    Calls Tryz.prog 47 #[.int .i64 b, .int .i64 e] w fun x w' => x = .returned (.int .i64 (powP (modP b) e : Nat)) ∧ w' = w := by
  have H1 := Lib.hid (inRange_yes (e : Int) 0 2147483579 (by omega) (by omega))
  have H2 := Lib.hid (specMod_any b)
  go_enter Tryz.func47, Tryz.ntmps47
  go_wp2_with fail
  refine (H1.out _).mono ?_
  rintro e1 w1 ⟨rfl, rfl⟩
  go_wp2_with fail
  refine (H2.out _).mono ?_
  rintro e2 w2 ⟨rfl, rfl⟩
  go_wp2_with fail
  go_loopw [0, 1, 5] (fun sv ev ov wr => ∃ (x o s : Nat), x ≤ e ∧ o < prime ∧ s < prime ∧ o * powP s x % prime = powP (modP b) e ∧ ev = .int .i64 x ∧ ov = .int .i64 o ∧ sv = .int .i64 s ∧ wr = w2) (fun _ ev _ _ => (intOf ev).toNat)
  case atStart =>
    exact ⟨e, 1, modP b, Nat.le_refl _, by decide, modP_lt _, by rw [Nat.one_mul, Nat.mod_eq_of_lt (powP_lt _ _)], rfl, rfl, rfl, rfl⟩
  case round =>
    obtain ⟨x, o, s, hxe, ho, hs, heq, rfl, rfl, rfl, rfl⟩ := hrel
    have HE := Lib.hid heq
    clear heq
    by_cases hx : x = 0
    · subst hx
      have E0 : Hid (o = powP (modP b) e) := by
        show o = _
        have := HE.out
        rw [powP_zero, Nat.mul_one, Nat.mod_eq_of_lt ho] at this
        exact this
      go_wp2
      go_ret
      exact ⟨by rw [← E0.out]; rfl, rfl⟩
    · have hx0 : 0 < (x : Int) := by omega
      obtain ⟨m2, hm2, hl2, HM2⟩ := mul_mod s s hs hs
      by_cases hodd : x % 2 = 1
      · have hr : (x : Int) % 2 = 1 := by omega
        have hr2 : (x : Int).tmod 2 = 1 := by rw [Int.tmod_eq_emod_of_nonneg (by omega)]; omega
        obtain ⟨m1, hm1, hl1, HM1⟩ := mul_mod o s ho hs
        have HS := Lib.hid hs
        have HO := Lib.hid ho
        clear hs ho
        go_wp2
        go_roundw
        case rel =>
          refine ⟨x / 2, m1 % 2147483579, m2 % 2147483579, by omega, Nat.mod_lt _ (by decide), Nat.mod_lt _ (by decide), ?_, by go_num, by go_num, by go_num, trivial⟩
          rw [HM1.out, HM2.out, ← HE.out, ← pow_step_odd o s x hodd]
        case measure => simp [intOf]; omega
      · have hr : ¬ (x : Int) % 2 = 1 := by omega
        have hr2 : ¬ (x : Int).tmod 2 = 1 := by rw [Int.tmod_eq_emod_of_nonneg (by omega)]; omega
        have HS := Lib.hid hs
        have HO := Lib.hid ho
        clear hs ho
        go_wp2
        go_roundw
        case rel =>
          refine ⟨x / 2, o, m2 % 2147483579, by omega, HO.out, Nat.mod_lt _ (by decide), ?_, by go_num, rfl, by go_num, trivial⟩
          rw [HM2.out, ← HE.out, ← pow_step_even o s x (by omega)]
        case measure => simp [intOf]; omega

set_option maxHeartbeats 400000 in
theorem specPowP_any (b e : Int) (w : World) :
    Calls Tryz.prog 47 #[.int .i64 b, .int .i64 e] w fun x w' => x = .returned (.int .i64 (powI b e : Nat)) ∧ w' = w := by
  by_cases h : 0 ≤ e ∧ e ≤ 2147483579
  · obtain ⟨n, rfl⟩ := Int.eq_ofNat_of_zero_le h.1
    have E : Hid (powI b n = powP (modP b) n) := by show powI b n = _; unfold powI; rw [if_pos h]; rfl
    rw [E.out]
    exact specPow_in b n (by omega) w
  · have E : Hid (powI b e = 0) := by show powI b e = _; unfold powI; rw [if_neg h]
    rw [E.out]
    have H1 := Lib.hid (inRange_no e 0 2147483579 (by omega))
    clear h
    go_enter Tryz.func47, Tryz.ntmps47
    go_wp2_with fail
    refine (H1.out _).mono ?_
    rintro e1 w1 ⟨rfl, rfl⟩
    go_wp2
    go_ret
    exact ⟨rfl, rfl⟩

end Go.Proofs.YtkjjdoadjhjmbauGreatDoor
namespace Go.Proofs.YtkjjdoadjhjmbauGreatDoor
open Go.RowKit

set_option maxRecDepth 100000 in
set_option maxHeartbeats 400000 in
theorem specInGroup_any (y : Int) (w : World) :
    Calls Tryz.prog 42 #[.int .i64 y] w fun x w' => x = .returned (.bool (inGroup y)) ∧ w' = w := by
  have H1 := Lib.hid (specPowP_any y 1073741789)
  unfold inGroup
  generalize powI y 1073741789 = n at H1 ⊢
  by_cases h : 2 ≤ y ∧ y ≤ 2147483578
  · have E := Lib.hid (inGroup_mid y n h.1 (by omega))
    rw [E.out]
    have H0 := Lib.hid (inRange_yes y 2 2147483578 h.1 h.2)
    clear E h
    go_enter Tryz.func42, Tryz.ntmps42
    go_wp2_with fail
    refine (H0.out _).mono ?_
    rintro e0 w0 ⟨rfl, rfl⟩
    go_wp2_with fail
    refine (H1.out _).mono ?_
    rintro e1 w1 ⟨rfl, rfl⟩
    go_wp2
    go_ret
    exact ⟨rfl, rfl⟩
  · have E : Hid (inGroupOf y n = false) := by
      show inGroupOf y n = false
      by_cases h1 : 2 ≤ y
      · exact inGroup_high y n (by omega)
      · exact inGroup_low y n h1
    rw [E.out]
    have H0 := Lib.hid (inRange_no y 2 2147483578 (by omega))
    clear E h
    go_enter Tryz.func42, Tryz.ntmps42
    go_wp2_with fail
    refine (H0.out _).mono ?_
    rintro e0 w0 ⟨rfl, rfl⟩
    go_wp2
    go_ret
    exact ⟨rfl, rfl⟩

end Go.Proofs.YtkjjdoadjhjmbauGreatDoor
namespace Go.Proofs.YtkjjdoadjhjmbauGreatDoor
open Go.RowKit

/-- The four bytes laid as one row, read as a text. -/
theorem four_read (x : Nat) (hx : x < 4294967296) (w : World) : (convert 85 9 (Value.slice (some ⟨w.heap.size, 0, none⟩) 4 4)).run Tryz.prog
    (w.alloc (.cells #[.int .u8 ((x : Int) / 16777216), .int .u8 ((x : Int) / 65536 % 256), .int .u8 ((x : Int) / 256 % 256), .int .u8 ((x : Int) % 256)] 5)) =
    .ok (.string ⟨(four x).toArray⟩) (w.alloc (.cells #[.int .u8 ((x : Int) / 16777216), .int .u8 ((x : Int) / 65536 % 256), .int .u8 ((x : Int) / 256 % 256), .int .u8 ((x : Int) % 256)] 5)) := by
  have e1 : (x : Int) / 16777216 = (((UInt8.ofNat (x / 16777216)).toNat : Nat) : Int) := by rw [UInt8.toNat_ofNat']; omega
  have e2 : (x : Int) / 65536 % 256 = (((UInt8.ofNat (x / 65536 % 256)).toNat : Nat) : Int) := by rw [UInt8.toNat_ofNat']; omega
  have e3 : (x : Int) / 256 % 256 = (((UInt8.ofNat (x / 256 % 256)).toNat : Nat) : Int) := by rw [UInt8.toNat_ofNat']; omega
  have e4 : (x : Int) % 256 = (((UInt8.ofNat (x % 256)).toNat : Nat) : Int) := by rw [UInt8.toNat_ofNat']; omega
  have h := World.ownsRow_lit (base := w.heap.size) (e := 5) (size := 1) w #[.int .u8 ((x : Int) / 16777216), .int .u8 ((x : Int) / 65536 % 256), .int .u8 ((x : Int) / 256 % 256), .int .u8 ((x : Int) % 256)] 4 (Nat.le_refl _) (by decide) rfl
  have hown : OwnB (w.alloc (.cells #[.int .u8 ((x : Int) / 16777216), .int .u8 ((x : Int) / 65536 % 256), .int .u8 ((x : Int) / 256 % 256), .int .u8 ((x : Int) % 256)] 5)) w.heap.size 5 (Value.slice (some ⟨w.heap.size, 0, none⟩) 4 4) (four x) := by
    unfold OwnB four
    simp only [Lib.byteCells, List.map_cons, List.map_nil, ← e1, ← e2, ← e3, ← e4]
    exact h
  exact run_string_own _ 85 9 5 Tryz.underlying85 Tryz.underlying5 Tryz.underlying9 _ hown

set_option maxRecDepth 100000 in
set_option maxHeartbeats 400000 in
theorem wordText_any (x : Nat) (hx : x < 4294967296) (w : World) :
    Calls Tryz.prog 108 #[.int .u32 x] w fun e w' => e = .returned (.string ⟨(four x).toArray⟩) ∧ Below w.heap.size w w' := by
  have hr := four_read x hx w
  go_enter Tryz.func108, Tryz.ntmps108
  go_wp2
  go_ret
  exact ⟨rfl, (Below.refl _ _).alloc (Nat.le_refl _) _⟩

end Go.Proofs.YtkjjdoadjhjmbauGreatDoor
namespace Go.Proofs.YtkjjdoadjhjmbauGreatDoor
open Go.RowKit

set_option maxHeartbeats 400000 in
theorem implNumberText_yes (n : Nat) (hn : n < 4294967296) (w : World) :
    Calls Tryz.prog 92 #[.int .i64 n] w fun e w' => e = .returned (.string ⟨(four n).toArray⟩) ∧ Below w.heap.size w w' := by
  have h1 : ¬ ((n : Int) < 0) := by omega
  have h2 : ¬ (4294967295 < (n : Int)) := by omega
  have h3 : (n : Int) % 4294967296 = (n : Int) := by omega
  have H1 := Lib.hid (wordText_any n hn)
  go_enter Tryz.func92, Tryz.ntmps92
  go_wp2_with fail
  refine (H1.out _).mono ?_
  rintro e1 w1 ⟨rfl, hb1⟩
  go_wp2
  go_ret
  exact ⟨rfl, hb1⟩

set_option maxHeartbeats 400000 in
theorem implNumberText_no (n : Int) (hn : n < 0 ∨ 4294967295 < n) (w : World) :
    Calls Tryz.prog 92 #[.int .i64 n] w fun e w' => e = .returned (.string ⟨#[]⟩) ∧ Below w.heap.size w w' := by
  by_cases h1 : n < 0
  · clear hn
    go_enter Tryz.func92, Tryz.ntmps92
    go_wp2
    go_ret
    exact ⟨rfl, Below.refl _ _⟩
  · have h2 : 4294967295 < n := by omega
    clear hn
    go_enter Tryz.func92, Tryz.ntmps92
    go_wp2
    go_ret
    exact ⟨rfl, Below.refl _ _⟩

set_option maxHeartbeats 400000 in
theorem implReadNumber_no (s : ByteArray) (hs : s.size ≠ 4) (w : World) :
    Calls Tryz.prog 93 #[.string s] w fun e w' => e = .returned (.tuple #[.int .i64 0, .bool false]) ∧ w' = w := by
  have h1 : ((s.size : Int) != 4) = true := bne_iff_ne.2 (by omega)
  go_enter Tryz.func93, Tryz.ntmps93
  go_wp2
  go_ret2
  exact ⟨rfl, rfl⟩

set_option maxRecDepth 100000 in
set_option maxHeartbeats 800000 in
theorem textWord_any (s : ByteArray) (hs : s.size = 4) (w : World) :
    Calls Tryz.prog 89 #[.string s] w fun e w' => e = .returned (.int .u32 (fourBack s.data.toList : Nat)) ∧ Below w.heap.size w w' := by
  obtain ⟨b0, b1, b2, b3, rfl⟩ := four_bytes s hs
  go_enter Tryz.func89, Tryz.ntmps89
  go_wp2
  go_quiet (fail)
  go_wp2
  go_ret
  exact ⟨congrArg (fun z => Ending.returned (.int .u32 z)) (word_or _ _ _ _ b0.toNat_lt b1.toNat_lt b2.toNat_lt b3.toNat_lt), below_drewN (Below.refl _ _) _⟩

set_option maxHeartbeats 400000 in
theorem implReadNumber_yes (s : ByteArray) (hs : s.size = 4) (w : World) :
    Calls Tryz.prog 93 #[.string s] w fun e w' => e = .returned (.tuple #[.int .i64 (fourBack s.data.toList : Nat), .bool true]) ∧ Below w.heap.size w w' := by
  have h1 : ((s.size : Int) != 4) = false := by rw [hs]; rfl
  have hl := fourBack_lt s.data.toList
  have H1 := Lib.hid (textWord_any s hs)
  generalize fourBack s.data.toList = n at hl H1
  go_enter Tryz.func93, Tryz.ntmps93
  go_wp2_with fail
  refine (H1.out _).mono ?_
  rintro e1 w1 ⟨rfl, hb1⟩
  go_wp2
  go_ret2
  exact ⟨ret_ib (by go_num) rfl, hb1⟩

end Go.Proofs.YtkjjdoadjhjmbauGreatDoor
namespace Go.Proofs.YtkjjdoadjhjmbauGreatDoor
open Go.RowKit

set_option maxRecDepth 100000 in
set_option maxHeartbeats 400000 in
theorem specNumberText_yes (n : Nat) (hn : n < 4294967296) (w : World) :
    Calls Tryz.prog 54 #[.int .i64 n] w fun e w' => e = .returned (.string ⟨(four n).toArray⟩) ∧ Below w.heap.size w w' := by
  have hr := four_read n hn w
  have h1 : (n : Int) / 16777216 % 256 = (n : Int) / 16777216 := by omega
  have H1 := Lib.hid (inRange_yes (n : Int) 0 4294967295 (by omega) (by omega))
  go_enter Tryz.func54, Tryz.ntmps54
  go_wp2_with fail
  refine (H1.out _).mono ?_
  rintro e1 w1 ⟨rfl, rfl⟩
  go_wp2
  go_ret
  exact ⟨rfl, (Below.refl _ _).alloc (Nat.le_refl _) _⟩

set_option maxHeartbeats 400000 in
theorem specNumberText_no (n : Int) (hn : n < 0 ∨ 4294967295 < n) (w : World) :
    Calls Tryz.prog 54 #[.int .i64 n] w fun e w' => e = .returned (.string ⟨#[]⟩) ∧ Below w.heap.size w w' := by
  have H1 := Lib.hid (inRange_no n 0 4294967295 (by omega))
  clear hn
  go_enter Tryz.func54, Tryz.ntmps54
  go_wp2_with fail
  refine (H1.out _).mono ?_
  rintro e1 w1 ⟨rfl, rfl⟩
  go_wp2
  go_ret
  exact ⟨rfl, Below.refl _ _⟩

theorem NumberText_both (n : Int) : ∃ t : ByteArray,
    (∀ w, Calls Tryz.prog 92 #[.int .i64 n] w fun e w' => e = .returned (.string t) ∧ Below w.heap.size w w') ∧
    (∀ w, Calls Tryz.prog 54 #[.int .i64 n] w fun e w' => e = .returned (.string t) ∧ Below w.heap.size w w') := by
  by_cases h : 0 ≤ n ∧ n ≤ 4294967295
  · obtain ⟨m, rfl⟩ := Int.eq_ofNat_of_zero_le h.1
    exact ⟨_, fun w => implNumberText_yes m (by omega) w, fun w => specNumberText_yes m (by omega) w⟩
  · exact ⟨_, fun w => implNumberText_no n (by omega) w, fun w => specNumberText_no n (by omega) w⟩

end Go.Proofs.YtkjjdoadjhjmbauGreatDoor
namespace Go.Proofs.YtkjjdoadjhjmbauGreatDoor
open Go.RowKit

theorem w64_in (n : Int) (h : -9223372036854775808 ≤ n ∧ n ≤ 9223372036854775807) : wrap64 n = n := by unfold wrap64; omega
theorem word_sum (a b c d : Nat) (ha : a < 256) (hb : b < 256) (hc : c < 256) (hd : d < 256) :
    wrap64 (wrap64 (wrap64 (wrap64 (wrap64 (a : Int) * 16777216) + wrap64 (wrap64 (b : Int) * 65536)) + wrap64 (wrap64 (c : Int) * 256)) + wrap64 (d : Int)) = ((a * 16777216 + b * 65536 + c * 256 + d : Nat) : Int) := by
  rw [w64_in (a : Int) (by omega), w64_in (b : Int) (by omega), w64_in (c : Int) (by omega), w64_in (d : Int) (by omega), w64_in ((a : Int) * 16777216) (by omega), w64_in ((b : Int) * 65536) (by omega), w64_in ((c : Int) * 256) (by omega), w64_in ((a : Int) * 16777216 + (b : Int) * 65536) (by omega), w64_in ((a : Int) * 16777216 + (b : Int) * 65536 + (c : Int) * 256) (by omega), w64_in ((a : Int) * 16777216 + (b : Int) * 65536 + (c : Int) * 256 + (d : Int)) (by omega)]
  omega

set_option maxHeartbeats 400000 in
theorem specReadNumber_no (s : ByteArray) (hs : s.size ≠ 4) (w : World) :
    Calls Tryz.prog 41 #[.string s] w fun e w' => e = .returned (.tuple #[.int .i64 0, .bool false]) ∧ Below w.heap.size w w' := by
  have h1 : ((s.size : Int) != 4) = true := bne_iff_ne.2 (by omega)
  go_enter Tryz.func41, Tryz.ntmps41
  go_wp2
  go_ret2
  exact ⟨rfl, Below.refl _ _⟩

set_option maxRecDepth 100000 in
set_option maxHeartbeats 800000 in
theorem specReadNumber_yes (s : ByteArray) (hs : s.size = 4) (w : World) :
    Calls Tryz.prog 41 #[.string s] w fun e w' => e = .returned (.tuple #[.int .i64 (fourBack s.data.toList : Nat), .bool true]) ∧ Below w.heap.size w w' := by
  obtain ⟨b0, b1, b2, b3, rfl⟩ := four_bytes s hs
  have h1 : (((⟨#[b0, b1, b2, b3]⟩ : ByteArray).size : Int) != 4) = false := by rfl
  have l0 := b0.toNat_lt
  have l1 := b1.toNat_lt
  have l2 := b2.toNat_lt
  have l3 := b3.toNat_lt
  go_enter Tryz.func41, Tryz.ntmps41
  go_wp2
  go_quiet (fail)
  go_wp2
  go_ret2
  exact ⟨ret_ib (word_sum _ _ _ _ b0.toNat_lt b1.toNat_lt b2.toNat_lt b3.toNat_lt) rfl, below_drewN (Below.refl _ _) _⟩

theorem ReadNumber_both (s : ByteArray) : ∃ (n : Int) (b : Bool),
    (∀ w, Calls Tryz.prog 93 #[.string s] w fun e w' => e = .returned (.tuple #[.int .i64 n, .bool b]) ∧ Below w.heap.size w w') ∧
    (∀ w, Calls Tryz.prog 41 #[.string s] w fun e w' => e = .returned (.tuple #[.int .i64 n, .bool b]) ∧ Below w.heap.size w w') := by
  by_cases h : s.size = 4
  · exact ⟨_, _, fun w => implReadNumber_yes s h w, fun w => specReadNumber_yes s h w⟩
  · exact ⟨_, _, fun w => (implReadNumber_no s h w).mono fun e w' ⟨he, hw⟩ => ⟨he, by rw [hw]; exact Below.refl _ _⟩, fun w => specReadNumber_no s h w⟩

end Go.Proofs.YtkjjdoadjhjmbauGreatDoor
namespace Go.Proofs.YtkjjdoadjhjmbauGreatDoor
open Go.RowKit

set_option maxRecDepth 100000 in
set_option maxHeartbeats 400000 in
theorem specRight_any (x low high : Nat) (hx : x < 4294967296) (h0 : 0 < low) (hlh : low * high = 4294967296) (w : World) :
    Calls Tryz.prog 110 #[.int .u32 x, .int .u32 low, .int .u32 high] w fun e w' => e = .returned (.int .u32 (right x low high : Nat)) ∧ Below w.heap.size w w' := by
  have hl0 : ¬ (low : Int) = 0 := by omega
  go_enter Tryz.func110, Tryz.ntmps110
  go_wp2
  go_quiet (fail)
  go_wp2
  go_ret
  refine ⟨congrArg (fun z => Ending.returned (.int .u32 z)) ?_, below_drewN (Below.refl _ _) _⟩
  obtain ⟨p1, p2, p3⟩ := right_parts x low high hx h0 hlh
  have p4 := right_lt x low high hx h0 hlh
  have e1 : (x : Int) / (low : Int) = ((x / low : Nat) : Int) := by rw [Int.natCast_ediv]
  have e2 : (x : Int) % (low : Int) * (high : Int) = ((x % low * high : Nat) : Int) := by rw [Int.natCast_mul, Int.natCast_emod]
  rw [e1, e2]
  unfold right at p4 ⊢
  generalize x / low = q at *
  generalize x % low * high = r at *
  omega

/-- A place behind another one, as a number of its own. -/
theorem place (k j n : Nat) (h : k + j < n) (hn : n ≤ 1099511627776) : ∃ m : Nat, (k : Int) + (j : Int) = (m : Int) ∧ IntKind.i64.wrap (m : Int) = (m : Int) ∧ (m : Int) < (n : Int) ∧ Hid (m = k + j) :=
  ⟨k + j, by omega, by rw [IntKind.wrap_i64]; omega, by omega, rfl⟩

theorem byte_getD (s : ByteArray) (k : Nat) (h : k < s.size) : s.data.toList.getD k 0 = s[k] := by
  rw [List.getD_eq_getElem?_getD, List.getElem?_eq_getElem (by simpa using h)]
  rfl

theorem word_mul (a b c d : Nat) (ha : a < 256) (hb : b < 256) (hc : c < 256) (hd : d < 256) :
    (((a : Int) % 4294967296 * 16777216 + (b : Int) % 4294967296 * 65536 + (c : Int) % 4294967296 * 256) % 4294967296 + (d : Int) % 4294967296) % 4294967296 = ((a * 16777216 + b * 65536 + c * 256 + d : Nat) : Int) := by
  omega

set_option maxRecDepth 100000 in
set_option maxHeartbeats 800000 in
theorem specWord_any (s : ByteArray) (k : Nat) (hk : k + 3 < s.size) (hs : s.size ≤ 1099511627776) (w : World) :
    Calls Tryz.prog 102 #[.string s, .int .i64 k] w fun e w' => e = .returned (.int .u32 (wordAt s.data.toList k : Nat)) ∧ Below w.heap.size w w' := by
  have h0 : (k : Int) < (s.size : Int) := by omega
  obtain ⟨k1, a1, b1, c1, K1⟩ := place k 1 s.size (by omega) hs
  obtain ⟨k2, a2, b2, c2, K2⟩ := place k 2 s.size (by omega) hs
  obtain ⟨k3, a3, b3, c3, K3⟩ := place k 3 s.size (by omega) hs
  have a1' : (k : Int) + 1 = (k1 : Int) := a1
  have a2' : (k : Int) + 2 = (k2 : Int) := a2
  have a3' : (k : Int) + 3 = (k3 : Int) := a3
  clear a1 a2 a3
  go_enter Tryz.func102, Tryz.ntmps102
  go_wp2
  go_quiet (fail)
  go_wp2
  go_ret
  refine ⟨congrArg (fun z => Ending.returned (.int .u32 z)) ?_, below_drewN (Below.refl _ _) _⟩
  have q0 := byte_getD s k (by omega)
  have q1 := byte_getD s k1 (by omega)
  have q2 := byte_getD s k2 (by omega)
  have q3 := byte_getD s k3 (by omega)
  unfold wordAt fourNum
  rw [← K1.out, ← K2.out, ← K3.out, q0, q1, q2, q3]
  exact word_mul _ _ _ _ (UInt8.toNat_lt _) (UInt8.toNat_lt _) (UInt8.toNat_lt _) (UInt8.toNat_lt _)

set_option maxRecDepth 100000 in
set_option maxHeartbeats 800000 in
theorem specS_any (x a b c : Nat) (last : Bool) (hx : x < 4294967296) (ha : Halves a) (hb : Halves b) (hc : Halves c) (w : World) :
    Calls Tryz.prog 103 #[.int .u32 x, .int .u32 a, .int .u32 b, .int .u32 c, .bool last] w fun e w' => e = .returned (.int .u32 (sgm x a b c last : Nat)) ∧ Below w.heap.size w w' := by
  obtain ⟨qa, fa, ga, QA⟩ := ha.part
  obtain ⟨qb, fb, gb, QB⟩ := hb.part
  obtain ⟨qc, fc, gc, QC⟩ := hc.part
  have H1 := Lib.hid (specRight_any x a (qa * 2) hx ha.1 (by rw [QA.out]; exact ha.2.2))
  have H2 := Lib.hid (specRight_any x b (qb * 2) hx hb.1 (by rw [QB.out]; exact hb.2.2))
  have H3 := Lib.hid (specRight_any x c (qc * 2) hx hc.1 (by rw [QC.out]; exact hc.2.2))
  have e1 : sgm x a b c last = right x a (qa * 2) ^^^ right x b (qb * 2) ^^^ (if last then x / c else right x c (qc * 2)) := by rw [QA.out, QB.out, QC.out]; rfl
  have l1 := right_lt x a (qa * 2) hx ha.1 (by rw [QA.out]; exact ha.2.2)
  have l2 := right_lt x b (qb * 2) hx hb.1 (by rw [QB.out]; exact hb.2.2)
  have l3 := right_lt x c (qc * 2) hx hc.1 (by rw [QC.out]; exact hc.2.2)
  rw [e1]
  have a0 : ¬ (a : Int) = 0 := by have := ha.1; omega
  have b0 : ¬ (b : Int) = 0 := by have := hb.1; omega
  have c0 : ¬ (c : Int) = 0 := by have := hc.1; omega
  generalize right x a (qa * 2) = ra at *
  generalize right x b (qb * 2) = rb at *
  generalize right x c (qc * 2) = rc at *
  obtain ⟨xc, hxc, lxc, XC⟩ : ∃ q : Nat, (x : Int) / (c : Int) = (q : Int) ∧ q < 4294967296 ∧ Hid (q = x / c) := ⟨x / c, by rw [Int.natCast_ediv], Nat.lt_of_le_of_lt (Nat.div_le_self _ _) hx, rfl⟩
  rw [← XC.out]
  have lx1 : ra ^^^ rb < 4294967296 := Nat.xor_lt_two_pow (n := 32) l1 l2
  have x1 := xor_u32 ra rb l1 l2
  have x2 := xor_u32 (ra ^^^ rb) rc lx1 l3
  have x3 := xor_u32 (ra ^^^ rb) xc lx1 lxc
  have w1 : ((qa * 2 : Nat) : Int) = (qa : Int) * 2 := by omega
  have w2 : ((qb * 2 : Nat) : Int) = (qb : Int) * 2 := by omega
  have w3 : ((qc * 2 : Nat) : Int) = (qc : Int) * 2 := by omega
  rw [w1] at H1
  rw [w2] at H2
  rw [w3] at H3
  clear w1 w2 w3 e1 ha hb hc
  go_enter Tryz.func103, Tryz.ntmps103
  go_wp2_with fail
  refine (H1.out _).mono ?_
  rintro e w4 ⟨rfl, hb4⟩
  go_wp2_with fail
  refine (H2.out _).mono ?_
  rintro e w5 ⟨rfl, hb5⟩
  have HB5 := Lib.hid (hb4.trans (hb5.mono hb4.size))
  clear hb4 hb5
  cases last with
  | true =>
    go_wp2_with fail
    go_ret
    exact ⟨rfl, HB5.out⟩
  | false =>
    go_wp2_with fail
    refine (H3.out _).mono ?_
    rintro e w6 ⟨rfl, hb6⟩
    go_wp2_with fail
    go_ret
    exact ⟨rfl, HB5.out.trans (hb6.mono HB5.out.size)⟩

end Go.Proofs.YtkjjdoadjhjmbauGreatDoor
