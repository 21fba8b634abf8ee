/-
  The given l05Byte at every number, and the given Transcript.
  The given test of a range, by what it answers.
  The given powers modulo the prime, by what they answer.
  Who is in the group, by the given one: what it answers.
  Four bytes of a sum, as the program and as the given one lay them.
  Numbers in four bytes, by the program and by the given ones: what they answer.
  Numbers in four bytes, by the given ones: what they answer.
  A number read from four bytes, by the given one: what it answers.
-/
import Derived.Test.YtkjjdoadjhjmbatDoorJ05
import Derived.Test.YtkjjdoadjhjmbatDoorJ10
import Derived.Test.YtkjjdoadjhjmbatDoorRows
import Derived.Test.YtkjjdoadjhjmbatDoorJ03
import Derived.Test.YtkjjdoadjhjmbatDoorJ01
import Derived.Test.YtkjjdoadjhjmbatDoorJ07
import Derived.Deep.RegionHeld3
import Derived.BigQuiet
import Derived.Deep.QuietTactic
import Derived.Deep.DeepCutAuto
namespace Go.Proofs.YtkjjdoadjhjmbatDoor
open Go.RowKit

theorem ret_s {a b : ByteArray} (h : a = b) : Ending.returned (.string b) = .returned (.string a) := by rw [h]
theorem u8_wrap (b : UInt8) : IntKind.u8.wrap (b.toNat : Int) = (b.toNat : Int) := by
  have := b.toNat_lt
  rw [IntKind.wrap_u8]
  omega
set_option maxRecDepth 100000 in
set_option maxHeartbeats 800000 in
theorem specByteZ_any (n : Int) (hn0 : -9223372036854775808 ≤ n) (hn1 : n ≤ 9223372036854775807) (w : World) :
    Calls Tryd.prog 35 #[.int .i64 n] w fun e w' => e = .returned (.string (oneB n)) ∧ Below w.heap.size w w' := by
  have hb := byteZ_nat n
  have hr := run_string_one (P := Tryd.prog) w 81 9 5 Tryd.underlying81 Tryd.underlying5 Tryd.underlying9 (byteZ n)
  have HO : Hid (oneB n = ⟨#[byteZ n]⟩) := Lib.hid rfl
  generalize byteZ n = b at hb hr HO
  obtain ⟨m, hm⟩ : ∃ m, n.tmod 256 = m := ⟨_, rfl⟩
  have hmn : (0 ≤ m ∧ m = (b.toNat : Int)) ∨ (m < 0 ∧ m + 256 = (b.toNat : Int)) := by
    rcases Int.lt_or_le n 0 with h | h
    · have e1 : n.tmod 256 = -((-n) % 256) := by
        have h2 := Int.neg_tmod (-n) 256
        rw [Int.neg_neg] at h2
        rw [h2, Int.tmod_eq_emod_of_nonneg (by omega)]
      omega
    · have e1 : n.tmod 256 = n % 256 := Int.tmod_eq_emod_of_nonneg h
      omega
  have hb2 := b.toNat_lt
  clear hb
  rcases hmn with ⟨h1, h2⟩ | ⟨h1, h2⟩
  · have h3 : ¬ (m < 0) := by omega
    have h4 : IntKind.u8.wrap m = (b.toNat : Int) := by rw [h2]; exact u8_wrap b
    go_enter Tryd.func35, Tryd.ntmps35
    go_wp2_with fail
    go_ret
    exact ⟨ret_s HO.out, (Below.refl _ _).alloc (Nat.le_refl _) _⟩
  · have h5 : IntKind.i64.wrap (m + 256) = (b.toNat : Int) := by rw [IntKind.wrap_i64, h2]; omega
    have h4 : IntKind.u8.wrap (b.toNat : Int) = (b.toNat : Int) := u8_wrap b
    go_enter Tryd.func35, Tryd.ntmps35
    go_wp2_with fail
    go_ret
    exact ⟨ret_s HO.out, (Below.refl _ _).alloc (Nat.le_refl _) _⟩

set_option maxRecDepth 100000 in
set_option maxHeartbeats 800000 in
theorem specTranscript_any (x0 x1 x2 x3 x4 : Int) (x5 x6 : ByteArray) (h5 : x5.size ≤ 100000000) (h6 : x6.size ≤ 100000000) (w : World) :
    Calls Tryd.prog 34 #[.agg #[.int .i64 x0, .int .i64 x1, .int .i64 x2, .int .i64 x3, .int .i64 x4, .string x5, .string x6]] w fun e w' => e = .returned (.string (transB x0 x5 x6)) ∧ Below w.heap.size w w' := by
  have A0 := Lib.hid (VarA.new w GreeterT #[.int .i64 x0, .int .i64 x1, .int .i64 x2, .int .i64 x3, .int .i64 x4, .string x5, .string x6])
  have B0 := Lib.hid ((Below.refl w.heap.size w).alloc (Nat.le_refl _) (.cells #[.int .i64 x0, .int .i64 x1, .int .i64 x2, .int .i64 x3, .int .i64 x4, .string x5, .string x6] GreeterT))
  have s1 : ¬ (9223372036854775807 < x5.size + x6.size) := by omega
  have s2 : ¬ (9223372036854775807 < x6.size + x5.size) := by omega
  obtain ⟨t, HT⟩ : ∃ t, Hid (transB x0 x5 x6 = t) := ⟨_, Lib.hid rfl⟩
  rw [HT.out]
  go_enter Tryd.func34, Tryd.ntmps34
  go_upto_region 1 with fail
  generalize w.alloc (.cells #[.int .i64 x0, .int .i64 x1, .int .i64 x2, .int .i64 x3, .int .i64 x4, .string x5, .string x6] GreeterT) = Y0 at *
  have c0 : Y0.cell? ⟨w.heap.size, 0, none⟩ = some (.int .i64 x0) := A0.out.cell 0
  have c5 : Y0.cell? ⟨w.heap.size, 5, none⟩ = some (.string x5) := A0.out.cell 5
  have c6 : Y0.cell? ⟨w.heap.size, 6, none⟩ = some (.string x6) := A0.out.cell 6
  by_cases hr : x0 = 1
  · have k1 : (x0 == 1) = true := by rw [beq_iff_eq]; exact hr
    have HE : Hid (t = x5 ++ x6) := Lib.hid (by rw [← HT.out]; unfold transB; rw [if_pos hr])
    clear hr
    go_wp2_with fail
    go_ret
    exact ⟨ret_s HE.out, B0.out⟩
  · have k1 : (x0 == 1) = false := by rw [beq_eq_false_iff_ne]; exact hr
    have HE : Hid (t = x6 ++ x5) := Lib.hid (by rw [← HT.out]; unfold transB; rw [if_neg hr])
    clear hr
    go_wp2_with fail
    go_ret
    exact ⟨ret_s HE.out, B0.out⟩

end Go.Proofs.YtkjjdoadjhjmbatDoor
namespace Go.Proofs.YtkjjdoadjhjmbatDoor
open Go.RowKit

theorem inRange_yes (x a b : Int) (h0 : a ≤ x) (h1 : x ≤ b) (w : World) :
    Calls Tryd.prog 28 #[.int .i64 x, .int .i64 a, .int .i64 b] w fun e w' => e = .returned (.bool true) ∧ w' = w := by
  go_enter Tryd.func28, Tryd.ntmps28
  go_wp2
  go_ret
  exact ⟨rfl, rfl⟩

theorem inRange_no (x a b : Int) (h : x < a ∨ b < x) (w : World) :
    Calls Tryd.prog 28 #[.int .i64 x, .int .i64 a, .int .i64 b] w fun e w' => e = .returned (.bool false) ∧ w' = w := by
  by_cases hx : x < a
  · go_enter Tryd.func28, Tryd.ntmps28
    go_wp2
    go_ret
    exact ⟨rfl, rfl⟩
  · have h0 : a ≤ x := by omega
    have h1 : decide (x ≤ b) = false := decide_eq_false (by omega)
    clear h hx
    go_enter Tryd.func28, Tryd.ntmps28
    go_wp2
    go_ret
    exact ⟨rfl, rfl⟩

end Go.Proofs.YtkjjdoadjhjmbatDoor
namespace Go.Proofs.YtkjjdoadjhjmbatDoor
open Go.RowKit

/-- A product of two remainders, as the walk spells it. -/
theorem mul_mod (x y : Nat) (hx : x < prime) (hy : y < prime) : ∃ m : Nat, (x : Int) * (y : Int) = (m : Int) ∧ m < 9223372036854775807 ∧ Hid (m % 2147483579 = x * y % prime) :=
  ⟨x * y, by rw [Int.natCast_mul], prod_lt _ _ hx hy, rfl⟩

set_option maxRecDepth 100000 in
set_option maxHeartbeats 800000 in
theorem specPow_in (b : Int) (e : Nat) (he : e ≤ 2147483579) (w : World) :
    Calls Tryd.prog 53 #[.int .i64 b, .int .i64 e] w fun x w' => x = .returned (.int .i64 (powP (modP b) e : Nat)) ∧ w' = w := by
  have H1 := Lib.hid (inRange_yes (e : Int) 0 2147483579 (by omega) (by omega))
  have H2 := Lib.hid (specMod_any b)
  go_enter Tryd.func53, Tryd.ntmps53
  go_wp2_with fail
  refine (H1.out _).mono ?_
  rintro e1 w1 ⟨rfl, rfl⟩
  go_wp2_with fail
  refine (H2.out _).mono ?_
  rintro e2 w2 ⟨rfl, rfl⟩
  go_wp2_with fail
  go_loopw [0, 1, 5] (fun sv ev ov wr => ∃ (x o s : Nat), x ≤ e ∧ o < prime ∧ s < prime ∧ o * powP s x % prime = powP (modP b) e ∧ ev = .int .i64 x ∧ ov = .int .i64 o ∧ sv = .int .i64 s ∧ wr = w2) (fun _ ev _ _ => (intOf ev).toNat)
  case atStart =>
    exact ⟨e, 1, modP b, Nat.le_refl _, by decide, modP_lt _, by rw [Nat.one_mul, Nat.mod_eq_of_lt (powP_lt _ _)], rfl, rfl, rfl, rfl⟩
  case round =>
    obtain ⟨x, o, s, hxe, ho, hs, heq, rfl, rfl, rfl, rfl⟩ := hrel
    have HE := Lib.hid heq
    clear heq
    by_cases hx : x = 0
    · subst hx
      have E0 : Hid (o = powP (modP b) e) := by
        show o = _
        have := HE.out
        rw [powP_zero, Nat.mul_one, Nat.mod_eq_of_lt ho] at this
        exact this
      go_wp2
      go_ret
      exact ⟨by rw [← E0.out]; rfl, rfl⟩
    · have hx0 : 0 < (x : Int) := by omega
      obtain ⟨m2, hm2, hl2, HM2⟩ := mul_mod s s hs hs
      by_cases hodd : x % 2 = 1
      · have hr : (x : Int) % 2 = 1 := by omega
        have hr2 : (x : Int).tmod 2 = 1 := by rw [Int.tmod_eq_emod_of_nonneg (by omega)]; omega
        obtain ⟨m1, hm1, hl1, HM1⟩ := mul_mod o s ho hs
        have HS := Lib.hid hs
        have HO := Lib.hid ho
        clear hs ho
        go_wp2
        go_roundw
        case rel =>
          refine ⟨x / 2, m1 % 2147483579, m2 % 2147483579, by omega, Nat.mod_lt _ (by decide), Nat.mod_lt _ (by decide), ?_, by go_num, by go_num, by go_num, trivial⟩
          rw [HM1.out, HM2.out, ← HE.out, ← pow_step_odd o s x hodd]
        case measure => simp [intOf]; omega
      · have hr : ¬ (x : Int) % 2 = 1 := by omega
        have hr2 : ¬ (x : Int).tmod 2 = 1 := by rw [Int.tmod_eq_emod_of_nonneg (by omega)]; omega
        have HS := Lib.hid hs
        have HO := Lib.hid ho
        clear hs ho
        go_wp2
        go_roundw
        case rel =>
          refine ⟨x / 2, o, m2 % 2147483579, by omega, HO.out, Nat.mod_lt _ (by decide), ?_, by go_num, rfl, by go_num, trivial⟩
          rw [HM2.out, ← HE.out, ← pow_step_even o s x (by omega)]
        case measure => simp [intOf]; omega

set_option maxHeartbeats 400000 in
theorem specPowP_any (b e : Int) (w : World) :
    Calls Tryd.prog 53 #[.int .i64 b, .int .i64 e] w fun x w' => x = .returned (.int .i64 (powI b e : Nat)) ∧ w' = w := by
  by_cases h : 0 ≤ e ∧ e ≤ 2147483579
  · obtain ⟨n, rfl⟩ := Int.eq_ofNat_of_zero_le h.1
    have E : Hid (powI b n = powP (modP b) n) := by show powI b n = _; unfold powI; rw [if_pos h]; rfl
    rw [E.out]
    exact specPow_in b n (by omega) w
  · have E : Hid (powI b e = 0) := by show powI b e = _; unfold powI; rw [if_neg h]
    rw [E.out]
    have H1 := Lib.hid (inRange_no e 0 2147483579 (by omega))
    clear h
    go_enter Tryd.func53, Tryd.ntmps53
    go_wp2_with fail
    refine (H1.out _).mono ?_
    rintro e1 w1 ⟨rfl, rfl⟩
    go_wp2
    go_ret
    exact ⟨rfl, rfl⟩

end Go.Proofs.YtkjjdoadjhjmbatDoor
namespace Go.Proofs.YtkjjdoadjhjmbatDoor
open Go.RowKit

set_option maxRecDepth 100000 in
set_option maxHeartbeats 400000 in
theorem specInGroup_any (y : Int) (w : World) :
    Calls Tryd.prog 29 #[.int .i64 y] w fun x w' => x = .returned (.bool (inGroup y)) ∧ w' = w := by
  have H1 := Lib.hid (specPowP_any y 1073741789)
  unfold inGroup
  generalize powI y 1073741789 = n at H1 ⊢
  by_cases h : 2 ≤ y ∧ y ≤ 2147483578
  · have E := Lib.hid (inGroup_mid y n h.1 (by omega))
    rw [E.out]
    have H0 := Lib.hid (inRange_yes y 2 2147483578 h.1 h.2)
    clear E h
    go_enter Tryd.func29, Tryd.ntmps29
    go_wp2_with fail
    refine (H0.out _).mono ?_
    rintro e0 w0 ⟨rfl, rfl⟩
    go_wp2_with fail
    refine (H1.out _).mono ?_
    rintro e1 w1 ⟨rfl, rfl⟩
    go_wp2
    go_ret
    exact ⟨rfl, rfl⟩
  · have E : Hid (inGroupOf y n = false) := by
      show inGroupOf y n = false
      by_cases h1 : 2 ≤ y
      · exact inGroup_high y n (by omega)
      · exact inGroup_low y n h1
    rw [E.out]
    have H0 := Lib.hid (inRange_no y 2 2147483578 (by omega))
    clear E h
    go_enter Tryd.func29, Tryd.ntmps29
    go_wp2_with fail
    refine (H0.out _).mono ?_
    rintro e0 w0 ⟨rfl, rfl⟩
    go_wp2
    go_ret
    exact ⟨rfl, rfl⟩

end Go.Proofs.YtkjjdoadjhjmbatDoor
namespace Go.Proofs.YtkjjdoadjhjmbatDoor
open Go.RowKit

/-- The four bytes laid as one row, read as a text. -/
theorem four_read (x : Nat) (hx : x < 4294967296) (w : World) : (convert 81 9 (Value.slice (some ⟨w.heap.size, 0, none⟩) 4 4)).run Tryd.prog
    (w.alloc (.cells #[.int .u8 ((x : Int) / 16777216), .int .u8 ((x : Int) / 65536 % 256), .int .u8 ((x : Int) / 256 % 256), .int .u8 ((x : Int) % 256)] 5)) =
    .ok (.string ⟨(four x).toArray⟩) (w.alloc (.cells #[.int .u8 ((x : Int) / 16777216), .int .u8 ((x : Int) / 65536 % 256), .int .u8 ((x : Int) / 256 % 256), .int .u8 ((x : Int) % 256)] 5)) := by
  have e1 : (x : Int) / 16777216 = (((UInt8.ofNat (x / 16777216)).toNat : Nat) : Int) := by rw [UInt8.toNat_ofNat']; omega
  have e2 : (x : Int) / 65536 % 256 = (((UInt8.ofNat (x / 65536 % 256)).toNat : Nat) : Int) := by rw [UInt8.toNat_ofNat']; omega
  have e3 : (x : Int) / 256 % 256 = (((UInt8.ofNat (x / 256 % 256)).toNat : Nat) : Int) := by rw [UInt8.toNat_ofNat']; omega
  have e4 : (x : Int) % 256 = (((UInt8.ofNat (x % 256)).toNat : Nat) : Int) := by rw [UInt8.toNat_ofNat']; omega
  have h := World.ownsRow_lit (base := w.heap.size) (e := 5) (size := 1) w #[.int .u8 ((x : Int) / 16777216), .int .u8 ((x : Int) / 65536 % 256), .int .u8 ((x : Int) / 256 % 256), .int .u8 ((x : Int) % 256)] 4 (Nat.le_refl _) (by decide) rfl
  have hown : OwnB (w.alloc (.cells #[.int .u8 ((x : Int) / 16777216), .int .u8 ((x : Int) / 65536 % 256), .int .u8 ((x : Int) / 256 % 256), .int .u8 ((x : Int) % 256)] 5)) w.heap.size 5 (Value.slice (some ⟨w.heap.size, 0, none⟩) 4 4) (four x) := by
    unfold OwnB four
    simp only [Lib.byteCells, List.map_cons, List.map_nil, ← e1, ← e2, ← e3, ← e4]
    exact h
  exact run_string_own _ 81 9 5 Tryd.underlying81 Tryd.underlying5 Tryd.underlying9 _ hown

set_option maxRecDepth 100000 in
set_option maxHeartbeats 400000 in
theorem wordText_any (x : Nat) (hx : x < 4294967296) (w : World) :
    Calls Tryd.prog 97 #[.int .u32 x] w fun e w' => e = .returned (.string ⟨(four x).toArray⟩) ∧ Below w.heap.size w w' := by
  have hr := four_read x hx w
  go_enter Tryd.func97, Tryd.ntmps97
  go_wp2
  go_ret
  exact ⟨rfl, (Below.refl _ _).alloc (Nat.le_refl _) _⟩

end Go.Proofs.YtkjjdoadjhjmbatDoor
namespace Go.Proofs.YtkjjdoadjhjmbatDoor
open Go.RowKit

set_option maxHeartbeats 400000 in
theorem implNumberText_yes (n : Nat) (hn : n < 4294967296) (w : World) :
    Calls Tryd.prog 62 #[.int .i64 n] w fun e w' => e = .returned (.string ⟨(four n).toArray⟩) ∧ Below w.heap.size w w' := by
  have h1 : ¬ ((n : Int) < 0) := by omega
  have h2 : ¬ (4294967295 < (n : Int)) := by omega
  have h3 : (n : Int) % 4294967296 = (n : Int) := by omega
  have H1 := Lib.hid (wordText_any n hn)
  go_enter Tryd.func62, Tryd.ntmps62
  go_wp2_with fail
  refine (H1.out _).mono ?_
  rintro e1 w1 ⟨rfl, hb1⟩
  go_wp2
  go_ret
  exact ⟨rfl, hb1⟩

set_option maxHeartbeats 400000 in
theorem implNumberText_no (n : Int) (hn : n < 0 ∨ 4294967295 < n) (w : World) :
    Calls Tryd.prog 62 #[.int .i64 n] w fun e w' => e = .returned (.string ⟨#[]⟩) ∧ Below w.heap.size w w' := by
  by_cases h1 : n < 0
  · clear hn
    go_enter Tryd.func62, Tryd.ntmps62
    go_wp2
    go_ret
    exact ⟨rfl, Below.refl _ _⟩
  · have h2 : 4294967295 < n := by omega
    clear hn
    go_enter Tryd.func62, Tryd.ntmps62
    go_wp2
    go_ret
    exact ⟨rfl, Below.refl _ _⟩

set_option maxRecDepth 100000 in
set_option maxHeartbeats 800000 in
theorem textWord_any (s : ByteArray) (hs : s.size = 4) (w : World) :
    Calls Tryd.prog 95 #[.string s] w fun e w' => e = .returned (.int .u32 (fourBack s.data.toList : Nat)) ∧ Below w.heap.size w w' := by
  obtain ⟨b0, b1, b2, b3, rfl⟩ := four_bytes s hs
  go_enter Tryd.func95, Tryd.ntmps95
  go_wp2
  go_quiet (fail)
  go_wp2
  go_ret
  exact ⟨congrArg (fun z => Ending.returned (.int .u32 z)) (word_or _ _ _ _ b0.toNat_lt b1.toNat_lt b2.toNat_lt b3.toNat_lt), below_drewN (Below.refl _ _) _⟩

end Go.Proofs.YtkjjdoadjhjmbatDoor
namespace Go.Proofs.YtkjjdoadjhjmbatDoor
open Go.RowKit

set_option maxRecDepth 100000 in
set_option maxHeartbeats 400000 in
theorem specNumberText_yes (n : Nat) (hn : n < 4294967296) (w : World) :
    Calls Tryd.prog 58 #[.int .i64 n] w fun e w' => e = .returned (.string ⟨(four n).toArray⟩) ∧ Below w.heap.size w w' := by
  have hr := four_read n hn w
  have h1 : (n : Int) / 16777216 % 256 = (n : Int) / 16777216 := by omega
  have H1 := Lib.hid (inRange_yes (n : Int) 0 4294967295 (by omega) (by omega))
  go_enter Tryd.func58, Tryd.ntmps58
  go_wp2_with fail
  refine (H1.out _).mono ?_
  rintro e1 w1 ⟨rfl, rfl⟩
  go_wp2
  go_ret
  exact ⟨rfl, (Below.refl _ _).alloc (Nat.le_refl _) _⟩

set_option maxHeartbeats 400000 in
theorem specNumberText_no (n : Int) (hn : n < 0 ∨ 4294967295 < n) (w : World) :
    Calls Tryd.prog 58 #[.int .i64 n] w fun e w' => e = .returned (.string ⟨#[]⟩) ∧ Below w.heap.size w w' := by
  have H1 := Lib.hid (inRange_no n 0 4294967295 (by omega))
  clear hn
  go_enter Tryd.func58, Tryd.ntmps58
  go_wp2_with fail
  refine (H1.out _).mono ?_
  rintro e1 w1 ⟨rfl, rfl⟩
  go_wp2
  go_ret
  exact ⟨rfl, Below.refl _ _⟩

theorem NumberText_both (n : Int) : ∃ t : ByteArray,
    (∀ w, Calls Tryd.prog 62 #[.int .i64 n] w fun e w' => e = .returned (.string t) ∧ Below w.heap.size w w') ∧
    (∀ w, Calls Tryd.prog 58 #[.int .i64 n] w fun e w' => e = .returned (.string t) ∧ Below w.heap.size w w') := by
  by_cases h : 0 ≤ n ∧ n ≤ 4294967295
  · obtain ⟨m, rfl⟩ := Int.eq_ofNat_of_zero_le h.1
    exact ⟨_, fun w => implNumberText_yes m (by omega) w, fun w => specNumberText_yes m (by omega) w⟩
  · exact ⟨_, fun w => implNumberText_no n (by omega) w, fun w => specNumberText_no n (by omega) w⟩

end Go.Proofs.YtkjjdoadjhjmbatDoor
namespace Go.Proofs.YtkjjdoadjhjmbatDoor
open Go.RowKit

theorem w64_in (n : Int) (h : -9223372036854775808 ≤ n ∧ n ≤ 9223372036854775807) : wrap64 n = n := by unfold wrap64; omega
theorem word_sum (a b c d : Nat) (ha : a < 256) (hb : b < 256) (hc : c < 256) (hd : d < 256) :
    wrap64 (wrap64 (wrap64 (wrap64 (wrap64 (a : Int) * 16777216) + wrap64 (wrap64 (b : Int) * 65536)) + wrap64 (wrap64 (c : Int) * 256)) + wrap64 (d : Int)) = ((a * 16777216 + b * 65536 + c * 256 + d : Nat) : Int) := by
  rw [w64_in (a : Int) (by omega), w64_in (b : Int) (by omega), w64_in (c : Int) (by omega), w64_in (d : Int) (by omega), w64_in ((a : Int) * 16777216) (by omega), w64_in ((b : Int) * 65536) (by omega), w64_in ((c : Int) * 256) (by omega), w64_in ((a : Int) * 16777216 + (b : Int) * 65536) (by omega), w64_in ((a : Int) * 16777216 + (b : Int) * 65536 + (c : Int) * 256) (by omega), w64_in ((a : Int) * 16777216 + (b : Int) * 65536 + (c : Int) * 256 + (d : Int)) (by omega)]
  omega

set_option maxHeartbeats 400000 in
theorem specReadNumber_no (s : ByteArray) (hs : s.size ≠ 4) (w : World) :
    Calls Tryd.prog 89 #[.string s] w fun e w' => e = .returned (.tuple #[.int .i64 0, .bool false]) ∧ Below w.heap.size w w' := by
  have h1 : ((s.size : Int) != 4) = true := bne_iff_ne.2 (by omega)
  go_enter Tryd.func89, Tryd.ntmps89
  go_wp2
  go_ret2
  exact ⟨rfl, Below.refl _ _⟩

set_option maxRecDepth 100000 in
set_option maxHeartbeats 800000 in
theorem specReadNumber_yes (s : ByteArray) (hs : s.size = 4) (w : World) :
    Calls Tryd.prog 89 #[.string s] w fun e w' => e = .returned (.tuple #[.int .i64 (fourBack s.data.toList : Nat), .bool true]) ∧ Below w.heap.size w w' := by
  obtain ⟨b0, b1, b2, b3, rfl⟩ := four_bytes s hs
  have h1 : (((⟨#[b0, b1, b2, b3]⟩ : ByteArray).size : Int) != 4) = false := by rfl
  have l0 := b0.toNat_lt
  have l1 := b1.toNat_lt
  have l2 := b2.toNat_lt
  have l3 := b3.toNat_lt
  go_enter Tryd.func89, Tryd.ntmps89
  go_wp2
  go_quiet (fail)
  go_wp2
  go_ret2
  exact ⟨ret_ib (word_sum _ _ _ _ b0.toNat_lt b1.toNat_lt b2.toNat_lt b3.toNat_lt) rfl, below_drewN (Below.refl _ _) _⟩

end Go.Proofs.YtkjjdoadjhjmbatDoor
