/-
  Whether a greeter is made, and what Hello answers, in plain words.
  The program's GreeterNew.
  The given l05Byte at every number, and the given Transcript.
-/
import Derived.Test.YtkjjdoadjhjmbatDoorJ05
import Derived.Test.YtkjjdoadjhjmbatDoorJ10
import Derived.Test.YtkjjdoadjhjmbatDoorJ31
namespace Go.Proofs.YtkjjdoadjhjmbatDoor
open Go.RowKit

/-- Whether a greeter is made. -/
def NewP (role pin : Int) : Prop := (1 ≤ role ∧ role ≤ 2) ∧ inGroup pin = true
/-- What Hello answers. -/
def HelloIs (x0 x3 x4 : Int) (x5 : ByteArray) (y4 : Int) (y5 t : ByteArray) : Prop := (x4 = 0 ∧ y4 = 1 ∧ ∃ p, PubIs x3 p ∧ y5 = helloB x0 p ∧ t = y5) ∨ (x4 ≠ 0 ∧ y4 = x4 ∧ y5 = x5 ∧ t = ⟨#[]⟩)
theorem hello_is (x0 x3 x4 : Int) (x5 : ByteArray) : ∃ y4 y5 t, HelloIs x0 x3 x4 x5 y4 y5 t := by
  by_cases h : x4 = 0
  · obtain ⟨p, hp⟩ := pub_is x3
    exact ⟨_, _, _, .inl ⟨h, rfl, p, hp, rfl, rfl⟩⟩
  · exact ⟨_, _, _, .inr ⟨h, rfl, rfl, rfl⟩⟩

end Go.Proofs.YtkjjdoadjhjmbatDoor
namespace Go.Proofs.YtkjjdoadjhjmbatDoor
open Go.RowKit

set_option maxRecDepth 100000 in
set_option maxHeartbeats 1600000 in
theorem implGreeterNew_yes (role pin : Int) (seed once : ByteArray) (h : NewP role pin) (hs : seed.size ≤ 1048576) (ho : once.size ≤ 1048576) (w : World) (hK0 : LaidK w) :
    Calls Tryd.prog 12 #[.int .i64 role, .string seed, .string once, .int .i64 pin] w fun e w' => e = .returned (.tuple #[.agg #[.int .i64 role, .int .i64 (secretP seed : Nat), .int .i64 pin, .int .i64 (secretP once : Nat), .int .i64 0, .string ⟨#[]⟩, .string ⟨#[]⟩], .bool true]) ∧ Below w.heap.size w w' := by
  have A0 := Lib.hid (VarA.new w GreeterT #[.int .i64 0, .int .i64 0, .int .i64 0, .int .i64 0, .int .i64 0, .string ⟨#[]⟩, .string ⟨#[]⟩])
  have B0 := Lib.hid ((Below.refl w.heap.size w).alloc (Nat.le_refl _) (.cells #[.int .i64 0, .int .i64 0, .int .i64 0, .int .i64 0, .int .i64 0, .string ⟨#[]⟩, .string ⟨#[]⟩] GreeterT))
  have hK := Lib.hid hK0
  clear hK0
  obtain ⟨sa, ha⟩ : ∃ x : Int, ((secretP seed : Nat) : Int) = x := ⟨_, rfl⟩
  obtain ⟨sb, hb⟩ : ∃ x : Int, ((secretP once : Nat) : Int) = x := ⟨_, rfl⟩
  have HA := Lib.hid ha
  have HB := Lib.hid hb
  rw [ha, hb]
  clear ha hb
  go_enter Tryd.func12, Tryd.ntmps12
  go_upto_region 1 with fail
  generalize w.alloc (.cells #[.int .i64 0, .int .i64 0, .int .i64 0, .int .i64 0, .int .i64 0, .string ⟨#[]⟩, .string ⟨#[]⟩] GreeterT) = Y0 at *
  obtain ⟨⟨h1, h2⟩, hg⟩ := h
  have KI := Lib.hid (implInGroup_any pin Y0)
  rw [hg] at KI
  clear hg
  obtain rfl | rfl : role = 1 ∨ role = 2 := by omega
  · clear h1 h2
    go_wp2_with fail
    refine KI.out.mono ?_
    rintro e Y1 ⟨rfl, hb⟩
    have A1 := Lib.hid (A0.out.next hb)
    have B1 := Lib.hid (B0.out.trans (hb.mono B0.out.size))
    have K1 := Lib.hid (implSecretOf_any seed (by omega) Y1 (hK.out.stays (B0.out.trans (hb.mono B0.out.size)) (Nat.le_refl _)))
    rw [HA.out] at K1
    clear hb KI A0 B0
    go_wp2_with fail
    refine K1.out.mono ?_
    rintro e Y2 ⟨rfl, hb⟩
    have A2 := Lib.hid (A1.out.next hb)
    have B2 := Lib.hid (B1.out.trans (hb.mono B1.out.size))
    have K2 := Lib.hid (implSecretOf_any once (by omega) Y2 (hK.out.stays (B1.out.trans (hb.mono B1.out.size)) (Nat.le_refl _)))
    rw [HB.out] at K2
    clear hb K1 A1 B1
    go_wp2_with fail
    refine K2.out.mono ?_
    rintro e Y3 ⟨rfl, hb⟩
    have A3 := Lib.hid (A2.out.next hb)
    have B3 := Lib.hid (B2.out.trans (hb.mono B2.out.size))
    clear hb K2 A2 B2
    have d0 : Y3.cell? ⟨w.heap.size, 0, none⟩ = some (.int .i64 0) := A3.out.cell 0
    have f0 := A3.out.free 0
    have d1 : Y3.cell? ⟨w.heap.size, 1, none⟩ = some (.int .i64 0) := A3.out.cell 1
    have f1 := A3.out.free 1
    have d2 : Y3.cell? ⟨w.heap.size, 2, none⟩ = some (.int .i64 0) := A3.out.cell 2
    have f2 := A3.out.free 2
    have d3 : Y3.cell? ⟨w.heap.size, 3, none⟩ = some (.int .i64 0) := A3.out.cell 3
    have f3 := A3.out.free 3
    have d4 : Y3.cell? ⟨w.heap.size, 4, none⟩ = some (.int .i64 0) := A3.out.cell 4
    have f4 := A3.out.free 4
    have d5 : Y3.cell? ⟨w.heap.size, 5, none⟩ = some (.string ⟨#[]⟩) := A3.out.cell 5
    have f5 := A3.out.free 5
    have d6 : Y3.cell? ⟨w.heap.size, 6, none⟩ = some (.string ⟨#[]⟩) := A3.out.cell 6
    have f6 := A3.out.free 6
    have R9 := A3.out.set7 (.int .i64 1) (.int .i64 sa) (.int .i64 pin) (.int .i64 sb) (.int .i64 0) (.string ⟨#[]⟩) (.string ⟨#[]⟩)
    have BZ := Lib.hid (below_set7 B3.out (Nat.le_refl _) (.int .i64 1) (.int .i64 sa) (.int .i64 pin) (.int .i64 sb) (.int .i64 0) (.string ⟨#[]⟩) (.string ⟨#[]⟩))
    have j0 := R9.cell 0
    have j1 := R9.cell 1
    have j2 := R9.cell 2
    have j3 := R9.cell 3
    have j4 := R9.cell 4
    have j5 := R9.cell 5
    have j6 := R9.cell 6
    clear R9
    go_wp2_with fail
    exact bodyPost_ret (v := .tuple #[.agg #[.int .i64 1, .int .i64 sa, .int .i64 pin, .int .i64 sb, .int .i64 0, .string ⟨#[]⟩, .string ⟨#[]⟩], .bool true]) (by simp [results, Tryd.results12, go_sem, j0, j1, j2, j3, j4, j5, j6]) rfl ⟨rfl, BZ.out⟩
  · clear h1 h2
    go_wp2_with fail
    refine KI.out.mono ?_
    rintro e Y1 ⟨rfl, hb⟩
    have A1 := Lib.hid (A0.out.next hb)
    have B1 := Lib.hid (B0.out.trans (hb.mono B0.out.size))
    have K1 := Lib.hid (implSecretOf_any seed (by omega) Y1 (hK.out.stays (B0.out.trans (hb.mono B0.out.size)) (Nat.le_refl _)))
    rw [HA.out] at K1
    clear hb KI A0 B0
    go_wp2_with fail
    refine K1.out.mono ?_
    rintro e Y2 ⟨rfl, hb⟩
    have A2 := Lib.hid (A1.out.next hb)
    have B2 := Lib.hid (B1.out.trans (hb.mono B1.out.size))
    have K2 := Lib.hid (implSecretOf_any once (by omega) Y2 (hK.out.stays (B1.out.trans (hb.mono B1.out.size)) (Nat.le_refl _)))
    rw [HB.out] at K2
    clear hb K1 A1 B1
    go_wp2_with fail
    refine K2.out.mono ?_
    rintro e Y3 ⟨rfl, hb⟩
    have A3 := Lib.hid (A2.out.next hb)
    have B3 := Lib.hid (B2.out.trans (hb.mono B2.out.size))
    clear hb K2 A2 B2
    have d0 : Y3.cell? ⟨w.heap.size, 0, none⟩ = some (.int .i64 0) := A3.out.cell 0
    have f0 := A3.out.free 0
    have d1 : Y3.cell? ⟨w.heap.size, 1, none⟩ = some (.int .i64 0) := A3.out.cell 1
    have f1 := A3.out.free 1
    have d2 : Y3.cell? ⟨w.heap.size, 2, none⟩ = some (.int .i64 0) := A3.out.cell 2
    have f2 := A3.out.free 2
    have d3 : Y3.cell? ⟨w.heap.size, 3, none⟩ = some (.int .i64 0) := A3.out.cell 3
    have f3 := A3.out.free 3
    have d4 : Y3.cell? ⟨w.heap.size, 4, none⟩ = some (.int .i64 0) := A3.out.cell 4
    have f4 := A3.out.free 4
    have d5 : Y3.cell? ⟨w.heap.size, 5, none⟩ = some (.string ⟨#[]⟩) := A3.out.cell 5
    have f5 := A3.out.free 5
    have d6 : Y3.cell? ⟨w.heap.size, 6, none⟩ = some (.string ⟨#[]⟩) := A3.out.cell 6
    have f6 := A3.out.free 6
    have R9 := A3.out.set7 (.int .i64 2) (.int .i64 sa) (.int .i64 pin) (.int .i64 sb) (.int .i64 0) (.string ⟨#[]⟩) (.string ⟨#[]⟩)
    have BZ := Lib.hid (below_set7 B3.out (Nat.le_refl _) (.int .i64 2) (.int .i64 sa) (.int .i64 pin) (.int .i64 sb) (.int .i64 0) (.string ⟨#[]⟩) (.string ⟨#[]⟩))
    have j0 := R9.cell 0
    have j1 := R9.cell 1
    have j2 := R9.cell 2
    have j3 := R9.cell 3
    have j4 := R9.cell 4
    have j5 := R9.cell 5
    have j6 := R9.cell 6
    clear R9
    go_wp2_with fail
    exact bodyPost_ret (v := .tuple #[.agg #[.int .i64 2, .int .i64 sa, .int .i64 pin, .int .i64 sb, .int .i64 0, .string ⟨#[]⟩, .string ⟨#[]⟩], .bool true]) (by simp [results, Tryd.results12, go_sem, j0, j1, j2, j3, j4, j5, j6]) rfl ⟨rfl, BZ.out⟩

set_option maxRecDepth 100000 in
set_option maxHeartbeats 1600000 in
theorem implGreeterNew_no (role pin : Int) (seed once : ByteArray) (h : ¬ NewP role pin) (w : World) :
    Calls Tryd.prog 12 #[.int .i64 role, .string seed, .string once, .int .i64 pin] w fun e w' => e = .returned (.tuple #[.agg #[.int .i64 0, .int .i64 0, .int .i64 0, .int .i64 0, .int .i64 0, .string ⟨#[]⟩, .string ⟨#[]⟩], .bool false]) ∧ Below w.heap.size w w' := by
  have A0 := Lib.hid (VarA.new w GreeterT #[.int .i64 0, .int .i64 0, .int .i64 0, .int .i64 0, .int .i64 0, .string ⟨#[]⟩, .string ⟨#[]⟩])
  have B0 := Lib.hid ((Below.refl w.heap.size w).alloc (Nat.le_refl _) (.cells #[.int .i64 0, .int .i64 0, .int .i64 0, .int .i64 0, .int .i64 0, .string ⟨#[]⟩, .string ⟨#[]⟩] GreeterT))
  go_enter Tryd.func12, Tryd.ntmps12
  go_upto_region 1 with fail
  generalize w.alloc (.cells #[.int .i64 0, .int .i64 0, .int .i64 0, .int .i64 0, .int .i64 0, .string ⟨#[]⟩, .string ⟨#[]⟩] GreeterT) = Y0 at *
  by_cases hr : role = 1 ∨ role = 2
  · have hg : inGroup pin = false := by
      cases hi : inGroup pin with
      | false => rfl
      | true => exact absurd ⟨by omega, hi⟩ h
    have KI := Lib.hid (implInGroup_any pin Y0)
    rw [hg] at KI
    clear hg h
    go_cut [20] (fun z wx => z = .bool true ∧ Hid (VarA w.heap.size GreeterT #[.int .i64 0, .int .i64 0, .int .i64 0, .int .i64 0, .int .i64 0, .string ⟨#[]⟩, .string ⟨#[]⟩] wx) ∧ Hid (Below w.heap.size w wx))
    case first =>
      rcases hr with rfl | rfl
      all_goals
        go_wp2_with fail
        refine KI.out.mono ?_
        rintro e Y1 ⟨rfl, hb⟩
        have A1 := Lib.hid (A0.out.next hb)
        have B1 := Lib.hid (B0.out.trans (hb.mono B0.out.size))
        clear hb KI A0 B0
        go_wp2_with fail
        go_meet
        exact ⟨rfl, A1, B1⟩
    case rest =>
      obtain ⟨rfl, A1, B1⟩ := hcut
      clear KI A0 B0
      have d0 : wc.cell? ⟨w.heap.size, 0, none⟩ = some (.int .i64 0) := A1.out.cell 0
      have f0 := A1.out.free 0
      have d1 : wc.cell? ⟨w.heap.size, 1, none⟩ = some (.int .i64 0) := A1.out.cell 1
      have f1 := A1.out.free 1
      have d2 : wc.cell? ⟨w.heap.size, 2, none⟩ = some (.int .i64 0) := A1.out.cell 2
      have f2 := A1.out.free 2
      have d3 : wc.cell? ⟨w.heap.size, 3, none⟩ = some (.int .i64 0) := A1.out.cell 3
      have f3 := A1.out.free 3
      have d4 : wc.cell? ⟨w.heap.size, 4, none⟩ = some (.int .i64 0) := A1.out.cell 4
      have f4 := A1.out.free 4
      have d5 : wc.cell? ⟨w.heap.size, 5, none⟩ = some (.string ⟨#[]⟩) := A1.out.cell 5
      have f5 := A1.out.free 5
      have d6 : wc.cell? ⟨w.heap.size, 6, none⟩ = some (.string ⟨#[]⟩) := A1.out.cell 6
      have f6 := A1.out.free 6
      have R9 := A1.out.set7 (.int .i64 0) (.int .i64 0) (.int .i64 0) (.int .i64 0) (.int .i64 0) (.string ⟨#[]⟩) (.string ⟨#[]⟩)
      have BZ := Lib.hid (below_set7 B1.out (Nat.le_refl _) (.int .i64 0) (.int .i64 0) (.int .i64 0) (.int .i64 0) (.int .i64 0) (.string ⟨#[]⟩) (.string ⟨#[]⟩))
      have j0 := R9.cell 0
      have j1 := R9.cell 1
      have j2 := R9.cell 2
      have j3 := R9.cell 3
      have j4 := R9.cell 4
      have j5 := R9.cell 5
      have j6 := R9.cell 6
      clear R9
      go_wp2_with fail
      exact bodyPost_ret (v := .tuple #[.agg #[.int .i64 0, .int .i64 0, .int .i64 0, .int .i64 0, .int .i64 0, .string ⟨#[]⟩, .string ⟨#[]⟩], .bool false]) (by simp [results, Tryd.results12, go_sem, j0, j1, j2, j3, j4, j5, j6]) rfl ⟨rfl, BZ.out⟩
  · have k1 : (role != 1) = true := by rw [bne_iff_ne]; exact fun e => hr (.inl e)
    have k2 : (role != 2) = true := by rw [bne_iff_ne]; exact fun e => hr (.inr e)
    clear hr h
    have d0 : Y0.cell? ⟨w.heap.size, 0, none⟩ = some (.int .i64 0) := A0.out.cell 0
    have f0 := A0.out.free 0
    have d1 : Y0.cell? ⟨w.heap.size, 1, none⟩ = some (.int .i64 0) := A0.out.cell 1
    have f1 := A0.out.free 1
    have d2 : Y0.cell? ⟨w.heap.size, 2, none⟩ = some (.int .i64 0) := A0.out.cell 2
    have f2 := A0.out.free 2
    have d3 : Y0.cell? ⟨w.heap.size, 3, none⟩ = some (.int .i64 0) := A0.out.cell 3
    have f3 := A0.out.free 3
    have d4 : Y0.cell? ⟨w.heap.size, 4, none⟩ = some (.int .i64 0) := A0.out.cell 4
    have f4 := A0.out.free 4
    have d5 : Y0.cell? ⟨w.heap.size, 5, none⟩ = some (.string ⟨#[]⟩) := A0.out.cell 5
    have f5 := A0.out.free 5
    have d6 : Y0.cell? ⟨w.heap.size, 6, none⟩ = some (.string ⟨#[]⟩) := A0.out.cell 6
    have f6 := A0.out.free 6
    have R9 := A0.out.set7 (.int .i64 0) (.int .i64 0) (.int .i64 0) (.int .i64 0) (.int .i64 0) (.string ⟨#[]⟩) (.string ⟨#[]⟩)
    have BZ := Lib.hid (below_set7 B0.out (Nat.le_refl _) (.int .i64 0) (.int .i64 0) (.int .i64 0) (.int .i64 0) (.int .i64 0) (.string ⟨#[]⟩) (.string ⟨#[]⟩))
    have j0 := R9.cell 0
    have j1 := R9.cell 1
    have j2 := R9.cell 2
    have j3 := R9.cell 3
    have j4 := R9.cell 4
    have j5 := R9.cell 5
    have j6 := R9.cell 6
    clear R9
    go_wp2_with fail
    exact bodyPost_ret (v := .tuple #[.agg #[.int .i64 0, .int .i64 0, .int .i64 0, .int .i64 0, .int .i64 0, .string ⟨#[]⟩, .string ⟨#[]⟩], .bool false]) (by simp [results, Tryd.results12, go_sem, j0, j1, j2, j3, j4, j5, j6]) rfl ⟨rfl, BZ.out⟩

end Go.Proofs.YtkjjdoadjhjmbatDoor
namespace Go.Proofs.YtkjjdoadjhjmbatDoor
open Go.RowKit

theorem ret_s {a b : ByteArray} (h : a = b) : Ending.returned (.string b) = .returned (.string a) := by rw [h]
theorem u8_wrap (b : UInt8) : IntKind.u8.wrap (b.toNat : Int) = (b.toNat : Int) := by
  have := b.toNat_lt
  rw [IntKind.wrap_u8]
  omega
set_option maxRecDepth 100000 in
set_option maxHeartbeats 800000 in
theorem specByteZ_any (n : Int) (hn0 : -9223372036854775808 ≤ n) (hn1 : n ≤ 9223372036854775807) (w : World) :
    Calls Tryd.prog 35 #[.int .i64 n] w fun e w' => e = .returned (.string (oneB n)) ∧ Below w.heap.size w w' := by
  have hb := byteZ_nat n
  have hr := run_string_one (P := Tryd.prog) w 81 9 5 Tryd.underlying81 Tryd.underlying5 Tryd.underlying9 (byteZ n)
  have HO : Hid (oneB n = ⟨#[byteZ n]⟩) := Lib.hid rfl
  generalize byteZ n = b at hb hr HO
  obtain ⟨m, hm⟩ : ∃ m, n.tmod 256 = m := ⟨_, rfl⟩
  have hmn : (0 ≤ m ∧ m = (b.toNat : Int)) ∨ (m < 0 ∧ m + 256 = (b.toNat : Int)) := by
    rcases Int.lt_or_le n 0 with h | h
    · have e1 : n.tmod 256 = -((-n) % 256) := by
        have h2 := Int.neg_tmod (-n) 256
        rw [Int.neg_neg] at h2
        rw [h2, Int.tmod_eq_emod_of_nonneg (by omega)]
      omega
    · have e1 : n.tmod 256 = n % 256 := Int.tmod_eq_emod_of_nonneg h
      omega
  have hb2 := b.toNat_lt
  clear hb
  rcases hmn with ⟨h1, h2⟩ | ⟨h1, h2⟩
  · have h3 : ¬ (m < 0) := by omega
    have h4 : IntKind.u8.wrap m = (b.toNat : Int) := by rw [h2]; exact u8_wrap b
    go_enter Tryd.func35, Tryd.ntmps35
    go_wp2_with fail
    go_ret
    exact ⟨ret_s HO.out, (Below.refl _ _).alloc (Nat.le_refl _) _⟩
  · have h5 : IntKind.i64.wrap (m + 256) = (b.toNat : Int) := by rw [IntKind.wrap_i64, h2]; omega
    have h4 : IntKind.u8.wrap (b.toNat : Int) = (b.toNat : Int) := u8_wrap b
    go_enter Tryd.func35, Tryd.ntmps35
    go_wp2_with fail
    go_ret
    exact ⟨ret_s HO.out, (Below.refl _ _).alloc (Nat.le_refl _) _⟩

set_option maxRecDepth 100000 in
set_option maxHeartbeats 800000 in
theorem specTranscript_any (x0 x1 x2 x3 x4 : Int) (x5 x6 : ByteArray) (h5 : x5.size ≤ 100000000) (h6 : x6.size ≤ 100000000) (w : World) :
    Calls Tryd.prog 34 #[.agg #[.int .i64 x0, .int .i64 x1, .int .i64 x2, .int .i64 x3, .int .i64 x4, .string x5, .string x6]] w fun e w' => e = .returned (.string (transB x0 x5 x6)) ∧ Below w.heap.size w w' := by
  have A0 := Lib.hid (VarA.new w GreeterT #[.int .i64 x0, .int .i64 x1, .int .i64 x2, .int .i64 x3, .int .i64 x4, .string x5, .string x6])
  have B0 := Lib.hid ((Below.refl w.heap.size w).alloc (Nat.le_refl _) (.cells #[.int .i64 x0, .int .i64 x1, .int .i64 x2, .int .i64 x3, .int .i64 x4, .string x5, .string x6] GreeterT))
  have s1 : ¬ (9223372036854775807 < x5.size + x6.size) := by omega
  have s2 : ¬ (9223372036854775807 < x6.size + x5.size) := by omega
  obtain ⟨t, HT⟩ : ∃ t, Hid (transB x0 x5 x6 = t) := ⟨_, Lib.hid rfl⟩
  rw [HT.out]
  go_enter Tryd.func34, Tryd.ntmps34
  go_upto_region 1 with fail
  generalize w.alloc (.cells #[.int .i64 x0, .int .i64 x1, .int .i64 x2, .int .i64 x3, .int .i64 x4, .string x5, .string x6] GreeterT) = Y0 at *
  have c0 : Y0.cell? ⟨w.heap.size, 0, none⟩ = some (.int .i64 x0) := A0.out.cell 0
  have c5 : Y0.cell? ⟨w.heap.size, 5, none⟩ = some (.string x5) := A0.out.cell 5
  have c6 : Y0.cell? ⟨w.heap.size, 6, none⟩ = some (.string x6) := A0.out.cell 6
  by_cases hr : x0 = 1
  · have k1 : (x0 == 1) = true := by rw [beq_iff_eq]; exact hr
    have HE : Hid (t = x5 ++ x6) := Lib.hid (by rw [← HT.out]; unfold transB; rw [if_pos hr])
    clear hr
    go_wp2_with fail
    go_ret
    exact ⟨ret_s HE.out, B0.out⟩
  · have k1 : (x0 == 1) = false := by rw [beq_eq_false_iff_ne]; exact hr
    have HE : Hid (t = x6 ++ x5) := Lib.hid (by rw [← HT.out]; unfold transB; rw [if_neg hr])
    clear hr
    go_wp2_with fail
    go_ret
    exact ⟨ret_s HE.out, B0.out⟩

end Go.Proofs.YtkjjdoadjhjmbatDoor
