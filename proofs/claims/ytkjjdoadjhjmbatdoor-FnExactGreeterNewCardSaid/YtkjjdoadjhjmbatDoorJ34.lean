/-
  The given GreeterNew.
  The exact law on GreeterNew, out of one answer that both give.
  The exact law on GreeterNew, at every argument.
-/
import Derived.Test.YtkjjdoadjhjmbatDoorJ33
import Derived.Test.YtkjjdoadjhjmbatDoorJ32
import Derived.Test.YtkjjdoadjhjmbatDoorJ10
namespace Go.Proofs.YtkjjdoadjhjmbatDoor
open Go.RowKit

set_option maxRecDepth 100000 in
set_option maxHeartbeats 1600000 in
theorem specGreeterNew_yes (role pin : Int) (seed once : ByteArray) (h : NewP role pin) (hs : seed.size ≤ 400000000) (ho : once.size ≤ 400000000) (w : World) :
    Calls Tryd.prog 11 #[.int .i64 role, .string seed, .string once, .int .i64 pin] w fun e w' => e = .returned (.tuple #[.agg #[.int .i64 role, .int .i64 (secretP seed : Nat), .int .i64 pin, .int .i64 (secretP once : Nat), .int .i64 0, .string ⟨#[]⟩, .string ⟨#[]⟩], .bool true]) ∧ Below w.heap.size w w' := by
  obtain ⟨⟨h1, h2⟩, hp⟩ := h
  have R0 := Lib.hid (VarA.new w GreeterT #[.int .i64 0, .int .i64 0, .int .i64 0, .int .i64 0, .int .i64 0, .string ⟨#[]⟩, .string ⟨#[]⟩])
  have B0 := Lib.hid ((Below.refl w.heap.size w).alloc (Nat.le_refl _) (.cells #[.int .i64 0, .int .i64 0, .int .i64 0, .int .i64 0, .int .i64 0, .string ⟨#[]⟩, .string ⟨#[]⟩] GreeterT))
  have K1 := Lib.hid (inRange_yes role 1 2 h1 h2)
  have K2 := Lib.hid (specInGroup_any pin)
  rw [hp] at K2
  have K3 := Lib.hid (specSecretOf_any seed hs)
  have K4 := Lib.hid (specSecretOf_any once ho)
  generalize secretP seed = k1 at *
  generalize secretP once = k2 at *
  clear h1 h2 hp hs ho
  go_enter Tryd.func11, Tryd.ntmps11
  go_upto_region 1 with fail
  generalize w.alloc (.cells #[.int .i64 0, .int .i64 0, .int .i64 0, .int .i64 0, .int .i64 0, .string ⟨#[]⟩, .string ⟨#[]⟩] GreeterT) = Y0 at *
  go_wp2_with fail
  refine (K1.out _).mono ?_
  rintro e w1 ⟨rfl, hw⟩
  rw [hw]
  clear hw
  go_wp2_with fail
  refine (K2.out _).mono ?_
  rintro e w1 ⟨rfl, hw⟩
  rw [hw]
  clear hw
  go_wp2_with fail
  refine (K3.out _).mono ?_
  rintro e w1 ⟨rfl, hb⟩
  have R1 := Lib.hid (R0.out.next hb)
  have B1 := Lib.hid (B0.out.trans (hb.mono B0.out.size))
  clear hb R0 B0
  go_wp2_with fail
  refine (K4.out _).mono ?_
  rintro e w2 ⟨rfl, hb⟩
  have R2 := Lib.hid (R1.out.next hb)
  have B2 := Lib.hid (B1.out.trans (hb.mono B1.out.size))
  clear hb R1 B1
  have d0 : w2.cell? ⟨w.heap.size, 0, none⟩ = some (.int .i64 0) := R2.out.cell 0
  have d1 : w2.cell? ⟨w.heap.size, 1, none⟩ = some (.int .i64 0) := R2.out.cell 1
  have d2 : w2.cell? ⟨w.heap.size, 2, none⟩ = some (.int .i64 0) := R2.out.cell 2
  have d3 : w2.cell? ⟨w.heap.size, 3, none⟩ = some (.int .i64 0) := R2.out.cell 3
  have d4 : w2.cell? ⟨w.heap.size, 4, none⟩ = some (.int .i64 0) := R2.out.cell 4
  have d5 : w2.cell? ⟨w.heap.size, 5, none⟩ = some (.string ⟨#[]⟩) := R2.out.cell 5
  have d6 : w2.cell? ⟨w.heap.size, 6, none⟩ = some (.string ⟨#[]⟩) := R2.out.cell 6
  have f0 := (R2.out).free 0
  have f1 := (R2.out).free 1
  have f2 := (R2.out).free 2
  have f3 := (R2.out).free 3
  have f4 := (R2.out).free 4
  have f5 := (R2.out).free 5
  have f6 := (R2.out).free 6
  have R9 := (R2.out).put7 (.int .i64 role) (.int .i64 k1) (.int .i64 pin) (.int .i64 k2) (.int .i64 0) (.string ⟨#[]⟩) (.string ⟨#[]⟩)
  have j0 := R9.cell 0
  have j1 := R9.cell 1
  have j2 := R9.cell 2
  have j3 := R9.cell 3
  have j4 := R9.cell 4
  have j5 := R9.cell 5
  have j6 := R9.cell 6
  have BZ := Lib.hid (below_put7 B2.out (Nat.le_refl _) (.int .i64 role) (.int .i64 k1) (.int .i64 pin) (.int .i64 k2) (.int .i64 0) (.string ⟨#[]⟩) (.string ⟨#[]⟩))
  clear R9
  go_wp2_with fail
  exact bodyPost_ret (v := .tuple #[.agg #[.int .i64 role, .int .i64 k1, .int .i64 pin, .int .i64 k2, .int .i64 0, .string ⟨#[]⟩, .string ⟨#[]⟩], .bool true]) (by simp [results, Tryd.results11, go_sem, j0, j1, j2, j3, j4, j5, j6]) rfl (by exact ⟨rfl, BZ.out⟩)
set_option maxRecDepth 100000 in
set_option maxHeartbeats 1600000 in
theorem specGreeterNew_no (role pin : Int) (seed once : ByteArray) (h : ¬ NewP role pin) (w : World) :
    Calls Tryd.prog 11 #[.int .i64 role, .string seed, .string once, .int .i64 pin] w fun e w' => e = .returned (.tuple #[.agg #[.int .i64 0, .int .i64 0, .int .i64 0, .int .i64 0, .int .i64 0, .string ⟨#[]⟩, .string ⟨#[]⟩], .bool false]) ∧ Below w.heap.size w w' := by
  have R0 := Lib.hid (VarA.new w GreeterT #[.int .i64 0, .int .i64 0, .int .i64 0, .int .i64 0, .int .i64 0, .string ⟨#[]⟩, .string ⟨#[]⟩])
  have B0 := Lib.hid ((Below.refl w.heap.size w).alloc (Nat.le_refl _) (.cells #[.int .i64 0, .int .i64 0, .int .i64 0, .int .i64 0, .int .i64 0, .string ⟨#[]⟩, .string ⟨#[]⟩] GreeterT))
  by_cases hr : 1 ≤ role ∧ role ≤ 2
  · have hp : inGroup pin = false := by
      cases e : inGroup pin with
      | false => rfl
      | true => exact absurd ⟨hr, e⟩ h
    have K1 := Lib.hid (inRange_yes role 1 2 hr.1 hr.2)
    have K2 := Lib.hid (specInGroup_any pin)
    rw [hp] at K2
    clear h hr hp
    go_enter Tryd.func11, Tryd.ntmps11
    go_upto_region 1 with fail
    generalize w.alloc (.cells #[.int .i64 0, .int .i64 0, .int .i64 0, .int .i64 0, .int .i64 0, .string ⟨#[]⟩, .string ⟨#[]⟩] GreeterT) = Y0 at *
    go_wp2_with fail
    refine (K1.out _).mono ?_
    rintro e w1 ⟨rfl, hw⟩
    rw [hw]
    clear hw
    go_wp2_with fail
    refine (K2.out _).mono ?_
    rintro e w1 ⟨rfl, hw⟩
    rw [hw]
    clear hw
    have d0 : Y0.cell? ⟨w.heap.size, 0, none⟩ = some (.int .i64 0) := R0.out.cell 0
    have d1 : Y0.cell? ⟨w.heap.size, 1, none⟩ = some (.int .i64 0) := R0.out.cell 1
    have d2 : Y0.cell? ⟨w.heap.size, 2, none⟩ = some (.int .i64 0) := R0.out.cell 2
    have d3 : Y0.cell? ⟨w.heap.size, 3, none⟩ = some (.int .i64 0) := R0.out.cell 3
    have d4 : Y0.cell? ⟨w.heap.size, 4, none⟩ = some (.int .i64 0) := R0.out.cell 4
    have d5 : Y0.cell? ⟨w.heap.size, 5, none⟩ = some (.string ⟨#[]⟩) := R0.out.cell 5
    have d6 : Y0.cell? ⟨w.heap.size, 6, none⟩ = some (.string ⟨#[]⟩) := R0.out.cell 6
    have f0 := (R0.out).free 0
    have f1 := (R0.out).free 1
    have f2 := (R0.out).free 2
    have f3 := (R0.out).free 3
    have f4 := (R0.out).free 4
    have f5 := (R0.out).free 5
    have f6 := (R0.out).free 6
    have R9 := (R0.out).put7 (.int .i64 0) (.int .i64 0) (.int .i64 0) (.int .i64 0) (.int .i64 0) (.string ⟨#[]⟩) (.string ⟨#[]⟩)
    have j0 := R9.cell 0
    have j1 := R9.cell 1
    have j2 := R9.cell 2
    have j3 := R9.cell 3
    have j4 := R9.cell 4
    have j5 := R9.cell 5
    have j6 := R9.cell 6
    have BZ := Lib.hid (below_put7 B0.out (Nat.le_refl _) (.int .i64 0) (.int .i64 0) (.int .i64 0) (.int .i64 0) (.int .i64 0) (.string ⟨#[]⟩) (.string ⟨#[]⟩))
    clear R9
    go_wp2_with fail
    exact bodyPost_ret (v := .tuple #[.agg #[.int .i64 0, .int .i64 0, .int .i64 0, .int .i64 0, .int .i64 0, .string ⟨#[]⟩, .string ⟨#[]⟩], .bool false]) (by simp [results, Tryd.results11, go_sem, j0, j1, j2, j3, j4, j5, j6]) rfl (by exact ⟨rfl, BZ.out⟩)
  · have K1 := Lib.hid (inRange_no role 1 2 (by omega))
    clear h hr
    go_enter Tryd.func11, Tryd.ntmps11
    go_upto_region 1 with fail
    generalize w.alloc (.cells #[.int .i64 0, .int .i64 0, .int .i64 0, .int .i64 0, .int .i64 0, .string ⟨#[]⟩, .string ⟨#[]⟩] GreeterT) = Y0 at *
    go_wp2_with fail
    refine (K1.out _).mono ?_
    rintro e w1 ⟨rfl, hw⟩
    rw [hw]
    clear hw
    have d0 : Y0.cell? ⟨w.heap.size, 0, none⟩ = some (.int .i64 0) := R0.out.cell 0
    have d1 : Y0.cell? ⟨w.heap.size, 1, none⟩ = some (.int .i64 0) := R0.out.cell 1
    have d2 : Y0.cell? ⟨w.heap.size, 2, none⟩ = some (.int .i64 0) := R0.out.cell 2
    have d3 : Y0.cell? ⟨w.heap.size, 3, none⟩ = some (.int .i64 0) := R0.out.cell 3
    have d4 : Y0.cell? ⟨w.heap.size, 4, none⟩ = some (.int .i64 0) := R0.out.cell 4
    have d5 : Y0.cell? ⟨w.heap.size, 5, none⟩ = some (.string ⟨#[]⟩) := R0.out.cell 5
    have d6 : Y0.cell? ⟨w.heap.size, 6, none⟩ = some (.string ⟨#[]⟩) := R0.out.cell 6
    have f0 := (R0.out).free 0
    have f1 := (R0.out).free 1
    have f2 := (R0.out).free 2
    have f3 := (R0.out).free 3
    have f4 := (R0.out).free 4
    have f5 := (R0.out).free 5
    have f6 := (R0.out).free 6
    have R9 := (R0.out).put7 (.int .i64 0) (.int .i64 0) (.int .i64 0) (.int .i64 0) (.int .i64 0) (.string ⟨#[]⟩) (.string ⟨#[]⟩)
    have j0 := R9.cell 0
    have j1 := R9.cell 1
    have j2 := R9.cell 2
    have j3 := R9.cell 3
    have j4 := R9.cell 4
    have j5 := R9.cell 5
    have j6 := R9.cell 6
    have BZ := Lib.hid (below_put7 B0.out (Nat.le_refl _) (.int .i64 0) (.int .i64 0) (.int .i64 0) (.int .i64 0) (.int .i64 0) (.string ⟨#[]⟩) (.string ⟨#[]⟩))
    clear R9
    go_wp2_with fail
    exact bodyPost_ret (v := .tuple #[.agg #[.int .i64 0, .int .i64 0, .int .i64 0, .int .i64 0, .int .i64 0, .string ⟨#[]⟩, .string ⟨#[]⟩], .bool false]) (by simp [results, Tryd.results11, go_sem, j0, j1, j2, j3, j4, j5, j6]) rfl (by exact ⟨rfl, BZ.out⟩)

end Go.Proofs.YtkjjdoadjhjmbatDoor
namespace Go.Proofs.YtkjjdoadjhjmbatDoor
open Go.RowKit

set_option maxRecDepth 100000 in
set_option maxHeartbeats 400000 in
theorem lawGreeterNew_bigA (role pin : Int) (seed once : ByteArray) (h : 1048576 < seed.size) (w : World) :
    Calls Tryd.prog 4 #[.int .i64 role, .string seed, .string once, .int .i64 pin] w fun e w' => e = .returned (.bool true) ∧ Below w.heap.size w w' := by
  go_enter Tryd.func4, Tryd.ntmps4
  go_wp2_with fail
  go_ret
  exact ⟨rfl, Below.refl _ _⟩

set_option maxRecDepth 100000 in
set_option maxHeartbeats 400000 in
theorem lawGreeterNew_bigB (role pin : Int) (seed once : ByteArray) (h0 : seed.size ≤ 1048576) (h : 1048576 < once.size) (w : World) :
    Calls Tryd.prog 4 #[.int .i64 role, .string seed, .string once, .int .i64 pin] w fun e w' => e = .returned (.bool true) ∧ Below w.heap.size w w' := by
  go_enter Tryd.func4, Tryd.ntmps4
  go_wp2_with fail
  go_ret
  exact ⟨rfl, Below.refl _ _⟩

set_option maxRecDepth 100000 in
set_option maxHeartbeats 3200000 in
/-- The exact law on GreeterNew, out of one answer that both give. -/
theorem lawGreeterNewF (L : World → Prop) (stays : ∀ X Y, L X → Below X.heap.size X Y → L Y) (role pin : Int) (seed once : ByteArray) (h1 : seed.size ≤ 1048576) (h2 : once.size ≤ 1048576) (y0 y1 y2 y3 y4 : Int) (y5 y6 : ByteArray) (ok : Bool)
    (hI : ∀ X : World, L X → Calls Tryd.prog 12 #[.int .i64 role, .string seed, .string once, .int .i64 pin] X fun e Y => e = .returned (.tuple #[.agg #[.int .i64 y0, .int .i64 y1, .int .i64 y2, .int .i64 y3, .int .i64 y4, .string y5, .string y6], .bool ok]) ∧ Below X.heap.size X Y)
    (hS : ∀ X : World, Calls Tryd.prog 11 #[.int .i64 role, .string seed, .string once, .int .i64 pin] X fun e Y => e = .returned (.tuple #[.agg #[.int .i64 y0, .int .i64 y1, .int .i64 y2, .int .i64 y3, .int .i64 y4, .string y5, .string y6], .bool ok]) ∧ Below X.heap.size X Y)
    (w : World) (ht : L w) :
    Calls Tryd.prog 4 #[.int .i64 role, .string seed, .string once, .int .i64 pin] w fun e w' => e = .returned (.bool true) ∧ Below w.heap.size w w' := by
  have HI := Lib.hid hI
  have HT0 : Hid (∀ X, Below w.heap.size w X → L X) := fun X hX => stays w X ht hX
  have HS := Lib.hid hS
  clear hI hS ht stays
  go_enter Tryd.func4, Tryd.ntmps4
  go_wp2_with fail
  refine (HS.out _).mono ?_
  rintro e Y1 ⟨rfl, hb⟩
  have hal : Below Y1.heap.size Y1 (Y1.alloc (.cells #[.int .i64 y0, .int .i64 y1, .int .i64 y2, .int .i64 y3, .int .i64 y4, .string y5, .string y6] GreeterT)) := (Below.refl _ _).alloc (Nat.le_refl _) _
  have U := Lib.hid (VarA.new Y1 GreeterT #[.int .i64 y0, .int .i64 y1, .int .i64 y2, .int .i64 y3, .int .i64 y4, .string y5, .string y6])
  have B := Lib.hid (hb.trans (hal.mono hb.size))
  clear hal hb
  go_upto_region 6 with fail
  generalize Y1.alloc (.cells #[.int .i64 y0, .int .i64 y1, .int .i64 y2, .int .i64 y3, .int .i64 y4, .string y5, .string y6] GreeterT) = Z1 at *
  generalize Y1.heap.size = gu at *
  go_wp2_with fail
  refine (HI.out _ (HT0.out _ B.out)).mono ?_
  rintro e Y2 ⟨rfl, hb⟩
  replace U := Lib.hid (U.out.next hb)
  replace B := Lib.hid (B.out.trans (hb.mono B.out.size))
  have hal : Below Y2.heap.size Y2 (Y2.alloc (.cells #[.int .i64 y0, .int .i64 y1, .int .i64 y2, .int .i64 y3, .int .i64 y4, .string y5, .string y6] GreeterT)) := (Below.refl _ _).alloc (Nat.le_refl _) _
  have V := Lib.hid (VarA.new Y2 GreeterT #[.int .i64 y0, .int .i64 y1, .int .i64 y2, .int .i64 y3, .int .i64 y4, .string y5, .string y6])
  replace U := Lib.hid (U.out.next hal)
  replace B := Lib.hid (B.out.trans (hal.mono B.out.size))
  clear hal hb
  go_upto_region 7 with fail
  generalize Y2.alloc (.cells #[.int .i64 y0, .int .i64 y1, .int .i64 y2, .int .i64 y3, .int .i64 y4, .string y5, .string y6] GreeterT) = Z2 at *
  generalize Y2.heap.size = gv at *
  have d0 : Z2.cell? ⟨gu, 0, none⟩ = some (.int .i64 y0) := U.out.cell 0
  have d1 : Z2.cell? ⟨gu, 1, none⟩ = some (.int .i64 y1) := U.out.cell 1
  have d2 : Z2.cell? ⟨gu, 2, none⟩ = some (.int .i64 y2) := U.out.cell 2
  have d3 : Z2.cell? ⟨gu, 3, none⟩ = some (.int .i64 y3) := U.out.cell 3
  have d4 : Z2.cell? ⟨gu, 4, none⟩ = some (.int .i64 y4) := U.out.cell 4
  have d5 : Z2.cell? ⟨gu, 5, none⟩ = some (.string y5) := U.out.cell 5
  have d6 : Z2.cell? ⟨gu, 6, none⟩ = some (.string y6) := U.out.cell 6
  have e0 : Z2.cell? ⟨gv, 0, none⟩ = some (.int .i64 y0) := V.out.cell 0
  have e1 : Z2.cell? ⟨gv, 1, none⟩ = some (.int .i64 y1) := V.out.cell 1
  have e2 : Z2.cell? ⟨gv, 2, none⟩ = some (.int .i64 y2) := V.out.cell 2
  have e3 : Z2.cell? ⟨gv, 3, none⟩ = some (.int .i64 y3) := V.out.cell 3
  have e4 : Z2.cell? ⟨gv, 4, none⟩ = some (.int .i64 y4) := V.out.cell 4
  have e5 : Z2.cell? ⟨gv, 5, none⟩ = some (.string y5) := V.out.cell 5
  have e6 : Z2.cell? ⟨gv, 6, none⟩ = some (.string y6) := V.out.cell 6
  have KE := Lib.hid (eqGreeter_same y0 y1 y2 y3 y4 y5 y6 Z2)
  cases ok
  all_goals
    go_wp2_with fail
    refine (KE.out).mono ?_
    rintro e Z3 ⟨rfl, hb⟩
    replace B := Lib.hid (B.out.trans (hb.mono B.out.size))
    clear hb
    go_wp2_with fail
    go_ret
    exact ⟨rfl, B.out⟩

end Go.Proofs.YtkjjdoadjhjmbatDoor
namespace Go.Proofs.YtkjjdoadjhjmbatDoor
open Go.RowKit

theorem lawGreeterNew (role : Int) (seed once : ByteArray) (pin : Int) (w : World) (hK : LaidK w) :
    Calls Tryd.prog 4 #[.int .i64 role, .string seed, .string once, .int .i64 pin] w fun e w' => e = .returned (.bool true) ∧ Below w.heap.size w w' := by
  by_cases h1 : seed.size ≤ 1048576
  · by_cases h2 : once.size ≤ 1048576
    · by_cases h : NewP role pin
      · exact lawGreeterNewF LaidK (fun _ _ h hb => h.stays hb (Nat.le_refl _)) role pin seed once h1 h2 role (secretP seed : Nat) pin (secretP once : Nat) 0 ⟨#[]⟩ ⟨#[]⟩ true (fun X hX => implGreeterNew_yes role pin seed once h h1 h2 X hX) (fun X => specGreeterNew_yes role pin seed once h (by omega) (by omega) X) w hK
      · exact lawGreeterNewF LaidK (fun _ _ h hb => h.stays hb (Nat.le_refl _)) role pin seed once h1 h2 0 0 0 0 0 ⟨#[]⟩ ⟨#[]⟩ false (fun X _ => implGreeterNew_no role pin seed once h X) (fun X => specGreeterNew_no role pin seed once h X) w hK
    · exact lawGreeterNew_bigB role pin seed once h1 (by omega) w
  · exact lawGreeterNew_bigA role pin seed once (by omega) w

end Go.Proofs.YtkjjdoadjhjmbatDoor
