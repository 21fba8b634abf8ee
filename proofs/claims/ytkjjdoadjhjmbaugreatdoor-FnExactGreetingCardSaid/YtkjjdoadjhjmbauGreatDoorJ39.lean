/-
  What an event of a greeting does, whichever it is, by the given code.
  The given GreeterNew.
  Seeds through a region that draws its order.
  Seeds through a region that draws its order; the ends of a greeting.
-/
import Derived.Test.YtkjjdoadjhjmbauGreatDoorJ38
import Derived.Test.YtkjjdoadjhjmbauGreatDoorJ31
import Derived.Test.YtkjjdoadjhjmbauGreatDoorJ15
import Derived.Test.YtkjjdoadjhjmbauGreatDoorJ24
import Derived.Test.YtkjjdoadjhjmbauGreatDoorJ29
import Derived.Test.YtkjjdoadjhjmbauGreatDoorJ36
import Derived.Test.YtkjjdoadjhjmbauGreatDoorJ32
import Derived.Test.YtkjjdoadjhjmbauGreatDoorJ34
namespace Go.Proofs.YtkjjdoadjhjmbauGreatDoor
open Go.RowKit

theorem took_if (e : Int) (i : Nat) : tookT e i = if decide (1 < e % 4) then i else i + 1 := by
  unfold tookT
  by_cases h : 1 < e % 4
  · rw [if_pos h, if_pos (decide_eq_true h)]
  · rw [if_neg h, if_neg (by simp [h])]
theorem GI.small {r sec pin once : Int} {mine other : ByteArray} {i : Nat} {g : GrD} (h : GI r sec pin once mine other i g) : g.1 = r ∧ g.2.2.2.2.2.1 = mine ∧ g.2.2.2.2.2.2.size ≤ 6 := by
  obtain ⟨k, y, rfl, -, -, -, h3⟩ := h
  exact ⟨rfl, rfl, h3⟩
theorem specDo_any {lo T gl gs ga : Nat} {va vb : Value} {s0 s1 s2 s3 : ByteArray} {n : Nat} {e : Int} {z z' : GT} {X : World} (hn : n ≤ 100) (hp : GP s0 s1 s2 s3 z) (hz : GZ n z) (hd : DoIs e z z') (hlo : lo ≤ X.heap.size) (h : GM lo T gl gs ga va vb z.a z.b z.sa z.sb z.ia z.ib X) :
    Calls Tryz.prog 35 #[.pointer (some ⟨T, 0, none⟩), .int .i64 (e % 2), .bool (decide (1 < e % 4))] X fun r X' => r = .returned (.tuple #[]) ∧ (∃ va' vb', GM lo T gl gs ga va' vb' z'.a z'.b z'.sa z'.sb z'.ia z'.ib X') ∧ Below lo X X' := by
  have qa := hp.ga.small
  have qb := hp.gb.small
  have na := hz.na
  have nb := hz.nb
  have la := hz.la
  have lb := hz.lb
  have ha := hello_size 1 (publicP (secretP s2))
  have hb := hello_size 2 (publicP (secretP s3))
  have q5 : z.b.2.2.2.2.2.1.size ≤ 100000000 := by rw [qb.2.1, hb]; omega
  have p5 : z.a.2.2.2.2.2.1.size ≤ 100000000 := by rw [qa.2.1, ha]; omega
  have q0 : -9223372036854775808 ≤ z.b.1 ∧ z.b.1 ≤ 9223372036854775807 := by rw [qb.1]; omega
  have p0 : -9223372036854775808 ≤ z.a.1 ∧ z.a.1 ≤ 9223372036854775807 := by rw [qa.1]; omega
  rcases hd with ⟨h2, ⟨hle, rfl⟩ | ⟨s, g, t, hs, hh, rfl⟩⟩ | ⟨h2, ⟨hle, rfl⟩ | ⟨s, g, t, hs, hh, rfl⟩⟩
  · rw [h2]
    refine (specDo0_none _ X hle (by omega) h).mono ?_
    rintro r Y ⟨rfl, h3, h4⟩
    exact ⟨rfl, ⟨va, vb, h3⟩, h4⟩
  · rw [h2]
    have hsz := hz.ta s (List.mem_of_getElem? hs)
    refine (specDo0_some _ (tookT e z.ia) (took_if e z.ia) X hs hh (by omega) q0 q5 (Nat.le_trans qb.2.2 (by decide)) (by omega) (by omega) hlo h).mono ?_
    rintro r Y ⟨rfl, ⟨v', h3⟩, h4⟩
    exact ⟨rfl, ⟨va, v', h3⟩, h4⟩
  · rw [h2]
    refine (specDo1_none _ X hle (by omega) h).mono ?_
    rintro r Y ⟨rfl, h3, h4⟩
    exact ⟨rfl, ⟨va, vb, h3⟩, h4⟩
  · rw [h2]
    have hsz := hz.tb s (List.mem_of_getElem? hs)
    refine (specDo1_some _ (tookT e z.ib) (took_if e z.ib) X hs hh (by omega) p0 p5 (Nat.le_trans qa.2.2 (by decide)) (by omega) (by omega) hlo h).mono ?_
    rintro r Y ⟨rfl, ⟨v', h3⟩, h4⟩
    exact ⟨rfl, ⟨v', vb, h3⟩, h4⟩

end Go.Proofs.YtkjjdoadjhjmbauGreatDoor
namespace Go.Proofs.YtkjjdoadjhjmbauGreatDoor
open Go.RowKit

set_option maxRecDepth 100000 in
set_option maxHeartbeats 1600000 in
theorem specGreeterNew_yes (role pin : Int) (seed once : ByteArray) (h : NewP role pin) (hs : seed.size ≤ 400000000) (ho : once.size ≤ 400000000) (w : World) :
    Calls Tryz.prog 31 #[.int .i64 role, .string seed, .string once, .int .i64 pin] w fun e w' => e = .returned (.tuple #[.agg #[.int .i64 role, .int .i64 (secretP seed : Nat), .int .i64 pin, .int .i64 (secretP once : Nat), .int .i64 0, .string ⟨#[]⟩, .string ⟨#[]⟩], .bool true]) ∧ Below w.heap.size w w' := by
  obtain ⟨⟨h1, h2⟩, hp⟩ := h
  have R0 := Lib.hid (VarA.new w GreeterT #[.int .i64 0, .int .i64 0, .int .i64 0, .int .i64 0, .int .i64 0, .string ⟨#[]⟩, .string ⟨#[]⟩])
  have B0 := Lib.hid ((Below.refl w.heap.size w).alloc (Nat.le_refl _) (.cells #[.int .i64 0, .int .i64 0, .int .i64 0, .int .i64 0, .int .i64 0, .string ⟨#[]⟩, .string ⟨#[]⟩] GreeterT))
  have K1 := Lib.hid (inRange_yes role 1 2 h1 h2)
  have K2 := Lib.hid (specInGroup_any pin)
  rw [hp] at K2
  have K3 := Lib.hid (specSecretOf_any seed hs)
  have K4 := Lib.hid (specSecretOf_any once ho)
  generalize secretP seed = k1 at *
  generalize secretP once = k2 at *
  clear h1 h2 hp hs ho
  go_enter Tryz.func31, Tryz.ntmps31
  go_upto_region 1 with fail
  generalize w.alloc (.cells #[.int .i64 0, .int .i64 0, .int .i64 0, .int .i64 0, .int .i64 0, .string ⟨#[]⟩, .string ⟨#[]⟩] GreeterT) = Y0 at *
  go_wp2_with fail
  refine (K1.out _).mono ?_
  rintro e w1 ⟨rfl, hw⟩
  rw [hw]
  clear hw
  go_wp2_with fail
  refine (K2.out _).mono ?_
  rintro e w1 ⟨rfl, hw⟩
  rw [hw]
  clear hw
  go_wp2_with fail
  refine (K3.out _).mono ?_
  rintro e w1 ⟨rfl, hb⟩
  have R1 := Lib.hid (R0.out.next hb)
  have B1 := Lib.hid (B0.out.trans (hb.mono B0.out.size))
  clear hb R0 B0
  go_wp2_with fail
  refine (K4.out _).mono ?_
  rintro e w2 ⟨rfl, hb⟩
  have R2 := Lib.hid (R1.out.next hb)
  have B2 := Lib.hid (B1.out.trans (hb.mono B1.out.size))
  clear hb R1 B1
  have d0 : w2.cell? ⟨w.heap.size, 0, none⟩ = some (.int .i64 0) := R2.out.cell 0
  have d1 : w2.cell? ⟨w.heap.size, 1, none⟩ = some (.int .i64 0) := R2.out.cell 1
  have d2 : w2.cell? ⟨w.heap.size, 2, none⟩ = some (.int .i64 0) := R2.out.cell 2
  have d3 : w2.cell? ⟨w.heap.size, 3, none⟩ = some (.int .i64 0) := R2.out.cell 3
  have d4 : w2.cell? ⟨w.heap.size, 4, none⟩ = some (.int .i64 0) := R2.out.cell 4
  have d5 : w2.cell? ⟨w.heap.size, 5, none⟩ = some (.string ⟨#[]⟩) := R2.out.cell 5
  have d6 : w2.cell? ⟨w.heap.size, 6, none⟩ = some (.string ⟨#[]⟩) := R2.out.cell 6
  have f0 := (R2.out).free 0
  have f1 := (R2.out).free 1
  have f2 := (R2.out).free 2
  have f3 := (R2.out).free 3
  have f4 := (R2.out).free 4
  have f5 := (R2.out).free 5
  have f6 := (R2.out).free 6
  have R9 := (R2.out).put7 (.int .i64 role) (.int .i64 k1) (.int .i64 pin) (.int .i64 k2) (.int .i64 0) (.string ⟨#[]⟩) (.string ⟨#[]⟩)
  have j0 := R9.cell 0
  have j1 := R9.cell 1
  have j2 := R9.cell 2
  have j3 := R9.cell 3
  have j4 := R9.cell 4
  have j5 := R9.cell 5
  have j6 := R9.cell 6
  have BZ := Lib.hid (below_put7 B2.out (Nat.le_refl _) (.int .i64 role) (.int .i64 k1) (.int .i64 pin) (.int .i64 k2) (.int .i64 0) (.string ⟨#[]⟩) (.string ⟨#[]⟩))
  clear R9
  go_wp2_with fail
  exact bodyPost_ret (v := .tuple #[.agg #[.int .i64 role, .int .i64 k1, .int .i64 pin, .int .i64 k2, .int .i64 0, .string ⟨#[]⟩, .string ⟨#[]⟩], .bool true]) (by simp [results, Tryz.results31, go_sem, j0, j1, j2, j3, j4, j5, j6]) rfl (by exact ⟨rfl, BZ.out⟩)
set_option maxRecDepth 100000 in
set_option maxHeartbeats 1600000 in
theorem specGreeterNew_no (role pin : Int) (seed once : ByteArray) (h : ¬ NewP role pin) (w : World) :
    Calls Tryz.prog 31 #[.int .i64 role, .string seed, .string once, .int .i64 pin] w fun e w' => e = .returned (.tuple #[.agg #[.int .i64 0, .int .i64 0, .int .i64 0, .int .i64 0, .int .i64 0, .string ⟨#[]⟩, .string ⟨#[]⟩], .bool false]) ∧ Below w.heap.size w w' := by
  have R0 := Lib.hid (VarA.new w GreeterT #[.int .i64 0, .int .i64 0, .int .i64 0, .int .i64 0, .int .i64 0, .string ⟨#[]⟩, .string ⟨#[]⟩])
  have B0 := Lib.hid ((Below.refl w.heap.size w).alloc (Nat.le_refl _) (.cells #[.int .i64 0, .int .i64 0, .int .i64 0, .int .i64 0, .int .i64 0, .string ⟨#[]⟩, .string ⟨#[]⟩] GreeterT))
  by_cases hr : 1 ≤ role ∧ role ≤ 2
  · have hp : inGroup pin = false := by
      cases e : inGroup pin with
      | false => rfl
      | true => exact absurd ⟨hr, e⟩ h
    have K1 := Lib.hid (inRange_yes role 1 2 hr.1 hr.2)
    have K2 := Lib.hid (specInGroup_any pin)
    rw [hp] at K2
    clear h hr hp
    go_enter Tryz.func31, Tryz.ntmps31
    go_upto_region 1 with fail
    generalize w.alloc (.cells #[.int .i64 0, .int .i64 0, .int .i64 0, .int .i64 0, .int .i64 0, .string ⟨#[]⟩, .string ⟨#[]⟩] GreeterT) = Y0 at *
    go_wp2_with fail
    refine (K1.out _).mono ?_
    rintro e w1 ⟨rfl, hw⟩
    rw [hw]
    clear hw
    go_wp2_with fail
    refine (K2.out _).mono ?_
    rintro e w1 ⟨rfl, hw⟩
    rw [hw]
    clear hw
    have d0 : Y0.cell? ⟨w.heap.size, 0, none⟩ = some (.int .i64 0) := R0.out.cell 0
    have d1 : Y0.cell? ⟨w.heap.size, 1, none⟩ = some (.int .i64 0) := R0.out.cell 1
    have d2 : Y0.cell? ⟨w.heap.size, 2, none⟩ = some (.int .i64 0) := R0.out.cell 2
    have d3 : Y0.cell? ⟨w.heap.size, 3, none⟩ = some (.int .i64 0) := R0.out.cell 3
    have d4 : Y0.cell? ⟨w.heap.size, 4, none⟩ = some (.int .i64 0) := R0.out.cell 4
    have d5 : Y0.cell? ⟨w.heap.size, 5, none⟩ = some (.string ⟨#[]⟩) := R0.out.cell 5
    have d6 : Y0.cell? ⟨w.heap.size, 6, none⟩ = some (.string ⟨#[]⟩) := R0.out.cell 6
    have f0 := (R0.out).free 0
    have f1 := (R0.out).free 1
    have f2 := (R0.out).free 2
    have f3 := (R0.out).free 3
    have f4 := (R0.out).free 4
    have f5 := (R0.out).free 5
    have f6 := (R0.out).free 6
    have R9 := (R0.out).put7 (.int .i64 0) (.int .i64 0) (.int .i64 0) (.int .i64 0) (.int .i64 0) (.string ⟨#[]⟩) (.string ⟨#[]⟩)
    have j0 := R9.cell 0
    have j1 := R9.cell 1
    have j2 := R9.cell 2
    have j3 := R9.cell 3
    have j4 := R9.cell 4
    have j5 := R9.cell 5
    have j6 := R9.cell 6
    have BZ := Lib.hid (below_put7 B0.out (Nat.le_refl _) (.int .i64 0) (.int .i64 0) (.int .i64 0) (.int .i64 0) (.int .i64 0) (.string ⟨#[]⟩) (.string ⟨#[]⟩))
    clear R9
    go_wp2_with fail
    exact bodyPost_ret (v := .tuple #[.agg #[.int .i64 0, .int .i64 0, .int .i64 0, .int .i64 0, .int .i64 0, .string ⟨#[]⟩, .string ⟨#[]⟩], .bool false]) (by simp [results, Tryz.results31, go_sem, j0, j1, j2, j3, j4, j5, j6]) rfl (by exact ⟨rfl, BZ.out⟩)
  · have K1 := Lib.hid (inRange_no role 1 2 (by omega))
    clear h hr
    go_enter Tryz.func31, Tryz.ntmps31
    go_upto_region 1 with fail
    generalize w.alloc (.cells #[.int .i64 0, .int .i64 0, .int .i64 0, .int .i64 0, .int .i64 0, .string ⟨#[]⟩, .string ⟨#[]⟩] GreeterT) = Y0 at *
    go_wp2_with fail
    refine (K1.out _).mono ?_
    rintro e w1 ⟨rfl, hw⟩
    rw [hw]
    clear hw
    have d0 : Y0.cell? ⟨w.heap.size, 0, none⟩ = some (.int .i64 0) := R0.out.cell 0
    have d1 : Y0.cell? ⟨w.heap.size, 1, none⟩ = some (.int .i64 0) := R0.out.cell 1
    have d2 : Y0.cell? ⟨w.heap.size, 2, none⟩ = some (.int .i64 0) := R0.out.cell 2
    have d3 : Y0.cell? ⟨w.heap.size, 3, none⟩ = some (.int .i64 0) := R0.out.cell 3
    have d4 : Y0.cell? ⟨w.heap.size, 4, none⟩ = some (.int .i64 0) := R0.out.cell 4
    have d5 : Y0.cell? ⟨w.heap.size, 5, none⟩ = some (.string ⟨#[]⟩) := R0.out.cell 5
    have d6 : Y0.cell? ⟨w.heap.size, 6, none⟩ = some (.string ⟨#[]⟩) := R0.out.cell 6
    have f0 := (R0.out).free 0
    have f1 := (R0.out).free 1
    have f2 := (R0.out).free 2
    have f3 := (R0.out).free 3
    have f4 := (R0.out).free 4
    have f5 := (R0.out).free 5
    have f6 := (R0.out).free 6
    have R9 := (R0.out).put7 (.int .i64 0) (.int .i64 0) (.int .i64 0) (.int .i64 0) (.int .i64 0) (.string ⟨#[]⟩) (.string ⟨#[]⟩)
    have j0 := R9.cell 0
    have j1 := R9.cell 1
    have j2 := R9.cell 2
    have j3 := R9.cell 3
    have j4 := R9.cell 4
    have j5 := R9.cell 5
    have j6 := R9.cell 6
    have BZ := Lib.hid (below_put7 B0.out (Nat.le_refl _) (.int .i64 0) (.int .i64 0) (.int .i64 0) (.int .i64 0) (.int .i64 0) (.string ⟨#[]⟩) (.string ⟨#[]⟩))
    clear R9
    go_wp2_with fail
    exact bodyPost_ret (v := .tuple #[.agg #[.int .i64 0, .int .i64 0, .int .i64 0, .int .i64 0, .int .i64 0, .string ⟨#[]⟩, .string ⟨#[]⟩], .bool false]) (by simp [results, Tryz.results31, go_sem, j0, j1, j2, j3, j4, j5, j6]) rfl (by exact ⟨rfl, BZ.out⟩)

end Go.Proofs.YtkjjdoadjhjmbauGreatDoor
namespace Go.Proofs.YtkjjdoadjhjmbauGreatDoor
open Go.RowKit

section
variable {V X Y : World} {sg so : Nat} {s0 s1 s2 s3 : ByteArray}
theorem seeds_next (h : X.cell? ⟨sg, so, none⟩ = some (.string s0) ∧ X.cell? ⟨sg, so + 1, none⟩ = some (.string s1) ∧ X.cell? ⟨sg, so + 2, none⟩ = some (.string s2) ∧ X.cell? ⟨sg, so + 3, none⟩ = some (.string s3) ∧ Below V.heap.size V X) (hb : Below X.heap.size X Y) : Y.cell? ⟨sg, so, none⟩ = some (.string s0) ∧ Y.cell? ⟨sg, so + 1, none⟩ = some (.string s1) ∧ Y.cell? ⟨sg, so + 2, none⟩ = some (.string s2) ∧ Y.cell? ⟨sg, so + 3, none⟩ = some (.string s3) ∧ Below V.heap.size V Y := by
  obtain ⟨h0, h1, h2, h3, h4⟩ := h
  have hg : sg < X.heap.size := cell_size (p := ⟨sg, so, none⟩) h0
  exact ⟨by rw [hb.cell (p := ⟨sg, so, none⟩) hg]; exact h0, by rw [hb.cell (p := ⟨sg, so + 1, none⟩) hg]; exact h1, by rw [hb.cell (p := ⟨sg, so + 2, none⟩) hg]; exact h2, by rw [hb.cell (p := ⟨sg, so + 3, none⟩) hg]; exact h3, h4.trans (hb.mono h4.size)⟩
theorem seeds_drew (h : X.cell? ⟨sg, so, none⟩ = some (.string s0) ∧ X.cell? ⟨sg, so + 1, none⟩ = some (.string s1) ∧ X.cell? ⟨sg, so + 2, none⟩ = some (.string s2) ∧ X.cell? ⟨sg, so + 3, none⟩ = some (.string s3) ∧ Below V.heap.size V X) : X.drew.cell? ⟨sg, so, none⟩ = some (.string s0) ∧ X.drew.cell? ⟨sg, so + 1, none⟩ = some (.string s1) ∧ X.drew.cell? ⟨sg, so + 2, none⟩ = some (.string s2) ∧ X.drew.cell? ⟨sg, so + 3, none⟩ = some (.string s3) ∧ Below V.heap.size V X.drew := seeds_next h ((Below.refl _ X).drew)
theorem seeds_alloc (h : X.cell? ⟨sg, so, none⟩ = some (.string s0) ∧ X.cell? ⟨sg, so + 1, none⟩ = some (.string s1) ∧ X.cell? ⟨sg, so + 2, none⟩ = some (.string s2) ∧ X.cell? ⟨sg, so + 3, none⟩ = some (.string s3) ∧ Below V.heap.size V X) (o : Obj) : (X.alloc o).cell? ⟨sg, so, none⟩ = some (.string s0) ∧ (X.alloc o).cell? ⟨sg, so + 1, none⟩ = some (.string s1) ∧ (X.alloc o).cell? ⟨sg, so + 2, none⟩ = some (.string s2) ∧ (X.alloc o).cell? ⟨sg, so + 3, none⟩ = some (.string s3) ∧ Below V.heap.size V (X.alloc o) := seeds_next h ((Below.refl _ X).alloc (Nat.le_refl _) o)
theorem seeds_set (h : X.cell? ⟨sg, so, none⟩ = some (.string s0) ∧ X.cell? ⟨sg, so + 1, none⟩ = some (.string s1) ∧ X.cell? ⟨sg, so + 2, none⟩ = some (.string s2) ∧ X.cell? ⟨sg, so + 3, none⟩ = some (.string s3) ∧ Below V.heap.size V X) {G : Nat} (j : Nat) (hG : V.heap.size ≤ G) (h9 : sg < V.heap.size) (u : Value) : (X.setCell ⟨G, j, none⟩ u).cell? ⟨sg, so, none⟩ = some (.string s0) ∧ (X.setCell ⟨G, j, none⟩ u).cell? ⟨sg, so + 1, none⟩ = some (.string s1) ∧ (X.setCell ⟨G, j, none⟩ u).cell? ⟨sg, so + 2, none⟩ = some (.string s2) ∧ (X.setCell ⟨G, j, none⟩ u).cell? ⟨sg, so + 3, none⟩ = some (.string s3) ∧ Below V.heap.size V (X.setCell ⟨G, j, none⟩ u) := by
  obtain ⟨h0, h1, h2, h3, h4⟩ := h
  exact ⟨by rw [World.cell?_setCell_far _ _ _ _ (by show G ≠ sg; omega)]; exact h0, by rw [World.cell?_setCell_far _ _ _ _ (by show G ≠ sg; omega)]; exact h1, by rw [World.cell?_setCell_far _ _ _ _ (by show G ≠ sg; omega)]; exact h2, by rw [World.cell?_setCell_far _ _ _ _ (by show G ≠ sg; omega)]; exact h3, h4.setCell (p := ⟨G, j, none⟩) hG u⟩
theorem seeds_put7 (h : X.cell? ⟨sg, so, none⟩ = some (.string s0) ∧ X.cell? ⟨sg, so + 1, none⟩ = some (.string s1) ∧ X.cell? ⟨sg, so + 2, none⟩ = some (.string s2) ∧ X.cell? ⟨sg, so + 3, none⟩ = some (.string s3) ∧ Below V.heap.size V X) {G : Nat} (hG : V.heap.size ≤ G) (h9 : sg < V.heap.size) (u0 u1 u2 u3 u4 u5 u6 : Value) : (((((((X.setCell ⟨G, 0, none⟩ u0).setCell ⟨G, 1, none⟩ u1).setCell ⟨G, 2, none⟩ u2).setCell ⟨G, 3, none⟩ u3).setCell ⟨G, 4, none⟩ u4).setCell ⟨G, 5, none⟩ u5).setCell ⟨G, 6, none⟩ u6).cell? ⟨sg, so, none⟩ = some (.string s0) ∧ (((((((X.setCell ⟨G, 0, none⟩ u0).setCell ⟨G, 1, none⟩ u1).setCell ⟨G, 2, none⟩ u2).setCell ⟨G, 3, none⟩ u3).setCell ⟨G, 4, none⟩ u4).setCell ⟨G, 5, none⟩ u5).setCell ⟨G, 6, none⟩ u6).cell? ⟨sg, so + 1, none⟩ = some (.string s1) ∧ (((((((X.setCell ⟨G, 0, none⟩ u0).setCell ⟨G, 1, none⟩ u1).setCell ⟨G, 2, none⟩ u2).setCell ⟨G, 3, none⟩ u3).setCell ⟨G, 4, none⟩ u4).setCell ⟨G, 5, none⟩ u5).setCell ⟨G, 6, none⟩ u6).cell? ⟨sg, so + 2, none⟩ = some (.string s2) ∧ (((((((X.setCell ⟨G, 0, none⟩ u0).setCell ⟨G, 1, none⟩ u1).setCell ⟨G, 2, none⟩ u2).setCell ⟨G, 3, none⟩ u3).setCell ⟨G, 4, none⟩ u4).setCell ⟨G, 5, none⟩ u5).setCell ⟨G, 6, none⟩ u6).cell? ⟨sg, so + 3, none⟩ = some (.string s3) ∧ Below V.heap.size V (((((((X.setCell ⟨G, 0, none⟩ u0).setCell ⟨G, 1, none⟩ u1).setCell ⟨G, 2, none⟩ u2).setCell ⟨G, 3, none⟩ u3).setCell ⟨G, 4, none⟩ u4).setCell ⟨G, 5, none⟩ u5).setCell ⟨G, 6, none⟩ u6) := seeds_set (seeds_set (seeds_set (seeds_set (seeds_set (seeds_set (seeds_set h 0 hG h9 u0) 1 hG h9 u1) 2 hG h9 u2) 3 hG h9 u3) 4 hG h9 u4) 5 hG h9 u5) 6 hG h9 u6
end

theorem seeds_of {X : World} {u : Value} {s0 s1 s2 s3 : ByteArray} (h : layStringS.rd X [u] [s0, s1, s2, s3]) : ∃ sg so cap, u = .slice (some ⟨sg, so, none⟩) 4 cap ∧ sg < X.heap.size ∧ X.cell? ⟨sg, so, none⟩ = some (.string s0) ∧ X.cell? ⟨sg, so + 1, none⟩ = some (.string s1) ∧ X.cell? ⟨sg, so + 2, none⟩ = some (.string s2) ∧ X.cell? ⟨sg, so + 3, none⟩ = some (.string s3) := by
  obtain ⟨ao, cp, rfl⟩ := rows_form h
  obtain ⟨sg, so, cs, rfl, hsw, hr, hc⟩ := rows_elem h 0 s0 rfl
  rw [layString_rd] at hr
  subst hr
  refine ⟨sg, so, cp, rfl, hsw, (by have h9 := hc 0 _ rfl; rw [str_k] at h9; exact h9), ?_, ?_, ?_⟩
  · obtain ⟨g', o', cs, he, -, hr, hc⟩ := rows_elem h 1 s1 rfl
    simp only [Option.some.injEq, Addr.mk.injEq] at he
    obtain ⟨rfl, rfl, -⟩ := he
    rw [layString_rd] at hr
    subst hr
    have h9 := hc 0 _ rfl
    rw [str_k] at h9
    exact h9
  · obtain ⟨g', o', cs, he, -, hr, hc⟩ := rows_elem h 2 s2 rfl
    simp only [Option.some.injEq, Addr.mk.injEq] at he
    obtain ⟨rfl, rfl, -⟩ := he
    rw [layString_rd] at hr
    subst hr
    have h9 := hc 0 _ rfl
    rw [str_k] at h9
    exact h9
  · obtain ⟨g', o', cs, he, -, hr, hc⟩ := rows_elem h 3 s3 rfl
    simp only [Option.some.injEq, Addr.mk.injEq] at he
    obtain ⟨rfl, rfl, -⟩ := he
    rw [layString_rd] at hr
    subst hr
    have h9 := hc 0 _ rfl
    rw [str_k] at h9
    exact h9

end Go.Proofs.YtkjjdoadjhjmbauGreatDoor
namespace Go.Proofs.YtkjjdoadjhjmbauGreatDoor
open Go.RowKit

section
variable {V X Y : World}
theorem greet_new {q : Array Value} (hb : Below V.heap.size V X) : VarA X.heap.size GreeterT q (X.alloc (.cells q GreeterT)) ∧ Below V.heap.size V (X.alloc (.cells q GreeterT)) := ⟨VarA.new X GreeterT q, hb.alloc hb.size _⟩
theorem greet_set {G : Nat} {q0 q1 q2 q3 q4 q5 q6 u0 u1 u2 u3 u4 u5 u6 : Value} (rr : VarA G GreeterT #[q0, q1, q2, q3, q4, q5, q6] X) (hG : V.heap.size ≤ G) (hb : Below V.heap.size V X) : VarA G GreeterT #[u0, u1, u2, u3, u4, u5, u6] (((((((X.setCell ⟨G, 0, none⟩ u0).setCell ⟨G, 1, none⟩ u1).setCell ⟨G, 2, none⟩ u2).setCell ⟨G, 3, none⟩ u3).setCell ⟨G, 4, none⟩ u4).setCell ⟨G, 5, none⟩ u5).setCell ⟨G, 6, none⟩ u6) ∧ Below V.heap.size V (((((((X.setCell ⟨G, 0, none⟩ u0).setCell ⟨G, 1, none⟩ u1).setCell ⟨G, 2, none⟩ u2).setCell ⟨G, 3, none⟩ u3).setCell ⟨G, 4, none⟩ u4).setCell ⟨G, 5, none⟩ u5).setCell ⟨G, 6, none⟩ u6) := ⟨rr.put7 _ _ _ _ _ _ _, below_put7 hb hG _ _ _ _ _ _ _⟩
end
theorem owns_var {X : World} {base g n size : Nat} {e : TypeId} {cs : Array Value} (h : VarA g e cs X) (hb : base ≤ g) (hm : n ≤ maxLen) (hs : cs.size = n * size) : X.ownsRow base e size (.slice (some ⟨g, 0, none⟩) n n) n cs.toList :=
  ⟨by simpa using hs, .inr ⟨g, n, cs, rfl, hb, h.row, Nat.le_refl _, hm, hs, List.take_of_length_le (by rw [Array.length_toList, hs]; exact Nat.le_refl _)⟩⟩
theorem GM.told {lo T gl gs ga : Nat} {va vb : Value} {a b : GrD} {sa sb : List ByteArray} {ia ib : Nat} {X : World} (h : GM lo T gl gs ga va vb a b sa sb ia ib X) : layGreeterS.own X lo [gl] [.slice (some ⟨gl, 0, none⟩) 2 2] [a, b] :=
  flat_own flatGreeter (owns_var h.list h.low.2.1 (by decide) rfl) ⟨_, _, rfl, layGreeter_rd.2 rfl, _, [], rfl, layGreeter_rd.2 rfl, rfl⟩
theorem own_one (X : World) (lo : Nat) (hlo : lo ≤ X.heap.size) (t : ByteArray) : layStringS.own (X.alloc (.cells #[.string t] StringT)) lo (blk (.slice (some ⟨X.heap.size, 0, none⟩) 1 1)) [.slice (some ⟨X.heap.size, 0, none⟩) 1 1] [t] :=
  flat_own flatString (World.ownsRow_lit X #[.string t] 1 hlo (by decide) rfl) ⟨[_], [], rfl, layString_rd.2 rfl, rfl⟩

theorem size_alloc (X : World) (o : Obj) : (X.alloc o).heap.size = X.heap.size + 1 := by simp
theorem alloc_below (X : World) (o : Obj) : Below X.heap.size X (X.alloc o) := (Below.refl _ _).alloc (Nat.le_refl _) o
theorem GM.made (X : World) (lo : Nat) (hlo : lo ≤ X.heap.size) (a b : GrD) (m1 m2 : ByteArray) :
    GM lo (X.heap.size + 5) X.heap.size (X.heap.size + 3) (X.heap.size + 4) (.slice (some ⟨X.heap.size + 1, 0, none⟩) 1 1) (.slice (some ⟨X.heap.size + 2, 0, none⟩) 1 1) a b [m1] [m2] 0 0
      ((((((X.alloc (.cells #[.int .i64 a.1, .int .i64 a.2.1, .int .i64 a.2.2.1, .int .i64 a.2.2.2.1, .int .i64 a.2.2.2.2.1, .string a.2.2.2.2.2.1, .string a.2.2.2.2.2.2, .int .i64 b.1, .int .i64 b.2.1, .int .i64 b.2.2.1, .int .i64 b.2.2.2.1, .int .i64 b.2.2.2.2.1, .string b.2.2.2.2.2.1, .string b.2.2.2.2.2.2] GreeterT)).alloc (.cells #[.string m1] StringT)).alloc (.cells #[.string m2] StringT)).alloc (.cells #[.slice (some ⟨X.heap.size + 1, 0, none⟩) 1 1, .slice (some ⟨X.heap.size + 2, 0, none⟩) 1 1] 31)).alloc (.cells #[.int .i64 ((0 : Nat) : Int), .int .i64 ((0 : Nat) : Int)] 3)).alloc (.cells #[.slice (some ⟨X.heap.size, 0, none⟩) 2 2, .slice (some ⟨X.heap.size + 3, 0, none⟩) 2 2, .slice (some ⟨X.heap.size + 4, 0, none⟩) 2 2] GTalkT)) := by
  have v1 := VarA.new X GreeterT #[.int .i64 a.1, .int .i64 a.2.1, .int .i64 a.2.2.1, .int .i64 a.2.2.2.1, .int .i64 a.2.2.2.2.1, .string a.2.2.2.2.2.1, .string a.2.2.2.2.2.2, .int .i64 b.1, .int .i64 b.2.1, .int .i64 b.2.2.1, .int .i64 b.2.2.2.1, .int .i64 b.2.2.2.2.1, .string b.2.2.2.2.2.1, .string b.2.2.2.2.2.2]
  generalize h1 : X.alloc (.cells #[.int .i64 a.1, .int .i64 a.2.1, .int .i64 a.2.2.1, .int .i64 a.2.2.2.1, .int .i64 a.2.2.2.2.1, .string a.2.2.2.2.2.1, .string a.2.2.2.2.2.2, .int .i64 b.1, .int .i64 b.2.1, .int .i64 b.2.2.1, .int .i64 b.2.2.2.1, .int .i64 b.2.2.2.2.1, .string b.2.2.2.2.2.1, .string b.2.2.2.2.2.2] GreeterT) = X1 at *
  have z1 : X1.heap.size = X.heap.size + 1 := by rw [← h1, size_alloc]
  have o1 := own_one X1 lo (by omega) m1
  rw [z1] at o1
  generalize h2 : X1.alloc (.cells #[.string m1] StringT) = X2 at *
  have z2 : X2.heap.size = X.heap.size + 2 := by rw [← h2, size_alloc, z1]
  have o2 := own_one X2 lo (by omega) m2
  rw [z2] at o2
  generalize h3 : X2.alloc (.cells #[.string m2] StringT) = X3 at *
  have z3 : X3.heap.size = X.heap.size + 3 := by rw [← h3, size_alloc, z2]
  have v3 := VarA.new X3 31 #[.slice (some ⟨X.heap.size + 1, 0, none⟩) 1 1, .slice (some ⟨X.heap.size + 2, 0, none⟩) 1 1]
  rw [z3] at v3
  generalize h4 : X3.alloc (.cells #[.slice (some ⟨X.heap.size + 1, 0, none⟩) 1 1, .slice (some ⟨X.heap.size + 2, 0, none⟩) 1 1] 31) = X4 at *
  have z4 : X4.heap.size = X.heap.size + 4 := by rw [← h4, size_alloc, z3]
  have v4 := VarA.new X4 3 #[.int .i64 ((0 : Nat) : Int), .int .i64 ((0 : Nat) : Int)]
  rw [z4] at v4
  generalize h5 : X4.alloc (.cells #[.int .i64 ((0 : Nat) : Int), .int .i64 ((0 : Nat) : Int)] 3) = X5 at *
  have z5 : X5.heap.size = X.heap.size + 5 := by rw [← h5, size_alloc, z4]
  have v5 := VarA.new X5 GTalkT #[.slice (some ⟨X.heap.size, 0, none⟩) 2 2, .slice (some ⟨X.heap.size + 3, 0, none⟩) 2 2, .slice (some ⟨X.heap.size + 4, 0, none⟩) 2 2]
  rw [z5] at v5
  have b1 : Below X1.heap.size X1 X2 := h2 ▸ alloc_below X1 _
  have b2 : Below X2.heap.size X2 X3 := h3 ▸ alloc_below X2 _
  have b3 : Below X3.heap.size X3 X4 := h4 ▸ alloc_below X3 _
  have b4 : Below X4.heap.size X4 X5 := h5 ▸ alloc_below X4 _
  have b5 := alloc_below X5 (.cells #[.slice (some ⟨X.heap.size, 0, none⟩) 2 2, .slice (some ⟨X.heap.size + 3, 0, none⟩) 2 2, .slice (some ⟨X.heap.size + 4, 0, none⟩) 2 2] GTalkT)
  refine ⟨v5, ((((v1.next b1).next b2).next b3).next b4).next b5, (v3.next b4).next b5, v4.next b5, layStringS.next (layStringS.next (layStringS.next (layStringS.next o1 b2) b3) b4) b5, layStringS.next (layStringS.next (layStringS.next o2 b3) b4) b5, ?_, by omega⟩
  intro g hg hg2
  have e1 : g = X.heap.size + 1 := by simpa [blk, Value.ownBlock] using hg
  have e2 : g = X.heap.size + 2 := by simpa [blk, Value.ownBlock] using hg2
  omega

end Go.Proofs.YtkjjdoadjhjmbauGreatDoor
