/-
  The law on greetings, out of the program's contracts.
-/
import Derived.Test.YtkjjdoadjhjmbaeGreatDoorJ35
import Derived.Test.YtkjjdoadjhjmbaeGreatDoorJ36
import Derived.Test.YtkjjdoadjhjmbaeGreatDoorJ43
namespace Go.Proofs.YtkjjdoadjhjmbaeGreatDoor
open Go.RowKit

set_option maxHeartbeats 400000 in
theorem bigG_any (a : Option Addr) (len cap : Nat) (w : World) :
    Calls Tryz.prog 5 #[.slice a len cap] w fun e w' => e = .returned (.bool (decide (1048576 < (len : Int)))) ∧ w' = w := by
  go_enter Tryz.func5, Tryz.ntmps5
  go_wp2
  go_ret
  exact ⟨rfl, rfl⟩
theorem two_below {X Y : World} {g o : Nat} {a b : GreeterD} (h : Two g o a b X) (hb : Below X.heap.size X Y) : Two g o a b Y := by
  have hg : g < X.heap.size := cell_size (p := ⟨g, o, none⟩) h.a0
  exact ⟨(hb.cell (p := ⟨g, o, none⟩) hg).trans h.a0, (hb.cell (p := ⟨g, o + 1, none⟩) hg).trans h.a1, (hb.cell (p := ⟨g, o + 2, none⟩) hg).trans h.a2, (hb.cell (p := ⟨g, o + 3, none⟩) hg).trans h.a3, (hb.cell (p := ⟨g, o + 4, none⟩) hg).trans h.a4, (hb.cell (p := ⟨g, o + 5, none⟩) hg).trans h.a5, (hb.cell (p := ⟨g, o + 6, none⟩) hg).trans h.a6, (hb.cell (p := ⟨g, o + 7, none⟩) hg).trans h.b0, (hb.cell (p := ⟨g, o + 8, none⟩) hg).trans h.b1, (hb.cell (p := ⟨g, o + 9, none⟩) hg).trans h.b2, (hb.cell (p := ⟨g, o + 10, none⟩) hg).trans h.b3, (hb.cell (p := ⟨g, o + 11, none⟩) hg).trans h.b4, (hb.cell (p := ⟨g, o + 12, none⟩) hg).trans h.b5, (hb.cell (p := ⟨g, o + 13, none⟩) hg).trans h.b6⟩
set_option maxRecDepth 100000 in
set_option maxHeartbeats 6400000 in
theorem lawGreetsF {L : World → Prop} (F0 : GreetFns L) (a : Option Addr) (len cap : Nat) (w : World) (H : Src a len w) (hL : L w) :
    Calls Tryz.prog 3 #[.slice a len cap] w fun e w' => e = .returned (.bool true) ∧ Below w.heap.size w w' := by
  have hd : decide (1048576 < (len : Int)) = false := decide_eq_false (by have := H.few; omega)
  have HBG := Lib.hid (fun w => bigG_any a len cap w)
  rw [hd] at HBG
  have HS := Lib.hid H
  have F := Lib.hid F0
  have LL : Hid (∀ X, Below w.heap.size w X → L X) := Lib.hid (fun X hb => F0.stays w X hL hb)
  clear H hL hd F0
  go_enter Tryz.func3, Tryz.ntmps3
  go_wp2_with fail
  refine (HBG.out _).mono ?_
  rintro e w0 ⟨rfl, hw⟩
  rw [hw]
  clear hw w0
  go_wp2_with fail
  refine (drawSeeds_any a len cap w HS.out).mono ?_
  rintro e w1 ⟨vs, ve, s0, s1, s2, s3, es, ⟨z0, z1, z2, z3⟩, ⟨hel, hev⟩, rfl, hrs, hre, hb1⟩
  obtain ⟨y, hy⟩ := run_is es (firstG s0 s1 s2 s3)
  have hgp := (GP.first s0 s1 s2 s3).runs hy
  obtain ⟨qa1, qa2, qa3⟩ := hgp.ga.small
  obtain ⟨qb1, qb2, qb3⟩ := hgp.gb.small
  obtain ⟨ks, ko, up, hka⟩ := keys_is y.a.1 y.a.2.2.2.1 y.a.2.2.2.2.1 y.a.2.2.2.2.2.1 y.a.2.2.2.2.2.2
  obtain ⟨kt, ku, both, hkb⟩ := keys_is y.b.1 y.b.2.2.2.1 y.b.2.2.2.2.1 y.b.2.2.2.2.2.1 y.b.2.2.2.2.2.2
  have KE := Lib.hid (hgp.keys hka hkb)
  have hha := hgp.hasA
  have hhb := hgp.hasB
  have hza : y.a.2.2.2.2.2.1.size ≤ 1048576 := by rw [qa2, hello_size]; omega
  have hzb : y.b.2.2.2.2.2.1.size ≤ 1048576 := by rw [qb2, hello_size]; omega
  have K1 := Lib.hid (F.out.greeting s0 s1 s2 s3 es vs ve hel hev (by omega) (by omega) (by omega) (by omega) y hy w1 (LL.out _ hb1) hrs hre)
  have K2 : Hid (∀ X, Below w1.heap.size w1 X → Calls Tryz.prog 8 #[vs, ve] X fun e X' => GreetRet [y.a, y.b] true X e X') := Lib.hid (fun X hb => specGreeting_yes s0 s1 s2 s3 es vs ve hel hev (by omega) (by omega) (by omega) (by omega) y hy X (layStringS.below hrs hb) (layIntS.below hre hb))
  have KA : Hid (∀ X, L X → Calls Tryz.prog 9 #[.agg #[.int .i64 y.a.1, .int .i64 y.a.2.1, .int .i64 y.a.2.2.1, .int .i64 y.a.2.2.2.1, .int .i64 y.a.2.2.2.2.1, .string y.a.2.2.2.2.2.1, .string y.a.2.2.2.2.2.2]] X fun e X' => e = .returned (.tuple #[.string ks, .string ko, .bool up]) ∧ Below X.heap.size X X') := Lib.hid (F.out.keys _ _ _ _ _ _ _ hza (Nat.le_trans qa3 (by omega)) hha ks ko up hka)
  have KB : Hid (∀ X, L X → Calls Tryz.prog 9 #[.agg #[.int .i64 y.b.1, .int .i64 y.b.2.1, .int .i64 y.b.2.2.1, .int .i64 y.b.2.2.2.1, .int .i64 y.b.2.2.2.2.1, .string y.b.2.2.2.2.2.1, .string y.b.2.2.2.2.2.2]] X fun e X' => e = .returned (.tuple #[.string kt, .string ku, .bool both]) ∧ Below X.heap.size X X') := Lib.hid (F.out.keys _ _ _ _ _ _ _ hzb (Nat.le_trans qb3 (by omega)) hhb kt ku both hkb)
  have TA : Hid (∀ X, L X → Calls Tryz.prog 10 #[.agg #[.int .i64 y.a.1, .int .i64 y.a.2.1, .int .i64 y.a.2.2.1, .int .i64 y.a.2.2.2.1, .int .i64 y.a.2.2.2.2.1, .string y.a.2.2.2.2.2.1, .string y.a.2.2.2.2.2.2]] X fun e X' => e = .returned (.string (transB y.a.1 y.a.2.2.2.2.2.1 y.a.2.2.2.2.2.2)) ∧ Below X.heap.size X X') := Lib.hid (F.out.trans _ _ _ _ _ _ _ hza (Nat.le_trans qa3 (by omega)))
  have TB : Hid (∀ X, L X → Calls Tryz.prog 10 #[.agg #[.int .i64 y.b.1, .int .i64 y.b.2.1, .int .i64 y.b.2.2.1, .int .i64 y.b.2.2.2.1, .int .i64 y.b.2.2.2.2.1, .string y.b.2.2.2.2.2.1, .string y.b.2.2.2.2.2.2]] X fun e X' => e = .returned (.string (transB y.b.1 y.b.2.2.2.2.2.1 y.b.2.2.2.2.2.2)) ∧ Below X.heap.size X X') := Lib.hid (F.out.trans _ _ _ _ _ _ _ hzb (Nat.le_trans qb3 (by omega)))
  have B1 := Lib.hid hb1
  clear qa1 qa2 qa3 qb1 qb2 qb3 hka hkb hha hhb hza hzb hgp hy hrs hre hb1 hel hev F HS HBG z0 z1 z2 z3
  obtain ⟨⟨a0, a1, a2, a3, a4, a5, a6⟩, ⟨b0, b1, b2, b3, b4, b5, b6⟩, sa, sb, ia, ib⟩ := y
  simp only at K1 K2 KA KB TA TB KE
  go_wp2_with fail
  refine K1.out.mono ?_
  rintro e w2 ⟨lv, lf, rfl, -, lown, hb2⟩
  have B2 := Lib.hid (B1.out.trans (hb2.mono B1.out.size))
  have HL := Lib.hid (layGreeterS.read lown)
  go_wp2_with fail
  refine (K2.out w2 hb2).mono ?_
  rintro e w3 ⟨wv, wf, rfl, -, wown, hb3⟩
  have B3 := Lib.hid (B2.out.trans (hb3.mono B2.out.size))
  obtain ⟨gl, ol, cl, rfl, HT1⟩ := two_of (layGreeterS.below HL.out hb3)
  obtain ⟨gw, ow, cw, rfl, HT2⟩ := two_of (layGreeterS.read wown)
  clear lown wown hb2 hb3 K1 K2 HL B1 B2
  have l0 : w3.cell? ⟨gl, ol, none⟩ = some (.int .i64 a0) := HT1.a0
  have l1 : w3.cell? ⟨gl, ol + 1, none⟩ = some (.int .i64 a1) := HT1.a1
  have l2 : w3.cell? ⟨gl, ol + 2, none⟩ = some (.int .i64 a2) := HT1.a2
  have l3 : w3.cell? ⟨gl, ol + 3, none⟩ = some (.int .i64 a3) := HT1.a3
  have l4 : w3.cell? ⟨gl, ol + 4, none⟩ = some (.int .i64 a4) := HT1.a4
  have l5 : w3.cell? ⟨gl, ol + 5, none⟩ = some (.string a5) := HT1.a5
  have l6 : w3.cell? ⟨gl, ol + 6, none⟩ = some (.string a6) := HT1.a6
  have l7 : w3.cell? ⟨gl, ol + 7, none⟩ = some (.int .i64 b0) := HT1.b0
  have l8 : w3.cell? ⟨gl, ol + 8, none⟩ = some (.int .i64 b1) := HT1.b1
  have l9 : w3.cell? ⟨gl, ol + 9, none⟩ = some (.int .i64 b2) := HT1.b2
  have l10 : w3.cell? ⟨gl, ol + 10, none⟩ = some (.int .i64 b3) := HT1.b3
  have l11 : w3.cell? ⟨gl, ol + 11, none⟩ = some (.int .i64 b4) := HT1.b4
  have l12 : w3.cell? ⟨gl, ol + 12, none⟩ = some (.string b5) := HT1.b5
  have l13 : w3.cell? ⟨gl, ol + 13, none⟩ = some (.string b6) := HT1.b6
  have m0 : w3.cell? ⟨gw, ow, none⟩ = some (.int .i64 a0) := HT2.a0
  have m1 : w3.cell? ⟨gw, ow + 1, none⟩ = some (.int .i64 a1) := HT2.a1
  have m2 : w3.cell? ⟨gw, ow + 2, none⟩ = some (.int .i64 a2) := HT2.a2
  have m3 : w3.cell? ⟨gw, ow + 3, none⟩ = some (.int .i64 a3) := HT2.a3
  have m4 : w3.cell? ⟨gw, ow + 4, none⟩ = some (.int .i64 a4) := HT2.a4
  have m5 : w3.cell? ⟨gw, ow + 5, none⟩ = some (.string a5) := HT2.a5
  have m6 : w3.cell? ⟨gw, ow + 6, none⟩ = some (.string a6) := HT2.a6
  have m7 : w3.cell? ⟨gw, ow + 7, none⟩ = some (.int .i64 b0) := HT2.b0
  have m8 : w3.cell? ⟨gw, ow + 8, none⟩ = some (.int .i64 b1) := HT2.b1
  have m9 : w3.cell? ⟨gw, ow + 9, none⟩ = some (.int .i64 b2) := HT2.b2
  have m10 : w3.cell? ⟨gw, ow + 10, none⟩ = some (.int .i64 b3) := HT2.b3
  have m11 : w3.cell? ⟨gw, ow + 11, none⟩ = some (.int .i64 b4) := HT2.b4
  have m12 : w3.cell? ⟨gw, ow + 12, none⟩ = some (.string b5) := HT2.b5
  have m13 : w3.cell? ⟨gw, ow + 13, none⟩ = some (.string b6) := HT2.b6
  have hs1 := greeter_same a0 a1 a2 a3 a4 a5 a6
  have hs2 := greeter_same b0 b1 b2 b3 b4 b5 b6
  have hgd := greeterGuard
  go_wp2_with fail
  go_quiet (fail)
  have HBN : Below w3.heap.size w3 (w3.drewN nq) := below_drewN (Below.refl _ _) _
  generalize w3.drewN nq = w4 at *
  replace HT1 := two_below HT1 HBN
  have B4 := Lib.hid (B3.out.trans (HBN.mono B3.out.size))
  clear HBN HT2 B3 l0 m0 l1 m1 l2 m2 l3 m3 l4 m4 l5 m5 l6 m6 l7 m7 l8 m8 l9 m9 l10 m10 l11 m11 l12 m12 l13 m13 hs1 hs2 hgd
  have l0 : w4.cell? ⟨gl, ol, none⟩ = some (.int .i64 a0) := HT1.a0
  have l1 : w4.cell? ⟨gl, ol + 1, none⟩ = some (.int .i64 a1) := HT1.a1
  have l2 : w4.cell? ⟨gl, ol + 2, none⟩ = some (.int .i64 a2) := HT1.a2
  have l3 : w4.cell? ⟨gl, ol + 3, none⟩ = some (.int .i64 a3) := HT1.a3
  have l4 : w4.cell? ⟨gl, ol + 4, none⟩ = some (.int .i64 a4) := HT1.a4
  have l5 : w4.cell? ⟨gl, ol + 5, none⟩ = some (.string a5) := HT1.a5
  have l6 : w4.cell? ⟨gl, ol + 6, none⟩ = some (.string a6) := HT1.a6
  have l7 : w4.cell? ⟨gl, ol + 7, none⟩ = some (.int .i64 b0) := HT1.b0
  have l8 : w4.cell? ⟨gl, ol + 8, none⟩ = some (.int .i64 b1) := HT1.b1
  have l9 : w4.cell? ⟨gl, ol + 9, none⟩ = some (.int .i64 b2) := HT1.b2
  have l10 : w4.cell? ⟨gl, ol + 10, none⟩ = some (.int .i64 b3) := HT1.b3
  have l11 : w4.cell? ⟨gl, ol + 11, none⟩ = some (.int .i64 b4) := HT1.b4
  have l12 : w4.cell? ⟨gl, ol + 12, none⟩ = some (.string b5) := HT1.b5
  have l13 : w4.cell? ⟨gl, ol + 13, none⟩ = some (.string b6) := HT1.b6
  have hal : Below w4.heap.size w4 (w4.alloc (.cells #[.int .i64 a0, .int .i64 a1, .int .i64 a2, .int .i64 a3, .int .i64 a4, .string a5, .string a6] GreeterT)) := (Below.refl _ _).alloc (Nat.le_refl _) _
  have VA := Lib.hid (VarA.new w4 GreeterT #[.int .i64 a0, .int .i64 a1, .int .i64 a2, .int .i64 a3, .int .i64 a4, .string a5, .string a6])
  have B5 := Lib.hid (B4.out.trans (hal.mono B4.out.size))
  replace HT1 := two_below HT1 hal
  clear hal
  go_upto_region 9 with fail
  generalize w4.alloc (.cells #[.int .i64 a0, .int .i64 a1, .int .i64 a2, .int .i64 a3, .int .i64 a4, .string a5, .string a6] GreeterT) = w5 at *
  generalize w4.heap.size = ga at *
  clear l0 l1 l2 l3 l4 l5 l6 l7 l8 l9 l10 l11 l12 l13 B4
  have l0 : w5.cell? ⟨gl, ol, none⟩ = some (.int .i64 a0) := HT1.a0
  have l1 : w5.cell? ⟨gl, ol + 1, none⟩ = some (.int .i64 a1) := HT1.a1
  have l2 : w5.cell? ⟨gl, ol + 2, none⟩ = some (.int .i64 a2) := HT1.a2
  have l3 : w5.cell? ⟨gl, ol + 3, none⟩ = some (.int .i64 a3) := HT1.a3
  have l4 : w5.cell? ⟨gl, ol + 4, none⟩ = some (.int .i64 a4) := HT1.a4
  have l5 : w5.cell? ⟨gl, ol + 5, none⟩ = some (.string a5) := HT1.a5
  have l6 : w5.cell? ⟨gl, ol + 6, none⟩ = some (.string a6) := HT1.a6
  have l7 : w5.cell? ⟨gl, ol + 7, none⟩ = some (.int .i64 b0) := HT1.b0
  have l8 : w5.cell? ⟨gl, ol + 8, none⟩ = some (.int .i64 b1) := HT1.b1
  have l9 : w5.cell? ⟨gl, ol + 9, none⟩ = some (.int .i64 b2) := HT1.b2
  have l10 : w5.cell? ⟨gl, ol + 10, none⟩ = some (.int .i64 b3) := HT1.b3
  have l11 : w5.cell? ⟨gl, ol + 11, none⟩ = some (.int .i64 b4) := HT1.b4
  have l12 : w5.cell? ⟨gl, ol + 12, none⟩ = some (.string b5) := HT1.b5
  have l13 : w5.cell? ⟨gl, ol + 13, none⟩ = some (.string b6) := HT1.b6
  have hal : Below w5.heap.size w5 (w5.alloc (.cells #[.int .i64 b0, .int .i64 b1, .int .i64 b2, .int .i64 b3, .int .i64 b4, .string b5, .string b6] GreeterT)) := (Below.refl _ _).alloc (Nat.le_refl _) _
  have VB := Lib.hid (VarA.new w5 GreeterT #[.int .i64 b0, .int .i64 b1, .int .i64 b2, .int .i64 b3, .int .i64 b4, .string b5, .string b6])
  replace VA := Lib.hid (VA.out.next hal)
  have B6 := Lib.hid (B5.out.trans (hal.mono B5.out.size))
  clear hal
  go_upto_region 10 with fail
  generalize w5.alloc (.cells #[.int .i64 b0, .int .i64 b1, .int .i64 b2, .int .i64 b3, .int .i64 b4, .string b5, .string b6] GreeterT) = w6 at *
  generalize w5.heap.size = gb at *
  clear l0 l1 l2 l3 l4 l5 l6 l7 l8 l9 l10 l11 l12 l13 B5 HT1
  have x0 : w6.cell? ⟨ga, 0, none⟩ = some (.int .i64 a0) := VA.out.cell 0
  have x1 : w6.cell? ⟨ga, 1, none⟩ = some (.int .i64 a1) := VA.out.cell 1
  have x2 : w6.cell? ⟨ga, 2, none⟩ = some (.int .i64 a2) := VA.out.cell 2
  have x3 : w6.cell? ⟨ga, 3, none⟩ = some (.int .i64 a3) := VA.out.cell 3
  have x4 : w6.cell? ⟨ga, 4, none⟩ = some (.int .i64 a4) := VA.out.cell 4
  have x5 : w6.cell? ⟨ga, 5, none⟩ = some (.string a5) := VA.out.cell 5
  have x6 : w6.cell? ⟨ga, 6, none⟩ = some (.string a6) := VA.out.cell 6
  go_wp2_with fail
  refine (KA.out _ (LL.out _ B6.out)).mono ?_
  rintro e w7 ⟨rfl, hb⟩
  replace VA := Lib.hid (VA.out.next hb)
  replace VB := Lib.hid (VB.out.next hb)
  have B7 := Lib.hid (B6.out.trans (hb.mono B6.out.size))
  clear hb B6 x0 x1 x2 x3 x4 x5 x6
  have x0 : w7.cell? ⟨gb, 0, none⟩ = some (.int .i64 b0) := VB.out.cell 0
  have x1 : w7.cell? ⟨gb, 1, none⟩ = some (.int .i64 b1) := VB.out.cell 1
  have x2 : w7.cell? ⟨gb, 2, none⟩ = some (.int .i64 b2) := VB.out.cell 2
  have x3 : w7.cell? ⟨gb, 3, none⟩ = some (.int .i64 b3) := VB.out.cell 3
  have x4 : w7.cell? ⟨gb, 4, none⟩ = some (.int .i64 b4) := VB.out.cell 4
  have x5 : w7.cell? ⟨gb, 5, none⟩ = some (.string b5) := VB.out.cell 5
  have x6 : w7.cell? ⟨gb, 6, none⟩ = some (.string b6) := VB.out.cell 6
  go_wp2_with fail
  refine (KB.out _ (LL.out _ B7.out)).mono ?_
  rintro e w8 ⟨rfl, hb⟩
  replace VA := Lib.hid (VA.out.next hb)
  replace VB := Lib.hid (VB.out.next hb)
  have B8 := Lib.hid (B7.out.trans (hb.mono B7.out.size))
  clear hb B7 KA KB x0 x1 x2 x3 x4 x5 x6
  have x0 : w8.cell? ⟨ga, 0, none⟩ = some (.int .i64 a0) := VA.out.cell 0
  have x1 : w8.cell? ⟨ga, 1, none⟩ = some (.int .i64 a1) := VA.out.cell 1
  have x2 : w8.cell? ⟨ga, 2, none⟩ = some (.int .i64 a2) := VA.out.cell 2
  have x3 : w8.cell? ⟨ga, 3, none⟩ = some (.int .i64 a3) := VA.out.cell 3
  have x4 : w8.cell? ⟨ga, 4, none⟩ = some (.int .i64 a4) := VA.out.cell 4
  have x5 : w8.cell? ⟨ga, 5, none⟩ = some (.string a5) := VA.out.cell 5
  have x6 : w8.cell? ⟨ga, 6, none⟩ = some (.string a6) := VA.out.cell 6
  have y0 : w8.cell? ⟨gb, 0, none⟩ = some (.int .i64 b0) := VB.out.cell 0
  have y1 : w8.cell? ⟨gb, 1, none⟩ = some (.int .i64 b1) := VB.out.cell 1
  have y2 : w8.cell? ⟨gb, 2, none⟩ = some (.int .i64 b2) := VB.out.cell 2
  have y3 : w8.cell? ⟨gb, 3, none⟩ = some (.int .i64 b3) := VB.out.cell 3
  have y4 : w8.cell? ⟨gb, 4, none⟩ = some (.int .i64 b4) := VB.out.cell 4
  have y5 : w8.cell? ⟨gb, 5, none⟩ = some (.string b5) := VB.out.cell 5
  have y6 : w8.cell? ⟨gb, 6, none⟩ = some (.string b6) := VB.out.cell 6
  have H1 : Hid (up = true ↔ a4 = 3) := Lib.hid KE.out.one
  have H2 : Hid (both = true ↔ b4 = 3) := Lib.hid KE.out.two
  have KM := Lib.hid KE.out.meet
  clear KE
  cases up with
  | false =>
    have q4 : (a4 == 3) = false := by rw [beq_eq_false_iff_ne]; exact fun e => absurd (H1.out.2 e) (by decide)
    cases both with
    | false =>
      have r4 : (b4 == 3) = false := by rw [beq_eq_false_iff_ne]; exact fun e => absurd (H2.out.2 e) (by decide)
      go_wp2_with fail
      go_quiet (fail)
      go_wp2_with fail
      go_ret
      exact ⟨rfl, below_drewN B8.out _⟩
    | true =>
      obtain rfl := H2.out.1 rfl
      go_wp2_with fail
      go_quiet (fail)
      go_wp2_with fail
      go_ret
      exact ⟨rfl, below_drewN B8.out _⟩
  | true =>
    obtain rfl := H1.out.1 rfl
    cases both with
    | false =>
      have r4 : (b4 == 3) = false := by rw [beq_eq_false_iff_ne]; exact fun e => absurd (H2.out.2 e) (by decide)
      go_wp2_with fail
      go_quiet (fail)
      go_wp2_with fail
      go_ret
      exact ⟨rfl, below_drewN B8.out _⟩
    | true =>
      obtain rfl := H2.out.1 rfl
      obtain ⟨e1, e2, e3, e4, e5, e6⟩ := KM.out rfl rfl
      simp only at e1 e2 e3
      subst e2 e3 e4 e5
      obtain ⟨tr, HTR⟩ : ∃ t, Hid (transB a0 b6 a6 = t) := ⟨_, Lib.hid rfl⟩
      rw [← e1] at TB
      rw [HTR.out] at TA TB
      clear e1 KM H1 H2
      have htr : (tr.toList == tr.toList) = true := by simp
      have hq1 : (a6.toList == a6.toList) = true := by simp
      have hq2 : (b6.toList == b6.toList) = true := by simp
      have hq3 : (ks.toList == ks.toList) = true := by simp
      have hq4 : (ko.toList == ko.toList) = true := by simp
      have hq5 : ((ks.size : Int) == 32) = true := by rw [e6]; rfl
      have qv : ∀ X Y, (Hid (VarA ga GreeterT #[.int .i64 a0, .int .i64 a1, .int .i64 a2, .int .i64 a3, .int .i64 3, .string b6, .string a6] X ∧ VarA gb GreeterT #[.int .i64 b0, .int .i64 b1, .int .i64 b2, .int .i64 b3, .int .i64 3, .string a6, .string b6] X ∧ Below w.heap.size w X)) → Below X.heap.size X Y → (Hid (VarA ga GreeterT #[.int .i64 a0, .int .i64 a1, .int .i64 a2, .int .i64 a3, .int .i64 3, .string b6, .string a6] Y ∧ VarA gb GreeterT #[.int .i64 b0, .int .i64 b1, .int .i64 b2, .int .i64 b3, .int .i64 3, .string a6, .string b6] Y ∧ Below w.heap.size w Y)) := fun X Y h hb => Lib.hid ⟨h.out.1.next hb, h.out.2.1.next hb, h.out.2.2.trans (hb.mono h.out.2.2.size)⟩
      have E0 : Hid (VarA ga GreeterT #[.int .i64 a0, .int .i64 a1, .int .i64 a2, .int .i64 a3, .int .i64 3, .string b6, .string a6] w8.drew ∧ VarA gb GreeterT #[.int .i64 b0, .int .i64 b1, .int .i64 b2, .int .i64 b3, .int .i64 3, .string a6, .string b6] w8.drew ∧ Below w.heap.size w w8.drew) := Lib.hid ⟨VA.out.drew, VB.out.drew, B8.out.drew⟩
      go_wp2_with fail
      clear VA VB x0 y0 x1 y1 x2 y2 x3 y3 x4 y4 x5 y5 x6 y6
      refine wp_region_held_drew (S := fun X => Hid (VarA ga GreeterT #[.int .i64 a0, .int .i64 a1, .int .i64 a2, .int .i64 a3, .int .i64 3, .string b6, .string a6] X ∧ VarA gb GreeterT #[.int .i64 b0, .int .i64 b1, .int .i64 b2, .int .i64 b3, .int .i64 3, .string a6, .string b6] X ∧ Below w.heap.size w X)) (by kernel_rfl) E0 (fun hHeld => ?_)
      clear E0
      generalize w8.drew = X0 at *
      refine wpAnyH_take (i := 0) (v := ?_) rfl (by kernel_rfl) (by kernel_rfl) (by kernel_rfl) (fun _ _ _ h => h) (Or.inl ⟨by kernel_rfl, ?_⟩) hHeld ?_
      rotate_left
      · intro X hX
        first | (go_simp; done) | (go_simp; with_reducible rfl)
      try simp only [Act.put, List.getElem_toArray, List.getElem_cons_zero, List.setIfInBounds_toArray, List.set_cons_zero, List.set_cons_succ]
      refine wpAnyH_take (i := 1) (v := ?_) rfl (by kernel_rfl) (by kernel_rfl) (by kernel_rfl) (fun _ _ _ h => h) (Or.inl ⟨by kernel_rfl, ?_⟩) hHeld ?_
      rotate_left
      · intro X hX
        first | (go_simp; done) | (go_simp; with_reducible rfl)
      try simp only [Act.put, List.getElem_toArray, List.getElem_cons_succ, List.getElem_cons_zero, List.setIfInBounds_toArray, List.set_cons_zero, List.set_cons_succ]
      refine wpAnyH_take (i := 2) (v := ?_) rfl (by kernel_rfl) (by kernel_rfl) (by kernel_rfl) (fun _ _ _ h => h) (Or.inl ⟨by kernel_rfl, ?_⟩) hHeld ?_
      rotate_left
      · intro X hX
        first | (go_simp; done) | (go_simp; with_reducible rfl)
      try simp only [Act.put, List.getElem_toArray, List.getElem_cons_succ, List.getElem_cons_zero, List.setIfInBounds_toArray, List.set_cons_zero, List.set_cons_succ]
      refine wpAnyH_take (i := 3) (v := ?_) rfl (by kernel_rfl) (by kernel_rfl) (by kernel_rfl) (fun _ _ _ h => h) (Or.inl ⟨by kernel_rfl, ?_⟩) hHeld ?_
      rotate_left
      · intro X hX
        first | (go_simp; done) | (go_simp; with_reducible rfl)
      try simp only [Act.put, List.getElem_toArray, List.getElem_cons_succ, List.getElem_cons_zero, List.setIfInBounds_toArray, List.set_cons_zero, List.set_cons_succ]
      refine wpAnyH_take (i := 4) (v := ?_) rfl (by kernel_rfl) (by kernel_rfl) (by kernel_rfl) (fun _ _ _ h => h) (Or.inl ⟨by kernel_rfl, ?_⟩) hHeld ?_
      rotate_left
      · intro X hX
        first | (go_simp; done) | (go_simp; with_reducible rfl)
      try simp only [Act.put, List.getElem_toArray, List.getElem_cons_succ, List.getElem_cons_zero, List.setIfInBounds_toArray, List.set_cons_zero, List.set_cons_succ]
      refine wpAnyH_take (i := 5) (v := ?_) rfl (by kernel_rfl) (by kernel_rfl) (by kernel_rfl) (fun _ _ _ h => h) (Or.inl ⟨by kernel_rfl, ?_⟩) hHeld ?_
      rotate_left
      · intro X hX
        first | (go_simp; done) | (go_simp; with_reducible rfl)
      try simp only [Act.put, List.getElem_toArray, List.getElem_cons_succ, List.getElem_cons_zero, List.setIfInBounds_toArray, List.set_cons_zero, List.set_cons_succ]
      refine wpAnyH_take (i := 6) (v := ?_) rfl (by kernel_rfl) (by kernel_rfl) (by kernel_rfl) (fun _ _ _ h => h) (Or.inl ⟨by kernel_rfl, ?_⟩) hHeld ?_
      rotate_left
      · intro X hX
        first | (go_simp; done) | (go_simp; with_reducible rfl)
      try simp only [Act.put, List.getElem_toArray, List.getElem_cons_succ, List.getElem_cons_zero, List.setIfInBounds_toArray, List.set_cons_zero, List.set_cons_succ]
      refine wpAnyH_take (i := 7) (v := ?_) rfl (by kernel_rfl) (by kernel_rfl) (by kernel_rfl) (fun _ _ _ h => h) (Or.inl ⟨by kernel_rfl, ?_⟩) hHeld ?_
      rotate_left
      · intro X hX
        have y0 : X.cell? ⟨ga, 0, none⟩ = some (.int .i64 a0) := hX.out.1.cell 0
        have y1 : X.cell? ⟨ga, 1, none⟩ = some (.int .i64 a1) := hX.out.1.cell 1
        have y2 : X.cell? ⟨ga, 2, none⟩ = some (.int .i64 a2) := hX.out.1.cell 2
        have y3 : X.cell? ⟨ga, 3, none⟩ = some (.int .i64 a3) := hX.out.1.cell 3
        have y4 : X.cell? ⟨ga, 4, none⟩ = some (.int .i64 3) := hX.out.1.cell 4
        have y5 : X.cell? ⟨ga, 5, none⟩ = some (.string b6) := hX.out.1.cell 5
        have y6 : X.cell? ⟨ga, 6, none⟩ = some (.string a6) := hX.out.1.cell 6
        first | (go_simp; done) | (go_simp; with_reducible rfl)
      try simp only [Act.put, List.getElem_toArray, List.getElem_cons_succ, List.getElem_cons_zero, List.setIfInBounds_toArray, List.set_cons_zero, List.set_cons_succ]
      refine wpAnyH_take (i := 9) (v := ?_) rfl (by kernel_rfl) (by kernel_rfl) (by kernel_rfl) (fun _ _ _ h => h) (Or.inl ⟨by kernel_rfl, ?_⟩) hHeld ?_
      rotate_left
      · intro X hX
        have y0 : X.cell? ⟨gb, 0, none⟩ = some (.int .i64 b0) := hX.out.2.1.cell 0
        have y1 : X.cell? ⟨gb, 1, none⟩ = some (.int .i64 b1) := hX.out.2.1.cell 1
        have y2 : X.cell? ⟨gb, 2, none⟩ = some (.int .i64 b2) := hX.out.2.1.cell 2
        have y3 : X.cell? ⟨gb, 3, none⟩ = some (.int .i64 b3) := hX.out.2.1.cell 3
        have y4 : X.cell? ⟨gb, 4, none⟩ = some (.int .i64 3) := hX.out.2.1.cell 4
        have y5 : X.cell? ⟨gb, 5, none⟩ = some (.string a6) := hX.out.2.1.cell 5
        have y6 : X.cell? ⟨gb, 6, none⟩ = some (.string b6) := hX.out.2.1.cell 6
        first | (go_simp; done) | (go_simp; with_reducible rfl)
      try simp only [Act.put, List.getElem_toArray, List.getElem_cons_succ, List.getElem_cons_zero, List.setIfInBounds_toArray, List.set_cons_zero, List.set_cons_succ]
      refine wpAnyH_ready (rs := [8]) (by kernel_rfl) (by simp) ?_
      refine AllReadyH.cons rfl (fun K hK => ?_) AllReadyH.nil
      go_simp
      go_wp2_with (go_at_call 10; refine (TA.out _ (LL.out _ hHeld.out.2.2)).mono ?_; rintro e X1 ⟨rfl, hb0⟩; have hS := qv _ _ hHeld hb0; have hb := Lib.hid hb0; clear hb0)
      refine hK.out _ _ hS (fun hHeld => ?_)
      clear hK K hS
      clear hb
      try simp only [Act.put, List.getElem_toArray, List.getElem_cons_succ, List.getElem_cons_zero, List.setIfInBounds_toArray, List.set_cons_zero, List.set_cons_succ]
      refine wpAnyH_ready (rs := [10]) (by kernel_rfl) (by simp) ?_
      refine AllReadyH.cons rfl (fun K hK => ?_) AllReadyH.nil
      go_simp
      go_wp2_with (go_at_call 10; refine (TB.out _ (LL.out _ hHeld.out.2.2)).mono ?_; rintro e X2 ⟨rfl, hb0⟩; have hS := qv _ _ hHeld hb0; have hb := Lib.hid hb0; clear hb0)
      refine hK.out _ _ hS (fun hHeld => ?_)
      clear hK K hS
      clear hb
      try simp only [Act.put, List.getElem_toArray, List.getElem_cons_succ, List.getElem_cons_zero, List.setIfInBounds_toArray, List.set_cons_zero, List.set_cons_succ]
      refine wpAnyH_take (i := 11) (v := ?_) rfl (by kernel_rfl) (by kernel_rfl) (by kernel_rfl) (fun _ _ _ h => h) (Or.inl ⟨by kernel_rfl, ?_⟩) hHeld ?_
      rotate_left
      · intro X hX
        first | (go_simp; done) | (go_simp; with_reducible rfl)
      try simp only [Act.put, List.getElem_toArray, List.getElem_cons_succ, List.getElem_cons_zero, List.setIfInBounds_toArray, List.set_cons_zero, List.set_cons_succ]
      refine wpAnyH_take (i := 12) (v := ?_) rfl (by kernel_rfl) (by kernel_rfl) (by kernel_rfl) (fun _ _ _ h => h) (Or.inl ⟨by kernel_rfl, ?_⟩) hHeld ?_
      rotate_left
      · intro X hX
        first | (go_simp; done) | (go_simp; with_reducible rfl)
      try simp only [Act.put, List.getElem_toArray, List.getElem_cons_succ, List.getElem_cons_zero, List.setIfInBounds_toArray, List.set_cons_zero, List.set_cons_succ]
      refine wpAnyH_take (i := 13) (v := ?_) rfl (by kernel_rfl) (by kernel_rfl) (by kernel_rfl) (fun _ _ _ h => h) (Or.inl ⟨by kernel_rfl, ?_⟩) hHeld ?_
      rotate_left
      · intro X hX
        first | (go_simp; done) | (go_simp; with_reducible rfl)
      try simp only [Act.put, List.getElem_toArray, List.getElem_cons_succ, List.getElem_cons_zero, List.setIfInBounds_toArray, List.set_cons_zero, List.set_cons_succ]
      refine wpAnyH_take (i := 14) (v := ?_) rfl (by kernel_rfl) (by kernel_rfl) (by kernel_rfl) (fun _ _ _ h => h) (Or.inl ⟨by kernel_rfl, ?_⟩) hHeld ?_
      rotate_left
      · intro X hX
        have y : X.cell? ⟨ga, 6, none⟩ = some (.string a6) := hX.out.1.cell 6
        first | (go_simp; done) | (go_simp; with_reducible rfl)
      try simp only [Act.put, List.getElem_toArray, List.getElem_cons_succ, List.getElem_cons_zero, List.setIfInBounds_toArray, List.set_cons_zero, List.set_cons_succ]
      refine wpAnyH_take (i := 15) (v := ?_) rfl (by kernel_rfl) (by kernel_rfl) (by kernel_rfl) (fun _ _ _ h => h) (Or.inl ⟨by kernel_rfl, ?_⟩) hHeld ?_
      rotate_left
      · intro X hX
        first | (go_simp; done) | (go_simp; with_reducible rfl)
      try simp only [Act.put, List.getElem_toArray, List.getElem_cons_succ, List.getElem_cons_zero, List.setIfInBounds_toArray, List.set_cons_zero, List.set_cons_succ]
      refine wpAnyH_take (i := 16) (v := ?_) rfl (by kernel_rfl) (by kernel_rfl) (by kernel_rfl) (fun _ _ _ h => h) (Or.inl ⟨by kernel_rfl, ?_⟩) hHeld ?_
      rotate_left
      · intro X hX
        have y : X.cell? ⟨gb, 5, none⟩ = some (.string a6) := hX.out.2.1.cell 5
        first | (go_simp; done) | (go_simp; with_reducible rfl)
      try simp only [Act.put, List.getElem_toArray, List.getElem_cons_succ, List.getElem_cons_zero, List.setIfInBounds_toArray, List.set_cons_zero, List.set_cons_succ]
      refine wpAnyH_take (i := 17) (v := ?_) rfl (by kernel_rfl) (by kernel_rfl) (by kernel_rfl) (fun _ _ _ h => h) (Or.inl ⟨by kernel_rfl, ?_⟩) hHeld ?_
      rotate_left
      · intro X hX
        first | (go_simp; done) | (go_simp; with_reducible rfl)
      try simp only [Act.put, List.getElem_toArray, List.getElem_cons_succ, List.getElem_cons_zero, List.setIfInBounds_toArray, List.set_cons_zero, List.set_cons_succ]
      refine wpAnyH_take (i := 18) (v := ?_) rfl (by kernel_rfl) (by kernel_rfl) (by kernel_rfl) (fun _ _ _ h => h) (Or.inl ⟨by kernel_rfl, ?_⟩) hHeld ?_
      rotate_left
      · intro X hX
        first | (go_simp; done) | (go_simp; with_reducible rfl)
      try simp only [Act.put, List.getElem_toArray, List.getElem_cons_succ, List.getElem_cons_zero, List.setIfInBounds_toArray, List.set_cons_zero, List.set_cons_succ]
      refine wpAnyH_take (i := 19) (v := ?_) rfl (by kernel_rfl) (by kernel_rfl) (by kernel_rfl) (fun _ _ _ h => h) (Or.inl ⟨by kernel_rfl, ?_⟩) hHeld ?_
      rotate_left
      · intro X hX
        first | (go_simp; done) | (go_simp; with_reducible rfl)
      try simp only [Act.put, List.getElem_toArray, List.getElem_cons_succ, List.getElem_cons_zero, List.setIfInBounds_toArray, List.set_cons_zero, List.set_cons_succ]
      refine wpAnyH_take (i := 20) (v := ?_) rfl (by kernel_rfl) (by kernel_rfl) (by kernel_rfl) (fun _ _ _ h => h) (Or.inl ⟨by kernel_rfl, ?_⟩) hHeld ?_
      rotate_left
      · intro X hX
        first | (go_simp; done) | (go_simp; with_reducible rfl)
      try simp only [Act.put, List.getElem_toArray, List.getElem_cons_succ, List.getElem_cons_zero, List.setIfInBounds_toArray, List.set_cons_zero, List.set_cons_succ]
      refine wpAnyH_take (i := 21) (v := ?_) rfl (by kernel_rfl) (by kernel_rfl) (by kernel_rfl) (fun _ _ _ h => h) (Or.inl ⟨by kernel_rfl, ?_⟩) hHeld ?_
      rotate_left
      · intro X hX
        have y : X.cell? ⟨gb, 6, none⟩ = some (.string b6) := hX.out.2.1.cell 6
        first | (go_simp; done) | (go_simp; with_reducible rfl)
      try simp only [Act.put, List.getElem_toArray, List.getElem_cons_succ, List.getElem_cons_zero, List.setIfInBounds_toArray, List.set_cons_zero, List.set_cons_succ]
      refine wpAnyH_take (i := 22) (v := ?_) rfl (by kernel_rfl) (by kernel_rfl) (by kernel_rfl) (fun _ _ _ h => h) (Or.inl ⟨by kernel_rfl, ?_⟩) hHeld ?_
      rotate_left
      · intro X hX
        first | (go_simp; done) | (go_simp; with_reducible rfl)
      try simp only [Act.put, List.getElem_toArray, List.getElem_cons_succ, List.getElem_cons_zero, List.setIfInBounds_toArray, List.set_cons_zero, List.set_cons_succ]
      refine wpAnyH_take (i := 23) (v := ?_) rfl (by kernel_rfl) (by kernel_rfl) (by kernel_rfl) (fun _ _ _ h => h) (Or.inl ⟨by kernel_rfl, ?_⟩) hHeld ?_
      rotate_left
      · intro X hX
        have y : X.cell? ⟨ga, 5, none⟩ = some (.string b6) := hX.out.1.cell 5
        first | (go_simp; done) | (go_simp; with_reducible rfl)
      try simp only [Act.put, List.getElem_toArray, List.getElem_cons_succ, List.getElem_cons_zero, List.setIfInBounds_toArray, List.set_cons_zero, List.set_cons_succ]
      refine wpAnyH_take (i := 24) (v := ?_) rfl (by kernel_rfl) (by kernel_rfl) (by kernel_rfl) (fun _ _ _ h => h) (Or.inl ⟨by kernel_rfl, ?_⟩) hHeld ?_
      rotate_left
      · intro X hX
        first | (go_simp; done) | (go_simp; with_reducible rfl)
      try simp only [Act.put, List.getElem_toArray, List.getElem_cons_succ, List.getElem_cons_zero, List.setIfInBounds_toArray, List.set_cons_zero, List.set_cons_succ]
      refine wpAnyH_take (i := 25) (v := ?_) rfl (by kernel_rfl) (by kernel_rfl) (by kernel_rfl) (fun _ _ _ h => h) (Or.inl ⟨by kernel_rfl, ?_⟩) hHeld ?_
      rotate_left
      · intro X hX
        first | (go_simp; done) | (go_simp; with_reducible rfl)
      try simp only [Act.put, List.getElem_toArray, List.getElem_cons_succ, List.getElem_cons_zero, List.setIfInBounds_toArray, List.set_cons_zero, List.set_cons_succ]
      refine wpAnyH_take (i := 26) (v := ?_) rfl (by kernel_rfl) (by kernel_rfl) (by kernel_rfl) (fun _ _ _ h => h) (Or.inl ⟨by kernel_rfl, ?_⟩) hHeld ?_
      rotate_left
      · intro X hX
        first | (go_simp; done) | (go_simp; with_reducible rfl)
      try simp only [Act.put, List.getElem_toArray, List.getElem_cons_succ, List.getElem_cons_zero, List.setIfInBounds_toArray, List.set_cons_zero, List.set_cons_succ]
      refine wpAnyH_take (i := 27) (v := ?_) rfl (by kernel_rfl) (by kernel_rfl) (by kernel_rfl) (fun _ _ _ h => h) (Or.inl ⟨by kernel_rfl, ?_⟩) hHeld ?_
      rotate_left
      · intro X hX
        first | (go_simp; done) | (go_simp; with_reducible rfl)
      try simp only [Act.put, List.getElem_toArray, List.getElem_cons_succ, List.getElem_cons_zero, List.setIfInBounds_toArray, List.set_cons_zero, List.set_cons_succ]
      refine wpAnyH_take (i := 28) (v := ?_) rfl (by kernel_rfl) (by kernel_rfl) (by kernel_rfl) (fun _ _ _ h => h) (Or.inl ⟨by kernel_rfl, ?_⟩) hHeld ?_
      rotate_left
      · intro X hX
        first | (go_simp; done) | (go_simp; with_reducible rfl)
      try simp only [Act.put, List.getElem_toArray, List.getElem_cons_succ, List.getElem_cons_zero, List.setIfInBounds_toArray, List.set_cons_zero, List.set_cons_succ]
      refine wpAnyH_take (i := 29) (v := ?_) rfl (by kernel_rfl) (by kernel_rfl) (by kernel_rfl) (fun _ _ _ h => h) (Or.inl ⟨by kernel_rfl, ?_⟩) hHeld ?_
      rotate_left
      · intro X hX
        first | (go_simp; done) | (go_simp; with_reducible rfl)
      try simp only [Act.put, List.getElem_toArray, List.getElem_cons_succ, List.getElem_cons_zero, List.setIfInBounds_toArray, List.set_cons_zero, List.set_cons_succ]
      refine wpAnyH_take (i := 30) (v := ?_) rfl (by kernel_rfl) (by kernel_rfl) (by kernel_rfl) (fun _ _ _ h => h) (Or.inl ⟨by kernel_rfl, ?_⟩) hHeld ?_
      rotate_left
      · intro X hX
        first | (go_simp; done) | (go_simp; with_reducible rfl)
      try simp only [Act.put, List.getElem_toArray, List.getElem_cons_succ, List.getElem_cons_zero, List.setIfInBounds_toArray, List.set_cons_zero, List.set_cons_succ]
      refine wpAnyH_take (i := 31) (v := ?_) rfl (by kernel_rfl) (by kernel_rfl) (by kernel_rfl) (fun _ _ _ h => h) (Or.inl ⟨by kernel_rfl, ?_⟩) hHeld ?_
      rotate_left
      · intro X hX
        first | (go_simp; done) | (go_simp; with_reducible rfl)
      try simp only [Act.put, List.getElem_toArray, List.getElem_cons_succ, List.getElem_cons_zero, List.setIfInBounds_toArray, List.set_cons_zero, List.set_cons_succ]
      refine wpAnyH_take (i := 32) (v := ?_) rfl (by kernel_rfl) (by kernel_rfl) (by kernel_rfl) (fun _ _ _ h => h) (Or.inl ⟨by kernel_rfl, ?_⟩) hHeld ?_
      rotate_left
      · intro X hX
        first | (go_simp; done) | (go_simp; with_reducible rfl)
      try simp only [Act.put, List.getElem_toArray, List.getElem_cons_succ, List.getElem_cons_zero, List.setIfInBounds_toArray, List.set_cons_zero, List.set_cons_succ]
      refine wpAnyH_take (i := 33) (v := ?_) rfl (by kernel_rfl) (by kernel_rfl) (by kernel_rfl) (fun _ _ _ h => h) (Or.inl ⟨by kernel_rfl, ?_⟩) hHeld ?_
      rotate_left
      · intro X hX
        first | (go_simp; done) | (go_simp; with_reducible rfl)
      try simp only [Act.put, List.getElem_toArray, List.getElem_cons_succ, List.getElem_cons_zero, List.setIfInBounds_toArray, List.set_cons_zero, List.set_cons_succ]
      refine wpAnyH_take (i := 34) (v := ?_) rfl (by kernel_rfl) (by kernel_rfl) (by kernel_rfl) (fun _ _ _ h => h) (Or.inl ⟨by kernel_rfl, ?_⟩) hHeld ?_
      rotate_left
      · intro X hX
        first | (go_simp; done) | (go_simp; with_reducible rfl)
      try simp only [Act.put, List.getElem_toArray, List.getElem_cons_succ, List.getElem_cons_zero, List.setIfInBounds_toArray, List.set_cons_zero, List.set_cons_succ]
      refine wpAnyH_take (i := 35) (v := ?_) rfl (by kernel_rfl) (by kernel_rfl) (by kernel_rfl) (fun _ _ _ h => h) (Or.inl ⟨by kernel_rfl, ?_⟩) hHeld ?_
      rotate_left
      · intro X hX
        first | (go_simp; done) | (go_simp; with_reducible rfl)
      try simp only [Act.put, List.getElem_toArray, List.getElem_cons_succ, List.getElem_cons_zero, List.setIfInBounds_toArray, List.set_cons_zero, List.set_cons_succ]
      refine wpAnyH_take (i := 36) (v := ?_) rfl (by kernel_rfl) (by kernel_rfl) (by kernel_rfl) (fun _ _ _ h => h) (Or.inl ⟨by kernel_rfl, ?_⟩) hHeld ?_
      rotate_left
      · intro X hX
        first | (go_simp; done) | (go_simp; with_reducible rfl)
      try simp only [Act.put, List.getElem_toArray, List.getElem_cons_succ, List.getElem_cons_zero, List.setIfInBounds_toArray, List.set_cons_zero, List.set_cons_succ]
      refine wpAnyH_take (i := 37) (v := ?_) rfl (by kernel_rfl) (by kernel_rfl) (by kernel_rfl) (fun _ _ _ h => h) (Or.inl ⟨by kernel_rfl, ?_⟩) hHeld ?_
      rotate_left
      · intro X hX
        first | (go_simp; done) | (go_simp; with_reducible rfl)
      try simp only [Act.put, List.getElem_toArray, List.getElem_cons_succ, List.getElem_cons_zero, List.setIfInBounds_toArray, List.set_cons_zero, List.set_cons_succ]
      refine wpAnyH_take (i := 38) (v := ?_) rfl (by kernel_rfl) (by kernel_rfl) (by kernel_rfl) (fun _ _ _ h => h) (Or.inl ⟨by kernel_rfl, ?_⟩) hHeld ?_
      rotate_left
      · intro X hX
        first | (go_simp; done) | (go_simp; with_reducible rfl)
      try simp only [Act.put, List.getElem_toArray, List.getElem_cons_succ, List.getElem_cons_zero, List.setIfInBounds_toArray, List.set_cons_zero, List.set_cons_succ]
      refine wpAnyH_take (i := 39) (v := ?_) rfl (by kernel_rfl) (by kernel_rfl) (by kernel_rfl) (fun _ _ _ h => h) (Or.inl ⟨by kernel_rfl, ?_⟩) hHeld ?_
      rotate_left
      · intro X hX
        first | (go_simp; done) | (go_simp; with_reducible rfl)
      try simp only [Act.put, List.getElem_toArray, List.getElem_cons_succ, List.getElem_cons_zero, List.setIfInBounds_toArray, List.set_cons_zero, List.set_cons_succ]
      refine wpAnyH_take (i := 40) (v := ?_) rfl (by kernel_rfl) (by kernel_rfl) (by kernel_rfl) (fun _ _ _ h => h) (Or.inl ⟨by kernel_rfl, ?_⟩) hHeld ?_
      rotate_left
      · intro X hX
        first | (go_simp; done) | (go_simp; with_reducible rfl)
      try simp only [Act.put, List.getElem_toArray, List.getElem_cons_succ, List.getElem_cons_zero, List.setIfInBounds_toArray, List.set_cons_zero, List.set_cons_succ]
      refine wpAnyH_take (i := 41) (v := ?_) rfl (by kernel_rfl) (by kernel_rfl) (by kernel_rfl) (fun _ _ _ h => h) (Or.inl ⟨by kernel_rfl, ?_⟩) hHeld ?_
      rotate_left
      · intro X hX
        first | (go_simp; done) | (go_simp; with_reducible rfl)
      try simp only [Act.put, List.getElem_toArray, List.getElem_cons_succ, List.getElem_cons_zero, List.setIfInBounds_toArray, List.set_cons_zero, List.set_cons_succ]
      refine wpAnyH_take (i := 42) (v := ?_) rfl (by kernel_rfl) (by kernel_rfl) (by kernel_rfl) (fun _ _ _ h => h) (Or.inl ⟨by kernel_rfl, ?_⟩) hHeld ?_
      rotate_left
      · intro X hX
        first | (go_simp; done) | (go_simp; with_reducible rfl)
      try simp only [Act.put, List.getElem_toArray, List.getElem_cons_succ, List.getElem_cons_zero, List.setIfInBounds_toArray, List.set_cons_zero, List.set_cons_succ]
      refine wpAnyH_done (by kernel_rfl) ?_ _
      have hz := hHeld.out.2.2
      clear hHeld
      go_wp2_with fail
      go_ret
      exact ⟨rfl, hz⟩

end Go.Proofs.YtkjjdoadjhjmbaeGreatDoor
