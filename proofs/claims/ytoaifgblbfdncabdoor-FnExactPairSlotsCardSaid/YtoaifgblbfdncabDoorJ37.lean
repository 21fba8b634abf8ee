/-
  The exact law on PairSlots, out of one answer that both give.
-/
import Derived.Test.YtoaifgblbfdncabDoorJ36
namespace Go.Proofs.YtoaifgblbfdncabDoor
open Go.RowKit

set_option maxRecDepth 100000 in
set_option maxHeartbeats 12800000 in
theorem lawPairSlotsF {L : World → Prop} (seed pa pb : ByteArray) (hI : seed.size ≤ 1048576 → ∀ X, L X → Calls Tryd.prog 6 #[.string seed] X (PairOf pa pb X)) (hS : seed.size ≤ 1048576 → ∀ X, Calls Tryd.prog 5 #[.string seed] X (PairOf pa pb X))
    (w : World) (hL : ∀ X, Below w.heap.size w X → L X) :
    Calls Tryd.prog 3 #[.string seed] w fun e w' => e = .returned (.bool true) ∧ Below w.heap.size w w' := by
  by_cases hz : seed.size ≤ 1048576
  rotate_left
  · have hz' : (1048576 : Int) < (seed.size : Int) := by omega
    go_enter Tryd.func3, Tryd.ntmps3
    go_wp2_with fail
    go_ret
    exact ⟨rfl, Below.refl _ _⟩
  have hz' : ¬ ((1048576 : Int) < (seed.size : Int)) := by omega
  have HI := Lib.hid (hI hz)
  have HS := Lib.hid (hS hz)
  have LL := Lib.hid hL
  have B0 := Lib.hid (Below.refl w.heap.size w)
  clear hI hS hL hz
  go_enter Tryd.func3, Tryd.ntmps3
  go_wp2_with fail
  refine (HS.out _).mono ?_
  rintro e Y1 ⟨v1_, v2_, v3_, v4_, f, g, f', g', rfl, hd, o1, o2, o3, o4, hb⟩
  obtain ⟨u1, u2, rfl⟩ : ∃ a c, v1_ = .slice a 0 c := rows_form (layIntS.read o1)
  obtain ⟨u3, u4, rfl⟩ : ∃ a c, v2_ = .slice a 0 c := rows_form (layIntS.read o2)
  obtain ⟨u5, u6, rfl⟩ : ∃ a c, v3_ = .slice a 0 c := rows_form (layIntS.read o3)
  obtain ⟨u7, u8, rfl⟩ : ∃ a c, v4_ = .slice a 0 c := rows_form (layIntS.read o4)
  have zY1 : w.heap.size ≤ Y1.heap.size := hb.size
  replace B0 := Lib.hid (B0.out.trans (hb.mono B0.out.size))
  have hal : Below Y1.heap.size Y1 ((Y1.alloc (.cells #[.int .i64 1, .string pa, .string pb, .int .i64 0, .slice u1 0 u2, .int .i64 0, .int .i64 0, .string ⟨#[]⟩, .string ⟨#[]⟩, .int .i64 0, .slice u3 0 u4, .int .i64 0] SlotsT)).alloc (.cells #[.int .i64 1, .string pb, .string pa, .int .i64 0, .slice u5 0 u6, .int .i64 0, .int .i64 0, .string ⟨#[]⟩, .string ⟨#[]⟩, .int .i64 0, .slice u7 0 u8, .int .i64 0] SlotsT)) := ((Below.refl _ _).alloc (Nat.le_refl _) _).alloc (by simp) _
  have zY2 : ((Y1.alloc (.cells #[.int .i64 1, .string pa, .string pb, .int .i64 0, .slice u1 0 u2, .int .i64 0, .int .i64 0, .string ⟨#[]⟩, .string ⟨#[]⟩, .int .i64 0, .slice u3 0 u4, .int .i64 0] SlotsT)).alloc (.cells #[.int .i64 1, .string pb, .string pa, .int .i64 0, .slice u5 0 u6, .int .i64 0, .int .i64 0, .string ⟨#[]⟩, .string ⟨#[]⟩, .int .i64 0, .slice u7 0 u8, .int .i64 0] SlotsT)).heap.size = Y1.heap.size + 1 + 1 := by simp
  replace B0 := Lib.hid (B0.out.trans (hal.mono B0.out.size))
  have U := Lib.hid (PS.new (pa := pa) (pb := pb) hd o1 o2 o3 o4)
  clear hb hal hd o1 o2 o3 o4
  go_upto_region 4 with fail
  generalize ((Y1.alloc (.cells #[.int .i64 1, .string pa, .string pb, .int .i64 0, .slice u1 0 u2, .int .i64 0, .int .i64 0, .string ⟨#[]⟩, .string ⟨#[]⟩, .int .i64 0, .slice u3 0 u4, .int .i64 0] SlotsT)).alloc (.cells #[.int .i64 1, .string pb, .string pa, .int .i64 0, .slice u5 0 u6, .int .i64 0, .int .i64 0, .string ⟨#[]⟩, .string ⟨#[]⟩, .int .i64 0, .slice u7 0 u8, .int .i64 0] SlotsT)) = Y2 at *
  go_wp2_with fail
  refine (HI.out _ (LL.out _ B0.out)).mono ?_
  rintro e Y3 ⟨v1_, v2_, v3_, v4_, f, g, f', g', rfl, hd, o1, o2, o3, o4, hb⟩
  obtain ⟨g_1, g_2, rfl⟩ : ∃ a c, v1_ = .slice a 0 c := rows_form (layIntS.read o1)
  obtain ⟨g_3, g_4, rfl⟩ : ∃ a c, v2_ = .slice a 0 c := rows_form (layIntS.read o2)
  obtain ⟨g_5, g_6, rfl⟩ : ∃ a c, v3_ = .slice a 0 c := rows_form (layIntS.read o3)
  obtain ⟨g_7, g_8, rfl⟩ : ∃ a c, v4_ = .slice a 0 c := rows_form (layIntS.read o4)
  have zY3 : Y2.heap.size ≤ Y3.heap.size := hb.size
  replace B0 := Lib.hid (B0.out.trans (hb.mono B0.out.size))
  replace U := Lib.hid (U.out.next hb)
  have hal : Below Y3.heap.size Y3 ((Y3.alloc (.cells #[.int .i64 1, .string pa, .string pb, .int .i64 0, .slice g_1 0 g_2, .int .i64 0, .int .i64 0, .string ⟨#[]⟩, .string ⟨#[]⟩, .int .i64 0, .slice g_3 0 g_4, .int .i64 0] SlotsT)).alloc (.cells #[.int .i64 1, .string pb, .string pa, .int .i64 0, .slice g_5 0 g_6, .int .i64 0, .int .i64 0, .string ⟨#[]⟩, .string ⟨#[]⟩, .int .i64 0, .slice g_7 0 g_8, .int .i64 0] SlotsT)) := ((Below.refl _ _).alloc (Nat.le_refl _) _).alloc (by simp) _
  have zY4 : ((Y3.alloc (.cells #[.int .i64 1, .string pa, .string pb, .int .i64 0, .slice g_1 0 g_2, .int .i64 0, .int .i64 0, .string ⟨#[]⟩, .string ⟨#[]⟩, .int .i64 0, .slice g_3 0 g_4, .int .i64 0] SlotsT)).alloc (.cells #[.int .i64 1, .string pb, .string pa, .int .i64 0, .slice g_5 0 g_6, .int .i64 0, .int .i64 0, .string ⟨#[]⟩, .string ⟨#[]⟩, .int .i64 0, .slice g_7 0 g_8, .int .i64 0] SlotsT)).heap.size = Y3.heap.size + 1 + 1 := by simp
  replace B0 := Lib.hid (B0.out.trans (hal.mono B0.out.size))
  replace U := Lib.hid (U.out.next hal)
  have GG := Lib.hid (PS.new (pa := pa) (pb := pb) hd o1 o2 o3 o4)
  clear hb hal hd o1 o2 o3 o4
  go_upto_region 5 with fail
  generalize ((Y3.alloc (.cells #[.int .i64 1, .string pa, .string pb, .int .i64 0, .slice g_1 0 g_2, .int .i64 0, .int .i64 0, .string ⟨#[]⟩, .string ⟨#[]⟩, .int .i64 0, .slice g_3 0 g_4, .int .i64 0] SlotsT)).alloc (.cells #[.int .i64 1, .string pb, .string pa, .int .i64 0, .slice g_5 0 g_6, .int .i64 0, .int .i64 0, .string ⟨#[]⟩, .string ⟨#[]⟩, .int .i64 0, .slice g_7 0 g_8, .int .i64 0] SlotsT)) = Y4 at *
  have c0 : Y4.cell? ⟨Y3.heap.size, 0, none⟩ = some (.int .i64 1) := GG.out.one.cell 0
  have c1 : Y4.cell? ⟨Y3.heap.size, 1, none⟩ = some (.string pa) := GG.out.one.cell 1
  have c2 : Y4.cell? ⟨Y3.heap.size, 2, none⟩ = some (.string pb) := GG.out.one.cell 2
  have c3 : Y4.cell? ⟨Y3.heap.size, 3, none⟩ = some (.int .i64 0) := GG.out.one.cell 3
  have c4 : Y4.cell? ⟨Y3.heap.size, 4, none⟩ = some (.slice g_1 0 g_2) := GG.out.one.cell 4
  have c5 : Y4.cell? ⟨Y3.heap.size, 5, none⟩ = some (.int .i64 0) := GG.out.one.cell 5
  have c6 : Y4.cell? ⟨Y3.heap.size, 6, none⟩ = some (.int .i64 0) := GG.out.one.cell 6
  have c7 : Y4.cell? ⟨Y3.heap.size, 7, none⟩ = some (.string ⟨#[]⟩) := GG.out.one.cell 7
  have c8 : Y4.cell? ⟨Y3.heap.size, 8, none⟩ = some (.string ⟨#[]⟩) := GG.out.one.cell 8
  have c9 : Y4.cell? ⟨Y3.heap.size, 9, none⟩ = some (.int .i64 0) := GG.out.one.cell 9
  have c10 : Y4.cell? ⟨Y3.heap.size, 10, none⟩ = some (.slice g_3 0 g_4) := GG.out.one.cell 10
  have c11 : Y4.cell? ⟨Y3.heap.size, 11, none⟩ = some (.int .i64 0) := GG.out.one.cell 11
  have d0 : Y4.cell? ⟨Y1.heap.size, 0, none⟩ = some (.int .i64 1) := U.out.one.cell 0
  have d1 : Y4.cell? ⟨Y1.heap.size, 1, none⟩ = some (.string pa) := U.out.one.cell 1
  have d2 : Y4.cell? ⟨Y1.heap.size, 2, none⟩ = some (.string pb) := U.out.one.cell 2
  have d3 : Y4.cell? ⟨Y1.heap.size, 3, none⟩ = some (.int .i64 0) := U.out.one.cell 3
  have d4 : Y4.cell? ⟨Y1.heap.size, 4, none⟩ = some (.slice u1 0 u2) := U.out.one.cell 4
  have d5 : Y4.cell? ⟨Y1.heap.size, 5, none⟩ = some (.int .i64 0) := U.out.one.cell 5
  have d6 : Y4.cell? ⟨Y1.heap.size, 6, none⟩ = some (.int .i64 0) := U.out.one.cell 6
  have d7 : Y4.cell? ⟨Y1.heap.size, 7, none⟩ = some (.string ⟨#[]⟩) := U.out.one.cell 7
  have d8 : Y4.cell? ⟨Y1.heap.size, 8, none⟩ = some (.string ⟨#[]⟩) := U.out.one.cell 8
  have d9 : Y4.cell? ⟨Y1.heap.size, 9, none⟩ = some (.int .i64 0) := U.out.one.cell 9
  have d10 : Y4.cell? ⟨Y1.heap.size, 10, none⟩ = some (.slice u3 0 u4) := U.out.one.cell 10
  have d11 : Y4.cell? ⟨Y1.heap.size, 11, none⟩ = some (.int .i64 0) := U.out.one.cell 11
  have K := Lib.hid (eqSlots_same 1 pa pb 0 _ [] 0 0 ⟨#[]⟩ ⟨#[]⟩ 0 _ [] 0 _ _ Y4 GG.out.r1 GG.out.r2 U.out.r1 U.out.r2 (by simp) (by simp))
  go_wp2_with fail
  refine (K.out).mono ?_
  rintro e Y5 ⟨rfl, hb⟩
  have zY5 : Y4.heap.size ≤ Y5.heap.size := hb.size
  replace B0 := Lib.hid (B0.out.trans (hb.mono B0.out.size))
  replace U := Lib.hid (U.out.next hb)
  replace GG := Lib.hid (GG.out.next hb)
  clear hb K c0 d0 c1 d1 c2 d2 c3 d3 c4 d4 c5 d5 c6 d6 c7 d7 c8 d8 c9 d9 c10 d10 c11 d11
  have c0 : Y5.cell? ⟨Y3.heap.size + 1, 0, none⟩ = some (.int .i64 1) := GG.out.two.cell 0
  have c1 : Y5.cell? ⟨Y3.heap.size + 1, 1, none⟩ = some (.string pb) := GG.out.two.cell 1
  have c2 : Y5.cell? ⟨Y3.heap.size + 1, 2, none⟩ = some (.string pa) := GG.out.two.cell 2
  have c3 : Y5.cell? ⟨Y3.heap.size + 1, 3, none⟩ = some (.int .i64 0) := GG.out.two.cell 3
  have c4 : Y5.cell? ⟨Y3.heap.size + 1, 4, none⟩ = some (.slice g_5 0 g_6) := GG.out.two.cell 4
  have c5 : Y5.cell? ⟨Y3.heap.size + 1, 5, none⟩ = some (.int .i64 0) := GG.out.two.cell 5
  have c6 : Y5.cell? ⟨Y3.heap.size + 1, 6, none⟩ = some (.int .i64 0) := GG.out.two.cell 6
  have c7 : Y5.cell? ⟨Y3.heap.size + 1, 7, none⟩ = some (.string ⟨#[]⟩) := GG.out.two.cell 7
  have c8 : Y5.cell? ⟨Y3.heap.size + 1, 8, none⟩ = some (.string ⟨#[]⟩) := GG.out.two.cell 8
  have c9 : Y5.cell? ⟨Y3.heap.size + 1, 9, none⟩ = some (.int .i64 0) := GG.out.two.cell 9
  have c10 : Y5.cell? ⟨Y3.heap.size + 1, 10, none⟩ = some (.slice g_7 0 g_8) := GG.out.two.cell 10
  have c11 : Y5.cell? ⟨Y3.heap.size + 1, 11, none⟩ = some (.int .i64 0) := GG.out.two.cell 11
  have d0 : Y5.cell? ⟨Y1.heap.size + 1, 0, none⟩ = some (.int .i64 1) := U.out.two.cell 0
  have d1 : Y5.cell? ⟨Y1.heap.size + 1, 1, none⟩ = some (.string pb) := U.out.two.cell 1
  have d2 : Y5.cell? ⟨Y1.heap.size + 1, 2, none⟩ = some (.string pa) := U.out.two.cell 2
  have d3 : Y5.cell? ⟨Y1.heap.size + 1, 3, none⟩ = some (.int .i64 0) := U.out.two.cell 3
  have d4 : Y5.cell? ⟨Y1.heap.size + 1, 4, none⟩ = some (.slice u5 0 u6) := U.out.two.cell 4
  have d5 : Y5.cell? ⟨Y1.heap.size + 1, 5, none⟩ = some (.int .i64 0) := U.out.two.cell 5
  have d6 : Y5.cell? ⟨Y1.heap.size + 1, 6, none⟩ = some (.int .i64 0) := U.out.two.cell 6
  have d7 : Y5.cell? ⟨Y1.heap.size + 1, 7, none⟩ = some (.string ⟨#[]⟩) := U.out.two.cell 7
  have d8 : Y5.cell? ⟨Y1.heap.size + 1, 8, none⟩ = some (.string ⟨#[]⟩) := U.out.two.cell 8
  have d9 : Y5.cell? ⟨Y1.heap.size + 1, 9, none⟩ = some (.int .i64 0) := U.out.two.cell 9
  have d10 : Y5.cell? ⟨Y1.heap.size + 1, 10, none⟩ = some (.slice u7 0 u8) := U.out.two.cell 10
  have d11 : Y5.cell? ⟨Y1.heap.size + 1, 11, none⟩ = some (.int .i64 0) := U.out.two.cell 11
  have K := Lib.hid (eqSlots_same 1 pb pa 0 _ [] 0 0 ⟨#[]⟩ ⟨#[]⟩ 0 _ [] 0 _ _ Y5 GG.out.r3 GG.out.r4 U.out.r3 U.out.r4 (by simp) (by simp))
  go_wp2_with fail
  refine (K.out).mono ?_
  rintro e Y6 ⟨rfl, hb⟩
  have zY6 : Y5.heap.size ≤ Y6.heap.size := hb.size
  replace B0 := Lib.hid (B0.out.trans (hb.mono B0.out.size))
  replace U := Lib.hid (U.out.next hb)
  replace GG := Lib.hid (GG.out.next hb)
  clear hb K c0 d0 c1 d1 c2 d2 c3 d3 c4 d4 c5 d5 c6 d6 c7 d7 c8 d8 c9 d9 c10 d10 c11 d11
  have c0 : Y6.cell? ⟨Y3.heap.size, 0, none⟩ = some (.int .i64 1) := GG.out.one.cell 0
  have c1 : Y6.cell? ⟨Y3.heap.size, 1, none⟩ = some (.string pa) := GG.out.one.cell 1
  have c2 : Y6.cell? ⟨Y3.heap.size, 2, none⟩ = some (.string pb) := GG.out.one.cell 2
  have c3 : Y6.cell? ⟨Y3.heap.size, 3, none⟩ = some (.int .i64 0) := GG.out.one.cell 3
  have c4 : Y6.cell? ⟨Y3.heap.size, 4, none⟩ = some (.slice g_1 0 g_2) := GG.out.one.cell 4
  have c5 : Y6.cell? ⟨Y3.heap.size, 5, none⟩ = some (.int .i64 0) := GG.out.one.cell 5
  have c6 : Y6.cell? ⟨Y3.heap.size, 6, none⟩ = some (.int .i64 0) := GG.out.one.cell 6
  have c7 : Y6.cell? ⟨Y3.heap.size, 7, none⟩ = some (.string ⟨#[]⟩) := GG.out.one.cell 7
  have c8 : Y6.cell? ⟨Y3.heap.size, 8, none⟩ = some (.string ⟨#[]⟩) := GG.out.one.cell 8
  have c9 : Y6.cell? ⟨Y3.heap.size, 9, none⟩ = some (.int .i64 0) := GG.out.one.cell 9
  have c10 : Y6.cell? ⟨Y3.heap.size, 10, none⟩ = some (.slice g_3 0 g_4) := GG.out.one.cell 10
  have c11 : Y6.cell? ⟨Y3.heap.size, 11, none⟩ = some (.int .i64 0) := GG.out.one.cell 11
  have K := Lib.hid GG.out.mark1
  go_wp2_with fail
  refine (K.out).mono ?_
  rintro e Y7 ⟨rfl, hm, hc⟩
  have zY7 : Y6.heap.size ≤ Y7.heap.size := hc.size
  replace U := Lib.hid (U.out.away hc (by omega) (by omega))
  replace B0 := Lib.hid (hc.below B0.out (by omega))
  replace GG := Lib.hid hm
  clear hm hc K c0 c1 c2 c3 c4 c5 c6 c7 c8 c9 c10 c11
  have c0 : Y7.cell? ⟨Y3.heap.size + 1, 0, none⟩ = some (.int .i64 1) := GG.out.two.cell 0
  have c1 : Y7.cell? ⟨Y3.heap.size + 1, 1, none⟩ = some (.string pb) := GG.out.two.cell 1
  have c2 : Y7.cell? ⟨Y3.heap.size + 1, 2, none⟩ = some (.string pa) := GG.out.two.cell 2
  have c3 : Y7.cell? ⟨Y3.heap.size + 1, 3, none⟩ = some (.int .i64 0) := GG.out.two.cell 3
  have c4 : Y7.cell? ⟨Y3.heap.size + 1, 4, none⟩ = some (.slice g_5 0 g_6) := GG.out.two.cell 4
  have c5 : Y7.cell? ⟨Y3.heap.size + 1, 5, none⟩ = some (.int .i64 0) := GG.out.two.cell 5
  have c6 : Y7.cell? ⟨Y3.heap.size + 1, 6, none⟩ = some (.int .i64 0) := GG.out.two.cell 6
  have c7 : Y7.cell? ⟨Y3.heap.size + 1, 7, none⟩ = some (.string ⟨#[]⟩) := GG.out.two.cell 7
  have c8 : Y7.cell? ⟨Y3.heap.size + 1, 8, none⟩ = some (.string ⟨#[]⟩) := GG.out.two.cell 8
  have c9 : Y7.cell? ⟨Y3.heap.size + 1, 9, none⟩ = some (.int .i64 0) := GG.out.two.cell 9
  have c10 : Y7.cell? ⟨Y3.heap.size + 1, 10, none⟩ = some (.slice g_7 0 g_8) := GG.out.two.cell 10
  have c11 : Y7.cell? ⟨Y3.heap.size + 1, 11, none⟩ = some (.int .i64 0) := GG.out.two.cell 11
  have K := Lib.hid GG.out.mark2
  go_wp2_with fail
  refine (K.out).mono ?_
  rintro e Y8 ⟨rfl, hm, hc⟩
  have zY8 : Y7.heap.size ≤ Y8.heap.size := hc.size
  replace U := Lib.hid (U.out.away hc (by omega) (by omega))
  replace B0 := Lib.hid (hc.below B0.out (by omega))
  replace GG := Lib.hid hm
  clear hm hc K c0 c1 c2 c3 c4 c5 c6 c7 c8 c9 c10 c11
  have c0 : Y8.cell? ⟨Y3.heap.size, 0, none⟩ = some (.int .i64 1) := GG.out.one.cell 0
  have c1 : Y8.cell? ⟨Y3.heap.size, 1, none⟩ = some (.string pa) := GG.out.one.cell 1
  have c2 : Y8.cell? ⟨Y3.heap.size, 2, none⟩ = some (.string pb) := GG.out.one.cell 2
  have c3 : Y8.cell? ⟨Y3.heap.size, 3, none⟩ = some (.int .i64 0) := GG.out.one.cell 3
  have c4 : Y8.cell? ⟨Y3.heap.size, 4, none⟩ = some (.slice g_1 0 g_2) := GG.out.one.cell 4
  have c5 : Y8.cell? ⟨Y3.heap.size, 5, none⟩ = some (.int .i64 0) := GG.out.one.cell 5
  have c6 : Y8.cell? ⟨Y3.heap.size, 6, none⟩ = some (.int .i64 0) := GG.out.one.cell 6
  have c7 : Y8.cell? ⟨Y3.heap.size, 7, none⟩ = some (.string ⟨#[]⟩) := GG.out.one.cell 7
  have c8 : Y8.cell? ⟨Y3.heap.size, 8, none⟩ = some (.string ⟨#[]⟩) := GG.out.one.cell 8
  have c9 : Y8.cell? ⟨Y3.heap.size, 9, none⟩ = some (.int .i64 0) := GG.out.one.cell 9
  have c10 : Y8.cell? ⟨Y3.heap.size, 10, none⟩ = some (.slice g_3 0 g_4) := GG.out.one.cell 10
  have c11 : Y8.cell? ⟨Y3.heap.size, 11, none⟩ = some (.int .i64 0) := GG.out.one.cell 11
  have K := Lib.hid GG.out.held1
  go_wp2_with fail
  refine (K.out).mono ?_
  rintro e Y9 ⟨rfl, hb⟩
  have zY9 : Y8.heap.size ≤ Y9.heap.size := hb.size
  replace B0 := Lib.hid (B0.out.trans (hb.mono B0.out.size))
  replace U := Lib.hid (U.out.next hb)
  replace GG := Lib.hid (GG.out.next hb)
  clear hb K c0 c1 c2 c3 c4 c5 c6 c7 c8 c9 c10 c11
  have c0 : Y9.cell? ⟨Y3.heap.size + 1, 0, none⟩ = some (.int .i64 1) := GG.out.two.cell 0
  have c1 : Y9.cell? ⟨Y3.heap.size + 1, 1, none⟩ = some (.string pb) := GG.out.two.cell 1
  have c2 : Y9.cell? ⟨Y3.heap.size + 1, 2, none⟩ = some (.string pa) := GG.out.two.cell 2
  have c3 : Y9.cell? ⟨Y3.heap.size + 1, 3, none⟩ = some (.int .i64 0) := GG.out.two.cell 3
  have c4 : Y9.cell? ⟨Y3.heap.size + 1, 4, none⟩ = some (.slice g_5 0 g_6) := GG.out.two.cell 4
  have c5 : Y9.cell? ⟨Y3.heap.size + 1, 5, none⟩ = some (.int .i64 0) := GG.out.two.cell 5
  have c6 : Y9.cell? ⟨Y3.heap.size + 1, 6, none⟩ = some (.int .i64 0) := GG.out.two.cell 6
  have c7 : Y9.cell? ⟨Y3.heap.size + 1, 7, none⟩ = some (.string ⟨#[]⟩) := GG.out.two.cell 7
  have c8 : Y9.cell? ⟨Y3.heap.size + 1, 8, none⟩ = some (.string ⟨#[]⟩) := GG.out.two.cell 8
  have c9 : Y9.cell? ⟨Y3.heap.size + 1, 9, none⟩ = some (.int .i64 0) := GG.out.two.cell 9
  have c10 : Y9.cell? ⟨Y3.heap.size + 1, 10, none⟩ = some (.slice g_7 0 g_8) := GG.out.two.cell 10
  have c11 : Y9.cell? ⟨Y3.heap.size + 1, 11, none⟩ = some (.int .i64 0) := GG.out.two.cell 11
  have K := Lib.hid GG.out.held2
  go_wp2_with fail
  refine (K.out).mono ?_
  rintro e Y10 ⟨rfl, hb⟩
  have zY10 : Y9.heap.size ≤ Y10.heap.size := hb.size
  replace B0 := Lib.hid (B0.out.trans (hb.mono B0.out.size))
  replace U := Lib.hid (U.out.next hb)
  replace GG := Lib.hid (GG.out.next hb)
  clear hb K c0 c1 c2 c3 c4 c5 c6 c7 c8 c9 c10 c11
  go_wp2_with fail
  refine (HI.out _ (LL.out _ B0.out)).mono ?_
  rintro e Y11 ⟨v1_, v2_, v3_, v4_, f, g, f', g', rfl, hd, o1, o2, o3, o4, hb⟩
  obtain ⟨h_1, h_2, rfl⟩ : ∃ a c, v1_ = .slice a 0 c := rows_form (layIntS.read o1)
  obtain ⟨h_3, h_4, rfl⟩ : ∃ a c, v2_ = .slice a 0 c := rows_form (layIntS.read o2)
  obtain ⟨h_5, h_6, rfl⟩ : ∃ a c, v3_ = .slice a 0 c := rows_form (layIntS.read o3)
  obtain ⟨h_7, h_8, rfl⟩ : ∃ a c, v4_ = .slice a 0 c := rows_form (layIntS.read o4)
  have zY11 : Y10.heap.size ≤ Y11.heap.size := hb.size
  replace B0 := Lib.hid (B0.out.trans (hb.mono B0.out.size))
  replace U := Lib.hid (U.out.next hb)
  replace GG := Lib.hid (GG.out.next hb)
  have hal : Below Y11.heap.size Y11 ((Y11.alloc (.cells #[.int .i64 1, .string pa, .string pb, .int .i64 0, .slice h_1 0 h_2, .int .i64 0, .int .i64 0, .string ⟨#[]⟩, .string ⟨#[]⟩, .int .i64 0, .slice h_3 0 h_4, .int .i64 0] SlotsT)).alloc (.cells #[.int .i64 1, .string pb, .string pa, .int .i64 0, .slice h_5 0 h_6, .int .i64 0, .int .i64 0, .string ⟨#[]⟩, .string ⟨#[]⟩, .int .i64 0, .slice h_7 0 h_8, .int .i64 0] SlotsT)) := ((Below.refl _ _).alloc (Nat.le_refl _) _).alloc (by simp) _
  have zY12 : ((Y11.alloc (.cells #[.int .i64 1, .string pa, .string pb, .int .i64 0, .slice h_1 0 h_2, .int .i64 0, .int .i64 0, .string ⟨#[]⟩, .string ⟨#[]⟩, .int .i64 0, .slice h_3 0 h_4, .int .i64 0] SlotsT)).alloc (.cells #[.int .i64 1, .string pb, .string pa, .int .i64 0, .slice h_5 0 h_6, .int .i64 0, .int .i64 0, .string ⟨#[]⟩, .string ⟨#[]⟩, .int .i64 0, .slice h_7 0 h_8, .int .i64 0] SlotsT)).heap.size = Y11.heap.size + 1 + 1 := by simp
  replace B0 := Lib.hid (B0.out.trans (hal.mono B0.out.size))
  replace U := Lib.hid (U.out.next hal)
  replace GG := Lib.hid (GG.out.next hal)
  have HH := Lib.hid (PS.new (pa := pa) (pb := pb) hd o1 o2 o3 o4)
  clear hb hal hd o1 o2 o3 o4
  go_upto_region 20 with fail
  generalize ((Y11.alloc (.cells #[.int .i64 1, .string pa, .string pb, .int .i64 0, .slice h_1 0 h_2, .int .i64 0, .int .i64 0, .string ⟨#[]⟩, .string ⟨#[]⟩, .int .i64 0, .slice h_3 0 h_4, .int .i64 0] SlotsT)).alloc (.cells #[.int .i64 1, .string pb, .string pa, .int .i64 0, .slice h_5 0 h_6, .int .i64 0, .int .i64 0, .string ⟨#[]⟩, .string ⟨#[]⟩, .int .i64 0, .slice h_7 0 h_8, .int .i64 0] SlotsT)) = Y12 at *
  have c0 : Y12.cell? ⟨Y11.heap.size, 0, none⟩ = some (.int .i64 1) := HH.out.one.cell 0
  have c1 : Y12.cell? ⟨Y11.heap.size, 1, none⟩ = some (.string pa) := HH.out.one.cell 1
  have c2 : Y12.cell? ⟨Y11.heap.size, 2, none⟩ = some (.string pb) := HH.out.one.cell 2
  have c3 : Y12.cell? ⟨Y11.heap.size, 3, none⟩ = some (.int .i64 0) := HH.out.one.cell 3
  have c4 : Y12.cell? ⟨Y11.heap.size, 4, none⟩ = some (.slice h_1 0 h_2) := HH.out.one.cell 4
  have c5 : Y12.cell? ⟨Y11.heap.size, 5, none⟩ = some (.int .i64 0) := HH.out.one.cell 5
  have c6 : Y12.cell? ⟨Y11.heap.size, 6, none⟩ = some (.int .i64 0) := HH.out.one.cell 6
  have c7 : Y12.cell? ⟨Y11.heap.size, 7, none⟩ = some (.string ⟨#[]⟩) := HH.out.one.cell 7
  have c8 : Y12.cell? ⟨Y11.heap.size, 8, none⟩ = some (.string ⟨#[]⟩) := HH.out.one.cell 8
  have c9 : Y12.cell? ⟨Y11.heap.size, 9, none⟩ = some (.int .i64 0) := HH.out.one.cell 9
  have c10 : Y12.cell? ⟨Y11.heap.size, 10, none⟩ = some (.slice h_3 0 h_4) := HH.out.one.cell 10
  have c11 : Y12.cell? ⟨Y11.heap.size, 11, none⟩ = some (.int .i64 0) := HH.out.one.cell 11
  have d0 : Y12.cell? ⟨Y1.heap.size, 0, none⟩ = some (.int .i64 1) := U.out.one.cell 0
  have d1 : Y12.cell? ⟨Y1.heap.size, 1, none⟩ = some (.string pa) := U.out.one.cell 1
  have d2 : Y12.cell? ⟨Y1.heap.size, 2, none⟩ = some (.string pb) := U.out.one.cell 2
  have d3 : Y12.cell? ⟨Y1.heap.size, 3, none⟩ = some (.int .i64 0) := U.out.one.cell 3
  have d4 : Y12.cell? ⟨Y1.heap.size, 4, none⟩ = some (.slice u1 0 u2) := U.out.one.cell 4
  have d5 : Y12.cell? ⟨Y1.heap.size, 5, none⟩ = some (.int .i64 0) := U.out.one.cell 5
  have d6 : Y12.cell? ⟨Y1.heap.size, 6, none⟩ = some (.int .i64 0) := U.out.one.cell 6
  have d7 : Y12.cell? ⟨Y1.heap.size, 7, none⟩ = some (.string ⟨#[]⟩) := U.out.one.cell 7
  have d8 : Y12.cell? ⟨Y1.heap.size, 8, none⟩ = some (.string ⟨#[]⟩) := U.out.one.cell 8
  have d9 : Y12.cell? ⟨Y1.heap.size, 9, none⟩ = some (.int .i64 0) := U.out.one.cell 9
  have d10 : Y12.cell? ⟨Y1.heap.size, 10, none⟩ = some (.slice u3 0 u4) := U.out.one.cell 10
  have d11 : Y12.cell? ⟨Y1.heap.size, 11, none⟩ = some (.int .i64 0) := U.out.one.cell 11
  have K := Lib.hid (eqSlots_same 1 pa pb 0 _ [] 0 0 ⟨#[]⟩ ⟨#[]⟩ 0 _ [] 0 _ _ Y12 HH.out.r1 HH.out.r2 U.out.r1 U.out.r2 (by simp) (by simp))
  go_wp2_with fail
  refine (K.out).mono ?_
  rintro e Y13 ⟨rfl, hb⟩
  have zY13 : Y12.heap.size ≤ Y13.heap.size := hb.size
  replace B0 := Lib.hid (B0.out.trans (hb.mono B0.out.size))
  replace U := Lib.hid (U.out.next hb)
  replace GG := Lib.hid (GG.out.next hb)
  replace HH := Lib.hid (HH.out.next hb)
  clear hb K c0 d0 c1 d1 c2 d2 c3 d3 c4 d4 c5 d5 c6 d6 c7 d7 c8 d8 c9 d9 c10 d10 c11 d11
  have c0 : Y13.cell? ⟨Y11.heap.size + 1, 0, none⟩ = some (.int .i64 1) := HH.out.two.cell 0
  have c1 : Y13.cell? ⟨Y11.heap.size + 1, 1, none⟩ = some (.string pb) := HH.out.two.cell 1
  have c2 : Y13.cell? ⟨Y11.heap.size + 1, 2, none⟩ = some (.string pa) := HH.out.two.cell 2
  have c3 : Y13.cell? ⟨Y11.heap.size + 1, 3, none⟩ = some (.int .i64 0) := HH.out.two.cell 3
  have c4 : Y13.cell? ⟨Y11.heap.size + 1, 4, none⟩ = some (.slice h_5 0 h_6) := HH.out.two.cell 4
  have c5 : Y13.cell? ⟨Y11.heap.size + 1, 5, none⟩ = some (.int .i64 0) := HH.out.two.cell 5
  have c6 : Y13.cell? ⟨Y11.heap.size + 1, 6, none⟩ = some (.int .i64 0) := HH.out.two.cell 6
  have c7 : Y13.cell? ⟨Y11.heap.size + 1, 7, none⟩ = some (.string ⟨#[]⟩) := HH.out.two.cell 7
  have c8 : Y13.cell? ⟨Y11.heap.size + 1, 8, none⟩ = some (.string ⟨#[]⟩) := HH.out.two.cell 8
  have c9 : Y13.cell? ⟨Y11.heap.size + 1, 9, none⟩ = some (.int .i64 0) := HH.out.two.cell 9
  have c10 : Y13.cell? ⟨Y11.heap.size + 1, 10, none⟩ = some (.slice h_7 0 h_8) := HH.out.two.cell 10
  have c11 : Y13.cell? ⟨Y11.heap.size + 1, 11, none⟩ = some (.int .i64 0) := HH.out.two.cell 11
  have d0 : Y13.cell? ⟨Y1.heap.size + 1, 0, none⟩ = some (.int .i64 1) := U.out.two.cell 0
  have d1 : Y13.cell? ⟨Y1.heap.size + 1, 1, none⟩ = some (.string pb) := U.out.two.cell 1
  have d2 : Y13.cell? ⟨Y1.heap.size + 1, 2, none⟩ = some (.string pa) := U.out.two.cell 2
  have d3 : Y13.cell? ⟨Y1.heap.size + 1, 3, none⟩ = some (.int .i64 0) := U.out.two.cell 3
  have d4 : Y13.cell? ⟨Y1.heap.size + 1, 4, none⟩ = some (.slice u5 0 u6) := U.out.two.cell 4
  have d5 : Y13.cell? ⟨Y1.heap.size + 1, 5, none⟩ = some (.int .i64 0) := U.out.two.cell 5
  have d6 : Y13.cell? ⟨Y1.heap.size + 1, 6, none⟩ = some (.int .i64 0) := U.out.two.cell 6
  have d7 : Y13.cell? ⟨Y1.heap.size + 1, 7, none⟩ = some (.string ⟨#[]⟩) := U.out.two.cell 7
  have d8 : Y13.cell? ⟨Y1.heap.size + 1, 8, none⟩ = some (.string ⟨#[]⟩) := U.out.two.cell 8
  have d9 : Y13.cell? ⟨Y1.heap.size + 1, 9, none⟩ = some (.int .i64 0) := U.out.two.cell 9
  have d10 : Y13.cell? ⟨Y1.heap.size + 1, 10, none⟩ = some (.slice u7 0 u8) := U.out.two.cell 10
  have d11 : Y13.cell? ⟨Y1.heap.size + 1, 11, none⟩ = some (.int .i64 0) := U.out.two.cell 11
  have K := Lib.hid (eqSlots_same 1 pb pa 0 _ [] 0 0 ⟨#[]⟩ ⟨#[]⟩ 0 _ [] 0 _ _ Y13 HH.out.r3 HH.out.r4 U.out.r3 U.out.r4 (by simp) (by simp))
  go_wp2_with fail
  refine (K.out).mono ?_
  rintro e Y14 ⟨rfl, hb⟩
  have zY14 : Y13.heap.size ≤ Y14.heap.size := hb.size
  replace B0 := Lib.hid (B0.out.trans (hb.mono B0.out.size))
  replace U := Lib.hid (U.out.next hb)
  replace GG := Lib.hid (GG.out.next hb)
  replace HH := Lib.hid (HH.out.next hb)
  clear hb K c0 d0 c1 d1 c2 d2 c3 d3 c4 d4 c5 d5 c6 d6 c7 d7 c8 d8 c9 d9 c10 d10 c11 d11
  have c0 : Y14.cell? ⟨Y3.heap.size, 0, none⟩ = some (.int .i64 1) := GG.out.one.cell 0
  have c1 : Y14.cell? ⟨Y3.heap.size, 1, none⟩ = some (.string pa) := GG.out.one.cell 1
  have c2 : Y14.cell? ⟨Y3.heap.size, 2, none⟩ = some (.string pb) := GG.out.one.cell 2
  have c3 : Y14.cell? ⟨Y3.heap.size, 3, none⟩ = some (.int .i64 0) := GG.out.one.cell 3
  have c4 : Y14.cell? ⟨Y3.heap.size, 4, none⟩ = some (.slice g_1 0 g_2) := GG.out.one.cell 4
  have c5 : Y14.cell? ⟨Y3.heap.size, 5, none⟩ = some (.int .i64 0) := GG.out.one.cell 5
  have c6 : Y14.cell? ⟨Y3.heap.size, 6, none⟩ = some (.int .i64 0) := GG.out.one.cell 6
  have c7 : Y14.cell? ⟨Y3.heap.size, 7, none⟩ = some (.string ⟨#[]⟩) := GG.out.one.cell 7
  have c8 : Y14.cell? ⟨Y3.heap.size, 8, none⟩ = some (.string ⟨#[]⟩) := GG.out.one.cell 8
  have c9 : Y14.cell? ⟨Y3.heap.size, 9, none⟩ = some (.int .i64 0) := GG.out.one.cell 9
  have c10 : Y14.cell? ⟨Y3.heap.size, 10, none⟩ = some (.slice g_3 0 g_4) := GG.out.one.cell 10
  have c11 : Y14.cell? ⟨Y3.heap.size, 11, none⟩ = some (.int .i64 0) := GG.out.one.cell 11
  have K := Lib.hid GG.out.held1
  go_wp2_with fail
  refine (K.out).mono ?_
  rintro e Y15 ⟨rfl, hb⟩
  have zY15 : Y14.heap.size ≤ Y15.heap.size := hb.size
  replace B0 := Lib.hid (B0.out.trans (hb.mono B0.out.size))
  replace U := Lib.hid (U.out.next hb)
  replace GG := Lib.hid (GG.out.next hb)
  replace HH := Lib.hid (HH.out.next hb)
  clear hb K c0 c1 c2 c3 c4 c5 c6 c7 c8 c9 c10 c11
  have c0 : Y15.cell? ⟨Y3.heap.size + 1, 0, none⟩ = some (.int .i64 1) := GG.out.two.cell 0
  have c1 : Y15.cell? ⟨Y3.heap.size + 1, 1, none⟩ = some (.string pb) := GG.out.two.cell 1
  have c2 : Y15.cell? ⟨Y3.heap.size + 1, 2, none⟩ = some (.string pa) := GG.out.two.cell 2
  have c3 : Y15.cell? ⟨Y3.heap.size + 1, 3, none⟩ = some (.int .i64 0) := GG.out.two.cell 3
  have c4 : Y15.cell? ⟨Y3.heap.size + 1, 4, none⟩ = some (.slice g_5 0 g_6) := GG.out.two.cell 4
  have c5 : Y15.cell? ⟨Y3.heap.size + 1, 5, none⟩ = some (.int .i64 0) := GG.out.two.cell 5
  have c6 : Y15.cell? ⟨Y3.heap.size + 1, 6, none⟩ = some (.int .i64 0) := GG.out.two.cell 6
  have c7 : Y15.cell? ⟨Y3.heap.size + 1, 7, none⟩ = some (.string ⟨#[]⟩) := GG.out.two.cell 7
  have c8 : Y15.cell? ⟨Y3.heap.size + 1, 8, none⟩ = some (.string ⟨#[]⟩) := GG.out.two.cell 8
  have c9 : Y15.cell? ⟨Y3.heap.size + 1, 9, none⟩ = some (.int .i64 0) := GG.out.two.cell 9
  have c10 : Y15.cell? ⟨Y3.heap.size + 1, 10, none⟩ = some (.slice g_7 0 g_8) := GG.out.two.cell 10
  have c11 : Y15.cell? ⟨Y3.heap.size + 1, 11, none⟩ = some (.int .i64 0) := GG.out.two.cell 11
  have K := Lib.hid GG.out.held2
  go_wp2_with fail
  refine (K.out).mono ?_
  rintro e Y16 ⟨rfl, hb⟩
  have zY16 : Y15.heap.size ≤ Y16.heap.size := hb.size
  replace B0 := Lib.hid (B0.out.trans (hb.mono B0.out.size))
  replace U := Lib.hid (U.out.next hb)
  replace GG := Lib.hid (GG.out.next hb)
  replace HH := Lib.hid (HH.out.next hb)
  clear hb K c0 c1 c2 c3 c4 c5 c6 c7 c8 c9 c10 c11
  go_wp2_with fail
  go_ret
  exact ⟨rfl, B0.out⟩

end Go.Proofs.YtoaifgblbfdncabDoor
