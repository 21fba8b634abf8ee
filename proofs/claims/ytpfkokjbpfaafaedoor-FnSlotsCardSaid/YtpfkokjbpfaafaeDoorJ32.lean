/-
  Slots drawn: behind some use.
-/
import Derived.Test.YtpfkokjbpfaafaeDoorJ12
import Derived.Test.YtpfkokjbpfaafaeDoorJ26
import Derived.Test.YtpfkokjbpfaafaeDoorJ27
import Derived.Test.YtpfkokjbpfaafaeDoorJ30
import Derived.Test.YtpfkokjbpfaafaeDoorJ31
namespace Go.Proofs.YtpfkokjbpfaafaeDoor
open Go.RowKit

set_option maxRecDepth 100000 in
set_option maxHeartbeats 12800000 in
theorem l17Slots_any {c : Nat} {a : Option Addr} {len cap : Nat} (w : World) (H : Cur c a len cap w) :
    Calls Tryd.prog 15 #[.pointer (some ⟨c, 0, none⟩)] w (DrewSlots c w) := by
  have hcs : c < w.heap.size := cell_size (p := ⟨c, 0, none⟩) H.c0
  have hb0 := (Below.refl w.heap.size w).alloc (Nat.le_refl _) (.cells #[.int .i64 0, .string ⟨#[]⟩, .string ⟨#[]⟩, .int .i64 0, .slice none 0 0, .int .i64 0, .int .i64 0, .string ⟨#[]⟩, .string ⟨#[]⟩, .int .i64 0, .slice none 0 0, .int .i64 0] SlotsT)
  have C0 := Lib.hid (H.below hb0)
  have R0 := Lib.hid (VarA.new w SlotsT #[.int .i64 0, .string ⟨#[]⟩, .string ⟨#[]⟩, .int .i64 0, .slice none 0 0, .int .i64 0, .int .i64 0, .string ⟨#[]⟩, .string ⟨#[]⟩, .int .i64 0, .slice none 0 0, .int .i64 0])
  have L0 : Hid (Only c w (w.alloc (.cells #[.int .i64 0, .string ⟨#[]⟩, .string ⟨#[]⟩, .int .i64 0, .slice none 0 0, .int .i64 0, .int .i64 0, .string ⟨#[]⟩, .string ⟨#[]⟩, .int .i64 0, .slice none 0 0, .int .i64 0] SlotsT))) := Lib.hid (.of_below hb0)
  clear H hb0
  obtain ⟨Q, HQ⟩ : ∃ Q : Ending → World → Prop, Hid (Q = DrewSlots c w) := ⟨_, Lib.hid rfl⟩
  rw [← HQ.out]
  go_enter Tryd.func15, Tryd.ntmps15
  go_upto_region 1 with fail
  generalize (w.alloc (.cells #[.int .i64 0, .string ⟨#[]⟩, .string ⟨#[]⟩, .int .i64 0, .slice none 0 0, .int .i64 0, .int .i64 0, .string ⟨#[]⟩, .string ⟨#[]⟩, .int .i64 0, .slice none 0 0, .int .i64 0] SlotsT)) = Y at *
  go_wp2_with fail
  refine (text_any 2 (by omega) Y C0.out).mono ?_
  rintro e Y1 ⟨l, hl2, rfl, hc, ho⟩
  obtain ⟨t, ht⟩ : ∃ t : ByteArray, t = ⟨l.toArray⟩ := ⟨_, rfl⟩
  have htz : t.size ≤ 1000 := by rw [ht]; show l.toArray.size ≤ 1000; simp; omega
  rw [← ht]
  clear ht hl2
  replace R0 := Lib.hid (R0.out.only ho (by omega))
  replace L0 := Lib.hid (L0.out.trans ho)
  replace C0 := Lib.hid hc
  clear hc ho
  go_wp2_with fail
  have hy1 : w.heap.size ≤ Y1.heap.size := L0.out.size
  refine (specPairSlots_any t (by omega) Y1).mono ?_
  rintro e Y2 ⟨v4, u4, v5, u5, f, g, f', g', rfl, -, o1, o2, o3, o4, hb⟩
  obtain ⟨va, vk, rfl⟩ : ∃ a c, v4 = .slice a 0 c := rows_form (layIntS.read o1)
  obtain ⟨ua, uk, rfl⟩ : ∃ a c, u4 = .slice a 0 c := rows_form (layIntS.read o2)
  obtain ⟨na, nk, rfl⟩ : ∃ a c, v5 = .slice a 0 c := rows_form (layIntS.read o3)
  obtain ⟨ma, mk, rfl⟩ : ∃ a c, u5 = .slice a 0 c := rows_form (layIntS.read o4)
  have GD := Lib.hid (good_first (show (pairK t 97).size = 32 from digP_size _) (show (pairK t 98).size = 32 from digP_size _))
  generalize pairK t 97 = pa at *
  generalize pairK t 98 = pb at *
  replace R0 := Lib.hid (R0.out.next hb)
  replace L0 := Lib.hid (L0.out.trans (.of_below hb))
  replace C0 := Lib.hid (C0.out.below hb)
  have hal : Below Y2.heap.size Y2 ((Y2.alloc (.cells #[.int .i64 1, .string pa, .string pb, .int .i64 0, .slice va 0 vk, .int .i64 0, .int .i64 0, .string ⟨#[]⟩, .string ⟨#[]⟩, .int .i64 0, .slice ua 0 uk, .int .i64 0] SlotsT)).alloc (.cells #[.int .i64 1, .string pb, .string pa, .int .i64 0, .slice na 0 nk, .int .i64 0, .int .i64 0, .string ⟨#[]⟩, .string ⟨#[]⟩, .int .i64 0, .slice ma 0 mk, .int .i64 0] SlotsT)) := ((Below.refl _ _).alloc (Nat.le_refl _) _).alloc (by simp) _
  have D0 : Hid (DS c a len cap w Y2.heap.size 1 pa pb 0 (.slice va 0 vk) [] 0 0 ⟨#[]⟩ ⟨#[]⟩ 0 (.slice ua 0 uk) [] 0 ((Y2.alloc (.cells #[.int .i64 1, .string pa, .string pb, .int .i64 0, .slice va 0 vk, .int .i64 0, .int .i64 0, .string ⟨#[]⟩, .string ⟨#[]⟩, .int .i64 0, .slice ua 0 uk, .int .i64 0] SlotsT)).alloc (.cells #[.int .i64 1, .string pb, .string pa, .int .i64 0, .slice na 0 nk, .int .i64 0, .int .i64 0, .string ⟨#[]⟩, .string ⟨#[]⟩, .int .i64 0, .slice ma 0 mk, .int .i64 0] SlotsT))) := Lib.hid ⟨C0.out.below hal, L0.out.trans (.of_below hal), R0.out.next hal, (VarA.new Y2 SlotsT #[.int .i64 1, .string pa, .string pb, .int .i64 0, .slice va 0 vk, .int .i64 0, .int .i64 0, .string ⟨#[]⟩, .string ⟨#[]⟩, .int .i64 0, .slice ua 0 uk, .int .i64 0]).alloc _, ⟨f, layIntS.lower (layIntS.next o1 hal) hy1⟩, ⟨g, layIntS.lower (layIntS.next o2 hal) hy1⟩, by have := R0.out.lt; omega, hcs⟩
  clear o1 o2 o3 o4 hb hal R0 L0 C0
  go_upto_region 2 with fail
  generalize (Y2.alloc (.cells #[.int .i64 1, .string pa, .string pb, .int .i64 0, .slice va 0 vk, .int .i64 0, .int .i64 0, .string ⟨#[]⟩, .string ⟨#[]⟩, .int .i64 0, .slice ua 0 uk, .int .i64 0] SlotsT)).alloc (.cells #[.int .i64 1, .string pb, .string pa, .int .i64 0, .slice na 0 nk, .int .i64 0, .int .i64 0, .string ⟨#[]⟩, .string ⟨#[]⟩, .int .i64 0, .slice ma 0 mk, .int .i64 0] SlotsT) = Y3 at *
  generalize Y2.heap.size = q at *
  clear hy1
  go_wp2_with fail
  go_loopw [5, 6] (fun nw i wr => ∃ (k : Nat) (tn : Int) (x0 : Int) (x1 x2 : ByteArray) (x3 : Int) (va : Option Addr) (vk : Nat) (r4 : List Int) (x5 : Int) (y0 : Int) (y1 y2 : ByteArray) (y3 : Int) (ua : Option Addr) (uk : Nat) (s4 : List Int) (y5 : Int), k ≤ 7 ∧ i = .int .i64 k ∧ nw = .int .i64 tn ∧ (0 ≤ tn ∧ tn ≤ 5 * k) ∧ Hid (Good12 (k + 1) x0 x1 x2 x3 r4 x5 y0 y1 y2 y3 s4 y5) ∧ Hid (DS c a len cap w q x0 x1 x2 x3 (.slice va r4.length vk) r4 x5 y0 y1 y2 y3 (.slice ua s4.length uk) s4 y5 wr)) (fun _ i _ => 8 - (intOf i).toNat)
  case atStart => exact ⟨0, 0, 1, pa, pb, 0, va, vk, [], 0, 0, ⟨#[]⟩, ⟨#[]⟩, 0, ua, uk, [], 0, by omega, rfl, rfl, ⟨by omega, by omega⟩, GD, D0⟩
  case round =>
    clear D0 GD
    obtain ⟨k, tn, x0, x1, x2, x3, va, vk, r4, x5, y0, y1, y2, y3, ua, uk, s4, y5, hk, rfl, rfl, htn, GD, D1⟩ := hrel
    go_wp2_with fail
    refine (below_any 8 (by omega) (by omega) _ D1.out.cur).mono ?_
    rintro e w3 ⟨y, hy0, hy1, rfl, hc1, ho1⟩
    have D2 := Lib.hid (D1.out.step hc1 ho1)
    clear D1 hc1 ho1
    by_cases hlt : (k : Int) < y
    rotate_left
    · have hd : decide ((k : Int) < y) = false := decide_eq_false hlt
      have c0 : w3.cell? ⟨q, 0, none⟩ = some (.int .i64 x0) := D2.out.var.cell 0
      have c1 : w3.cell? ⟨q, 1, none⟩ = some (.string x1) := D2.out.var.cell 1
      have c2 : w3.cell? ⟨q, 2, none⟩ = some (.string x2) := D2.out.var.cell 2
      have c3 : w3.cell? ⟨q, 3, none⟩ = some (.int .i64 x3) := D2.out.var.cell 3
      have c4 : w3.cell? ⟨q, 4, none⟩ = some (.slice va r4.length vk) := D2.out.var.cell 4
      have c5 : w3.cell? ⟨q, 5, none⟩ = some (.int .i64 x5) := D2.out.var.cell 5
      have c6 : w3.cell? ⟨q, 6, none⟩ = some (.int .i64 y0) := D2.out.var.cell 6
      have c7 : w3.cell? ⟨q, 7, none⟩ = some (.string y1) := D2.out.var.cell 7
      have c8 : w3.cell? ⟨q, 8, none⟩ = some (.string y2) := D2.out.var.cell 8
      have c9 : w3.cell? ⟨q, 9, none⟩ = some (.int .i64 y3) := D2.out.var.cell 9
      have c10 : w3.cell? ⟨q, 10, none⟩ = some (.slice ua s4.length uk) := D2.out.var.cell 10
      have c11 : w3.cell? ⟨q, 11, none⟩ = some (.int .i64 y5) := D2.out.var.cell 11
      have d0 : w3.cell? ⟨w.heap.size, 0, none⟩ = some (.int .i64 0) := D2.out.res.cell 0
      have d1 : w3.cell? ⟨w.heap.size, 1, none⟩ = some (.string ⟨#[]⟩) := D2.out.res.cell 1
      have d2 : w3.cell? ⟨w.heap.size, 2, none⟩ = some (.string ⟨#[]⟩) := D2.out.res.cell 2
      have d3 : w3.cell? ⟨w.heap.size, 3, none⟩ = some (.int .i64 0) := D2.out.res.cell 3
      have d4 : w3.cell? ⟨w.heap.size, 4, none⟩ = some (.slice none 0 0) := D2.out.res.cell 4
      have d5 : w3.cell? ⟨w.heap.size, 5, none⟩ = some (.int .i64 0) := D2.out.res.cell 5
      have d6 : w3.cell? ⟨w.heap.size, 6, none⟩ = some (.int .i64 0) := D2.out.res.cell 6
      have d7 : w3.cell? ⟨w.heap.size, 7, none⟩ = some (.string ⟨#[]⟩) := D2.out.res.cell 7
      have d8 : w3.cell? ⟨w.heap.size, 8, none⟩ = some (.string ⟨#[]⟩) := D2.out.res.cell 8
      have d9 : w3.cell? ⟨w.heap.size, 9, none⟩ = some (.int .i64 0) := D2.out.res.cell 9
      have d10 : w3.cell? ⟨w.heap.size, 10, none⟩ = some (.slice none 0 0) := D2.out.res.cell 10
      have d11 : w3.cell? ⟨w.heap.size, 11, none⟩ = some (.int .i64 0) := D2.out.res.cell 11
      have g0 := D2.out.res.free 0
      have g1 := D2.out.res.free 1
      have g2 := D2.out.res.free 2
      have g3 := D2.out.res.free 3
      have g4 := D2.out.res.free 4
      have g5 := D2.out.res.free 5
      have g6 := D2.out.res.free 6
      have g7 := D2.out.res.free 7
      have g8 := D2.out.res.free 8
      have g9 := D2.out.res.free 9
      have g10 := D2.out.res.free 10
      have g11 := D2.out.res.free 11
      have S1 := putBoth D2.out.res (.int .i64 x0) (.string x1) (.string x2) (.int .i64 x3) (.slice va r4.length vk) (.int .i64 x5) (.int .i64 y0) (.string y1) (.string y2) (.int .i64 y3) (.slice ua s4.length uk) (.int .i64 y5)
      have j0 := S1.cell 0
      have j1 := S1.cell 1
      have j2 := S1.cell 2
      have j3 := S1.cell 3
      have j4 := S1.cell 4
      have j5 := S1.cell 5
      have j6 := S1.cell 6
      have j7 := S1.cell 7
      have j8 := S1.cell 8
      have j9 := S1.cell 9
      have j10 := S1.cell 10
      have j11 := S1.cell 11
      have E : Hid (Q (.returned (.agg #[.int .i64 x0, .string x1, .string x2, .int .i64 x3, .slice va r4.length vk, .int .i64 x5, .int .i64 y0, .string y1, .string y2, .int .i64 y3, .slice ua s4.length uk, .int .i64 y5])) ((((((((((((w3.setCell ⟨w.heap.size, 0, none⟩ (.int .i64 x0)).setCell ⟨w.heap.size, 1, none⟩ (.string x1)).setCell ⟨w.heap.size, 2, none⟩ (.string x2)).setCell ⟨w.heap.size, 3, none⟩ (.int .i64 x3)).setCell ⟨w.heap.size, 4, none⟩ (.slice va r4.length vk)).setCell ⟨w.heap.size, 5, none⟩ (.int .i64 x5)).setCell ⟨w.heap.size, 6, none⟩ (.int .i64 y0)).setCell ⟨w.heap.size, 7, none⟩ (.string y1)).setCell ⟨w.heap.size, 8, none⟩ (.string y2)).setCell ⟨w.heap.size, 9, none⟩ (.int .i64 y3)).setCell ⟨w.heap.size, 10, none⟩ (.slice ua s4.length uk)).setCell ⟨w.heap.size, 11, none⟩ (.int .i64 y5))) := by
        rw [HQ.out]
        have hcl := D2.out.cl
        have ho : Only w.heap.size w3 ((((((((((((w3.setCell ⟨w.heap.size, 0, none⟩ (.int .i64 x0)).setCell ⟨w.heap.size, 1, none⟩ (.string x1)).setCell ⟨w.heap.size, 2, none⟩ (.string x2)).setCell ⟨w.heap.size, 3, none⟩ (.int .i64 x3)).setCell ⟨w.heap.size, 4, none⟩ (.slice va r4.length vk)).setCell ⟨w.heap.size, 5, none⟩ (.int .i64 x5)).setCell ⟨w.heap.size, 6, none⟩ (.int .i64 y0)).setCell ⟨w.heap.size, 7, none⟩ (.string y1)).setCell ⟨w.heap.size, 8, none⟩ (.string y2)).setCell ⟨w.heap.size, 9, none⟩ (.int .i64 y3)).setCell ⟨w.heap.size, 10, none⟩ (.slice ua s4.length uk)).setCell ⟨w.heap.size, 11, none⟩ (.int .i64 y5)) := (putMain_only w3 w.heap.size _ _ _ _ _ _).trans (putLame_only _ w.heap.size _ _ _ _ _ _)
        obtain ⟨f, hf⟩ := D2.out.mo
        obtain ⟨g, hg⟩ := D2.out.lo
        exact Lib.hid ⟨x0, x1, x2, x3, .slice va r4.length vk, r4, x5, y0, y1, y2, y3, .slice ua s4.length uk, s4, y5, GD.out.mono (by omega), rfl, ⟨f, own_only hf ho (row_off flatIntK hf D2.out.res (by decide))⟩, ⟨g, own_only hg ho (row_off flatIntK hg D2.out.res (by decide))⟩, D2.out.only.behind (ho.below (Nat.le_refl _) D2.out.only.size)⟩
      clear S1 D2
      go_wp2_with fail
      try simp only [Exit.inBlock, Exit.then]
      exact bodyPost_ret (v := .agg #[.int .i64 x0, .string x1, .string x2, .int .i64 x3, .slice va r4.length vk, .int .i64 x5, .int .i64 y0, .string y1, .string y2, .int .i64 y3, .slice ua s4.length uk, .int .i64 y5]) (by simp [results, Tryd.results15, go_sem, j0, j1, j2, j3, j4, j5, j6, j7, j8, j9, j10, j11]) rfl E.out
    have hd : decide ((k : Int) < y) = true := decide_eq_true hlt
    go_wp2_with fail
    refine (below_any 6 (by omega) (by omega) _ D2.out.cur).mono ?_
    rintro e w4 ⟨z, hz0, hz1, rfl, hc1, ho1⟩
    have D3 := Lib.hid (D2.out.step hc1 ho1)
    clear D2 hc1 ho1
    have hwz : IntKind.i64.wrap (tn + z) = tn + z := by rw [IntKind.wrap_i64]; omega
    have htb : 0 ≤ tn + z ∧ tn + z ≤ 5 * ((k + 1 : Nat) : Int) := by omega
    go_wp2_with fail
    refine (below_any 4 (by omega) (by omega) _ D3.out.cur).mono ?_
    rintro e w5 ⟨sw, hs0, hs1, rfl, hc1, ho1⟩
    have D4 := Lib.hid (D3.out.step hc1 ho1)
    clear D3 hc1 ho1
    have hfew1 := slot_few GD.out.p.1
    have hfew2 := slot_few GD.out.p.2.1
    have HM := Lib.hid D4.out.main
    have HL := Lib.hid D4.out.lame
    obtain rfl | rfl | rfl | rfl : sw = 0 ∨ sw = 1 ∨ sw = 2 ∨ sw = 3 := by omega
    · have K := Lib.hid (specStepBoth_any x0 x1 x2 x3 _ r4 x5 y0 y1 y2 y3 _ s4 y5 (tn + z) (by omega) (by omega) (by omega) (by omega) w5 HM.out HL.out)
      have c0 : w5.cell? ⟨q, 0, none⟩ = some (.int .i64 x0) := D4.out.var.cell 0
      have c1 : w5.cell? ⟨q, 1, none⟩ = some (.string x1) := D4.out.var.cell 1
      have c2 : w5.cell? ⟨q, 2, none⟩ = some (.string x2) := D4.out.var.cell 2
      have c3 : w5.cell? ⟨q, 3, none⟩ = some (.int .i64 x3) := D4.out.var.cell 3
      have c4 : w5.cell? ⟨q, 4, none⟩ = some (.slice va r4.length vk) := D4.out.var.cell 4
      have c5 : w5.cell? ⟨q, 5, none⟩ = some (.int .i64 x5) := D4.out.var.cell 5
      have c6 : w5.cell? ⟨q, 6, none⟩ = some (.int .i64 y0) := D4.out.var.cell 6
      have c7 : w5.cell? ⟨q, 7, none⟩ = some (.string y1) := D4.out.var.cell 7
      have c8 : w5.cell? ⟨q, 8, none⟩ = some (.string y2) := D4.out.var.cell 8
      have c9 : w5.cell? ⟨q, 9, none⟩ = some (.int .i64 y3) := D4.out.var.cell 9
      have c10 : w5.cell? ⟨q, 10, none⟩ = some (.slice ua s4.length uk) := D4.out.var.cell 10
      have c11 : w5.cell? ⟨q, 11, none⟩ = some (.int .i64 y5) := D4.out.var.cell 11
      go_wp2_with fail
      refine (K.out).mono ?_
      rintro e w6 ⟨z0, z1, z2, z3, t4, z5, n0, n1, n2, n3, o4, n5, ok, v6, u6, f, g, hcase, rfl, -, o1, o2, hb⟩
      have GN : Hid (Good12 ((k : Int) + 1 + 1) z0 z1 z2 z3 t4 z5 n0 n1 n2 n3 o4 n5) := by
        rcases hcase with ⟨rfl, hp, ⟨rfl, rfl, rfl, rfl, rfl, rfl⟩, rfl, rfl, rfl, rfl, rfl, hn⟩ | ⟨rfl, _, ⟨rfl, rfl, rfl, rfl, rfl, rfl⟩, rfl, rfl, rfl, rfl, rfl, rfl⟩
        · exact Lib.hid (good_install GD.out hp hn).2
        · exact Lib.hid (GD.out.mono (by omega))
      clear hcase K c0 c1 c2 c3 c4 c5 c6 c7 c8 c9 c10 c11 HM HL
      obtain ⟨xa, xk, rfl⟩ := rows_form (layIntS.read o1)
      obtain ⟨ya, yk, rfl⟩ := rows_form (layIntS.read o2)
      have D5 := Lib.hid (D4.out.next hb)
      have hlo : w.heap.size ≤ w5.heap.size := D4.out.only.size
      have M1 : Hid (∃ f, layIntS.own w6 w.heap.size f [.slice xa t4.length xk] t4) := Lib.hid ⟨f, layIntS.lower o1 hlo⟩
      have M2 : Hid (∃ f, layIntS.own w6 w.heap.size f [.slice ya o4.length yk] o4) := Lib.hid ⟨g, layIntS.lower o2 hlo⟩
      clear o1 o2 hb D4 hlo
      have d0 : w6.cell? ⟨q, 0, none⟩ = some (.int .i64 x0) := D5.out.var.cell 0
      have d1 : w6.cell? ⟨q, 1, none⟩ = some (.string x1) := D5.out.var.cell 1
      have d2 : w6.cell? ⟨q, 2, none⟩ = some (.string x2) := D5.out.var.cell 2
      have d3 : w6.cell? ⟨q, 3, none⟩ = some (.int .i64 x3) := D5.out.var.cell 3
      have d4 : w6.cell? ⟨q, 4, none⟩ = some (.slice va r4.length vk) := D5.out.var.cell 4
      have d5 : w6.cell? ⟨q, 5, none⟩ = some (.int .i64 x5) := D5.out.var.cell 5
      have d6 : w6.cell? ⟨q, 6, none⟩ = some (.int .i64 y0) := D5.out.var.cell 6
      have d7 : w6.cell? ⟨q, 7, none⟩ = some (.string y1) := D5.out.var.cell 7
      have d8 : w6.cell? ⟨q, 8, none⟩ = some (.string y2) := D5.out.var.cell 8
      have d9 : w6.cell? ⟨q, 9, none⟩ = some (.int .i64 y3) := D5.out.var.cell 9
      have d10 : w6.cell? ⟨q, 10, none⟩ = some (.slice ua s4.length uk) := D5.out.var.cell 10
      have d11 : w6.cell? ⟨q, 11, none⟩ = some (.int .i64 y5) := D5.out.var.cell 11
      have g0 := D5.out.var.free 0
      have g1 := D5.out.var.free 1
      have g2 := D5.out.var.free 2
      have g3 := D5.out.var.free 3
      have g4 := D5.out.var.free 4
      have g5 := D5.out.var.free 5
      have g6 := D5.out.var.free 6
      have g7 := D5.out.var.free 7
      have g8 := D5.out.var.free 8
      have g9 := D5.out.var.free 9
      have g10 := D5.out.var.free 10
      have g11 := D5.out.var.free 11
      have D6 : Hid (DS c a len cap w q z0 z1 z2 z3 (.slice xa t4.length xk) t4 z5 n0 n1 n2 n3 (.slice ya o4.length yk) o4 n5 ((((((((((((w6.setCell ⟨q, 0, none⟩ (.int .i64 z0)).setCell ⟨q, 1, none⟩ (.string z1)).setCell ⟨q, 2, none⟩ (.string z2)).setCell ⟨q, 3, none⟩ (.int .i64 z3)).setCell ⟨q, 4, none⟩ (.slice xa t4.length xk)).setCell ⟨q, 5, none⟩ (.int .i64 z5)).setCell ⟨q, 6, none⟩ (.int .i64 n0)).setCell ⟨q, 7, none⟩ (.string n1)).setCell ⟨q, 8, none⟩ (.string n2)).setCell ⟨q, 9, none⟩ (.int .i64 n3)).setCell ⟨q, 10, none⟩ (.slice ya o4.length yk)).setCell ⟨q, 11, none⟩ (.int .i64 n5))) := Lib.hid (D5.out.put M1.out M2.out)
      go_upto_region 5 with fail
      generalize ((((((((((((w6.setCell ⟨q, 0, none⟩ (.int .i64 z0)).setCell ⟨q, 1, none⟩ (.string z1)).setCell ⟨q, 2, none⟩ (.string z2)).setCell ⟨q, 3, none⟩ (.int .i64 z3)).setCell ⟨q, 4, none⟩ (.slice xa t4.length xk)).setCell ⟨q, 5, none⟩ (.int .i64 z5)).setCell ⟨q, 6, none⟩ (.int .i64 n0)).setCell ⟨q, 7, none⟩ (.string n1)).setCell ⟨q, 8, none⟩ (.string n2)).setCell ⟨q, 9, none⟩ (.int .i64 n3)).setCell ⟨q, 10, none⟩ (.slice ya o4.length yk)).setCell ⟨q, 11, none⟩ (.int .i64 n5)) = w7 at *
      clear D5 d0 g0 d1 g1 d2 g2 d3 g3 d4 g4 d5 g5 d6 g6 d7 g7 d8 g8 d9 g9 d10 g10 d11 g11
      go_wp2_with fail
      go_roundw
      case rel => exact ⟨k + 1, tn + z, z0, z1, z2, z3, xa, xk, t4, z5, n0, n1, n2, n3, ya, yk, o4, n5, by omega, by go_num, rfl, htb, by have := GN; simpa using this, D6⟩
      case measure => simp [intOf]; omega
    · have DD : Hid (DS c a len cap w q x0 x1 x2 x3 (.slice va r4.length vk) r4 x5 y0 y1 y2 y3 (.slice ua s4.length uk) s4 y5 w5.drew) := Lib.hid D4.out.drew
      have E0 : Hid (∃ (v : Value) (r : List Int), DS c a len cap w q x0 x1 x2 x3 v r x5 y0 y1 y2 y3 (.slice ua s4.length uk) s4 y5 w5.drew) := Lib.hid ⟨_, _, DD.out⟩
      go_upto_region 12 with fail
      clear D4 HM HL
      refine wp_region_held_drew (S := fun X => Hid (∃ (v : Value) (r : List Int), DS c a len cap w q x0 x1 x2 x3 v r x5 y0 y1 y2 y3 (.slice ua s4.length uk) s4 y5 X)) (by kernel_rfl) E0 (fun hHeld => ?_)
      clear E0
      generalize w5.drew = X0 at *
      refine wpAnyH_take (i := 0) (v := ?_) rfl (by kernel_rfl) (by kernel_rfl) (by kernel_rfl) (fun _ _ _ h => h) (Or.inl ⟨by kernel_rfl, ?_⟩) hHeld ?_
      rotate_left
      · intro X hX
        first | (go_simp; done) | (go_simp; with_reducible rfl)
      try simp only [Act.put, List.getElem_toArray, List.getElem_cons_zero, List.setIfInBounds_toArray, List.set_cons_zero, List.set_cons_succ]
      refine wpAnyH_take (i := 1) (v := ?_) rfl (by kernel_rfl) (by kernel_rfl) (by kernel_rfl) (fun _ _ _ h => h) (Or.inl ⟨by kernel_rfl, ?_⟩) hHeld ?_
      rotate_left
      · intro X hX
        first | (go_simp; done) | (go_simp; with_reducible rfl)
      try simp only [Act.put, List.getElem_toArray, List.getElem_cons_succ, List.getElem_cons_zero, List.setIfInBounds_toArray, List.set_cons_zero, List.set_cons_succ]
      refine wpAnyH_take (i := 3) (v := ?_) rfl (by kernel_rfl) (by kernel_rfl) (by kernel_rfl) (fun _ _ _ h => h) (Or.inl ⟨by kernel_rfl, ?_⟩) hHeld ?_
      rotate_left
      · intro X hX
        first | (go_simp; done) | (go_simp; with_reducible rfl)
      try simp only [Act.put, List.getElem_toArray, List.getElem_cons_succ, List.getElem_cons_zero, List.setIfInBounds_toArray, List.set_cons_zero, List.set_cons_succ]
      refine wpAnyH_ready (rs := [2, 4]) (by kernel_rfl) (by simp) ?_
      refine AllReadyH.cons rfl (fun K hK => ?_) (AllReadyH.cons rfl (fun K hK => ?_) AllReadyH.nil)
      · have y4_ : X0.cell? ⟨q, 4, none⟩ = some (.slice va r4.length vk) := DD.out.var.cell 4
        go_simp
        refine hK.out _ _ hHeld (fun hHeld => ?_)
        clear hK K y4_
        try simp only [Act.put, List.getElem_toArray, List.getElem_cons_succ, List.getElem_cons_zero, List.setIfInBounds_toArray, List.set_cons_zero, List.set_cons_succ]
        refine wpAnyH_ready (rs := [4]) (by kernel_rfl) (by simp) ?_
        refine AllReadyH.cons rfl (fun K hK => ?_) AllReadyH.nil
        go_simp
        go_wp2_with (go_at_call 18; refine (below_any 9 (by omega) (by omega) X0 DD.out.cur).mono ?_; rintro e X2 ⟨nn, hn0, hn1, rfl, hc1, ho1⟩; replace DD : Hid (DS c a len cap w q x0 x1 x2 x3 (.slice va r4.length vk) r4 x5 y0 y1 y2 y3 (.slice ua s4.length uk) s4 y5 X2) := Lib.hid (DD.out.step hc1 ho1); have hS : Hid (∃ (v : Value) (r : List Int), DS c a len cap w q x0 x1 x2 x3 v r x5 y0 y1 y2 y3 (.slice ua s4.length uk) s4 y5 X2) := Lib.hid ⟨_, _, DD.out⟩; have hwn : IntKind.i64.wrap (1 + nn) = 1 + nn := (by rw [IntKind.wrap_i64]; omega); clear hc1 ho1)
        refine hK.out _ _ hS (fun hHeld => ?_)
        clear hK K hS
        try simp only [Act.put, List.getElem_toArray, List.getElem_cons_succ, List.getElem_cons_zero, List.setIfInBounds_toArray, List.set_cons_zero, List.set_cons_succ]
        refine wpAnyH_take (i := 5) (v := ?_) rfl (by kernel_rfl) (by kernel_rfl) (by kernel_rfl) (fun _ _ _ h => h) (Or.inl ⟨by kernel_rfl, ?_⟩) hHeld ?_
        rotate_left
        · intro X hX
          first | (go_simp; done) | (go_simp; with_reducible rfl)
        try simp only [Act.put, List.getElem_toArray, List.getElem_cons_succ, List.getElem_cons_zero, List.setIfInBounds_toArray, List.set_cons_zero, List.set_cons_succ]
        refine wpAnyH_ready (rs := [6]) (by kernel_rfl) (by simp) ?_
        refine AllReadyH.cons rfl (fun K hK => ?_) AllReadyH.nil
        obtain ⟨t4, HT⟩ := note_is r4 (1 + nn)
        go_simp
        go_wp2_with (go_at_call 32; refine (specNoteSeen_any r4 (1 + nn) _ t4 HT (by omega) X2 DD.out.main).mono ?_; rintro e X3 ⟨v6, fp, rfl, -, o1, hb0⟩; have hlo : w.heap.size ≤ X2.heap.size := DD.out.only.size; replace DD : Hid (DS c a len cap w q x0 x1 x2 x3 (.slice va r4.length vk) r4 x5 y0 y1 y2 y3 (.slice ua s4.length uk) s4 y5 X3) := Lib.hid (DD.out.next hb0); have hS : Hid (∃ (v : Value) (r : List Int), DS c a len cap w q x0 x1 x2 x3 v r x5 y0 y1 y2 y3 (.slice ua s4.length uk) s4 y5 X3) := Lib.hid ⟨_, _, DD.out⟩; obtain ⟨xa, xk, rfl⟩ := rows_form (layIntS.read o1); have M1 : Hid (∃ f, layIntS.own X3 w.heap.size f [.slice xa t4.length xk] t4) := Lib.hid ⟨_, layIntS.lower o1 hlo⟩; clear hb0 o1 hlo)
        refine hK.out _ _ hS (fun hHeld => ?_)
        clear hK K hS
        try simp only [Act.put, List.getElem_toArray, List.getElem_cons_succ, List.getElem_cons_zero, List.setIfInBounds_toArray, List.set_cons_zero, List.set_cons_succ]
        refine wpAnyH_take (i := 7) (v := ?_) rfl (by kernel_rfl) (by kernel_rfl) (by kernel_rfl) (fun _ _ _ h => h) (Or.inl ⟨by kernel_rfl, ?_⟩) hHeld ?_
        rotate_left
        · intro X hX
          first | (go_simp; done) | (go_simp; with_reducible rfl)
        try simp only [Act.put, List.getElem_toArray, List.getElem_cons_succ, List.getElem_cons_zero, List.setIfInBounds_toArray, List.set_cons_zero, List.set_cons_succ]
        refine wpAnyH_take (i := 8) (v := ?_) rfl (by kernel_rfl) (by kernel_rfl) (by kernel_rfl) (fun _ _ _ h => h) (Or.inl ⟨by kernel_rfl, ?_⟩) hHeld ?_
        rotate_left
        · intro X hX
          first | (go_simp; done) | (go_simp; with_reducible rfl)
        try simp only [Act.put, List.getElem_toArray, List.getElem_cons_succ, List.getElem_cons_zero, List.setIfInBounds_toArray, List.set_cons_zero, List.set_cons_succ]
        refine wpAnyH_ready (rs := [9]) (by kernel_rfl) (by simp) ?_
        refine AllReadyH.cons rfl (fun K hK => ?_) AllReadyH.nil
        have d4 := DD.out.var.cell 4
        have g4 := DD.out.var.free 4
        go_simp
        have DE := Lib.hid (DD.out.seen M1.out)
        refine hK.out _ _ (Lib.hid ⟨_, _, DE.out⟩) (fun hHeld => ?_)
        have GN := Lib.hid ((good_note GD.out HT).mono (show (k : Int) + 1 ≤ (k : Int) + 1 + 1 by omega))
        have D6 := DE
        clear hK K d4 g4 DE DD M1
        generalize (X3.setCell ⟨q, 4, none⟩ (.slice xa t4.length xk)) = X4 at *
        try simp only [Act.put, List.getElem_toArray, List.getElem_cons_succ, List.getElem_cons_zero, List.setIfInBounds_toArray, List.set_cons_zero, List.set_cons_succ]
        refine wpAnyH_done (by kernel_rfl) ?_ _
        clear hHeld
        go_wp2_with fail
        go_roundw
        case rel => exact ⟨k + 1, tn + z, x0, x1, x2, x3, xa, xk, t4, x5, y0, y1, y2, y3, ua, uk, s4, y5, by omega, by go_num, rfl, htb, by have := GN; simpa using this, D6⟩
        case measure => simp [intOf]; omega
      · go_simp
        go_wp2_with (go_at_call 18; refine (below_any 9 (by omega) (by omega) X0 DD.out.cur).mono ?_; rintro e X1 ⟨nn, hn0, hn1, rfl, hc1, ho1⟩; replace DD : Hid (DS c a len cap w q x0 x1 x2 x3 (.slice va r4.length vk) r4 x5 y0 y1 y2 y3 (.slice ua s4.length uk) s4 y5 X1) := Lib.hid (DD.out.step hc1 ho1); have hS : Hid (∃ (v : Value) (r : List Int), DS c a len cap w q x0 x1 x2 x3 v r x5 y0 y1 y2 y3 (.slice ua s4.length uk) s4 y5 X1) := Lib.hid ⟨_, _, DD.out⟩; have hwn : IntKind.i64.wrap (1 + nn) = 1 + nn := (by rw [IntKind.wrap_i64]; omega); clear hc1 ho1)
        refine hK.out _ _ hS (fun hHeld => ?_)
        clear hK K hS
        try simp only [Act.put, List.getElem_toArray, List.getElem_cons_succ, List.getElem_cons_zero, List.setIfInBounds_toArray, List.set_cons_zero, List.set_cons_succ]
        refine wpAnyH_take (i := 5) (v := ?_) rfl (by kernel_rfl) (by kernel_rfl) (by kernel_rfl) (fun _ _ _ h => h) (Or.inl ⟨by kernel_rfl, ?_⟩) hHeld ?_
        rotate_left
        · intro X hX
          first | (go_simp; done) | (go_simp; with_reducible rfl)
        try simp only [Act.put, List.getElem_toArray, List.getElem_cons_succ, List.getElem_cons_zero, List.setIfInBounds_toArray, List.set_cons_zero, List.set_cons_succ]
        refine wpAnyH_ready (rs := [2]) (by kernel_rfl) (by simp) ?_
        refine AllReadyH.cons rfl (fun K hK => ?_) AllReadyH.nil
        have y4_ : X1.cell? ⟨q, 4, none⟩ = some (.slice va r4.length vk) := DD.out.var.cell 4
        go_simp
        refine hK.out _ _ hHeld (fun hHeld => ?_)
        clear hK K y4_
        try simp only [Act.put, List.getElem_toArray, List.getElem_cons_succ, List.getElem_cons_zero, List.setIfInBounds_toArray, List.set_cons_zero, List.set_cons_succ]
        refine wpAnyH_ready (rs := [6]) (by kernel_rfl) (by simp) ?_
        refine AllReadyH.cons rfl (fun K hK => ?_) AllReadyH.nil
        obtain ⟨t4, HT⟩ := note_is r4 (1 + nn)
        go_simp
        go_wp2_with (go_at_call 32; refine (specNoteSeen_any r4 (1 + nn) _ t4 HT (by omega) X1 DD.out.main).mono ?_; rintro e X3 ⟨v6, fp, rfl, -, o1, hb0⟩; have hlo : w.heap.size ≤ X1.heap.size := DD.out.only.size; replace DD : Hid (DS c a len cap w q x0 x1 x2 x3 (.slice va r4.length vk) r4 x5 y0 y1 y2 y3 (.slice ua s4.length uk) s4 y5 X3) := Lib.hid (DD.out.next hb0); have hS : Hid (∃ (v : Value) (r : List Int), DS c a len cap w q x0 x1 x2 x3 v r x5 y0 y1 y2 y3 (.slice ua s4.length uk) s4 y5 X3) := Lib.hid ⟨_, _, DD.out⟩; obtain ⟨xa, xk, rfl⟩ := rows_form (layIntS.read o1); have M1 : Hid (∃ f, layIntS.own X3 w.heap.size f [.slice xa t4.length xk] t4) := Lib.hid ⟨_, layIntS.lower o1 hlo⟩; clear hb0 o1 hlo)
        refine hK.out _ _ hS (fun hHeld => ?_)
        clear hK K hS
        try simp only [Act.put, List.getElem_toArray, List.getElem_cons_succ, List.getElem_cons_zero, List.setIfInBounds_toArray, List.set_cons_zero, List.set_cons_succ]
        refine wpAnyH_take (i := 7) (v := ?_) rfl (by kernel_rfl) (by kernel_rfl) (by kernel_rfl) (fun _ _ _ h => h) (Or.inl ⟨by kernel_rfl, ?_⟩) hHeld ?_
        rotate_left
        · intro X hX
          first | (go_simp; done) | (go_simp; with_reducible rfl)
        try simp only [Act.put, List.getElem_toArray, List.getElem_cons_succ, List.getElem_cons_zero, List.setIfInBounds_toArray, List.set_cons_zero, List.set_cons_succ]
        refine wpAnyH_take (i := 8) (v := ?_) rfl (by kernel_rfl) (by kernel_rfl) (by kernel_rfl) (fun _ _ _ h => h) (Or.inl ⟨by kernel_rfl, ?_⟩) hHeld ?_
        rotate_left
        · intro X hX
          first | (go_simp; done) | (go_simp; with_reducible rfl)
        try simp only [Act.put, List.getElem_toArray, List.getElem_cons_succ, List.getElem_cons_zero, List.setIfInBounds_toArray, List.set_cons_zero, List.set_cons_succ]
        refine wpAnyH_ready (rs := [9]) (by kernel_rfl) (by simp) ?_
        refine AllReadyH.cons rfl (fun K hK => ?_) AllReadyH.nil
        have d4 := DD.out.var.cell 4
        have g4 := DD.out.var.free 4
        go_simp
        have DE := Lib.hid (DD.out.seen M1.out)
        refine hK.out _ _ (Lib.hid ⟨_, _, DE.out⟩) (fun hHeld => ?_)
        have GN := Lib.hid ((good_note GD.out HT).mono (show (k : Int) + 1 ≤ (k : Int) + 1 + 1 by omega))
        have D6 := DE
        clear hK K d4 g4 DE DD M1
        generalize (X3.setCell ⟨q, 4, none⟩ (.slice xa t4.length xk)) = X4 at *
        try simp only [Act.put, List.getElem_toArray, List.getElem_cons_succ, List.getElem_cons_zero, List.setIfInBounds_toArray, List.set_cons_zero, List.set_cons_succ]
        refine wpAnyH_done (by kernel_rfl) ?_ _
        clear hHeld
        go_wp2_with fail
        go_roundw
        case rel => exact ⟨k + 1, tn + z, x0, x1, x2, x3, xa, xk, t4, x5, y0, y1, y2, y3, ua, uk, s4, y5, by omega, by go_num, rfl, htb, by have := GN; simpa using this, D6⟩
        case measure => simp [intOf]; omega
    · have K := Lib.hid (specTidySlots_any x0 x1 x2 x3 _ r4 x5 y0 y1 y2 y3 _ s4 y5 (tn + z) (by omega) (by omega) w5 HM.out HL.out)
      have c0 : w5.cell? ⟨q, 0, none⟩ = some (.int .i64 x0) := D4.out.var.cell 0
      have c1 : w5.cell? ⟨q, 1, none⟩ = some (.string x1) := D4.out.var.cell 1
      have c2 : w5.cell? ⟨q, 2, none⟩ = some (.string x2) := D4.out.var.cell 2
      have c3 : w5.cell? ⟨q, 3, none⟩ = some (.int .i64 x3) := D4.out.var.cell 3
      have c4 : w5.cell? ⟨q, 4, none⟩ = some (.slice va r4.length vk) := D4.out.var.cell 4
      have c5 : w5.cell? ⟨q, 5, none⟩ = some (.int .i64 x5) := D4.out.var.cell 5
      have c6 : w5.cell? ⟨q, 6, none⟩ = some (.int .i64 y0) := D4.out.var.cell 6
      have c7 : w5.cell? ⟨q, 7, none⟩ = some (.string y1) := D4.out.var.cell 7
      have c8 : w5.cell? ⟨q, 8, none⟩ = some (.string y2) := D4.out.var.cell 8
      have c9 : w5.cell? ⟨q, 9, none⟩ = some (.int .i64 y3) := D4.out.var.cell 9
      have c10 : w5.cell? ⟨q, 10, none⟩ = some (.slice ua s4.length uk) := D4.out.var.cell 10
      have c11 : w5.cell? ⟨q, 11, none⟩ = some (.int .i64 y5) := D4.out.var.cell 11
      go_wp2_with fail
      refine (K.out).mono ?_
      intro e w6 he
      obtain ⟨n0, n1, n2, n3, o4, n5, hg, v6, u6, f, g, rfl, -, o1, o2, hb⟩ : ∃ (n0 : Int) (n1 n2 : ByteArray) (n3 : Int) (o4 : List Int) (n5 : Int), Good12 ((k : Int) + 1) x0 x1 x2 x3 r4 x5 n0 n1 n2 n3 o4 n5 ∧ SlotsMade x0 x1 x2 x3 r4 x5 n0 n1 n2 n3 o4 n5 w5 e w6 := by
        rcases he with ⟨-, he⟩ | ⟨-, he⟩
        · exact ⟨_, _, _, _, _, _, good_tidy GD.out, he⟩
        · exact ⟨_, _, _, _, _, _, GD.out, he⟩
      have GN := Lib.hid (hg.mono (show (k : Int) + 1 ≤ (k : Int) + 1 + 1 by omega))
      clear hg he K c0 c1 c2 c3 c4 c5 c6 c7 c8 c9 c10 c11 HM HL
      obtain ⟨xa, xk, rfl⟩ := rows_form (layIntS.read o1)
      obtain ⟨ya, yk, rfl⟩ := rows_form (layIntS.read o2)
      have D5 := Lib.hid (D4.out.next hb)
      have hlo : w.heap.size ≤ w5.heap.size := D4.out.only.size
      have M1 : Hid (∃ f, layIntS.own w6 w.heap.size f [.slice xa r4.length xk] r4) := Lib.hid ⟨f, layIntS.lower o1 hlo⟩
      have M2 : Hid (∃ f, layIntS.own w6 w.heap.size f [.slice ya o4.length yk] o4) := Lib.hid ⟨g, layIntS.lower o2 hlo⟩
      clear o1 o2 hb D4 hlo
      have d0 : w6.cell? ⟨q, 0, none⟩ = some (.int .i64 x0) := D5.out.var.cell 0
      have d1 : w6.cell? ⟨q, 1, none⟩ = some (.string x1) := D5.out.var.cell 1
      have d2 : w6.cell? ⟨q, 2, none⟩ = some (.string x2) := D5.out.var.cell 2
      have d3 : w6.cell? ⟨q, 3, none⟩ = some (.int .i64 x3) := D5.out.var.cell 3
      have d4 : w6.cell? ⟨q, 4, none⟩ = some (.slice va r4.length vk) := D5.out.var.cell 4
      have d5 : w6.cell? ⟨q, 5, none⟩ = some (.int .i64 x5) := D5.out.var.cell 5
      have d6 : w6.cell? ⟨q, 6, none⟩ = some (.int .i64 y0) := D5.out.var.cell 6
      have d7 : w6.cell? ⟨q, 7, none⟩ = some (.string y1) := D5.out.var.cell 7
      have d8 : w6.cell? ⟨q, 8, none⟩ = some (.string y2) := D5.out.var.cell 8
      have d9 : w6.cell? ⟨q, 9, none⟩ = some (.int .i64 y3) := D5.out.var.cell 9
      have d10 : w6.cell? ⟨q, 10, none⟩ = some (.slice ua s4.length uk) := D5.out.var.cell 10
      have d11 : w6.cell? ⟨q, 11, none⟩ = some (.int .i64 y5) := D5.out.var.cell 11
      have g0 := D5.out.var.free 0
      have g1 := D5.out.var.free 1
      have g2 := D5.out.var.free 2
      have g3 := D5.out.var.free 3
      have g4 := D5.out.var.free 4
      have g5 := D5.out.var.free 5
      have g6 := D5.out.var.free 6
      have g7 := D5.out.var.free 7
      have g8 := D5.out.var.free 8
      have g9 := D5.out.var.free 9
      have g10 := D5.out.var.free 10
      have g11 := D5.out.var.free 11
      have D6 : Hid (DS c a len cap w q x0 x1 x2 x3 (.slice xa r4.length xk) r4 x5 n0 n1 n2 n3 (.slice ya o4.length yk) o4 n5 ((((((((((((w6.setCell ⟨q, 0, none⟩ (.int .i64 x0)).setCell ⟨q, 1, none⟩ (.string x1)).setCell ⟨q, 2, none⟩ (.string x2)).setCell ⟨q, 3, none⟩ (.int .i64 x3)).setCell ⟨q, 4, none⟩ (.slice xa r4.length xk)).setCell ⟨q, 5, none⟩ (.int .i64 x5)).setCell ⟨q, 6, none⟩ (.int .i64 n0)).setCell ⟨q, 7, none⟩ (.string n1)).setCell ⟨q, 8, none⟩ (.string n2)).setCell ⟨q, 9, none⟩ (.int .i64 n3)).setCell ⟨q, 10, none⟩ (.slice ya o4.length yk)).setCell ⟨q, 11, none⟩ (.int .i64 n5))) := Lib.hid (D5.out.put M1.out M2.out)
      go_upto_region 5 with fail
      generalize ((((((((((((w6.setCell ⟨q, 0, none⟩ (.int .i64 x0)).setCell ⟨q, 1, none⟩ (.string x1)).setCell ⟨q, 2, none⟩ (.string x2)).setCell ⟨q, 3, none⟩ (.int .i64 x3)).setCell ⟨q, 4, none⟩ (.slice xa r4.length xk)).setCell ⟨q, 5, none⟩ (.int .i64 x5)).setCell ⟨q, 6, none⟩ (.int .i64 n0)).setCell ⟨q, 7, none⟩ (.string n1)).setCell ⟨q, 8, none⟩ (.string n2)).setCell ⟨q, 9, none⟩ (.int .i64 n3)).setCell ⟨q, 10, none⟩ (.slice ya o4.length yk)).setCell ⟨q, 11, none⟩ (.int .i64 n5)) = w7 at *
      clear D5 d0 g0 d1 g1 d2 g2 d3 g3 d4 g4 d5 g5 d6 g6 d7 g7 d8 g8 d9 g9 d10 g10 d11 g11
      go_wp2_with fail
      go_roundw
      case rel => exact ⟨k + 1, tn + z, x0, x1, x2, x3, xa, xk, r4, x5, n0, n1, n2, n3, ya, yk, o4, n5, by omega, by go_num, rfl, htb, by have := GN; simpa using this, D6⟩
      case measure => simp [intOf]; omega
    · have zb : (⟨#[120]⟩ : ByteArray).size ≤ 1048576 := by decide
      have K := Lib.hid (specSealData_any x0 x1 x2 x3 _ r4 x5 y0 y1 y2 y3 _ s4 y5 1 2 ⟨#[120]⟩ (by omega) zb (by omega) (by omega) w5 HM.out HL.out)
      have c0 : w5.cell? ⟨q, 0, none⟩ = some (.int .i64 x0) := D4.out.var.cell 0
      have c1 : w5.cell? ⟨q, 1, none⟩ = some (.string x1) := D4.out.var.cell 1
      have c2 : w5.cell? ⟨q, 2, none⟩ = some (.string x2) := D4.out.var.cell 2
      have c3 : w5.cell? ⟨q, 3, none⟩ = some (.int .i64 x3) := D4.out.var.cell 3
      have c4 : w5.cell? ⟨q, 4, none⟩ = some (.slice va r4.length vk) := D4.out.var.cell 4
      have c5 : w5.cell? ⟨q, 5, none⟩ = some (.int .i64 x5) := D4.out.var.cell 5
      have c6 : w5.cell? ⟨q, 6, none⟩ = some (.int .i64 y0) := D4.out.var.cell 6
      have c7 : w5.cell? ⟨q, 7, none⟩ = some (.string y1) := D4.out.var.cell 7
      have c8 : w5.cell? ⟨q, 8, none⟩ = some (.string y2) := D4.out.var.cell 8
      have c9 : w5.cell? ⟨q, 9, none⟩ = some (.int .i64 y3) := D4.out.var.cell 9
      have c10 : w5.cell? ⟨q, 10, none⟩ = some (.slice ua s4.length uk) := D4.out.var.cell 10
      have c11 : w5.cell? ⟨q, 11, none⟩ = some (.int .i64 y5) := D4.out.var.cell 11
      go_wp2_with fail
      refine (K.out).mono ?_
      rintro e w6 ⟨z3, k0, k1, k2, k3, k4, k6, ok, v6, u6, f, g, hcase, rfl, -, o1, o2, hb⟩
      have GN : Hid (Good12 ((k : Int) + 1 + 1) x0 x1 x2 z3 r4 x5 y0 y1 y2 y3 s4 y5) := by
        rcases hcase with ⟨-, hp, rfl, -⟩ | ⟨-, -, rfl, -⟩
        · exact Lib.hid ((good_seal GD.out hp.2.1).mono (by omega))
        · exact Lib.hid (GD.out.mono (by omega))
      clear hcase K c0 c1 c2 c3 c4 c5 c6 c7 c8 c9 c10 c11 HM HL
      obtain ⟨xa, xk, rfl⟩ := rows_form (layIntS.read o1)
      obtain ⟨ya, yk, rfl⟩ := rows_form (layIntS.read o2)
      have D5 := Lib.hid (D4.out.next hb)
      have hlo : w.heap.size ≤ w5.heap.size := D4.out.only.size
      have M1 : Hid (∃ f, layIntS.own w6 w.heap.size f [.slice xa r4.length xk] r4) := Lib.hid ⟨f, layIntS.lower o1 hlo⟩
      have M2 : Hid (∃ f, layIntS.own w6 w.heap.size f [.slice ya s4.length yk] s4) := Lib.hid ⟨g, layIntS.lower o2 hlo⟩
      clear o1 o2 hb D4 hlo
      have d0 : w6.cell? ⟨q, 0, none⟩ = some (.int .i64 x0) := D5.out.var.cell 0
      have d1 : w6.cell? ⟨q, 1, none⟩ = some (.string x1) := D5.out.var.cell 1
      have d2 : w6.cell? ⟨q, 2, none⟩ = some (.string x2) := D5.out.var.cell 2
      have d3 : w6.cell? ⟨q, 3, none⟩ = some (.int .i64 x3) := D5.out.var.cell 3
      have d4 : w6.cell? ⟨q, 4, none⟩ = some (.slice va r4.length vk) := D5.out.var.cell 4
      have d5 : w6.cell? ⟨q, 5, none⟩ = some (.int .i64 x5) := D5.out.var.cell 5
      have d6 : w6.cell? ⟨q, 6, none⟩ = some (.int .i64 y0) := D5.out.var.cell 6
      have d7 : w6.cell? ⟨q, 7, none⟩ = some (.string y1) := D5.out.var.cell 7
      have d8 : w6.cell? ⟨q, 8, none⟩ = some (.string y2) := D5.out.var.cell 8
      have d9 : w6.cell? ⟨q, 9, none⟩ = some (.int .i64 y3) := D5.out.var.cell 9
      have d10 : w6.cell? ⟨q, 10, none⟩ = some (.slice ua s4.length uk) := D5.out.var.cell 10
      have d11 : w6.cell? ⟨q, 11, none⟩ = some (.int .i64 y5) := D5.out.var.cell 11
      have g0 := D5.out.var.free 0
      have g1 := D5.out.var.free 1
      have g2 := D5.out.var.free 2
      have g3 := D5.out.var.free 3
      have g4 := D5.out.var.free 4
      have g5 := D5.out.var.free 5
      have g6 := D5.out.var.free 6
      have g7 := D5.out.var.free 7
      have g8 := D5.out.var.free 8
      have g9 := D5.out.var.free 9
      have g10 := D5.out.var.free 10
      have g11 := D5.out.var.free 11
      have D6 : Hid (DS c a len cap w q x0 x1 x2 z3 (.slice xa r4.length xk) r4 x5 y0 y1 y2 y3 (.slice ya s4.length yk) s4 y5 ((((((((((((w6.setCell ⟨q, 0, none⟩ (.int .i64 x0)).setCell ⟨q, 1, none⟩ (.string x1)).setCell ⟨q, 2, none⟩ (.string x2)).setCell ⟨q, 3, none⟩ (.int .i64 z3)).setCell ⟨q, 4, none⟩ (.slice xa r4.length xk)).setCell ⟨q, 5, none⟩ (.int .i64 x5)).setCell ⟨q, 6, none⟩ (.int .i64 y0)).setCell ⟨q, 7, none⟩ (.string y1)).setCell ⟨q, 8, none⟩ (.string y2)).setCell ⟨q, 9, none⟩ (.int .i64 y3)).setCell ⟨q, 10, none⟩ (.slice ya s4.length yk)).setCell ⟨q, 11, none⟩ (.int .i64 y5))) := Lib.hid (D5.out.put M1.out M2.out)
      go_upto_region 5 with fail
      generalize ((((((((((((w6.setCell ⟨q, 0, none⟩ (.int .i64 x0)).setCell ⟨q, 1, none⟩ (.string x1)).setCell ⟨q, 2, none⟩ (.string x2)).setCell ⟨q, 3, none⟩ (.int .i64 z3)).setCell ⟨q, 4, none⟩ (.slice xa r4.length xk)).setCell ⟨q, 5, none⟩ (.int .i64 x5)).setCell ⟨q, 6, none⟩ (.int .i64 y0)).setCell ⟨q, 7, none⟩ (.string y1)).setCell ⟨q, 8, none⟩ (.string y2)).setCell ⟨q, 9, none⟩ (.int .i64 y3)).setCell ⟨q, 10, none⟩ (.slice ya s4.length yk)).setCell ⟨q, 11, none⟩ (.int .i64 y5)) = w7 at *
      clear D5 d0 g0 d1 g1 d2 g2 d3 g3 d4 g4 d5 g5 d6 g6 d7 g7 d8 g8 d9 g9 d10 g10 d11 g11
      go_wp2_with fail
      go_roundw
      case rel => exact ⟨k + 1, tn + z, x0, x1, x2, z3, xa, xk, r4, x5, y0, y1, y2, y3, ya, yk, s4, y5, by omega, by go_num, rfl, htb, by have := GN; simpa using this, D6⟩
      case measure => simp [intOf]; omega
set_option maxRecDepth 100000 in
set_option maxHeartbeats 1600000 in
theorem drawSlots_any (a : Option Addr) (len cap : Nat) (w : World) (H : Src a len w) :
    Calls Tryd.prog 5 #[.slice a len cap] w (DrewSl w) := by
  have HB0 := Lib.hid ((Below.refl w.heap.size w).alloc (Nat.le_refl _) (.cells #[.int .i64 0, .string ⟨#[]⟩, .string ⟨#[]⟩, .int .i64 0, .slice none 0 0, .int .i64 0, .int .i64 0, .string ⟨#[]⟩, .string ⟨#[]⟩, .int .i64 0, .slice none 0 0, .int .i64 0] SlotsT))
  have HS := Lib.hid (H.below HB0.out)
  clear H
  obtain ⟨Q, HQ⟩ : ∃ Q : Ending → World → Prop, Hid (Q = DrewSl w) := ⟨_, Lib.hid rfl⟩
  rw [← HQ.out]
  have R0 := Lib.hid (VarA.new w SlotsT #[.int .i64 0, .string ⟨#[]⟩, .string ⟨#[]⟩, .int .i64 0, .slice none 0 0, .int .i64 0, .int .i64 0, .string ⟨#[]⟩, .string ⟨#[]⟩, .int .i64 0, .slice none 0 0, .int .i64 0])
  go_enter Tryd.func5, Tryd.ntmps5
  go_upto_region 1 with fail
  generalize (w.alloc (.cells #[.int .i64 0, .string ⟨#[]⟩, .string ⟨#[]⟩, .int .i64 0, .slice none 0 0, .int .i64 0, .int .i64 0, .string ⟨#[]⟩, .string ⟨#[]⟩, .int .i64 0, .slice none 0 0, .int .i64 0] SlotsT)) = Y at *
  go_wp2_with fail
  refine (new_any a len cap Y HS.out).mono ?_
  rintro e w1 ⟨c, rfl, hc, hcur, hb⟩
  have hrl := R0.out.lt
  replace R0 := Lib.hid (R0.out.next hb)
  replace HB0 := Lib.hid (HB0.out.trans (hb.mono HB0.out.size))
  have hy1 := hb.size
  clear hb HS
  go_wp2_with fail
  refine (l17Slots_any w1 hcur).mono ?_
  rintro e w2 ⟨x0, x1, x2, x3, v4, r4, x5, y0, y1, y2, y3, u4, s4, y5, hg, rfl, ⟨f, hm⟩, ⟨g, hl⟩, ho⟩
  obtain ⟨va, vk, rfl⟩ := rows_form (layIntS.read hm)
  obtain ⟨ua, uk, rfl⟩ := rows_form (layIntS.read hl)
  have GD := Lib.hid hg
  have M1 := Lib.hid hm
  have M2 := Lib.hid hl
  replace R0 := Lib.hid (R0.out.only ho (by omega))
  replace HB0 := Lib.hid (HB0.out.trans (ho.below (show w.heap.size ≤ c by omega) HB0.out.size))
  clear hg hm hl ho hcur
  have d0 : w2.cell? ⟨w.heap.size, 0, none⟩ = some (.int .i64 0) := R0.out.cell 0
  have d1 : w2.cell? ⟨w.heap.size, 1, none⟩ = some (.string ⟨#[]⟩) := R0.out.cell 1
  have d2 : w2.cell? ⟨w.heap.size, 2, none⟩ = some (.string ⟨#[]⟩) := R0.out.cell 2
  have d3 : w2.cell? ⟨w.heap.size, 3, none⟩ = some (.int .i64 0) := R0.out.cell 3
  have d4 : w2.cell? ⟨w.heap.size, 4, none⟩ = some (.slice none 0 0) := R0.out.cell 4
  have d5 : w2.cell? ⟨w.heap.size, 5, none⟩ = some (.int .i64 0) := R0.out.cell 5
  have d6 : w2.cell? ⟨w.heap.size, 6, none⟩ = some (.int .i64 0) := R0.out.cell 6
  have d7 : w2.cell? ⟨w.heap.size, 7, none⟩ = some (.string ⟨#[]⟩) := R0.out.cell 7
  have d8 : w2.cell? ⟨w.heap.size, 8, none⟩ = some (.string ⟨#[]⟩) := R0.out.cell 8
  have d9 : w2.cell? ⟨w.heap.size, 9, none⟩ = some (.int .i64 0) := R0.out.cell 9
  have d10 : w2.cell? ⟨w.heap.size, 10, none⟩ = some (.slice none 0 0) := R0.out.cell 10
  have d11 : w2.cell? ⟨w.heap.size, 11, none⟩ = some (.int .i64 0) := R0.out.cell 11
  have g0 := R0.out.free 0
  have g1 := R0.out.free 1
  have g2 := R0.out.free 2
  have g3 := R0.out.free 3
  have g4 := R0.out.free 4
  have g5 := R0.out.free 5
  have g6 := R0.out.free 6
  have g7 := R0.out.free 7
  have g8 := R0.out.free 8
  have g9 := R0.out.free 9
  have g10 := R0.out.free 10
  have g11 := R0.out.free 11
  have S1 := putBoth R0.out (.int .i64 x0) (.string x1) (.string x2) (.int .i64 x3) (.slice va r4.length vk) (.int .i64 x5) (.int .i64 y0) (.string y1) (.string y2) (.int .i64 y3) (.slice ua s4.length uk) (.int .i64 y5)
  have j0 := S1.cell 0
  have j1 := S1.cell 1
  have j2 := S1.cell 2
  have j3 := S1.cell 3
  have j4 := S1.cell 4
  have j5 := S1.cell 5
  have j6 := S1.cell 6
  have j7 := S1.cell 7
  have j8 := S1.cell 8
  have j9 := S1.cell 9
  have j10 := S1.cell 10
  have j11 := S1.cell 11
  have E : Hid (Q (.returned (.agg #[.int .i64 x0, .string x1, .string x2, .int .i64 x3, .slice va r4.length vk, .int .i64 x5, .int .i64 y0, .string y1, .string y2, .int .i64 y3, .slice ua s4.length uk, .int .i64 y5])) ((((((((((((w2.setCell ⟨w.heap.size, 0, none⟩ (.int .i64 x0)).setCell ⟨w.heap.size, 1, none⟩ (.string x1)).setCell ⟨w.heap.size, 2, none⟩ (.string x2)).setCell ⟨w.heap.size, 3, none⟩ (.int .i64 x3)).setCell ⟨w.heap.size, 4, none⟩ (.slice va r4.length vk)).setCell ⟨w.heap.size, 5, none⟩ (.int .i64 x5)).setCell ⟨w.heap.size, 6, none⟩ (.int .i64 y0)).setCell ⟨w.heap.size, 7, none⟩ (.string y1)).setCell ⟨w.heap.size, 8, none⟩ (.string y2)).setCell ⟨w.heap.size, 9, none⟩ (.int .i64 y3)).setCell ⟨w.heap.size, 10, none⟩ (.slice ua s4.length uk)).setCell ⟨w.heap.size, 11, none⟩ (.int .i64 y5))) := by
    rw [HQ.out]
    have ho : Only w.heap.size w2 ((((((((((((w2.setCell ⟨w.heap.size, 0, none⟩ (.int .i64 x0)).setCell ⟨w.heap.size, 1, none⟩ (.string x1)).setCell ⟨w.heap.size, 2, none⟩ (.string x2)).setCell ⟨w.heap.size, 3, none⟩ (.int .i64 x3)).setCell ⟨w.heap.size, 4, none⟩ (.slice va r4.length vk)).setCell ⟨w.heap.size, 5, none⟩ (.int .i64 x5)).setCell ⟨w.heap.size, 6, none⟩ (.int .i64 y0)).setCell ⟨w.heap.size, 7, none⟩ (.string y1)).setCell ⟨w.heap.size, 8, none⟩ (.string y2)).setCell ⟨w.heap.size, 9, none⟩ (.int .i64 y3)).setCell ⟨w.heap.size, 10, none⟩ (.slice ua s4.length uk)).setCell ⟨w.heap.size, 11, none⟩ (.int .i64 y5)) := (putMain_only w2 w.heap.size _ _ _ _ _ _).trans (putLame_only _ w.heap.size _ _ _ _ _ _)
    exact Lib.hid ⟨x0, x1, x2, x3, .slice va r4.length vk, r4, x5, y0, y1, y2, y3, .slice ua s4.length uk, s4, y5, GD.out, rfl, layIntS.read (own_off M1.out ho (by omega)), layIntS.read (own_off M2.out ho (by omega)), putBoth_below HB0.out (Nat.le_refl _) _ _ _ _ _ _ _ _ _ _ _ _⟩
  clear S1
  go_wp2_with fail
  try simp only [Exit.inBlock, Exit.then]
  exact bodyPost_ret (v := .agg #[.int .i64 x0, .string x1, .string x2, .int .i64 x3, .slice va r4.length vk, .int .i64 x5, .int .i64 y0, .string y1, .string y2, .int .i64 y3, .slice ua s4.length uk, .int .i64 y5]) (by simp [results, Tryd.results5, go_sem, j0, j1, j2, j3, j4, j5, j6, j7, j8, j9, j10, j11]) rfl E.out

end Go.Proofs.YtpfkokjbpfaafaeDoor
