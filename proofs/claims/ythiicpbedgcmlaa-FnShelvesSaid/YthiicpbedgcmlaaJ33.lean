/-
  The law on shelves, out of the program's contracts.
  The law FnShelves, out of the program's contracts.
-/
import Derived.Test.YthiicpbedgcmlaaJ10
import Derived.Test.YthiicpbedgcmlaaJ32
import Derived.Test.YthiicpbedgcmlaaJ26
namespace Go.Proofs.Ythiicpbedgcmlaa
open Go.RowKit

set_option maxRecDepth 100000 in
theorem bigH_any (a : Option Addr) (len cap : Nat) (w : World) :
    Calls Try.prog 4 #[.slice a len cap] w fun e w' => e = .returned (.bool (decide (1048576 < (len : Int)))) ∧ w' = w := by
  go_enter Try.func4, Try.ntmps4
  go_wp2
  go_ret
  exact ⟨rfl, rfl⟩

/-- A shelf in its variable. -/
structure HV (g : Nat) (a : Option Addr) (m k : Nat) (xs : List HeldD) (X : World) : Prop where
  var : VarA g ShelfT #[.slice a m k] X
  held : layHeldS.rd X [.slice a m k] xs
theorem HV.next {g : Nat} {a : Option Addr} {m k : Nat} {xs : List HeldD} {X Y : World} (h : HV g a m k xs X) (hb : Below X.heap.size X Y) : HV g a m k xs Y := ⟨h.var.next hb, layHeldS.below h.held hb⟩
theorem HV.new {a : Option Addr} {m k : Nat} {xs : List HeldD} {V : World} (h : layHeldS.rd V [.slice a m k] xs) : HV V.heap.size a m k xs (V.alloc (.cells #[.slice a m k] ShelfT)) := ⟨VarA.new V _ _, layHeldS.below h ((Below.refl _ _).alloc (Nat.le_refl _) _)⟩
theorem HV.len {g : Nat} {a : Option Addr} {m k : Nat} {xs : List HeldD} {X : World} (h : HV g a m k xs X) : m = xs.length := by
  obtain ⟨b, q, hv⟩ := rows_form h.held
  simp only [Value.slice.injEq] at hv
  exact hv.2.1
/-- Until, where it lies. -/
theorem HV.till {g : Nat} {a : Option Addr} {m k : Nat} {xs : List HeldD} {X : World} (h : HV g a m k xs X) {i : Nat} (hi : i < xs.length) : ∃ b o, a = some ⟨b, o, none⟩ ∧ X.cell? ⟨b, o + i * 6 + 5, none⟩ = some (.int .i64 xs[i].2.2.2.2.2) := by
  obtain ⟨b, o, cs, he, _, hr, hc⟩ := rows_elem h.held i _ (List.getElem?_eq_getElem hi)
  obtain ⟨v3, v4, rfl, _, _⟩ := layHeld_rd.1 hr
  exact ⟨b, o, he, hc 5 _ rfl⟩
theorem slice_shape {v : Value} {xs : List HeldD} {X : World} (h : layHeldS.rd X [v] xs) : ∃ a m k, v = .slice a m k := by
  obtain ⟨a, k, hv⟩ := rows_form h
  exact ⟨a, _, k, hv⟩
/-- The three shelves of the law, and what was there. -/
structure H3 (w : World) (g1 g2 g4 : Nat) (a1 a2 a4 : Option Addr) (m1 m2 m4 k1 k2 k4 : Nat) (xs ys zs : List HeldD) (X : World) : Prop where
  one : HV g1 a1 m1 k1 xs X
  two : HV g2 a2 m2 k2 ys X
  four : HV g4 a4 m4 k4 zs X
  below : Below w.heap.size w X
theorem H3.next {w : World} {g1 g2 g4 : Nat} {a1 a2 a4 : Option Addr} {m1 m2 m4 k1 k2 k4 : Nat} {xs ys zs : List HeldD} {X Y : World} (h : H3 w g1 g2 g4 a1 a2 a4 m1 m2 m4 k1 k2 k4 xs ys zs X) (hb : Below X.heap.size X Y) : H3 w g1 g2 g4 a1 a2 a4 m1 m2 m4 k1 k2 k4 xs ys zs Y := ⟨h.one.next hb, h.two.next hb, h.four.next hb, h.below.trans (hb.mono h.below.size)⟩
theorem tidyV_next {xs : List HeldD} {t : Int} {j : Nat} (h : j < xs.length) : (tidyV (xs.take (j + 1)) t).length = (tidyV (xs.take j) t).length + (if t < xs[j].2.2.2.2.2 then 1 else 0) := by
  unfold tidyV
  rw [take_next h, List.filter_append, List.length_append]
  congr 1
  by_cases hh : t < xs[j].2.2.2.2.2
  · rw [if_pos hh]; simp [hh]
  · rw [if_neg hh]; simp [hh]

set_option maxRecDepth 100000 in
set_option maxHeartbeats 6400000 in
theorem lawShelvesF (F0 : ShelfFns) (sa : Option Addr) (len cap : Nat) (w : World) (H : Src sa len w) :
    Calls Try.prog 3 #[.slice sa len cap] w fun e w' => e = .returned (.bool true) ∧ Below w.heap.size w w' := by
  have hd : decide (1048576 < (len : Int)) = false := decide_eq_false (by have := H.few; omega)
  have HBG := Lib.hid (fun w => bigH_any sa len cap w)
  rw [hd] at HBG
  have HS := Lib.hid H
  have F := Lib.hid F0
  clear H hd F0
  go_enter Try.func3, Try.ntmps3
  go_wp2_with fail
  refine (HBG.out _).mono ?_
  rintro e w0 ⟨rfl, hw⟩
  rw [hw]
  clear hw w0 HBG
  go_wp2_with fail
  refine (drawShelf_any sa len cap w HS.out).mono ?_
  rintro e w1 ⟨a1, m1, k1, xs, t, now, hP, ht, hnow, rfl, hr, hb⟩
  have B1 := Lib.hid (hb.alloc hb.size (.cells #[.slice a1 m1 k1] ShelfT))
  have V1 := Lib.hid (HV.new hr)
  have HP := Lib.hid hP
  obtain ⟨ys, wh, dn, hadd⟩ := add_is xs 1 t now
  have HPY := Lib.hid (add_right hP hadd)
  have KI := Lib.hid (fun X hX => F.out.add (.slice a1 m1 k1) xs 1 t now ys wh dn hadd (right_fits hP).1 (right_fits hP).2 (by omega) X hX)
  have KG := Lib.hid (fun X hX => specAddPart_any (.slice a1 m1 k1) xs 1 t now ys wh dn hadd (held_few hP).1 (held_few hP).2 (by omega) X hX)
  have hwn : IntKind.i64.wrap (now + 3) = now + 3 := by rw [IntKind.wrap_i64]; omega
  clear hb hr hP hadd ht HS
  go_upto_region 4 with fail
  generalize w1.alloc (.cells #[.slice a1 m1 k1] ShelfT) = w2 at *
  generalize w1.heap.size = g1 at *
  have c0 : w2.cell? ⟨g1, 0, none⟩ = some (.slice a1 m1 k1) := V1.out.var.cell 0
  go_wp2_with fail
  refine (KI.out _ V1.out.held).mono ?_
  rintro e w3 ⟨v2, f2, rfl, _, o2, hb⟩
  obtain ⟨a2, m2, k2, rfl⟩ := slice_shape (layHeldC.read o2)
  have hal : Below w3.heap.size w3 (w3.alloc (.cells #[.slice a2 m2 k2] ShelfT)) := (Below.refl _ _).alloc (Nat.le_refl _) _
  replace V1 := Lib.hid ((V1.out.next hb).next hal)
  replace B1 := Lib.hid ((B1.out.trans (hb.mono B1.out.size)).trans (hal.mono (B1.out.trans (hb.mono B1.out.size)).size))
  have V2 := Lib.hid (HV.new (layHeldC.read o2))
  clear hb o2 hal c0 KI
  go_upto_region 5 with fail
  generalize w3.alloc (.cells #[.slice a2 m2 k2] ShelfT) = w4 at *
  generalize w3.heap.size = g2 at *
  have c0 : w4.cell? ⟨g1, 0, none⟩ = some (.slice a1 m1 k1) := V1.out.var.cell 0
  go_wp2_with fail
  refine (KG.out _ V1.out.held).mono ?_
  rintro e w5 ⟨v3, f3, rfl, _, o3, hb⟩
  obtain ⟨a3, m3, k3, rfl⟩ := slice_shape (layHeldC.read o3)
  have hal : Below w5.heap.size w5 (w5.alloc (.cells #[.slice a3 m3 k3] ShelfT)) := (Below.refl _ _).alloc (Nat.le_refl _) _
  replace V1 := Lib.hid ((V1.out.next hb).next hal)
  replace V2 := Lib.hid ((V2.out.next hb).next hal)
  replace B1 := Lib.hid ((B1.out.trans (hb.mono B1.out.size)).trans (hal.mono (B1.out.trans (hb.mono B1.out.size)).size))
  clear hb o3 hal c0 KG
  go_upto_region 6 with fail
  generalize w5.alloc (.cells #[.slice a3 m3 k3] ShelfT) = w6 at *
  have c0 : w6.cell? ⟨g2, 0, none⟩ = some (.slice a2 m2 k2) := V2.out.var.cell 0
  have KT := Lib.hid (F.out.tidy (.slice a2 m2 k2) ys (now + 3) (right_fits HPY.out).1 (right_fits HPY.out).2 (by unfold IntZ; omega) w6 V2.out.held)
  go_wp2_with fail
  refine (KT.out).mono ?_
  rintro e w7 ⟨v4, f4, rfl, _, o4, hb⟩
  obtain ⟨a4, m4, k4, rfl⟩ := slice_shape (layHeldS.read o4)
  have hal : Below w7.heap.size w7 (w7.alloc (.cells #[.slice a4 m4 k4] ShelfT)) := (Below.refl _ _).alloc (Nat.le_refl _) _
  have D0 : Hid (H3 w g1 g2 w7.heap.size a1 a2 a4 m1 m2 m4 k1 k2 k4 xs ys (tidyV ys (now + 3)) (w7.alloc (.cells #[.slice a4 m4 k4] ShelfT))) := Lib.hid ⟨(V1.out.next hb).next hal, (V2.out.next hb).next hal, HV.new (layHeldS.read o4), (B1.out.trans (hb.mono B1.out.size)).trans (hal.mono (B1.out.trans (hb.mono B1.out.size)).size)⟩
  have HPZ := Lib.hid (tidy_right HPY.out (now + 3))
  have HTZ : Hid (∀ x ∈ tidyV ys (now + 3), now + 3 < x.2.2.2.2.2) := Lib.hid (fun x hx => of_decide_eq_true (List.mem_filter.1 hx).2)
  obtain ⟨zs, HZ⟩ : ∃ zs, Hid (zs = tidyV ys (now + 3)) := ⟨_, Lib.hid rfl⟩
  rw [← HZ.out] at D0 HPZ HTZ
  clear hb o4 hal c0 KT V1 V2 B1
  go_upto_region 7 with fail
  generalize w7.alloc (.cells #[.slice a4 m4 k4] ShelfT) = w8 at *
  generalize w7.heap.size = g4 at *
  have hm4 : m4 = zs.length := D0.out.four.len
  have hm2 : m2 = ys.length := D0.out.two.len
  have hz3 : zs.length ≤ 3 := HPZ.out.1
  have hy3 : ys.length ≤ 3 := HPY.out.1
  go_wp2_with fail
  go_loopw [13] (fun i wr => ∃ j : Nat, j ≤ m4 ∧ i = .int .i64 j ∧ wr = w8) (fun i _ => m4 - (intOf i).toNat)
  case atStart => exact ⟨0, Nat.zero_le _, rfl, rfl⟩
  case round =>
    obtain ⟨j, hj, rfl, rfl⟩ := hrel
    have c0 : wr.cell? ⟨g4, 0, none⟩ = some (.slice a4 m4 k4) := D0.out.four.var.cell 0
    have hwj : IntKind.i64.wrap ((j : Int) + 1) = (j : Int) + 1 := by rw [IntKind.wrap_i64]; omega
    by_cases hlt : j < m4
    · have hlt' : (j : Int) < (m4 : Int) := by omega
      have hjz : j < zs.length := by omega
      obtain ⟨b, o, rfl, hu⟩ := D0.out.four.till hjz
      have hgt : ¬ zs[j].2.2.2.2.2 ≤ now + 3 := by have := HTZ.out _ (List.getElem_mem hjz); omega
      generalize zs[j].2.2.2.2.2 = un at *
      have hj0 : (0 : Int) ≤ (j : Int) := by omega
      go_wp2_with fail
      go_roundw
      case rel => exact ⟨j + 1, by omega, by go_num, by first | rfl | trivial⟩
      case measure => simp [intOf]; omega
    · have hlt' : ¬ (j : Int) < (m4 : Int) := by omega
      go_wp2_with fail
      clear c0 hlt hlt' hj hwj
      go_loopw [14, 15] (fun c i wz => ∃ (j n : Nat), j ≤ m2 ∧ Hid (n = (tidyV (ys.take j) (now + 3)).length) ∧ n ≤ j ∧ c = .int .i64 (n : Nat) ∧ i = .int .i64 j ∧ wz = wr) (fun _ i _ => m2 - (intOf i).toNat)
      case atStart => exact ⟨0, 0, Nat.zero_le _, Lib.hid (by simp [tidyV]), Nat.le_refl _, rfl, rfl, rfl⟩
      case round =>
        obtain ⟨j, n, hj, HN, hnj, rfl, rfl, hwz⟩ := hrel
        subst hwz
        have c0 : wr.cell? ⟨g2, 0, none⟩ = some (.slice a2 m2 k2) := D0.out.two.var.cell 0
        have hwj : IntKind.i64.wrap ((j : Int) + 1) = (j : Int) + 1 := by rw [IntKind.wrap_i64]; omega
        have hwc : IntKind.i64.wrap ((n : Int) + 1) = (n : Int) + 1 := by rw [IntKind.wrap_i64]; omega
        by_cases hlt : j < m2
        · have hlt' : (j : Int) < (m2 : Int) := by omega
          have hjy : j < ys.length := by omega
          obtain ⟨b, o, rfl, hu⟩ := D0.out.two.till hjy
          have hnx := tidyV_next (t := now + 3) hjy
          rw [← HN.out] at hnx
          have hj0 : (0 : Int) ≤ (j : Int) := by omega
          by_cases hgt : now + 3 < ys[j].2.2.2.2.2
          · rw [if_pos hgt] at hnx
            have HX := Lib.hid hnx.symm
            clear hnx
            generalize ys[j].2.2.2.2.2 = un at *
            go_wp2_with fail
            go_roundw
            case rel => exact ⟨j + 1, n + 1, by omega, HX, by omega, by go_num, by go_num, by first | rfl | trivial⟩
            case measure => simp [intOf]; omega
          · rw [if_neg hgt, Nat.add_zero] at hnx
            have HX := Lib.hid hnx.symm
            clear hnx
            generalize ys[j].2.2.2.2.2 = un at *
            go_wp2_with fail
            go_roundw
            case rel => exact ⟨j + 1, n, by omega, HX, by omega, by go_num, by go_num, by first | rfl | trivial⟩
            case measure => simp [intOf]; omega
        · have hlt' : ¬ (j : Int) < (m2 : Int) := by omega
          obtain rfl : n = m4 := by
            rw [HN.out, List.take_of_length_le (by omega), ← HZ.out, hm4]
          have hbb : (dn == dn) = true := beq_self_eq_true _
          have hww : (wh.toList == wh.toList) = true := beq_self_eq_true _
          have K1 := Lib.hid (fun X hX => F.out.ok (.slice a1 m1 k1) xs true ⟨fun _ => HP.out, fun _ => rfl⟩ (right_fits HP.out).1 (right_fits HP.out).2 X hX)
          have K2 := Lib.hid (fun X hX => F.out.ok (.slice a2 m2 k2) ys true ⟨fun _ => HPY.out, fun _ => rfl⟩ (right_fits HPY.out).1 (right_fits HPY.out).2 X hX)
          have K4 := Lib.hid (fun X hX => F.out.ok (.slice a4 n k4) zs true ⟨fun _ => HPZ.out, fun _ => rfl⟩ (right_fits HPZ.out).1 (right_fits HPZ.out).2 X hX)
          have b0 : wr.cell? ⟨g1, 0, none⟩ = some (.slice a1 m1 k1) := D0.out.one.var.cell 0
          clear hwj hwc hj hlt hnj HN HTZ F HPY HPZ HP HZ hm2 hm4 hz3 hy3 hnow hwn
          go_wp2_with fail
          refine (K1.out _ D0.out.one.held).mono ?_
          rintro e w9 ⟨rfl, hb⟩
          replace D0 := Lib.hid (D0.out.next hb)
          clear hb c0 b0 K1
          have c0 : w9.cell? ⟨g2, 0, none⟩ = some (.slice a2 m2 k2) := D0.out.two.var.cell 0
          go_wp2_with fail
          refine (K2.out _ D0.out.two.held).mono ?_
          rintro e w10 ⟨rfl, hb⟩
          replace D0 := Lib.hid (D0.out.next hb)
          clear hb c0 K2
          have c0 : w10.cell? ⟨g4, 0, none⟩ = some (.slice a4 n k4) := D0.out.four.var.cell 0
          go_wp2_with fail
          refine (K4.out _ D0.out.four.held).mono ?_
          rintro e w11 ⟨rfl, hb⟩
          replace D0 := Lib.hid (D0.out.next hb)
          clear hb c0 K4
          have c0 : w11.cell? ⟨g4, 0, none⟩ = some (.slice a4 n k4) := D0.out.four.var.cell 0
          go_wp2_with fail
          go_ret
          exact ⟨rfl, D0.out.below⟩

end Go.Proofs.Ythiicpbedgcmlaa
namespace Go.Proofs.Ythiicpbedgcmlaa
open Go.RowKit

set_option maxRecDepth 100000 in
set_option maxHeartbeats 800000 in
theorem lawShelves_big (a : Option Addr) (len cap : Nat) (h : 1048576 < len) (w : World) :
    Calls Try.prog 3 #[.slice a len cap] w fun e w' => e = .returned (.bool true) ∧ Below w.heap.size w w' := by
  have hd : decide (1048576 < (len : Int)) = true := decide_eq_true (by omega)
  have HB := Lib.hid (fun w => bigH_any a len cap w)
  rw [hd] at HB
  clear hd
  go_enter Try.func3, Try.ntmps3
  go_wp2_with fail
  refine (HB.out _).mono ?_
  rintro e w1 ⟨rfl, rfl⟩
  go_wp2_with fail
  go_ret
  exact ⟨rfl, Below.refl _ _⟩

/-- The law, at every row of bytes. -/
theorem lawShelves (a : Option Addr) (len cap : Nat) (w : World) (H : Src a len w) :
    Calls Try.prog 3 #[.slice a len cap] w fun e w' => e = .returned (.bool true) ∧ Below w.heap.size w w' := lawShelvesF shelfFns a len cap w H

end Go.Proofs.Ythiicpbedgcmlaa
