/-
  A number that is drawn for chapter 1: any int; the two draws that the law on numbers takes.
-/
import Derived.Test.YtogmmilfdolpnaaDoorDrawNew
import Derived.Test.YtogmmilfdolpnaaDoorDrawText
namespace Go.Proofs.YtogmmilfdolpnaaDoor
open Go.RowKit

set_option maxRecDepth 100000 in
set_option maxHeartbeats 800000 in
theorem pickInt_any {c : Nat} {a : Option Addr} {len cap : Nat} (g n : Nat) (zs : List Int) (hz : zs.length = n) (h0 : 0 < n) (h1 : n ≤ 1000) (hg : c ≠ g) (w : World) (H : Cur c a len cap w) (hc : ∀ j, j < n → w.cell? ⟨g, j, none⟩ = some (.int .i64 (zs.getD j 0))) :
    Calls Tryd.prog 76 #[.pointer (some ⟨c, 0, none⟩), .slice (some ⟨g, 0, none⟩) n n] w fun e w' => ∃ x : Int, x ∈ zs ∧ e = .returned (.int .i64 x) ∧ Cur c a len cap w' ∧ Only c w w' := by
  have HC := Lib.hid H
  have HZ := Lib.hid hc
  have HL := Lib.hid hz
  clear H hc hz
  go_enter Tryd.func76, Tryd.ntmps76
  go_wp2_with fail
  refine (below_any (n : Int) (by omega) (by omega) _ HC.out).mono ?_
  rintro e w1 ⟨x, x0, x1, rfl, hc1, ho1⟩
  obtain ⟨k, rfl⟩ := Int.eq_ofNat_of_zero_le x0
  have hk : k < n := by omega
  have hk2 : (k : Int) < (n : Int) := by omega
  have hgs : g < w.heap.size := cell_size (p := ⟨g, k, none⟩) (HZ.out k hk)
  have hcell : w1.cell? ⟨g, k, none⟩ = some (.int .i64 (zs.getD k 0)) := by
    rw [ho1.cell (p := ⟨g, k, none⟩) hgs (fun e => hg e.symm)]
    exact HZ.out k hk
  have HM : Hid (zs.getD k 0 ∈ zs) := by
    have hl := HL.out
    show _ ∈ _
    rw [List.getD_eq_getElem?_getD, List.getElem?_eq_getElem (by omega)]
    exact List.getElem_mem _
  have HC1 := Lib.hid hc1
  have HO1 := Lib.hid ho1
  generalize zs.getD k 0 = z at hcell HM
  clear hc1 ho1
  go_wp2
  go_ret
  exact ⟨_, HM.out, rfl, HC1.out, HO1.out⟩

def numbers : List Int := [-1, 0, 127, 128, 16383, 16384, 1000000000, 1000000001, 9223372036854775807, -9223372036854775808]
theorem numbers_int (x : Int) (h : x ∈ numbers) : -9223372036854775808 ≤ x ∧ x ≤ 9223372036854775807 := by
  simp only [numbers, List.mem_cons, List.not_mem_nil, or_false] at h
  omega

set_option maxRecDepth 100000 in
set_option maxHeartbeats 800000 in
theorem number_any {c : Nat} {a : Option Addr} {len cap : Nat} (w : World) (H : Cur c a len cap w) :
    Calls Tryd.prog 42 #[.pointer (some ⟨c, 0, none⟩)] w fun e w' => ∃ x : Int, (-9223372036854775808 ≤ x ∧ x ≤ 9223372036854775807) ∧ e = .returned (.int .i64 x) ∧ Cur c a len cap w' ∧ Only c w w' := by
  have HC := Lib.hid H
  clear H
  go_enter Tryd.func42, Tryd.ntmps42
  go_wp2_with fail
  refine (below_any 4 (by omega) (by omega) _ HC.out).mono ?_
  rintro e w1 ⟨x, x0, x1, rfl, hc1, ho1⟩
  have HC1 := Lib.hid hc1
  have HO1 := Lib.hid ho1
  clear hc1 ho1
  have h4 : x = 0 ∨ x = 1 ∨ (2 ≤ x ∧ x ≤ 3) := by omega
  rcases h4 with rfl | rfl | ⟨x2, x3⟩
  · go_wp2_with fail
    have hcs : c < w1.heap.size := cell_size (p := ⟨c, 0, none⟩) HC1.out.c0
    refine (pickInt_any w1.heap.size 10 numbers rfl (by omega) (by omega) (by omega) _ (HC1.out.below ((Below.refl _ _).alloc (Nat.le_refl _) _)) ?_).mono ?_
    · intro j hj
      have h10 : j = 0 ∨ j = 1 ∨ j = 2 ∨ j = 3 ∨ j = 4 ∨ j = 5 ∨ j = 6 ∨ j = 7 ∨ j = 8 ∨ j = 9 := by omega
      rcases h10 with rfl | rfl | rfl | rfl | rfl | rfl | rfl | rfl | rfl | rfl <;> simp [numbers]
    rintro e w2 ⟨y, hy, rfl, hc2, ho2⟩
    have HC2 := Lib.hid hc2
    have HO2 : Hid (Only c w1 w2) := (Only.of_below ((Below.refl _ _).alloc (Nat.le_refl _) _)).trans ho2
    have HY := Lib.hid (numbers_int y hy)
    clear hc2 ho2 hy hcs
    go_wp2
    go_ret
    exact ⟨y, HY.out, rfl, HC2.out, HO1.out.trans HO2.out⟩
  · go_wp2_with fail
    refine (below_any 1000000000 (by omega) (by omega) _ HC1.out).mono ?_
    rintro e w2 ⟨y, y0, y1, rfl, hc2, ho2⟩
    have HC2 := Lib.hid hc2
    have HO2 := Lib.hid ho2
    clear hc2 ho2
    go_wp2
    go_ret
    exact ⟨y, ⟨by omega, by omega⟩, rfl, HC2.out, HO1.out.trans HO2.out⟩
  · go_wp2_with fail
    refine (below_any 400 (by omega) (by omega) _ HC1.out).mono ?_
    rintro e w2 ⟨y, y0, y1, rfl, hc2, ho2⟩
    have HC2 := Lib.hid hc2
    have HO2 := Lib.hid ho2
    clear hc2 ho2
    go_wp2
    go_ret
    exact ⟨y, ⟨by omega, by omega⟩, rfl, HC2.out, HO1.out.trans HO2.out⟩

set_option maxRecDepth 100000 in
set_option maxHeartbeats 800000 in
theorem drawVarText_any (a : Option Addr) (len cap : Nat) (w : World) (H : Src a len w) :
    Calls Tryd.prog 9 #[.slice a len cap] w fun e w' => ∃ x : Int, (-9223372036854775808 ≤ x ∧ x ≤ 9223372036854775807) ∧ e = .returned (.int .i64 x) ∧ Below w.heap.size w w' := by
  have HS := Lib.hid H
  clear H
  go_enter Tryd.func9, Tryd.ntmps9
  go_wp2_with fail
  refine (new_any a len cap _ HS.out).mono ?_
  rintro e w1 ⟨c, rfl, hc, hcur, hb⟩
  have HC1 := Lib.hid hcur
  have HB1 := Lib.hid hb
  clear hcur hb
  go_wp2_with fail
  refine (number_any _ HC1.out).mono ?_
  rintro e w2 ⟨x, hx, rfl, hcur, ho⟩
  have HX := Lib.hid hx
  have HB2 := Lib.hid (HB1.out.trans (ho.below hc HB1.out.size))
  clear hcur ho hx
  go_wp2
  go_ret
  exact ⟨x, HX.out, rfl, HB2.out⟩

set_option maxRecDepth 100000 in
set_option maxHeartbeats 800000 in
theorem drawHex_any (a : Option Addr) (len cap : Nat) (w : World) (H : Src a len w) :
    Calls Tryd.prog 14 #[.slice a len cap] w fun e w' => ∃ l : List UInt8, l.length ≤ 20001 ∧ e = .returned (.string ⟨l.toArray⟩) ∧ Below w.heap.size w w' := by
  have HS := Lib.hid H
  clear H
  go_enter Tryd.func14, Tryd.ntmps14
  go_wp2_with fail
  refine (new_any a len cap _ HS.out).mono ?_
  rintro e w1 ⟨c, rfl, hc, hcur, hb⟩
  have HC1 := Lib.hid hcur
  have HB1 := Lib.hid hb
  clear hcur hb
  go_wp2_with fail
  refine (once_any 60 (by omega) (by omega) _ HC1.out).mono ?_
  rintro e w2 ⟨b, rfl, hcur, ho⟩
  have HC2 := Lib.hid hcur
  have HB2 := Lib.hid (HB1.out.trans (ho.below hc HB1.out.size))
  clear hcur ho
  cases b
  · go_wp2_with fail
    refine (below_any 30 (by omega) (by omega) _ HC2.out).mono ?_
    rintro e w3 ⟨x, x0, x1, rfl, hcur, ho⟩
    have HC3 := Lib.hid hcur
    have HB3 := Lib.hid (HB2.out.trans (ho.below hc HB2.out.size))
    obtain ⟨k, rfl⟩ := Int.eq_ofNat_of_zero_le x0
    clear hcur ho
    go_wp2_with fail
    refine (text_any k (by omega) _ HC3.out).mono ?_
    rintro e w4 ⟨l, hl, rfl, hcur, ho⟩
    have HB4 := Lib.hid (HB3.out.trans (ho.below hc HB3.out.size))
    have HL := Lib.hid hl
    clear hcur ho hl
    go_wp2
    go_ret
    exact ⟨l, by have := HL.out; omega, rfl, HB4.out⟩
  · go_wp2_with fail
    refine (below_any 2 (by omega) (by omega) _ HC2.out).mono ?_
    rintro e w3 ⟨x, x0, x1, rfl, hcur, ho⟩
    have HB3 := Lib.hid (HB2.out.trans (ho.below hc HB2.out.size))
    obtain ⟨k, rfl⟩ := Int.eq_ofNat_of_zero_le x0
    clear hcur ho
    go_wp2_with fail
    refine (long_any (20000 + k) (by omega) 200 _).mono ?_
    rintro e w4 ⟨l, hl, rfl, hb4⟩
    have HB4 := Lib.hid (HB3.out.trans (hb4.mono HB3.out.size))
    have HL := Lib.hid hl
    clear hb4 hl
    go_wp2
    go_ret
    exact ⟨l, by have := HL.out; omega, rfl, HB4.out⟩

end Go.Proofs.YtogmmilfdolpnaaDoor
