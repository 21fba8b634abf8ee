/-
  A number that is drawn for chapter 1: any int; the two draws that the law on numbers takes.
  An address that is drawn, right or not.
-/
import Derived.Test.YthiicpbedgcmlaaDoorJ09
namespace Go.Proofs.YthiicpbedgcmlaaDoor
open Go.RowKit

set_option maxRecDepth 100000 in
set_option maxHeartbeats 800000 in
theorem pickInt_any {c : Nat} {a : Option Addr} {len cap : Nat} (g n : Nat) (zs : List Int) (hz : zs.length = n) (h0 : 0 < n) (h1 : n ≤ 1000) (hg : c ≠ g) (w : World) (H : Cur c a len cap w) (hc : ∀ j, j < n → w.cell? ⟨g, j, none⟩ = some (.int .i64 (zs.getD j 0))) :
    Calls Tryd.prog 35 #[.pointer (some ⟨c, 0, none⟩), .slice (some ⟨g, 0, none⟩) n n] w fun e w' => ∃ x : Int, x ∈ zs ∧ e = .returned (.int .i64 x) ∧ Cur c a len cap w' ∧ Only c w w' := by
  have HC := Lib.hid H
  have HZ := Lib.hid hc
  have HL := Lib.hid hz
  clear H hc hz
  go_enter Tryd.func35, Tryd.ntmps35
  go_wp2_with fail
  refine (below_any (n : Int) (by omega) (by omega) _ HC.out).mono ?_
  rintro e w1 ⟨x, x0, x1, rfl, hc1, ho1⟩
  obtain ⟨k, rfl⟩ := Int.eq_ofNat_of_zero_le x0
  have hk : k < n := by omega
  have hk2 : (k : Int) < (n : Int) := by omega
  have hgs : g < w.heap.size := cell_size (p := ⟨g, k, none⟩) (HZ.out k hk)
  have hcell : w1.cell? ⟨g, k, none⟩ = some (.int .i64 (zs.getD k 0)) := by
    rw [ho1.cell (p := ⟨g, k, none⟩) hgs (fun e => hg e.symm)]
    exact HZ.out k hk
  have HM : Hid (zs.getD k 0 ∈ zs) := by
    have hl := HL.out
    show _ ∈ _
    rw [List.getD_eq_getElem?_getD, List.getElem?_eq_getElem (by omega)]
    exact List.getElem_mem _
  have HC1 := Lib.hid hc1
  have HO1 := Lib.hid ho1
  generalize zs.getD k 0 = z at hcell HM
  clear hc1 ho1
  go_wp2
  go_ret
  exact ⟨_, HM.out, rfl, HC1.out, HO1.out⟩

def numbers : List Int := [-1, 0, 127, 128, 16383, 16384, 1000000000, 1000000001, 9223372036854775807, -9223372036854775808]
end Go.Proofs.YthiicpbedgcmlaaDoor
namespace Go.Proofs.YthiicpbedgcmlaaDoor
open Go.RowKit

def addrEdges : List Int := [0, 4294967295, 4294967296, -1]
theorem addrEdges_few (x : Int) (h : x ∈ addrEdges) : -1 ≤ x ∧ x ≤ 4294967296 := by
  simp only [addrEdges, List.mem_cons, List.not_mem_nil, or_false] at h
  omega

set_option maxRecDepth 100000 in
set_option maxHeartbeats 800000 in
theorem addr_any {c : Nat} {a : Option Addr} {len cap : Nat} (w : World) (H : Cur c a len cap w) :
    Calls Tryd.prog 33 #[.pointer (some ⟨c, 0, none⟩)] w fun e w' => ∃ x : Int, (-1 ≤ x ∧ x ≤ 4294967296) ∧ e = .returned (.int .i64 x) ∧ Cur c a len cap w' ∧ Only c w w' := by
  have HC := Lib.hid H
  clear H
  go_enter Tryd.func33, Tryd.ntmps33
  go_wp2_with fail
  refine (below_any 6 (by omega) (by omega) _ HC.out).mono ?_
  rintro e w1 ⟨x, x0, x1, rfl, hc1, ho1⟩
  have HC1 := Lib.hid hc1
  have HO1 := Lib.hid ho1
  clear hc1 ho1
  have h4 : x = 0 ∨ x = 1 ∨ 2 ≤ x := by omega
  rcases h4 with rfl | rfl | x2
  · go_wp2_with fail
    have hcs : c < w1.heap.size := cell_size (p := ⟨c, 0, none⟩) HC1.out.c0
    refine (pickInt_any w1.heap.size 4 addrEdges rfl (by omega) (by omega) (by omega) _ (HC1.out.below ((Below.refl _ _).alloc (Nat.le_refl _) _)) ?_).mono ?_
    · intro j hj
      have h8 : j = 0 ∨ j = 1 ∨ j = 2 ∨ j = 3 := by omega
      rcases h8 with rfl | rfl | rfl | rfl <;> simp [addrEdges]
    rintro e w2 ⟨y, hy, rfl, hc2, ho2⟩
    have HC2 := Lib.hid hc2
    have HO2 : Hid (Only c w1 w2) := (Only.of_below ((Below.refl _ _).alloc (Nat.le_refl _) _)).trans ho2
    have HY := Lib.hid (addrEdges_few y hy)
    clear hc2 ho2 hy hcs
    go_wp2_with fail
    go_ret
    exact ⟨y, HY.out, rfl, HC2.out, HO1.out.trans HO2.out⟩
  · go_wp2_with fail
    refine (below_any 4294967296 (by omega) (by omega) _ HC1.out).mono ?_
    rintro e w2 ⟨y, y0, y1, rfl, hc2, ho2⟩
    have HC2 := Lib.hid hc2
    have HO2 := Lib.hid ho2
    clear hc2 ho2
    go_wp2_with fail
    go_ret
    exact ⟨y, ⟨by omega, by omega⟩, rfl, HC2.out, HO1.out.trans HO2.out⟩
  · have d0 : ¬ (x = 0) := by omega
    have d1 : ¬ (x = 1) := by omega
    go_wp2_with fail
    refine (below_any 1024 (by omega) (by omega) _ HC1.out).mono ?_
    rintro e w2 ⟨y, y0, y1, rfl, hc2, ho2⟩
    have HC2 := Lib.hid hc2
    have HO2 := Lib.hid ho2
    clear hc2 ho2
    go_wp2_with fail
    go_ret
    exact ⟨_, ⟨by omega, by omega⟩, rfl, HC2.out, HO1.out.trans HO2.out⟩

end Go.Proofs.YthiicpbedgcmlaaDoor
