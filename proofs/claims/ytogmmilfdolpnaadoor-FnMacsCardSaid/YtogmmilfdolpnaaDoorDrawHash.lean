/-
  Texts that are drawn for digests.
-/
import Derived.Test.YtogmmilfdolpnaaDoorDrawNumber
import Derived.Test.YtogmmilfdolpnaaDoorDrawPlaces
namespace Go.Proofs.YtogmmilfdolpnaaDoor
open Go.RowKit

/-- How a draw of a text of at most 200 bytes ends. -/
def DrewStr (c : Nat) (a : Option Addr) (len cap : Nat) (w : World) (e : Ending) (w' : World) : Prop :=
  ∃ t : ByteArray, t.size ≤ 200 ∧ e = .returned (.string t) ∧ Cur c a len cap w' ∧ Only c w w'
def textSizes : List Int := [0, 3, 10, 54, 55, 56, 57, 63, 64, 65, 119, 120, 130]
theorem textSizes_few (x : Int) (h : x ∈ textSizes) : 0 ≤ x ∧ x ≤ 130 := by
  unfold textSizes at h
  simp at h
  omega

set_option maxRecDepth 100000 in
set_option maxHeartbeats 800000 in
theorem hashText_any {c : Nat} {a : Option Addr} {len cap : Nat} (w : World) (H : Cur c a len cap w) :
    Calls Tryd.prog 55 #[.pointer (some ⟨c, 0, none⟩)] w (DrewStr c a len cap w) := by
  have hcs : c < w.heap.size := cell_size (p := ⟨c, 0, none⟩) H.c0
  have HC := Lib.hid H
  clear H
  go_enter Tryd.func55, Tryd.ntmps55
  go_wp2_with fail
  refine (pickInt_any w.heap.size 13 textSizes rfl (by omega) (by omega) (by omega) _ (HC.out.below ((Below.refl _ _).alloc (Nat.le_refl _) _)) ?_).mono ?_
  · intro j hj
    have h13 : j = 0 ∨ j = 1 ∨ j = 2 ∨ j = 3 ∨ j = 4 ∨ j = 5 ∨ j = 6 ∨ j = 7 ∨ j = 8 ∨ j = 9 ∨ j = 10 ∨ j = 11 ∨ j = 12 := by omega
    rcases h13 with rfl | rfl | rfl | rfl | rfl | rfl | rfl | rfl | rfl | rfl | rfl | rfl | rfl <;> simp [textSizes]
  rintro e w1 ⟨y, hy, rfl, hc1, ho1⟩
  have HC1 := Lib.hid hc1
  have HO1 : Hid (Only c w w1) := (Only.of_below ((Below.refl _ _).alloc (Nat.le_refl _) _)).trans ho1
  obtain ⟨y0, y1⟩ := textSizes_few y hy
  obtain ⟨ny, rfl⟩ := Int.eq_ofNat_of_zero_le y0
  clear hc1 ho1 hy
  go_wp2_with fail
  refine (below_any 5 (by omega) (by omega) _ HC1.out).mono ?_
  rintro e w2 ⟨x, x0, x1, rfl, hc2, ho2⟩
  have HC2 := Lib.hid hc2
  have HO2 := Lib.hid (HO1.out.trans ho2)
  obtain ⟨k, rfl⟩ := Int.eq_ofNat_of_zero_le x0
  clear hc2 ho2
  go_wp2_with fail
  refine (text_any k (by omega) _ HC2.out).mono ?_
  rintro e w3 ⟨l, hl, rfl, hc3, ho3⟩
  have HC3 := Lib.hid hc3
  have HO3 := Lib.hid (HO2.out.trans ho3)
  obtain ⟨A, hA, AA⟩ : ∃ A : ByteArray, A.size = k ∧ Hid (A = ⟨l.toArray⟩) := ⟨_, by show l.toArray.size = k; simpa using hl, rfl⟩
  rw [← AA.out]
  clear hc3 ho3 hl
  go_wp2_with fail
  refine (below_any 20 (by omega) (by omega) _ HC3.out).mono ?_
  rintro e w4 ⟨z, z0, z1, rfl, hc4, ho4⟩
  have HC4 := Lib.hid hc4
  have HO4 := Lib.hid (HO3.out.trans ho4)
  obtain ⟨b, hb⟩ := byte_num (65 + z) (by omega) (by omega)
  have hb2 : (b.toNat : Int) % 256 = (b.toNat : Int) := by omega
  have H5 := Lib.hid (long_any ny (by omega) b)
  clear hc4 ho4
  go_wp2_with fail
  refine (H5.out _).mono ?_
  rintro e w5 ⟨l5, hl5, rfl, hb5⟩
  have HC5 := Lib.hid (HC4.out.below hb5)
  have HO5 := Lib.hid (HO4.out.trans (Only.of_below hb5))
  obtain ⟨B, hB, BB⟩ : ∃ B : ByteArray, B.size = ny ∧ Hid (B = ⟨l5.toArray⟩) := ⟨_, by show l5.toArray.size = ny; simpa using hl5, rfl⟩
  rw [← BB.out]
  have hs : ¬ (9223372036854775807 < A.size + B.size) := by omega
  clear hb5 hl5
  go_wp2_with fail
  go_ret
  exact ⟨A ++ B, by rw [ByteArray.size_append]; omega, rfl, HC5.out, HO5.out⟩

end Go.Proofs.YtogmmilfdolpnaaDoor
