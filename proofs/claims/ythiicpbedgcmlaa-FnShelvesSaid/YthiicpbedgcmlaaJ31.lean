/-
  Long texts that are drawn, with an id and a size.
  Pieces that come in turn, from wherever it begins, are whole again behind the last one; no program is spoken of here.
-/
import Derived.Test.YthiicpbedgcmlaaJ30
import Derived.Deep.DeepCutAuto
import Derived.Test.YthiicpbedgcmlaaJ06
namespace Go.Proofs.Ythiicpbedgcmlaa
open Go.RowKit

def longLens : List Int := [0, 10, 20, 40, 55, 90, 200]

set_option maxRecDepth 100000 in
set_option maxHeartbeats 1600000 in
theorem l20Long_any {c : Nat} {a : Option Addr} {len cap : Nat} (w : World) (H : Cur c a len cap w) :
    Calls Try.prog 14 #[.pointer (some ⟨c, 0, none⟩)] w fun e w' => ∃ s : ByteArray, s.size ≤ 208 ∧ e = .returned (.string s) ∧ Cur c a len cap w' ∧ Only c w w' := by
  obtain ⟨Q, HQ⟩ : ∃ Q : Ending → World → Prop, Hid (Q = fun e w' => ∃ s : ByteArray, s.size ≤ 208 ∧ e = .returned (.string s) ∧ Cur c a len cap w' ∧ Only c w w') := ⟨_, Lib.hid rfl⟩
  rw [← HQ.out]
  have HC := Lib.hid H
  have hcs : c < w.heap.size := cell_size (p := ⟨c, 0, none⟩) H.c0
  clear H
  go_enter Try.func14, Try.ntmps14
  go_wp2_with fail
  refine (below_any 9 (by omega) (by omega) _ HC.out).mono ?_
  rintro e w1 ⟨z, z0, z1, rfl, hc, ho⟩
  replace HC := Lib.hid hc
  have HO := Lib.hid ho
  clear hc ho
  obtain ⟨nt, rfl⟩ := Int.eq_ofNat_of_zero_le z0
  go_wp2_with fail
  refine (text_any nt (by omega) _ HC.out).mono ?_
  rintro e w2 ⟨l, hl, rfl, hc, ho⟩
  obtain ⟨t, ht⟩ : ∃ t : ByteArray, t = ⟨l.toArray⟩ := ⟨_, rfl⟩
  have hts : t.size ≤ 8 := by rw [ht]; show l.toArray.size ≤ 8; simp; omega
  rw [← ht]
  replace HC := Lib.hid hc
  replace HO := Lib.hid (HO.out.trans ho)
  have hc2 : c < w2.heap.size := cell_size (p := ⟨c, 0, none⟩) hc.c0
  have hal : Below w2.heap.size w2 (w2.alloc (.cells #[.int .i64 0, .int .i64 10, .int .i64 20, .int .i64 40, .int .i64 55, .int .i64 90, .int .i64 200] 3)) := (Below.refl _ _).alloc (Nat.le_refl _) _
  replace HC := Lib.hid (HC.out.below hal)
  replace HO := Lib.hid (HO.out.trans (.of_below hal))
  clear hc ho hal ht hl z0 z1
  go_wp2_with fail
  refine (pickInt_any w2.heap.size 7 longLens rfl (by omega) (by omega) (by omega) _ HC.out ?_).mono ?_
  · intro j hj
    have h4 : j = 0 ∨ j = 1 ∨ j = 2 ∨ j = 3 ∨ j = 4 ∨ j = 5 ∨ j = 6 := by omega
    rcases h4 with rfl | rfl | rfl | rfl | rfl | rfl | rfl <;> simp [longLens]
  rintro e w3 ⟨m, hm, rfl, hc, ho⟩
  replace HC := Lib.hid hc
  replace HO := Lib.hid (HO.out.trans ho)
  have hm2 : 0 ≤ m ∧ m ≤ 200 := by
    simp only [longLens, List.mem_cons, List.not_mem_nil, or_false] at hm
    omega
  obtain ⟨k, rfl⟩ := Int.eq_ofNat_of_zero_le hm2.1
  clear hc ho hm
  go_wp2_with fail
  refine (below_any 9 (by omega) (by omega) _ HC.out).mono ?_
  rintro e w4 ⟨y, y0, y1, rfl, hc, ho⟩
  replace HC := Lib.hid hc
  replace HO := Lib.hid (HO.out.trans ho)
  clear hc ho
  obtain ⟨b, hb⟩ := byte_num (65 + y) (by omega) (by omega)
  have hw2 : IntKind.u8.wrap (b.toNat : Int) = (b.toNat : Int) := by
    rw [IntKind.wrap_u8]
    have := b.toNat_lt
    omega
  have K := Lib.hid (long_any k (by omega) b w4)
  go_wp2_with fail
  refine (K.out).mono ?_
  rintro e w5 ⟨l2, hl2, rfl, hb2⟩
  obtain ⟨s, hs⟩ : ∃ s : ByteArray, s = ⟨l2.toArray⟩ := ⟨_, rfl⟩
  have hss : s.size ≤ 200 := by rw [hs]; show l2.toArray.size ≤ 200; simp; omega
  rw [← hs]
  have E : Hid (∀ u : ByteArray, u.size ≤ 208 → Q (.returned (.string u)) w5) := Lib.hid (by
    intro u hu
    rw [HQ.out]
    exact ⟨u, hu, rfl, HC.out.below hb2, HO.out.trans (.of_below hb2)⟩)
  have hu : (t ++ s).size ≤ 208 := by simp [ByteArray.size_append]; omega
  clear HC HO hb2 K hs hl2
  go_wp2_with fail
  exact E.out _ hu

end Go.Proofs.Ythiicpbedgcmlaa
namespace Go.Proofs.Ythiicpbedgcmlaa

theorem part_size {id count size : Nat} {s : ByteArray} {i : Nat} (hs : size ≤ 120) : (partP id count size s i).size ≤ 123 := by
  unfold partP
  rw [ByteArray.size_append, ByteArray.size_append, ByteArray.size_append, ByteArray.size_extract, byteN_size, byteN_size, byteN_size]
  have e9 : (i + 1) * size = i * size + size := by rw [Nat.add_mul, Nat.one_mul]
  rw [e9]
  omega
end Go.Proofs.Ythiicpbedgcmlaa
