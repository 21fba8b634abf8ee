/-
  Addresses and prefixes that are drawn.
-/
import Derived.Test.YtkfcoldjgijpcacDrawAll
import Derived.Test.YtkfcoldjgijpcacReadPrefixSpec
namespace Go.Proofs.Ytkfcoldjgijpcac
open Go.RowKit

def addrEdges : List Int := [0, 4294967295, 4294967296, -1]
theorem addrEdges_few (x : Int) (h : x ∈ addrEdges) : -1 ≤ x ∧ x ≤ 4294967296 := by
  simp only [addrEdges, List.mem_cons, List.not_mem_nil, or_false] at h
  omega
def lenEdges : List Int := [0, 8, 22, 24, 25, 26, 28, 29, 30, 31, 32]
theorem lenEdges_in (x : Int) (h : x ∈ lenEdges) : ∃ n : Nat, x = n ∧ n ≤ 32 := by
  simp only [lenEdges, List.mem_cons, List.not_mem_nil, or_false] at h
  exact ⟨x.toNat, by omega, by omega⟩

theorem firstP_ok (a n : Nat) (ha : a ≤ 4294967295) (hn : n ≤ 32) : PrefOk (firstP a n : Nat) n :=
  prefOk_nat _ _ (by have := firstP_le a n; omega) hn (firstP_mod a n)

set_option maxRecDepth 100000 in
set_option maxHeartbeats 1600000 in
theorem prefix_any {c : Nat} {a : Option Addr} {len cap : Nat} (w : World) (H : Cur c a len cap w) :
    Calls Try.prog 28 #[.pointer (some ⟨c, 0, none⟩)] w fun e w' => ∃ x n : Nat, PrefOk x n ∧ e = .returned (.agg #[.int .i64 x, .int .i64 n]) ∧ Cur c a len cap w' ∧ Only c w w' := by
  have hcs : c < w.heap.size := cell_size (p := ⟨c, 0, none⟩) H.c0
  have R0 := Lib.hid (VarP.new w PT (.int .i64 0) (.int .i64 0))
  have B0 := Lib.hid ((Below.refl w.heap.size w).alloc (Nat.le_refl _) (.cells #[.int .i64 0, .int .i64 0] PT))
  have HC0 := Lib.hid (H.below B0.out)
  clear H
  go_enter Try.func28, Try.ntmps28
  go_wp2_with fail
  refine (below_any 1024 (by omega) (by omega) _ HC0.out).mono ?_
  rintro e w1 ⟨y, y0, y1, rfl, hc1, ho1⟩
  have R1 := Lib.hid (R0.out.only ho1 (by omega))
  have HC1 := Lib.hid hc1
  have HO1 := Lib.hid ((Only.of_below B0.out).trans ho1)
  obtain ⟨k, rfl⟩ := Int.eq_ofNat_of_zero_le y0
  obtain ⟨m, hm, hm2⟩ : ∃ m : Nat, (167772160 : Int) + (k : Int) = (m : Int) ∧ m ≤ 167773183 := ⟨167772160 + k, by omega, by omega⟩
  clear hc1 ho1 y0 y1
  go_wp2_with fail
  have hcs1 : c < w1.heap.size := cell_size (p := ⟨c, 0, none⟩) HC1.out.c0
  have hb2 : Below w1.heap.size w1 (w1.alloc (.cells #[.int .i64 0, .int .i64 8, .int .i64 22, .int .i64 24, .int .i64 25, .int .i64 26, .int .i64 28, .int .i64 29, .int .i64 30, .int .i64 31, .int .i64 32] 3)) := (Below.refl _ _).alloc (Nat.le_refl _) _
  refine (pickInt_any w1.heap.size 11 lenEdges rfl (by omega) (by omega) (by omega) _ (HC1.out.below hb2) ?_).mono ?_
  · intro j hj
    have h8 : j = 0 ∨ j = 1 ∨ j = 2 ∨ j = 3 ∨ j = 4 ∨ j = 5 ∨ j = 6 ∨ j = 7 ∨ j = 8 ∨ j = 9 ∨ j = 10 := by omega
    rcases h8 with rfl | rfl | rfl | rfl | rfl | rfl | rfl | rfl | rfl | rfl | rfl <;> simp [lenEdges]
  rintro e w2 ⟨z, hz, rfl, hc2, ho2⟩
  obtain ⟨n, rfl, hn⟩ := lenEdges_in z hz
  have R2 := Lib.hid ((R1.out.next hb2).only ho2 (by omega))
  have HC2 := Lib.hid hc2
  have HO2 := Lib.hid ((HO1.out.trans (Only.of_below hb2)).trans ho2)
  have h3 := specPrefixOf_yes m n (by omega) hn
  have hok := firstP_ok m n (by omega) hn
  obtain ⟨f, F⟩ : ∃ f, Hid (f = firstP m n) := ⟨_, rfl⟩
  rw [← F.out] at h3 hok
  have H3 := Lib.hid h3
  have HOK := Lib.hid hok
  clear hc2 ho2 hz hb2 h3 hok R1 HC1 HO1 R0 B0 HC0 hcs1
  go_wp2_with fail
  refine (H3.out _).mono ?_
  rintro e w3 ⟨rfl, hb3⟩
  have ha : Below w3.heap.size w3 (w3.alloc (.cells #[.int .i64 f, .int .i64 n] PT)) := (Below.refl _ _).alloc (Nat.le_refl _) _
  have hr := R2.out.next hb3
  have V4 := Lib.hid (show SD c a len cap w PT w3.heap.size (.int .i64 f) (.int .i64 n) (w3.alloc (.cells #[.int .i64 f, .int .i64 n] PT)) from ⟨(HC2.out.below hb3).below ha, (HO2.out.trans (.of_below hb3)).trans (.of_below ha), hr.next ha, VarP.new _ _ _ _, lt_of_block hr.row, hcs⟩)
  have d0 := V4.out.var.c0
  have d1 := V4.out.var.c1
  have r0 := V4.out.res.c0
  have r1 := V4.out.res.c1
  have g0 := V4.out.res.free 0
  have g1 := V4.out.res.free 1
  have ST := Lib.hid (V4.out.store (.int .i64 f) (.int .i64 n))
  clear hb3 ha hr
  go_wp2_with fail
  have i0 := ST.out.2.c0
  have i1 := ST.out.2.c1
  exact bodyPost_ret (v := .agg #[.int .i64 f, .int .i64 n]) (by simp [results, Try.results28, go_sem, i0, i1]) rfl ⟨f, n, HOK.out, rfl, ST.out.1.1, ST.out.1.2⟩

end Go.Proofs.Ytkfcoldjgijpcac
