/-
  The given l05Byte at every number, and the given Transcript.
  A greeter's cells through a region that draws its order; signatures by any number.
-/
import Derived.Test.YtkjjdoadjhjmbatJ05
import Derived.Test.YtkjjdoadjhjmbatJ10
import Derived.Test.YtkjjdoadjhjmbatJ16
namespace Go.Proofs.Ytkjjdoadjhjmbat
open Go.RowKit

theorem ret_s {a b : ByteArray} (h : a = b) : Ending.returned (.string b) = .returned (.string a) := by rw [h]
theorem u8_wrap (b : UInt8) : IntKind.u8.wrap (b.toNat : Int) = (b.toNat : Int) := by
  have := b.toNat_lt
  rw [IntKind.wrap_u8]
  omega
set_option maxRecDepth 100000 in
set_option maxHeartbeats 800000 in
theorem specByteZ_any (n : Int) (hn0 : -9223372036854775808 ≤ n) (hn1 : n ≤ 9223372036854775807) (w : World) :
    Calls Try.prog 35 #[.int .i64 n] w fun e w' => e = .returned (.string (oneB n)) ∧ Below w.heap.size w w' := by
  have hb := byteZ_nat n
  have hr := run_string_one (P := Try.prog) w 74 9 5 Try.underlying74 Try.underlying5 Try.underlying9 (byteZ n)
  have HO : Hid (oneB n = ⟨#[byteZ n]⟩) := Lib.hid rfl
  generalize byteZ n = b at hb hr HO
  obtain ⟨m, hm⟩ : ∃ m, n.tmod 256 = m := ⟨_, rfl⟩
  have hmn : (0 ≤ m ∧ m = (b.toNat : Int)) ∨ (m < 0 ∧ m + 256 = (b.toNat : Int)) := by
    rcases Int.lt_or_le n 0 with h | h
    · have e1 : n.tmod 256 = -((-n) % 256) := by
        have h2 := Int.neg_tmod (-n) 256
        rw [Int.neg_neg] at h2
        rw [h2, Int.tmod_eq_emod_of_nonneg (by omega)]
      omega
    · have e1 : n.tmod 256 = n % 256 := Int.tmod_eq_emod_of_nonneg h
      omega
  have hb2 := b.toNat_lt
  clear hb
  rcases hmn with ⟨h1, h2⟩ | ⟨h1, h2⟩
  · have h3 : ¬ (m < 0) := by omega
    have h4 : IntKind.u8.wrap m = (b.toNat : Int) := by rw [h2]; exact u8_wrap b
    go_enter Try.func35, Try.ntmps35
    go_wp2_with fail
    go_ret
    exact ⟨ret_s HO.out, (Below.refl _ _).alloc (Nat.le_refl _) _⟩
  · have h5 : IntKind.i64.wrap (m + 256) = (b.toNat : Int) := by rw [IntKind.wrap_i64, h2]; omega
    have h4 : IntKind.u8.wrap (b.toNat : Int) = (b.toNat : Int) := u8_wrap b
    go_enter Try.func35, Try.ntmps35
    go_wp2_with fail
    go_ret
    exact ⟨ret_s HO.out, (Below.refl _ _).alloc (Nat.le_refl _) _⟩

set_option maxRecDepth 100000 in
set_option maxHeartbeats 800000 in
theorem specTranscript_any (x0 x1 x2 x3 x4 : Int) (x5 x6 : ByteArray) (h5 : x5.size ≤ 100000000) (h6 : x6.size ≤ 100000000) (w : World) :
    Calls Try.prog 18 #[.agg #[.int .i64 x0, .int .i64 x1, .int .i64 x2, .int .i64 x3, .int .i64 x4, .string x5, .string x6]] w fun e w' => e = .returned (.string (transB x0 x5 x6)) ∧ Below w.heap.size w w' := by
  have A0 := Lib.hid (VarA.new w GreeterT #[.int .i64 x0, .int .i64 x1, .int .i64 x2, .int .i64 x3, .int .i64 x4, .string x5, .string x6])
  have B0 := Lib.hid ((Below.refl w.heap.size w).alloc (Nat.le_refl _) (.cells #[.int .i64 x0, .int .i64 x1, .int .i64 x2, .int .i64 x3, .int .i64 x4, .string x5, .string x6] GreeterT))
  have s1 : ¬ (9223372036854775807 < x5.size + x6.size) := by omega
  have s2 : ¬ (9223372036854775807 < x6.size + x5.size) := by omega
  obtain ⟨t, HT⟩ : ∃ t, Hid (transB x0 x5 x6 = t) := ⟨_, Lib.hid rfl⟩
  rw [HT.out]
  go_enter Try.func18, Try.ntmps18
  go_upto_region 1 with fail
  generalize w.alloc (.cells #[.int .i64 x0, .int .i64 x1, .int .i64 x2, .int .i64 x3, .int .i64 x4, .string x5, .string x6] GreeterT) = Y0 at *
  have c0 : Y0.cell? ⟨w.heap.size, 0, none⟩ = some (.int .i64 x0) := A0.out.cell 0
  have c5 : Y0.cell? ⟨w.heap.size, 5, none⟩ = some (.string x5) := A0.out.cell 5
  have c6 : Y0.cell? ⟨w.heap.size, 6, none⟩ = some (.string x6) := A0.out.cell 6
  by_cases hr : x0 = 1
  · have k1 : (x0 == 1) = true := by rw [beq_iff_eq]; exact hr
    have HE : Hid (t = x5 ++ x6) := Lib.hid (by rw [← HT.out]; unfold transB; rw [if_pos hr])
    clear hr
    go_wp2_with fail
    go_ret
    exact ⟨ret_s HE.out, B0.out⟩
  · have k1 : (x0 == 1) = false := by rw [beq_eq_false_iff_ne]; exact hr
    have HE : Hid (t = x6 ++ x5) := Lib.hid (by rw [← HT.out]; unfold transB; rw [if_neg hr])
    clear hr
    go_wp2_with fail
    go_ret
    exact ⟨ret_s HE.out, B0.out⟩

end Go.Proofs.Ytkjjdoadjhjmbat
namespace Go.Proofs.Ytkjjdoadjhjmbat
open Go.RowKit

section
variable {V X Y : World} {b : Nat} {x0 x1 x2 x3 x4 : Int} {x5 x6 : ByteArray}
theorem sbg_next (h : X.cell? ⟨b, 0, none⟩ = some (.int .i64 x0) ∧ X.cell? ⟨b, 1, none⟩ = some (.int .i64 x1) ∧ X.cell? ⟨b, 2, none⟩ = some (.int .i64 x2) ∧ X.cell? ⟨b, 3, none⟩ = some (.int .i64 x3) ∧ X.cell? ⟨b, 4, none⟩ = some (.int .i64 x4) ∧ X.cell? ⟨b, 5, none⟩ = some (.string x5) ∧ X.cell? ⟨b, 6, none⟩ = some (.string x6) ∧ Below V.heap.size V X) (hb : Below X.heap.size X Y) : Y.cell? ⟨b, 0, none⟩ = some (.int .i64 x0) ∧ Y.cell? ⟨b, 1, none⟩ = some (.int .i64 x1) ∧ Y.cell? ⟨b, 2, none⟩ = some (.int .i64 x2) ∧ Y.cell? ⟨b, 3, none⟩ = some (.int .i64 x3) ∧ Y.cell? ⟨b, 4, none⟩ = some (.int .i64 x4) ∧ Y.cell? ⟨b, 5, none⟩ = some (.string x5) ∧ Y.cell? ⟨b, 6, none⟩ = some (.string x6) ∧ Below V.heap.size V Y := by
  obtain ⟨h0, h1, h2, h3, h4, h5, h6, h7⟩ := h
  have hg : b < X.heap.size := cell_size (p := ⟨b, 0, none⟩) h0
  exact ⟨by rw [hb.cell (p := ⟨b, 0, none⟩) hg]; exact h0, by rw [hb.cell (p := ⟨b, 1, none⟩) hg]; exact h1, by rw [hb.cell (p := ⟨b, 2, none⟩) hg]; exact h2, by rw [hb.cell (p := ⟨b, 3, none⟩) hg]; exact h3, by rw [hb.cell (p := ⟨b, 4, none⟩) hg]; exact h4, by rw [hb.cell (p := ⟨b, 5, none⟩) hg]; exact h5, by rw [hb.cell (p := ⟨b, 6, none⟩) hg]; exact h6, h7.trans (hb.mono h7.size)⟩
theorem sbg_drew (h : X.cell? ⟨b, 0, none⟩ = some (.int .i64 x0) ∧ X.cell? ⟨b, 1, none⟩ = some (.int .i64 x1) ∧ X.cell? ⟨b, 2, none⟩ = some (.int .i64 x2) ∧ X.cell? ⟨b, 3, none⟩ = some (.int .i64 x3) ∧ X.cell? ⟨b, 4, none⟩ = some (.int .i64 x4) ∧ X.cell? ⟨b, 5, none⟩ = some (.string x5) ∧ X.cell? ⟨b, 6, none⟩ = some (.string x6) ∧ Below V.heap.size V X) : X.drew.cell? ⟨b, 0, none⟩ = some (.int .i64 x0) ∧ X.drew.cell? ⟨b, 1, none⟩ = some (.int .i64 x1) ∧ X.drew.cell? ⟨b, 2, none⟩ = some (.int .i64 x2) ∧ X.drew.cell? ⟨b, 3, none⟩ = some (.int .i64 x3) ∧ X.drew.cell? ⟨b, 4, none⟩ = some (.int .i64 x4) ∧ X.drew.cell? ⟨b, 5, none⟩ = some (.string x5) ∧ X.drew.cell? ⟨b, 6, none⟩ = some (.string x6) ∧ Below V.heap.size V X.drew := sbg_next h ((Below.refl _ X).drew)
theorem sbg_alloc (h : X.cell? ⟨b, 0, none⟩ = some (.int .i64 x0) ∧ X.cell? ⟨b, 1, none⟩ = some (.int .i64 x1) ∧ X.cell? ⟨b, 2, none⟩ = some (.int .i64 x2) ∧ X.cell? ⟨b, 3, none⟩ = some (.int .i64 x3) ∧ X.cell? ⟨b, 4, none⟩ = some (.int .i64 x4) ∧ X.cell? ⟨b, 5, none⟩ = some (.string x5) ∧ X.cell? ⟨b, 6, none⟩ = some (.string x6) ∧ Below V.heap.size V X) (o : Obj) : (X.alloc o).cell? ⟨b, 0, none⟩ = some (.int .i64 x0) ∧ (X.alloc o).cell? ⟨b, 1, none⟩ = some (.int .i64 x1) ∧ (X.alloc o).cell? ⟨b, 2, none⟩ = some (.int .i64 x2) ∧ (X.alloc o).cell? ⟨b, 3, none⟩ = some (.int .i64 x3) ∧ (X.alloc o).cell? ⟨b, 4, none⟩ = some (.int .i64 x4) ∧ (X.alloc o).cell? ⟨b, 5, none⟩ = some (.string x5) ∧ (X.alloc o).cell? ⟨b, 6, none⟩ = some (.string x6) ∧ Below V.heap.size V (X.alloc o) := sbg_next h ((Below.refl _ X).alloc (Nat.le_refl _) o)
theorem sbg_set (h : X.cell? ⟨b, 0, none⟩ = some (.int .i64 x0) ∧ X.cell? ⟨b, 1, none⟩ = some (.int .i64 x1) ∧ X.cell? ⟨b, 2, none⟩ = some (.int .i64 x2) ∧ X.cell? ⟨b, 3, none⟩ = some (.int .i64 x3) ∧ X.cell? ⟨b, 4, none⟩ = some (.int .i64 x4) ∧ X.cell? ⟨b, 5, none⟩ = some (.string x5) ∧ X.cell? ⟨b, 6, none⟩ = some (.string x6) ∧ Below V.heap.size V X) {G : Nat} (j : Nat) (hG : V.heap.size ≤ G) (h9 : b < V.heap.size) (u : Value) : (X.setCell ⟨G, j, none⟩ u).cell? ⟨b, 0, none⟩ = some (.int .i64 x0) ∧ (X.setCell ⟨G, j, none⟩ u).cell? ⟨b, 1, none⟩ = some (.int .i64 x1) ∧ (X.setCell ⟨G, j, none⟩ u).cell? ⟨b, 2, none⟩ = some (.int .i64 x2) ∧ (X.setCell ⟨G, j, none⟩ u).cell? ⟨b, 3, none⟩ = some (.int .i64 x3) ∧ (X.setCell ⟨G, j, none⟩ u).cell? ⟨b, 4, none⟩ = some (.int .i64 x4) ∧ (X.setCell ⟨G, j, none⟩ u).cell? ⟨b, 5, none⟩ = some (.string x5) ∧ (X.setCell ⟨G, j, none⟩ u).cell? ⟨b, 6, none⟩ = some (.string x6) ∧ Below V.heap.size V (X.setCell ⟨G, j, none⟩ u) := by
  obtain ⟨h0, h1, h2, h3, h4, h5, h6, h7⟩ := h
  exact ⟨by rw [World.cell?_setCell_far _ _ _ _ (by show G ≠ b; omega)]; exact h0, by rw [World.cell?_setCell_far _ _ _ _ (by show G ≠ b; omega)]; exact h1, by rw [World.cell?_setCell_far _ _ _ _ (by show G ≠ b; omega)]; exact h2, by rw [World.cell?_setCell_far _ _ _ _ (by show G ≠ b; omega)]; exact h3, by rw [World.cell?_setCell_far _ _ _ _ (by show G ≠ b; omega)]; exact h4, by rw [World.cell?_setCell_far _ _ _ _ (by show G ≠ b; omega)]; exact h5, by rw [World.cell?_setCell_far _ _ _ _ (by show G ≠ b; omega)]; exact h6, h7.setCell (p := ⟨G, j, none⟩) hG u⟩
theorem sbg_store2 (h : X.cell? ⟨b, 0, none⟩ = some (.int .i64 x0) ∧ X.cell? ⟨b, 1, none⟩ = some (.int .i64 x1) ∧ X.cell? ⟨b, 2, none⟩ = some (.int .i64 x2) ∧ X.cell? ⟨b, 3, none⟩ = some (.int .i64 x3) ∧ X.cell? ⟨b, 4, none⟩ = some (.int .i64 x4) ∧ X.cell? ⟨b, 5, none⟩ = some (.string x5) ∧ X.cell? ⟨b, 6, none⟩ = some (.string x6) ∧ Below V.heap.size V X) {G : Nat} (hG : V.heap.size ≤ G) (h9 : b < V.heap.size) (u v : Value) : ((X.setCell ⟨G, 0, none⟩ u).setCell ⟨G, 1, none⟩ v).cell? ⟨b, 0, none⟩ = some (.int .i64 x0) ∧ ((X.setCell ⟨G, 0, none⟩ u).setCell ⟨G, 1, none⟩ v).cell? ⟨b, 1, none⟩ = some (.int .i64 x1) ∧ ((X.setCell ⟨G, 0, none⟩ u).setCell ⟨G, 1, none⟩ v).cell? ⟨b, 2, none⟩ = some (.int .i64 x2) ∧ ((X.setCell ⟨G, 0, none⟩ u).setCell ⟨G, 1, none⟩ v).cell? ⟨b, 3, none⟩ = some (.int .i64 x3) ∧ ((X.setCell ⟨G, 0, none⟩ u).setCell ⟨G, 1, none⟩ v).cell? ⟨b, 4, none⟩ = some (.int .i64 x4) ∧ ((X.setCell ⟨G, 0, none⟩ u).setCell ⟨G, 1, none⟩ v).cell? ⟨b, 5, none⟩ = some (.string x5) ∧ ((X.setCell ⟨G, 0, none⟩ u).setCell ⟨G, 1, none⟩ v).cell? ⟨b, 6, none⟩ = some (.string x6) ∧ Below V.heap.size V ((X.setCell ⟨G, 0, none⟩ u).setCell ⟨G, 1, none⟩ v) := sbg_set (sbg_set h 0 hG h9 u) 1 hG h9 v
theorem sbg_far (h : X.cell? ⟨b, 0, none⟩ = some (.int .i64 x0) ∧ X.cell? ⟨b, 1, none⟩ = some (.int .i64 x1) ∧ X.cell? ⟨b, 2, none⟩ = some (.int .i64 x2) ∧ X.cell? ⟨b, 3, none⟩ = some (.int .i64 x3) ∧ X.cell? ⟨b, 4, none⟩ = some (.int .i64 x4) ∧ X.cell? ⟨b, 5, none⟩ = some (.string x5) ∧ X.cell? ⟨b, 6, none⟩ = some (.string x6) ∧ Below V.heap.size V X) {G : Nat} (j : Nat) (hG : V.heap.size ≤ G) (h9 : G ≠ b) (u : Value) : (X.setCell ⟨G, j, none⟩ u).cell? ⟨b, 0, none⟩ = some (.int .i64 x0) ∧ (X.setCell ⟨G, j, none⟩ u).cell? ⟨b, 1, none⟩ = some (.int .i64 x1) ∧ (X.setCell ⟨G, j, none⟩ u).cell? ⟨b, 2, none⟩ = some (.int .i64 x2) ∧ (X.setCell ⟨G, j, none⟩ u).cell? ⟨b, 3, none⟩ = some (.int .i64 x3) ∧ (X.setCell ⟨G, j, none⟩ u).cell? ⟨b, 4, none⟩ = some (.int .i64 x4) ∧ (X.setCell ⟨G, j, none⟩ u).cell? ⟨b, 5, none⟩ = some (.string x5) ∧ (X.setCell ⟨G, j, none⟩ u).cell? ⟨b, 6, none⟩ = some (.string x6) ∧ Below V.heap.size V (X.setCell ⟨G, j, none⟩ u) := by
  obtain ⟨h0, h1, h2, h3, h4, h5, h6, h7⟩ := h
  exact ⟨by rw [World.cell?_setCell_far _ _ _ _ (by show G ≠ b; omega)]; exact h0, by rw [World.cell?_setCell_far _ _ _ _ (by show G ≠ b; omega)]; exact h1, by rw [World.cell?_setCell_far _ _ _ _ (by show G ≠ b; omega)]; exact h2, by rw [World.cell?_setCell_far _ _ _ _ (by show G ≠ b; omega)]; exact h3, by rw [World.cell?_setCell_far _ _ _ _ (by show G ≠ b; omega)]; exact h4, by rw [World.cell?_setCell_far _ _ _ _ (by show G ≠ b; omega)]; exact h5, by rw [World.cell?_setCell_far _ _ _ _ (by show G ≠ b; omega)]; exact h6, h7.setCell (p := ⟨G, j, none⟩) hG u⟩
theorem sbg_put7 (h : X.cell? ⟨b, 0, none⟩ = some (.int .i64 x0) ∧ X.cell? ⟨b, 1, none⟩ = some (.int .i64 x1) ∧ X.cell? ⟨b, 2, none⟩ = some (.int .i64 x2) ∧ X.cell? ⟨b, 3, none⟩ = some (.int .i64 x3) ∧ X.cell? ⟨b, 4, none⟩ = some (.int .i64 x4) ∧ X.cell? ⟨b, 5, none⟩ = some (.string x5) ∧ X.cell? ⟨b, 6, none⟩ = some (.string x6) ∧ Below V.heap.size V X) {G : Nat} (hG : V.heap.size ≤ G) (h9 : G ≠ b) (u0 u1 u2 u3 u4 u5 u6 : Value) : (((((((X.setCell ⟨G, 0, none⟩ u0).setCell ⟨G, 1, none⟩ u1).setCell ⟨G, 2, none⟩ u2).setCell ⟨G, 3, none⟩ u3).setCell ⟨G, 4, none⟩ u4).setCell ⟨G, 5, none⟩ u5).setCell ⟨G, 6, none⟩ u6).cell? ⟨b, 0, none⟩ = some (.int .i64 x0) ∧ (((((((X.setCell ⟨G, 0, none⟩ u0).setCell ⟨G, 1, none⟩ u1).setCell ⟨G, 2, none⟩ u2).setCell ⟨G, 3, none⟩ u3).setCell ⟨G, 4, none⟩ u4).setCell ⟨G, 5, none⟩ u5).setCell ⟨G, 6, none⟩ u6).cell? ⟨b, 1, none⟩ = some (.int .i64 x1) ∧ (((((((X.setCell ⟨G, 0, none⟩ u0).setCell ⟨G, 1, none⟩ u1).setCell ⟨G, 2, none⟩ u2).setCell ⟨G, 3, none⟩ u3).setCell ⟨G, 4, none⟩ u4).setCell ⟨G, 5, none⟩ u5).setCell ⟨G, 6, none⟩ u6).cell? ⟨b, 2, none⟩ = some (.int .i64 x2) ∧ (((((((X.setCell ⟨G, 0, none⟩ u0).setCell ⟨G, 1, none⟩ u1).setCell ⟨G, 2, none⟩ u2).setCell ⟨G, 3, none⟩ u3).setCell ⟨G, 4, none⟩ u4).setCell ⟨G, 5, none⟩ u5).setCell ⟨G, 6, none⟩ u6).cell? ⟨b, 3, none⟩ = some (.int .i64 x3) ∧ (((((((X.setCell ⟨G, 0, none⟩ u0).setCell ⟨G, 1, none⟩ u1).setCell ⟨G, 2, none⟩ u2).setCell ⟨G, 3, none⟩ u3).setCell ⟨G, 4, none⟩ u4).setCell ⟨G, 5, none⟩ u5).setCell ⟨G, 6, none⟩ u6).cell? ⟨b, 4, none⟩ = some (.int .i64 x4) ∧ (((((((X.setCell ⟨G, 0, none⟩ u0).setCell ⟨G, 1, none⟩ u1).setCell ⟨G, 2, none⟩ u2).setCell ⟨G, 3, none⟩ u3).setCell ⟨G, 4, none⟩ u4).setCell ⟨G, 5, none⟩ u5).setCell ⟨G, 6, none⟩ u6).cell? ⟨b, 5, none⟩ = some (.string x5) ∧ (((((((X.setCell ⟨G, 0, none⟩ u0).setCell ⟨G, 1, none⟩ u1).setCell ⟨G, 2, none⟩ u2).setCell ⟨G, 3, none⟩ u3).setCell ⟨G, 4, none⟩ u4).setCell ⟨G, 5, none⟩ u5).setCell ⟨G, 6, none⟩ u6).cell? ⟨b, 6, none⟩ = some (.string x6) ∧ Below V.heap.size V (((((((X.setCell ⟨G, 0, none⟩ u0).setCell ⟨G, 1, none⟩ u1).setCell ⟨G, 2, none⟩ u2).setCell ⟨G, 3, none⟩ u3).setCell ⟨G, 4, none⟩ u4).setCell ⟨G, 5, none⟩ u5).setCell ⟨G, 6, none⟩ u6) := sbg_far (sbg_far (sbg_far (sbg_far (sbg_far (sbg_far (sbg_far h 0 hG h9 u0) 1 hG h9 u1) 2 hG h9 u2) 3 hG h9 u3) 4 hG h9 u4) 5 hG h9 u5) 6 hG h9 u6
theorem sbg_in {G0 : World} (hv : VarA b GreeterT #[.int .i64 x0, .int .i64 x1, .int .i64 x2, .int .i64 x3, .int .i64 x4, .string x5, .string x6] X) (hb : Below G0.heap.size G0 X) : X.cell? ⟨b, 0, none⟩ = some (.int .i64 x0) ∧ X.cell? ⟨b, 1, none⟩ = some (.int .i64 x1) ∧ X.cell? ⟨b, 2, none⟩ = some (.int .i64 x2) ∧ X.cell? ⟨b, 3, none⟩ = some (.int .i64 x3) ∧ X.cell? ⟨b, 4, none⟩ = some (.int .i64 x4) ∧ X.cell? ⟨b, 5, none⟩ = some (.string x5) ∧ X.cell? ⟨b, 6, none⟩ = some (.string x6) ∧ Below G0.heap.size G0 X := ⟨hv.cell 0, hv.cell 1, hv.cell 2, hv.cell 3, hv.cell 4, hv.cell 5, hv.cell 6, hb⟩
theorem sbg_of (hv : VarA b GreeterT #[.int .i64 x0, .int .i64 x1, .int .i64 x2, .int .i64 x3, .int .i64 x4, .string x5, .string x6] X) : X.cell? ⟨b, 0, none⟩ = some (.int .i64 x0) ∧ X.cell? ⟨b, 1, none⟩ = some (.int .i64 x1) ∧ X.cell? ⟨b, 2, none⟩ = some (.int .i64 x2) ∧ X.cell? ⟨b, 3, none⟩ = some (.int .i64 x3) ∧ X.cell? ⟨b, 4, none⟩ = some (.int .i64 x4) ∧ X.cell? ⟨b, 5, none⟩ = some (.string x5) ∧ X.cell? ⟨b, 6, none⟩ = some (.string x6) ∧ Below X.heap.size X X := ⟨hv.cell 0, hv.cell 1, hv.cell 2, hv.cell 3, hv.cell 4, hv.cell 5, hv.cell 6, Below.refl _ _⟩
end
section
variable {X w : World} {G base : Nat} {T : TypeId} {q0 q1 q2 q3 q4 q5 q6 : Value}
theorem VarA.put7 (h : VarA G T #[q0, q1, q2, q3, q4, q5, q6] X) (u0 u1 u2 u3 u4 u5 u6 : Value) : VarA G T #[u0, u1, u2, u3, u4, u5, u6] (((((((X.setCell ⟨G, 0, none⟩ u0).setCell ⟨G, 1, none⟩ u1).setCell ⟨G, 2, none⟩ u2).setCell ⟨G, 3, none⟩ u3).setCell ⟨G, 4, none⟩ u4).setCell ⟨G, 5, none⟩ u5).setCell ⟨G, 6, none⟩ u6) := by
  have h0 : VarA G T #[u0, q1, q2, q3, q4, q5, q6] (X.setCell ⟨G, 0, none⟩ u0) := h.set 0 u0
  have h1 : VarA G T #[u0, u1, q2, q3, q4, q5, q6] ((X.setCell ⟨G, 0, none⟩ u0).setCell ⟨G, 1, none⟩ u1) := h0.set 1 u1
  have h2 : VarA G T #[u0, u1, u2, q3, q4, q5, q6] (((X.setCell ⟨G, 0, none⟩ u0).setCell ⟨G, 1, none⟩ u1).setCell ⟨G, 2, none⟩ u2) := h1.set 2 u2
  have h3 : VarA G T #[u0, u1, u2, u3, q4, q5, q6] ((((X.setCell ⟨G, 0, none⟩ u0).setCell ⟨G, 1, none⟩ u1).setCell ⟨G, 2, none⟩ u2).setCell ⟨G, 3, none⟩ u3) := h2.set 3 u3
  have h4 : VarA G T #[u0, u1, u2, u3, u4, q5, q6] (((((X.setCell ⟨G, 0, none⟩ u0).setCell ⟨G, 1, none⟩ u1).setCell ⟨G, 2, none⟩ u2).setCell ⟨G, 3, none⟩ u3).setCell ⟨G, 4, none⟩ u4) := h3.set 4 u4
  have h5 : VarA G T #[u0, u1, u2, u3, u4, u5, q6] ((((((X.setCell ⟨G, 0, none⟩ u0).setCell ⟨G, 1, none⟩ u1).setCell ⟨G, 2, none⟩ u2).setCell ⟨G, 3, none⟩ u3).setCell ⟨G, 4, none⟩ u4).setCell ⟨G, 5, none⟩ u5) := h4.set 5 u5
  have h6 : VarA G T #[u0, u1, u2, u3, u4, u5, u6] (((((((X.setCell ⟨G, 0, none⟩ u0).setCell ⟨G, 1, none⟩ u1).setCell ⟨G, 2, none⟩ u2).setCell ⟨G, 3, none⟩ u3).setCell ⟨G, 4, none⟩ u4).setCell ⟨G, 5, none⟩ u5).setCell ⟨G, 6, none⟩ u6) := h5.set 6 u6
  exact h6
theorem below_put7 (h : Below base w X) (hG : base ≤ G) (u0 u1 u2 u3 u4 u5 u6 : Value) : Below base w (((((((X.setCell ⟨G, 0, none⟩ u0).setCell ⟨G, 1, none⟩ u1).setCell ⟨G, 2, none⟩ u2).setCell ⟨G, 3, none⟩ u3).setCell ⟨G, 4, none⟩ u4).setCell ⟨G, 5, none⟩ u5).setCell ⟨G, 6, none⟩ u6) := ((((((h.setCell (p := ⟨G, 0, none⟩) hG _).setCell (p := ⟨G, 1, none⟩) hG _).setCell (p := ⟨G, 2, none⟩) hG _).setCell (p := ⟨G, 3, none⟩) hG _).setCell (p := ⟨G, 4, none⟩) hG _).setCell (p := ⟨G, 5, none⟩) hG _).setCell (p := ⟨G, 6, none⟩) hG _
end
end Go.Proofs.Ytkjjdoadjhjmbat
