/-
  The program's meetingOf: both greeters, made of four seeds.
-/
import Derived.Test.YtkjjdoadjhjmbauGreatDoorJ32
namespace Go.Proofs.YtkjjdoadjhjmbauGreatDoor
open Go.RowKit

/-- The result and the meeting in their variables. -/
structure MZ (w : World) (p0 p1 p2 p3 p4 p5 p6 q0 q1 q2 q3 q4 q5 q6 : Value) (X : World) : Prop where
  r : VarA w.heap.size MeetT #[.int .i64 0, .int .i64 0, .int .i64 0, .int .i64 0, .int .i64 0, .string ⟨#[]⟩, .string ⟨#[]⟩, .int .i64 0, .int .i64 0, .int .i64 0, .int .i64 0, .int .i64 0, .string ⟨#[]⟩, .string ⟨#[]⟩, .slice none 0 0, .slice none 0 0] X
  v : VarA (w.heap.size + 1) MeetT #[p0, p1, p2, p3, p4, p5, p6, q0, q1, q2, q3, q4, q5, q6, .slice none 0 0, .slice none 0 0] X
  below : Below w.heap.size w X
section
variable {w X Y : World} {p0 p1 p2 p3 p4 p5 p6 q0 q1 q2 q3 q4 q5 q6 : Value}
theorem MZ.next (h : MZ w (p0) (p1) (p2) (p3) (p4) (p5) (p6) (q0) (q1) (q2) (q3) (q4) (q5) (q6) X) (hb : Below X.heap.size X Y) : MZ w (p0) (p1) (p2) (p3) (p4) (p5) (p6) (q0) (q1) (q2) (q3) (q4) (q5) (q6) Y := ⟨h.r.next hb, h.v.next hb, h.below.trans (hb.mono h.below.size)⟩
theorem MZ.first (h : MZ w (p0) (p1) (p2) (p3) (p4) (p5) (p6) (q0) (q1) (q2) (q3) (q4) (q5) (q6) X) (u0 u1 u2 u3 u4 u5 u6 : Value) : MZ w (u0) (u1) (u2) (u3) (u4) (u5) (u6) (q0) (q1) (q2) (q3) (q4) (q5) (q6) (((((((X.setCell ⟨w.heap.size + 1, 0, none⟩ (u0)).setCell ⟨w.heap.size + 1, 1, none⟩ (u1)).setCell ⟨w.heap.size + 1, 2, none⟩ (u2)).setCell ⟨w.heap.size + 1, 3, none⟩ (u3)).setCell ⟨w.heap.size + 1, 4, none⟩ (u4)).setCell ⟨w.heap.size + 1, 5, none⟩ (u5)).setCell ⟨w.heap.size + 1, 6, none⟩ (u6)) := by
  have l0 := h.v
  have l1 : VarA (w.heap.size + 1) MeetT #[u0, p1, p2, p3, p4, p5, p6, q0, q1, q2, q3, q4, q5, q6, .slice none 0 0, .slice none 0 0] (X.setCell ⟨w.heap.size + 1, 0, none⟩ u0) := l0.set 0 _
  have l2 : VarA (w.heap.size + 1) MeetT #[u0, u1, p2, p3, p4, p5, p6, q0, q1, q2, q3, q4, q5, q6, .slice none 0 0, .slice none 0 0] ((X.setCell ⟨w.heap.size + 1, 0, none⟩ u0).setCell ⟨w.heap.size + 1, 1, none⟩ u1) := l1.set 1 _
  have l3 : VarA (w.heap.size + 1) MeetT #[u0, u1, u2, p3, p4, p5, p6, q0, q1, q2, q3, q4, q5, q6, .slice none 0 0, .slice none 0 0] (((X.setCell ⟨w.heap.size + 1, 0, none⟩ u0).setCell ⟨w.heap.size + 1, 1, none⟩ u1).setCell ⟨w.heap.size + 1, 2, none⟩ u2) := l2.set 2 _
  have l4 : VarA (w.heap.size + 1) MeetT #[u0, u1, u2, u3, p4, p5, p6, q0, q1, q2, q3, q4, q5, q6, .slice none 0 0, .slice none 0 0] ((((X.setCell ⟨w.heap.size + 1, 0, none⟩ u0).setCell ⟨w.heap.size + 1, 1, none⟩ u1).setCell ⟨w.heap.size + 1, 2, none⟩ u2).setCell ⟨w.heap.size + 1, 3, none⟩ u3) := l3.set 3 _
  have l5 : VarA (w.heap.size + 1) MeetT #[u0, u1, u2, u3, u4, p5, p6, q0, q1, q2, q3, q4, q5, q6, .slice none 0 0, .slice none 0 0] (((((X.setCell ⟨w.heap.size + 1, 0, none⟩ u0).setCell ⟨w.heap.size + 1, 1, none⟩ u1).setCell ⟨w.heap.size + 1, 2, none⟩ u2).setCell ⟨w.heap.size + 1, 3, none⟩ u3).setCell ⟨w.heap.size + 1, 4, none⟩ u4) := l4.set 4 _
  have l6 : VarA (w.heap.size + 1) MeetT #[u0, u1, u2, u3, u4, u5, p6, q0, q1, q2, q3, q4, q5, q6, .slice none 0 0, .slice none 0 0] ((((((X.setCell ⟨w.heap.size + 1, 0, none⟩ u0).setCell ⟨w.heap.size + 1, 1, none⟩ u1).setCell ⟨w.heap.size + 1, 2, none⟩ u2).setCell ⟨w.heap.size + 1, 3, none⟩ u3).setCell ⟨w.heap.size + 1, 4, none⟩ u4).setCell ⟨w.heap.size + 1, 5, none⟩ u5) := l5.set 5 _
  have l7 : VarA (w.heap.size + 1) MeetT #[u0, u1, u2, u3, u4, u5, u6, q0, q1, q2, q3, q4, q5, q6, .slice none 0 0, .slice none 0 0] (((((((X.setCell ⟨w.heap.size + 1, 0, none⟩ u0).setCell ⟨w.heap.size + 1, 1, none⟩ u1).setCell ⟨w.heap.size + 1, 2, none⟩ u2).setCell ⟨w.heap.size + 1, 3, none⟩ u3).setCell ⟨w.heap.size + 1, 4, none⟩ u4).setCell ⟨w.heap.size + 1, 5, none⟩ u5).setCell ⟨w.heap.size + 1, 6, none⟩ u6) := l6.set 6 _
  exact ⟨(((((((h.r.off 0 u0 (q := w.heap.size + 1) (by omega)).off 1 u1 (q := w.heap.size + 1) (by omega)).off 2 u2 (q := w.heap.size + 1) (by omega)).off 3 u3 (q := w.heap.size + 1) (by omega)).off 4 u4 (q := w.heap.size + 1) (by omega)).off 5 u5 (q := w.heap.size + 1) (by omega)).off 6 u6 (q := w.heap.size + 1) (by omega)), l7, (((((((h.below.setCell (p := ⟨w.heap.size + 1, 0, none⟩) (Nat.le_succ _) (u0)).setCell (p := ⟨w.heap.size + 1, 1, none⟩) (Nat.le_succ _) (u1)).setCell (p := ⟨w.heap.size + 1, 2, none⟩) (Nat.le_succ _) (u2)).setCell (p := ⟨w.heap.size + 1, 3, none⟩) (Nat.le_succ _) (u3)).setCell (p := ⟨w.heap.size + 1, 4, none⟩) (Nat.le_succ _) (u4)).setCell (p := ⟨w.heap.size + 1, 5, none⟩) (Nat.le_succ _) (u5)).setCell (p := ⟨w.heap.size + 1, 6, none⟩) (Nat.le_succ _) (u6))⟩
theorem MZ.second (h : MZ w (p0) (p1) (p2) (p3) (p4) (p5) (p6) (q0) (q1) (q2) (q3) (q4) (q5) (q6) X) (u0 u1 u2 u3 u4 u5 u6 : Value) : MZ w (p0) (p1) (p2) (p3) (p4) (p5) (p6) (u0) (u1) (u2) (u3) (u4) (u5) (u6) (((((((X.setCell ⟨w.heap.size + 1, 7, none⟩ (u0)).setCell ⟨w.heap.size + 1, 8, none⟩ (u1)).setCell ⟨w.heap.size + 1, 9, none⟩ (u2)).setCell ⟨w.heap.size + 1, 10, none⟩ (u3)).setCell ⟨w.heap.size + 1, 11, none⟩ (u4)).setCell ⟨w.heap.size + 1, 12, none⟩ (u5)).setCell ⟨w.heap.size + 1, 13, none⟩ (u6)) := by
  have l0 := h.v
  have l1 : VarA (w.heap.size + 1) MeetT #[p0, p1, p2, p3, p4, p5, p6, u0, q1, q2, q3, q4, q5, q6, .slice none 0 0, .slice none 0 0] (X.setCell ⟨w.heap.size + 1, 7, none⟩ u0) := l0.set 7 _
  have l2 : VarA (w.heap.size + 1) MeetT #[p0, p1, p2, p3, p4, p5, p6, u0, u1, q2, q3, q4, q5, q6, .slice none 0 0, .slice none 0 0] ((X.setCell ⟨w.heap.size + 1, 7, none⟩ u0).setCell ⟨w.heap.size + 1, 8, none⟩ u1) := l1.set 8 _
  have l3 : VarA (w.heap.size + 1) MeetT #[p0, p1, p2, p3, p4, p5, p6, u0, u1, u2, q3, q4, q5, q6, .slice none 0 0, .slice none 0 0] (((X.setCell ⟨w.heap.size + 1, 7, none⟩ u0).setCell ⟨w.heap.size + 1, 8, none⟩ u1).setCell ⟨w.heap.size + 1, 9, none⟩ u2) := l2.set 9 _
  have l4 : VarA (w.heap.size + 1) MeetT #[p0, p1, p2, p3, p4, p5, p6, u0, u1, u2, u3, q4, q5, q6, .slice none 0 0, .slice none 0 0] ((((X.setCell ⟨w.heap.size + 1, 7, none⟩ u0).setCell ⟨w.heap.size + 1, 8, none⟩ u1).setCell ⟨w.heap.size + 1, 9, none⟩ u2).setCell ⟨w.heap.size + 1, 10, none⟩ u3) := l3.set 10 _
  have l5 : VarA (w.heap.size + 1) MeetT #[p0, p1, p2, p3, p4, p5, p6, u0, u1, u2, u3, u4, q5, q6, .slice none 0 0, .slice none 0 0] (((((X.setCell ⟨w.heap.size + 1, 7, none⟩ u0).setCell ⟨w.heap.size + 1, 8, none⟩ u1).setCell ⟨w.heap.size + 1, 9, none⟩ u2).setCell ⟨w.heap.size + 1, 10, none⟩ u3).setCell ⟨w.heap.size + 1, 11, none⟩ u4) := l4.set 11 _
  have l6 : VarA (w.heap.size + 1) MeetT #[p0, p1, p2, p3, p4, p5, p6, u0, u1, u2, u3, u4, u5, q6, .slice none 0 0, .slice none 0 0] ((((((X.setCell ⟨w.heap.size + 1, 7, none⟩ u0).setCell ⟨w.heap.size + 1, 8, none⟩ u1).setCell ⟨w.heap.size + 1, 9, none⟩ u2).setCell ⟨w.heap.size + 1, 10, none⟩ u3).setCell ⟨w.heap.size + 1, 11, none⟩ u4).setCell ⟨w.heap.size + 1, 12, none⟩ u5) := l5.set 12 _
  have l7 : VarA (w.heap.size + 1) MeetT #[p0, p1, p2, p3, p4, p5, p6, u0, u1, u2, u3, u4, u5, u6, .slice none 0 0, .slice none 0 0] (((((((X.setCell ⟨w.heap.size + 1, 7, none⟩ u0).setCell ⟨w.heap.size + 1, 8, none⟩ u1).setCell ⟨w.heap.size + 1, 9, none⟩ u2).setCell ⟨w.heap.size + 1, 10, none⟩ u3).setCell ⟨w.heap.size + 1, 11, none⟩ u4).setCell ⟨w.heap.size + 1, 12, none⟩ u5).setCell ⟨w.heap.size + 1, 13, none⟩ u6) := l6.set 13 _
  exact ⟨(((((((h.r.off 7 u0 (q := w.heap.size + 1) (by omega)).off 8 u1 (q := w.heap.size + 1) (by omega)).off 9 u2 (q := w.heap.size + 1) (by omega)).off 10 u3 (q := w.heap.size + 1) (by omega)).off 11 u4 (q := w.heap.size + 1) (by omega)).off 12 u5 (q := w.heap.size + 1) (by omega)).off 13 u6 (q := w.heap.size + 1) (by omega)), l7, (((((((h.below.setCell (p := ⟨w.heap.size + 1, 7, none⟩) (Nat.le_succ _) (u0)).setCell (p := ⟨w.heap.size + 1, 8, none⟩) (Nat.le_succ _) (u1)).setCell (p := ⟨w.heap.size + 1, 9, none⟩) (Nat.le_succ _) (u2)).setCell (p := ⟨w.heap.size + 1, 10, none⟩) (Nat.le_succ _) (u3)).setCell (p := ⟨w.heap.size + 1, 11, none⟩) (Nat.le_succ _) (u4)).setCell (p := ⟨w.heap.size + 1, 12, none⟩) (Nat.le_succ _) (u5)).setCell (p := ⟨w.heap.size + 1, 13, none⟩) (Nat.le_succ _) (u6))⟩
theorem MZ.new : MZ w (.int .i64 0) (.int .i64 0) (.int .i64 0) (.int .i64 0) (.int .i64 0) (.string ⟨#[]⟩) (.string ⟨#[]⟩) (.int .i64 0) (.int .i64 0) (.int .i64 0) (.int .i64 0) (.int .i64 0) (.string ⟨#[]⟩) (.string ⟨#[]⟩) ((w.alloc (.cells #[.int .i64 0, .int .i64 0, .int .i64 0, .int .i64 0, .int .i64 0, .string ⟨#[]⟩, .string ⟨#[]⟩, .int .i64 0, .int .i64 0, .int .i64 0, .int .i64 0, .int .i64 0, .string ⟨#[]⟩, .string ⟨#[]⟩, .slice none 0 0, .slice none 0 0] MeetT)).alloc (.cells #[.int .i64 0, .int .i64 0, .int .i64 0, .int .i64 0, .int .i64 0, .string ⟨#[]⟩, .string ⟨#[]⟩, .int .i64 0, .int .i64 0, .int .i64 0, .int .i64 0, .int .i64 0, .string ⟨#[]⟩, .string ⟨#[]⟩, .slice none 0 0, .slice none 0 0] MeetT)) := by
  have h2 := VarA.new (w.alloc (.cells #[.int .i64 0, .int .i64 0, .int .i64 0, .int .i64 0, .int .i64 0, .string ⟨#[]⟩, .string ⟨#[]⟩, .int .i64 0, .int .i64 0, .int .i64 0, .int .i64 0, .int .i64 0, .string ⟨#[]⟩, .string ⟨#[]⟩, .slice none 0 0, .slice none 0 0] MeetT)) MeetT #[.int .i64 0, .int .i64 0, .int .i64 0, .int .i64 0, .int .i64 0, .string ⟨#[]⟩, .string ⟨#[]⟩, .int .i64 0, .int .i64 0, .int .i64 0, .int .i64 0, .int .i64 0, .string ⟨#[]⟩, .string ⟨#[]⟩, .slice none 0 0, .slice none 0 0]
  rw [show (w.alloc (.cells #[.int .i64 0, .int .i64 0, .int .i64 0, .int .i64 0, .int .i64 0, .string ⟨#[]⟩, .string ⟨#[]⟩, .int .i64 0, .int .i64 0, .int .i64 0, .int .i64 0, .int .i64 0, .string ⟨#[]⟩, .string ⟨#[]⟩, .slice none 0 0, .slice none 0 0] MeetT)).heap.size = w.heap.size + 1 by simp] at h2
  exact ⟨(VarA.new w MeetT #[.int .i64 0, .int .i64 0, .int .i64 0, .int .i64 0, .int .i64 0, .string ⟨#[]⟩, .string ⟨#[]⟩, .int .i64 0, .int .i64 0, .int .i64 0, .int .i64 0, .int .i64 0, .string ⟨#[]⟩, .string ⟨#[]⟩, .slice none 0 0, .slice none 0 0]).alloc _, h2, ((Below.refl w.heap.size w).alloc (Nat.le_refl _) _).alloc (by simp) _⟩
end
theorem role_first (w : World) : (Instr.index 95 (.agg #[.int .i64 1, .int .i64 2]) (.int .i64 0)).run Tryz.prog w = .ok (.int .i64 1) w := by kernel_rfl
theorem role_second (w : World) : (Instr.index 95 (.agg #[.int .i64 1, .int .i64 2]) (.int .i64 1)).run Tryz.prog w = .ok (.int .i64 2) w := by kernel_rfl
theorem four_seeds {w : World} {v : Value} {s0 s1 s2 s3 : ByteArray} (h : layStringS.rd w [v] [s0, s1, s2, s3]) : ∃ g off cap, v = .slice (some ⟨g, off, none⟩) 4 cap ∧ g < w.heap.size ∧ w.cell? ⟨g, off, none⟩ = some (.string s0) ∧ w.cell? ⟨g, off + 1, none⟩ = some (.string s1) ∧ w.cell? ⟨g, off + 2, none⟩ = some (.string s2) ∧ w.cell? ⟨g, off + 3, none⟩ = some (.string s3) := by
  obtain ⟨ao, cap, hv⟩ := rows_form h
  subst hv
  obtain ⟨g, off, cs, hao, hg, -, -⟩ := rows_elem h 0 _ rfl
  subst hao
  have key : ∀ j x, [s0, s1, s2, s3][j]? = some x → w.cell? ⟨g, off + j, none⟩ = some (.string x) := by
    intro j x hj
    obtain ⟨g2, off2, cs2, hv2, -, hr, hc⟩ := rows_elem h j x hj
    simp only [Option.some.injEq, Addr.mk.injEq, and_true] at hv2
    obtain ⟨rfl, rfl⟩ := hv2
    rw [layString_rd] at hr
    subst hr
    have h9 := hc 0 _ rfl
    rw [str_k] at h9
    exact h9
  exact ⟨g, off, cap, rfl, hg, (by have h9 := key 0 _ rfl; rw [Nat.add_zero] at h9; exact h9), key 1 _ rfl, key 2 _ rfl, key 3 _ rfl⟩

set_option maxRecDepth 100000 in
set_option maxHeartbeats 6400000 in
theorem meetingOf_any (s0 s1 s2 s3 : ByteArray) (z0 : s0.size ≤ 1048576) (z1 : s1.size ≤ 1048576) (z2 : s2.size ≤ 1048576) (z3 : s3.size ≤ 1048576) (u : Value) (w : World) (h : layStringS.rd w [u] [s0, s1, s2, s3]) (hK0 : LaidK w) (sa sb sc sd pa pb : Int) (hsa : sa = (secretP s0 : Nat)) (hsb : sb = (secretP s1 : Nat)) (hsc : sc = (secretP s2 : Nat)) (hsd : sd = (secretP s3 : Nat)) (hpa : pa = (publicP (secretP s1) : Nat)) (hpb : pb = (publicP (secretP s0) : Nat)) :
    Calls Tryz.prog 37 #[u] w fun e w' => e = .returned (.agg #[.int .i64 1, .int .i64 sa, .int .i64 pa, .int .i64 sc, .int .i64 0, .string ⟨#[]⟩, .string ⟨#[]⟩, .int .i64 2, .int .i64 sb, .int .i64 pb, .int .i64 sd, .int .i64 0, .string ⟨#[]⟩, .string ⟨#[]⟩, .slice none 0 0, .slice none 0 0]) ∧ Below w.heap.size w w' := by
  obtain ⟨g, off, cap, rfl, hg, k0, k1, k2, k3⟩ := four_seeds h
  have HS : Hid (∀ X, Below w.heap.size w X → X.cell? ⟨g, off, none⟩ = some (.string s0) ∧ X.cell? ⟨g, off + 1, none⟩ = some (.string s1) ∧ X.cell? ⟨g, off + 2, none⟩ = some (.string s2) ∧ X.cell? ⟨g, off + 3, none⟩ = some (.string s3)) := Lib.hid (fun X hb => ⟨(hb.cell (p := ⟨g, off, none⟩) hg).trans k0, (hb.cell (p := ⟨g, off + 1, none⟩) hg).trans k1, (hb.cell (p := ⟨g, off + 2, none⟩) hg).trans k2, (hb.cell (p := ⟨g, off + 3, none⟩) hg).trans k3⟩)
  have HK : Hid (∀ X, Below w.heap.size w X → LaidK X) := Lib.hid (fun X hb => hK0.stays hb (Nat.le_refl _))
  have M0 := Lib.hid (MZ.new (w := w))
  have HSA := Lib.hid hsa
  have HSB := Lib.hid hsb
  have HSC := Lib.hid hsc
  have HSD := Lib.hid hsd
  have HPA := Lib.hid hpa
  have HPB := Lib.hid hpb
  clear h k0 k1 k2 k3 hK0 hsa hsb hsc hsd hpa hpb
  go_enter Tryz.func37, Tryz.ntmps37
  go_upto_region 2 with fail
  generalize (w.alloc (.cells #[.int .i64 0, .int .i64 0, .int .i64 0, .int .i64 0, .int .i64 0, .string ⟨#[]⟩, .string ⟨#[]⟩, .int .i64 0, .int .i64 0, .int .i64 0, .int .i64 0, .int .i64 0, .string ⟨#[]⟩, .string ⟨#[]⟩, .slice none 0 0, .slice none 0 0] MeetT)).alloc (.cells #[.int .i64 0, .int .i64 0, .int .i64 0, .int .i64 0, .int .i64 0, .string ⟨#[]⟩, .string ⟨#[]⟩, .int .i64 0, .int .i64 0, .int .i64 0, .int .i64 0, .int .i64 0, .string ⟨#[]⟩, .string ⟨#[]⟩, .slice none 0 0, .slice none 0 0] MeetT) = Y0 at *
  go_wp2_with fail
  go_loopw [8] (fun c wr => (c = .int .i64 0 ∧ Hid (MZ w (.int .i64 0) (.int .i64 0) (.int .i64 0) (.int .i64 0) (.int .i64 0) (.string ⟨#[]⟩) (.string ⟨#[]⟩) (.int .i64 0) (.int .i64 0) (.int .i64 0) (.int .i64 0) (.int .i64 0) (.string ⟨#[]⟩) (.string ⟨#[]⟩) wr)) ∨ (c = .int .i64 1 ∧ Hid (MZ w (.int .i64 1) (.int .i64 sa) (.int .i64 pa) (.int .i64 sc) (.int .i64 0) (.string ⟨#[]⟩) (.string ⟨#[]⟩) (.int .i64 0) (.int .i64 0) (.int .i64 0) (.int .i64 0) (.int .i64 0) (.string ⟨#[]⟩) (.string ⟨#[]⟩) wr)) ∨ (c = .int .i64 2 ∧ Hid (MZ w (.int .i64 1) (.int .i64 sa) (.int .i64 pa) (.int .i64 sc) (.int .i64 0) (.string ⟨#[]⟩) (.string ⟨#[]⟩) (.int .i64 2) (.int .i64 sb) (.int .i64 pb) (.int .i64 sd) (.int .i64 0) (.string ⟨#[]⟩) (.string ⟨#[]⟩) wr))) (fun c _ => 2 - (intOf c).toNat)
  case atStart => exact .inl ⟨rfl, M0⟩
  case round =>
    clear M0
    rcases hrel with ⟨rfl, M⟩ | ⟨rfl, M⟩ | ⟨rfl, M⟩
    · have s5 : wr.cell? ⟨g, off + 1, none⟩ = some (.string s1) := (HS.out wr M.out.below).2.1
      have K1 := Lib.hid (implSecretOf_any s1 (by omega) wr (HK.out wr M.out.below))
      rw [← HSB.out] at K1
      have RI := role_first
      go_wp2_with fail
      refine K1.out.mono ?_
      rintro e V1 ⟨rfl, hb⟩
      have M1 := Lib.hid (M.out.next hb)
      have K2 : Hid (Calls Tryz.prog 55 #[.int .i64 sb] V1 fun e Y => e = .returned (.int .i64 pa) ∧ Below V1.heap.size V1 Y) := Lib.hid (by
        have h9 := secretP_in s1
        rw [HSB.out, HPA.out]
        exact implPublicOf_yes _ (by omega) (by omega) V1)
      clear hb K1 M s5 RI
      go_wp2_with fail
      refine K2.out.mono ?_
      rintro e V2 ⟨rfl, hb⟩
      have M2 := Lib.hid (M1.out.next hb)
      clear hb K2 M1
      have KN : Hid (∀ X, (X.cell? ⟨g, off, none⟩ = some (.string s0) ∧ X.cell? ⟨g, off + 2, none⟩ = some (.string s2) ∧ ∃ v0 v1 v2 v3 v4 v5 v6, MZ w (v0) (v1) (v2) (v3) (v4) (v5) (v6) (.int .i64 0) (.int .i64 0) (.int .i64 0) (.int .i64 0) (.int .i64 0) (.string ⟨#[]⟩) (.string ⟨#[]⟩) X) → Calls Tryz.prog 57 #[.int .i64 1, .string s0, .string s2, .int .i64 pa] X fun e Y => e = .returned (.tuple #[.agg #[.int .i64 1, .int .i64 sa, .int .i64 pa, .int .i64 sc, .int .i64 0, .string ⟨#[]⟩, .string ⟨#[]⟩], .bool true]) ∧ (Y.cell? ⟨g, off, none⟩ = some (.string s0) ∧ Y.cell? ⟨g, off + 2, none⟩ = some (.string s2) ∧ ∃ v0 v1 v2 v3 v4 v5 v6, MZ w (v0) (v1) (v2) (v3) (v4) (v5) (v6) (.int .i64 0) (.int .i64 0) (.int .i64 0) (.int .i64 0) (.int .i64 0) (.string ⟨#[]⟩) (.string ⟨#[]⟩) Y)) := Lib.hid (fun X hX => by
        obtain ⟨h0, h2, v0, v1, v2, v3, v4, v5, v6, hv⟩ := hX
        refine (implGreeterNew_yes 1 pa s0 s2 ⟨by omega, by rw [HPA.out]; exact pub_secret s1⟩ z0 z2 X (HK.out X hv.below)).mono ?_
        rintro e Y ⟨rfl, hb⟩
        refine ⟨by rw [HSA.out, HSC.out], (hb.cell (p := ⟨g, off, none⟩) (cell_size (p := ⟨g, off, none⟩) h0)).trans h0, (hb.cell (p := ⟨g, off + 2, none⟩) (cell_size (p := ⟨g, off + 2, none⟩) h2)).trans h2, v0, v1, v2, v3, v4, v5, v6, hv.next hb⟩)
      have E0 : Hid (V2.drew.cell? ⟨g, off, none⟩ = some (.string s0) ∧ V2.drew.cell? ⟨g, off + 2, none⟩ = some (.string s2) ∧ ∃ v0 v1 v2 v3 v4 v5 v6, MZ w (v0) (v1) (v2) (v3) (v4) (v5) (v6) (.int .i64 0) (.int .i64 0) (.int .i64 0) (.int .i64 0) (.int .i64 0) (.string ⟨#[]⟩) (.string ⟨#[]⟩) V2.drew) := Lib.hid (by
        have h9 := M2.out.next ((Below.refl _ _).drew)
        have hS := HS.out _ h9.below
        exact ⟨hS.1, hS.2.2.1, _, _, _, _, _, _, _, h9⟩)
      have SS : Hid (∀ X, (X.cell? ⟨g, off, none⟩ = some (.string s0) ∧ X.cell? ⟨g, off + 2, none⟩ = some (.string s2) ∧ ∃ v0 v1 v2 v3 v4 v5 v6, MZ w (v0) (v1) (v2) (v3) (v4) (v5) (v6) (.int .i64 0) (.int .i64 0) (.int .i64 0) (.int .i64 0) (.int .i64 0) (.string ⟨#[]⟩) (.string ⟨#[]⟩) X) → ((((((((X.setCell ⟨w.heap.size + 1, 0, none⟩ (.int .i64 1)).setCell ⟨w.heap.size + 1, 1, none⟩ (.int .i64 sa)).setCell ⟨w.heap.size + 1, 2, none⟩ (.int .i64 pa)).setCell ⟨w.heap.size + 1, 3, none⟩ (.int .i64 sc)).setCell ⟨w.heap.size + 1, 4, none⟩ (.int .i64 0)).setCell ⟨w.heap.size + 1, 5, none⟩ (.string ⟨#[]⟩)).setCell ⟨w.heap.size + 1, 6, none⟩ (.string ⟨#[]⟩)).cell? ⟨g, off, none⟩ = some (.string s0) ∧ (((((((X.setCell ⟨w.heap.size + 1, 0, none⟩ (.int .i64 1)).setCell ⟨w.heap.size + 1, 1, none⟩ (.int .i64 sa)).setCell ⟨w.heap.size + 1, 2, none⟩ (.int .i64 pa)).setCell ⟨w.heap.size + 1, 3, none⟩ (.int .i64 sc)).setCell ⟨w.heap.size + 1, 4, none⟩ (.int .i64 0)).setCell ⟨w.heap.size + 1, 5, none⟩ (.string ⟨#[]⟩)).setCell ⟨w.heap.size + 1, 6, none⟩ (.string ⟨#[]⟩)).cell? ⟨g, off + 2, none⟩ = some (.string s2) ∧ ∃ v0 v1 v2 v3 v4 v5 v6, MZ w (v0) (v1) (v2) (v3) (v4) (v5) (v6) (.int .i64 0) (.int .i64 0) (.int .i64 0) (.int .i64 0) (.int .i64 0) (.string ⟨#[]⟩) (.string ⟨#[]⟩) (((((((X.setCell ⟨w.heap.size + 1, 0, none⟩ (.int .i64 1)).setCell ⟨w.heap.size + 1, 1, none⟩ (.int .i64 sa)).setCell ⟨w.heap.size + 1, 2, none⟩ (.int .i64 pa)).setCell ⟨w.heap.size + 1, 3, none⟩ (.int .i64 sc)).setCell ⟨w.heap.size + 1, 4, none⟩ (.int .i64 0)).setCell ⟨w.heap.size + 1, 5, none⟩ (.string ⟨#[]⟩)).setCell ⟨w.heap.size + 1, 6, none⟩ (.string ⟨#[]⟩)))) := Lib.hid (fun X hX => by
        obtain ⟨h0, h2, v0, v1, v2, v3, v4, v5, v6, hv⟩ := hX
        have h9 := hv.first (.int .i64 1) (.int .i64 sa) (.int .i64 pa) (.int .i64 sc) (.int .i64 0) (.string ⟨#[]⟩) (.string ⟨#[]⟩)
        have hS := HS.out _ h9.below
        exact ⟨hS.1, hS.2.2.1, _, _, _, _, _, _, _, h9⟩)
      go_upto_region 6 with fail
      have hw9 : IntKind.i64.wrap 2 = 2 := by rw [IntKind.wrap_i64]; omega
      have hw8 : IntKind.i64.wrap (2 + 0) = 2 := by rw [IntKind.wrap_i64]; omega
      go_region_held3 (fun X => X.cell? ⟨g, off, none⟩ = some (.string s0) ∧ X.cell? ⟨g, off + 2, none⟩ = some (.string s2) ∧ ∃ v0 v1 v2 v3 v4 v5 v6, MZ w (v0) (v1) (v2) (v3) (v4) (v5) (v6) (.int .i64 0) (.int .i64 0) (.int .i64 0) (.int .i64 0) (.int .i64 0) (.string ⟨#[]⟩) (.string ⟨#[]⟩) X) (first | (with_reducible assumption) | (with_reducible exact E0.out) | (exact SS.out _ (by assumption))) (first | (go_at_call 57; refine (KN.out _ (by assumption)).mono ?_; rintro e v9 ⟨rfl, hS⟩; (obtain ⟨_, _, v0, v1, v2, v3, v4, v5, v6, hv⟩ := id hS; have c0_ := hv.v.cell 0; have g0_ := hv.v.free 0; have c1_ := hv.v.cell 1; have g1_ := hv.v.free 1; have c2_ := hv.v.cell 2; have g2_ := hv.v.free 2; have c3_ := hv.v.cell 3; have g3_ := hv.v.free 3; have c4_ := hv.v.cell 4; have g4_ := hv.v.free 4; have c5_ := hv.v.cell 5; have g5_ := hv.v.free 5; have c6_ := hv.v.cell 6; have g6_ := hv.v.free 6)))
      all_goals
        have MX := Lib.hid (hv.first (.int .i64 1) (.int .i64 sa) (.int .i64 pa) (.int .i64 sc) (.int .i64 0) (.string ⟨#[]⟩) (.string ⟨#[]⟩))
        go_wp2_with fail
        go_round
        case rel => exact .inr (.inl ⟨by go_num, MX⟩)
        case measure => simp [intOf]
    · have s5 : wr.cell? ⟨g, off, none⟩ = some (.string s0) := (HS.out wr M.out.below).1
      have K1 := Lib.hid (implSecretOf_any s0 (by omega) wr (HK.out wr M.out.below))
      rw [← HSA.out] at K1
      have RI := role_second
      go_wp2_with fail
      refine K1.out.mono ?_
      rintro e V1 ⟨rfl, hb⟩
      have M1 := Lib.hid (M.out.next hb)
      have K2 : Hid (Calls Tryz.prog 55 #[.int .i64 sa] V1 fun e Y => e = .returned (.int .i64 pb) ∧ Below V1.heap.size V1 Y) := Lib.hid (by
        have h9 := secretP_in s0
        rw [HSA.out, HPB.out]
        exact implPublicOf_yes _ (by omega) (by omega) V1)
      clear hb K1 M s5 RI
      go_wp2_with fail
      refine K2.out.mono ?_
      rintro e V2 ⟨rfl, hb⟩
      have M2 := Lib.hid (M1.out.next hb)
      clear hb K2 M1
      have KN : Hid (∀ X, (X.cell? ⟨g, off + 1, none⟩ = some (.string s1) ∧ X.cell? ⟨g, off + 3, none⟩ = some (.string s3) ∧ ∃ v0 v1 v2 v3 v4 v5 v6, MZ w (.int .i64 1) (.int .i64 sa) (.int .i64 pa) (.int .i64 sc) (.int .i64 0) (.string ⟨#[]⟩) (.string ⟨#[]⟩) (v0) (v1) (v2) (v3) (v4) (v5) (v6) X) → Calls Tryz.prog 57 #[.int .i64 2, .string s1, .string s3, .int .i64 pb] X fun e Y => e = .returned (.tuple #[.agg #[.int .i64 2, .int .i64 sb, .int .i64 pb, .int .i64 sd, .int .i64 0, .string ⟨#[]⟩, .string ⟨#[]⟩], .bool true]) ∧ (Y.cell? ⟨g, off + 1, none⟩ = some (.string s1) ∧ Y.cell? ⟨g, off + 3, none⟩ = some (.string s3) ∧ ∃ v0 v1 v2 v3 v4 v5 v6, MZ w (.int .i64 1) (.int .i64 sa) (.int .i64 pa) (.int .i64 sc) (.int .i64 0) (.string ⟨#[]⟩) (.string ⟨#[]⟩) (v0) (v1) (v2) (v3) (v4) (v5) (v6) Y)) := Lib.hid (fun X hX => by
        obtain ⟨h0, h2, v0, v1, v2, v3, v4, v5, v6, hv⟩ := hX
        refine (implGreeterNew_yes 2 pb s1 s3 ⟨by omega, by rw [HPB.out]; exact pub_secret s0⟩ z1 z3 X (HK.out X hv.below)).mono ?_
        rintro e Y ⟨rfl, hb⟩
        refine ⟨by rw [HSB.out, HSD.out], (hb.cell (p := ⟨g, off + 1, none⟩) (cell_size (p := ⟨g, off + 1, none⟩) h0)).trans h0, (hb.cell (p := ⟨g, off + 3, none⟩) (cell_size (p := ⟨g, off + 3, none⟩) h2)).trans h2, v0, v1, v2, v3, v4, v5, v6, hv.next hb⟩)
      have E0 : Hid (V2.drew.cell? ⟨g, off + 1, none⟩ = some (.string s1) ∧ V2.drew.cell? ⟨g, off + 3, none⟩ = some (.string s3) ∧ ∃ v0 v1 v2 v3 v4 v5 v6, MZ w (.int .i64 1) (.int .i64 sa) (.int .i64 pa) (.int .i64 sc) (.int .i64 0) (.string ⟨#[]⟩) (.string ⟨#[]⟩) (v0) (v1) (v2) (v3) (v4) (v5) (v6) V2.drew) := Lib.hid (by
        have h9 := M2.out.next ((Below.refl _ _).drew)
        have hS := HS.out _ h9.below
        exact ⟨hS.2.1, hS.2.2.2, _, _, _, _, _, _, _, h9⟩)
      have SS : Hid (∀ X, (X.cell? ⟨g, off + 1, none⟩ = some (.string s1) ∧ X.cell? ⟨g, off + 3, none⟩ = some (.string s3) ∧ ∃ v0 v1 v2 v3 v4 v5 v6, MZ w (.int .i64 1) (.int .i64 sa) (.int .i64 pa) (.int .i64 sc) (.int .i64 0) (.string ⟨#[]⟩) (.string ⟨#[]⟩) (v0) (v1) (v2) (v3) (v4) (v5) (v6) X) → ((((((((X.setCell ⟨w.heap.size + 1, 7, none⟩ (.int .i64 2)).setCell ⟨w.heap.size + 1, 8, none⟩ (.int .i64 sb)).setCell ⟨w.heap.size + 1, 9, none⟩ (.int .i64 pb)).setCell ⟨w.heap.size + 1, 10, none⟩ (.int .i64 sd)).setCell ⟨w.heap.size + 1, 11, none⟩ (.int .i64 0)).setCell ⟨w.heap.size + 1, 12, none⟩ (.string ⟨#[]⟩)).setCell ⟨w.heap.size + 1, 13, none⟩ (.string ⟨#[]⟩)).cell? ⟨g, off + 1, none⟩ = some (.string s1) ∧ (((((((X.setCell ⟨w.heap.size + 1, 7, none⟩ (.int .i64 2)).setCell ⟨w.heap.size + 1, 8, none⟩ (.int .i64 sb)).setCell ⟨w.heap.size + 1, 9, none⟩ (.int .i64 pb)).setCell ⟨w.heap.size + 1, 10, none⟩ (.int .i64 sd)).setCell ⟨w.heap.size + 1, 11, none⟩ (.int .i64 0)).setCell ⟨w.heap.size + 1, 12, none⟩ (.string ⟨#[]⟩)).setCell ⟨w.heap.size + 1, 13, none⟩ (.string ⟨#[]⟩)).cell? ⟨g, off + 3, none⟩ = some (.string s3) ∧ ∃ v0 v1 v2 v3 v4 v5 v6, MZ w (.int .i64 1) (.int .i64 sa) (.int .i64 pa) (.int .i64 sc) (.int .i64 0) (.string ⟨#[]⟩) (.string ⟨#[]⟩) (v0) (v1) (v2) (v3) (v4) (v5) (v6) (((((((X.setCell ⟨w.heap.size + 1, 7, none⟩ (.int .i64 2)).setCell ⟨w.heap.size + 1, 8, none⟩ (.int .i64 sb)).setCell ⟨w.heap.size + 1, 9, none⟩ (.int .i64 pb)).setCell ⟨w.heap.size + 1, 10, none⟩ (.int .i64 sd)).setCell ⟨w.heap.size + 1, 11, none⟩ (.int .i64 0)).setCell ⟨w.heap.size + 1, 12, none⟩ (.string ⟨#[]⟩)).setCell ⟨w.heap.size + 1, 13, none⟩ (.string ⟨#[]⟩)))) := Lib.hid (fun X hX => by
        obtain ⟨h0, h2, v0, v1, v2, v3, v4, v5, v6, hv⟩ := hX
        have h9 := hv.second (.int .i64 2) (.int .i64 sb) (.int .i64 pb) (.int .i64 sd) (.int .i64 0) (.string ⟨#[]⟩) (.string ⟨#[]⟩)
        have hS := HS.out _ h9.below
        exact ⟨hS.2.1, hS.2.2.2, _, _, _, _, _, _, _, h9⟩)
      go_upto_region 6 with fail
      have hw9 : IntKind.i64.wrap 3 = 3 := by rw [IntKind.wrap_i64]; omega
      have hw8 : IntKind.i64.wrap (2 + 1) = 3 := by rw [IntKind.wrap_i64]; omega
      go_region_held3 (fun X => X.cell? ⟨g, off + 1, none⟩ = some (.string s1) ∧ X.cell? ⟨g, off + 3, none⟩ = some (.string s3) ∧ ∃ v0 v1 v2 v3 v4 v5 v6, MZ w (.int .i64 1) (.int .i64 sa) (.int .i64 pa) (.int .i64 sc) (.int .i64 0) (.string ⟨#[]⟩) (.string ⟨#[]⟩) (v0) (v1) (v2) (v3) (v4) (v5) (v6) X) (first | (with_reducible assumption) | (with_reducible exact E0.out) | (exact SS.out _ (by assumption))) (first | (go_at_call 57; refine (KN.out _ (by assumption)).mono ?_; rintro e v9 ⟨rfl, hS⟩; (obtain ⟨_, _, v0, v1, v2, v3, v4, v5, v6, hv⟩ := id hS; have c0_ := hv.v.cell 7; have g0_ := hv.v.free 7; have c1_ := hv.v.cell 8; have g1_ := hv.v.free 8; have c2_ := hv.v.cell 9; have g2_ := hv.v.free 9; have c3_ := hv.v.cell 10; have g3_ := hv.v.free 10; have c4_ := hv.v.cell 11; have g4_ := hv.v.free 11; have c5_ := hv.v.cell 12; have g5_ := hv.v.free 12; have c6_ := hv.v.cell 13; have g6_ := hv.v.free 13)))
      all_goals
        have MX := Lib.hid (hv.second (.int .i64 2) (.int .i64 sb) (.int .i64 pb) (.int .i64 sd) (.int .i64 0) (.string ⟨#[]⟩) (.string ⟨#[]⟩))
        go_wp2_with fail
        go_round
        case rel => exact .inr (.inr ⟨by go_num, MX⟩)
        case measure => simp [intOf]
    · go_upto_region 8 with fail
      have e0 : wr.cell? ⟨w.heap.size + 1, 0, none⟩ = some (.int .i64 1) := M.out.v.cell 0
      have e1 : wr.cell? ⟨w.heap.size + 1, 1, none⟩ = some (.int .i64 sa) := M.out.v.cell 1
      have e2 : wr.cell? ⟨w.heap.size + 1, 2, none⟩ = some (.int .i64 pa) := M.out.v.cell 2
      have e3 : wr.cell? ⟨w.heap.size + 1, 3, none⟩ = some (.int .i64 sc) := M.out.v.cell 3
      have e4 : wr.cell? ⟨w.heap.size + 1, 4, none⟩ = some (.int .i64 0) := M.out.v.cell 4
      have e5 : wr.cell? ⟨w.heap.size + 1, 5, none⟩ = some (.string ⟨#[]⟩) := M.out.v.cell 5
      have e6 : wr.cell? ⟨w.heap.size + 1, 6, none⟩ = some (.string ⟨#[]⟩) := M.out.v.cell 6
      have e7 : wr.cell? ⟨w.heap.size + 1, 7, none⟩ = some (.int .i64 2) := M.out.v.cell 7
      have e8 : wr.cell? ⟨w.heap.size + 1, 8, none⟩ = some (.int .i64 sb) := M.out.v.cell 8
      have e9 : wr.cell? ⟨w.heap.size + 1, 9, none⟩ = some (.int .i64 pb) := M.out.v.cell 9
      have e10 : wr.cell? ⟨w.heap.size + 1, 10, none⟩ = some (.int .i64 sd) := M.out.v.cell 10
      have e11 : wr.cell? ⟨w.heap.size + 1, 11, none⟩ = some (.int .i64 0) := M.out.v.cell 11
      have e12 : wr.cell? ⟨w.heap.size + 1, 12, none⟩ = some (.string ⟨#[]⟩) := M.out.v.cell 12
      have e13 : wr.cell? ⟨w.heap.size + 1, 13, none⟩ = some (.string ⟨#[]⟩) := M.out.v.cell 13
      have e14 : wr.cell? ⟨w.heap.size + 1, 14, none⟩ = some (.slice none 0 0) := M.out.v.cell 14
      have e15 : wr.cell? ⟨w.heap.size + 1, 15, none⟩ = some (.slice none 0 0) := M.out.v.cell 15
      have d0 : wr.cell? ⟨w.heap.size, 0, none⟩ = some (.int .i64 0) := M.out.r.cell 0
      have f0 := M.out.r.free 0
      have d1 : wr.cell? ⟨w.heap.size, 1, none⟩ = some (.int .i64 0) := M.out.r.cell 1
      have f1 := M.out.r.free 1
      have d2 : wr.cell? ⟨w.heap.size, 2, none⟩ = some (.int .i64 0) := M.out.r.cell 2
      have f2 := M.out.r.free 2
      have d3 : wr.cell? ⟨w.heap.size, 3, none⟩ = some (.int .i64 0) := M.out.r.cell 3
      have f3 := M.out.r.free 3
      have d4 : wr.cell? ⟨w.heap.size, 4, none⟩ = some (.int .i64 0) := M.out.r.cell 4
      have f4 := M.out.r.free 4
      have d5 : wr.cell? ⟨w.heap.size, 5, none⟩ = some (.string ⟨#[]⟩) := M.out.r.cell 5
      have f5 := M.out.r.free 5
      have d6 : wr.cell? ⟨w.heap.size, 6, none⟩ = some (.string ⟨#[]⟩) := M.out.r.cell 6
      have f6 := M.out.r.free 6
      have d7 : wr.cell? ⟨w.heap.size, 7, none⟩ = some (.int .i64 0) := M.out.r.cell 7
      have f7 := M.out.r.free 7
      have d8 : wr.cell? ⟨w.heap.size, 8, none⟩ = some (.int .i64 0) := M.out.r.cell 8
      have f8 := M.out.r.free 8
      have d9 : wr.cell? ⟨w.heap.size, 9, none⟩ = some (.int .i64 0) := M.out.r.cell 9
      have f9 := M.out.r.free 9
      have d10 : wr.cell? ⟨w.heap.size, 10, none⟩ = some (.int .i64 0) := M.out.r.cell 10
      have f10 := M.out.r.free 10
      have d11 : wr.cell? ⟨w.heap.size, 11, none⟩ = some (.int .i64 0) := M.out.r.cell 11
      have f11 := M.out.r.free 11
      have d12 : wr.cell? ⟨w.heap.size, 12, none⟩ = some (.string ⟨#[]⟩) := M.out.r.cell 12
      have f12 := M.out.r.free 12
      have d13 : wr.cell? ⟨w.heap.size, 13, none⟩ = some (.string ⟨#[]⟩) := M.out.r.cell 13
      have f13 := M.out.r.free 13
      have d14 : wr.cell? ⟨w.heap.size, 14, none⟩ = some (.slice none 0 0) := M.out.r.cell 14
      have f14 := M.out.r.free 14
      have d15 : wr.cell? ⟨w.heap.size, 15, none⟩ = some (.slice none 0 0) := M.out.r.cell 15
      have f15 := M.out.r.free 15
      have R0 := M.out.r
      have R1 : VarA w.heap.size MeetT #[.int .i64 1, .int .i64 0, .int .i64 0, .int .i64 0, .int .i64 0, .string ⟨#[]⟩, .string ⟨#[]⟩, .int .i64 0, .int .i64 0, .int .i64 0, .int .i64 0, .int .i64 0, .string ⟨#[]⟩, .string ⟨#[]⟩, .slice none 0 0, .slice none 0 0] (wr.setCell ⟨w.heap.size, 0, none⟩ (.int .i64 1)) := R0.set 0 _
      have R2 : VarA w.heap.size MeetT #[.int .i64 1, .int .i64 sa, .int .i64 0, .int .i64 0, .int .i64 0, .string ⟨#[]⟩, .string ⟨#[]⟩, .int .i64 0, .int .i64 0, .int .i64 0, .int .i64 0, .int .i64 0, .string ⟨#[]⟩, .string ⟨#[]⟩, .slice none 0 0, .slice none 0 0] ((wr.setCell ⟨w.heap.size, 0, none⟩ (.int .i64 1)).setCell ⟨w.heap.size, 1, none⟩ (.int .i64 sa)) := R1.set 1 _
      have R3 : VarA w.heap.size MeetT #[.int .i64 1, .int .i64 sa, .int .i64 pa, .int .i64 0, .int .i64 0, .string ⟨#[]⟩, .string ⟨#[]⟩, .int .i64 0, .int .i64 0, .int .i64 0, .int .i64 0, .int .i64 0, .string ⟨#[]⟩, .string ⟨#[]⟩, .slice none 0 0, .slice none 0 0] (((wr.setCell ⟨w.heap.size, 0, none⟩ (.int .i64 1)).setCell ⟨w.heap.size, 1, none⟩ (.int .i64 sa)).setCell ⟨w.heap.size, 2, none⟩ (.int .i64 pa)) := R2.set 2 _
      have R4 : VarA w.heap.size MeetT #[.int .i64 1, .int .i64 sa, .int .i64 pa, .int .i64 sc, .int .i64 0, .string ⟨#[]⟩, .string ⟨#[]⟩, .int .i64 0, .int .i64 0, .int .i64 0, .int .i64 0, .int .i64 0, .string ⟨#[]⟩, .string ⟨#[]⟩, .slice none 0 0, .slice none 0 0] ((((wr.setCell ⟨w.heap.size, 0, none⟩ (.int .i64 1)).setCell ⟨w.heap.size, 1, none⟩ (.int .i64 sa)).setCell ⟨w.heap.size, 2, none⟩ (.int .i64 pa)).setCell ⟨w.heap.size, 3, none⟩ (.int .i64 sc)) := R3.set 3 _
      have R5 : VarA w.heap.size MeetT #[.int .i64 1, .int .i64 sa, .int .i64 pa, .int .i64 sc, .int .i64 0, .string ⟨#[]⟩, .string ⟨#[]⟩, .int .i64 0, .int .i64 0, .int .i64 0, .int .i64 0, .int .i64 0, .string ⟨#[]⟩, .string ⟨#[]⟩, .slice none 0 0, .slice none 0 0] (((((wr.setCell ⟨w.heap.size, 0, none⟩ (.int .i64 1)).setCell ⟨w.heap.size, 1, none⟩ (.int .i64 sa)).setCell ⟨w.heap.size, 2, none⟩ (.int .i64 pa)).setCell ⟨w.heap.size, 3, none⟩ (.int .i64 sc)).setCell ⟨w.heap.size, 4, none⟩ (.int .i64 0)) := R4.set 4 _
      have R6 : VarA w.heap.size MeetT #[.int .i64 1, .int .i64 sa, .int .i64 pa, .int .i64 sc, .int .i64 0, .string ⟨#[]⟩, .string ⟨#[]⟩, .int .i64 0, .int .i64 0, .int .i64 0, .int .i64 0, .int .i64 0, .string ⟨#[]⟩, .string ⟨#[]⟩, .slice none 0 0, .slice none 0 0] ((((((wr.setCell ⟨w.heap.size, 0, none⟩ (.int .i64 1)).setCell ⟨w.heap.size, 1, none⟩ (.int .i64 sa)).setCell ⟨w.heap.size, 2, none⟩ (.int .i64 pa)).setCell ⟨w.heap.size, 3, none⟩ (.int .i64 sc)).setCell ⟨w.heap.size, 4, none⟩ (.int .i64 0)).setCell ⟨w.heap.size, 5, none⟩ (.string ⟨#[]⟩)) := R5.set 5 _
      have R7 : VarA w.heap.size MeetT #[.int .i64 1, .int .i64 sa, .int .i64 pa, .int .i64 sc, .int .i64 0, .string ⟨#[]⟩, .string ⟨#[]⟩, .int .i64 0, .int .i64 0, .int .i64 0, .int .i64 0, .int .i64 0, .string ⟨#[]⟩, .string ⟨#[]⟩, .slice none 0 0, .slice none 0 0] (((((((wr.setCell ⟨w.heap.size, 0, none⟩ (.int .i64 1)).setCell ⟨w.heap.size, 1, none⟩ (.int .i64 sa)).setCell ⟨w.heap.size, 2, none⟩ (.int .i64 pa)).setCell ⟨w.heap.size, 3, none⟩ (.int .i64 sc)).setCell ⟨w.heap.size, 4, none⟩ (.int .i64 0)).setCell ⟨w.heap.size, 5, none⟩ (.string ⟨#[]⟩)).setCell ⟨w.heap.size, 6, none⟩ (.string ⟨#[]⟩)) := R6.set 6 _
      have R8 : VarA w.heap.size MeetT #[.int .i64 1, .int .i64 sa, .int .i64 pa, .int .i64 sc, .int .i64 0, .string ⟨#[]⟩, .string ⟨#[]⟩, .int .i64 2, .int .i64 0, .int .i64 0, .int .i64 0, .int .i64 0, .string ⟨#[]⟩, .string ⟨#[]⟩, .slice none 0 0, .slice none 0 0] ((((((((wr.setCell ⟨w.heap.size, 0, none⟩ (.int .i64 1)).setCell ⟨w.heap.size, 1, none⟩ (.int .i64 sa)).setCell ⟨w.heap.size, 2, none⟩ (.int .i64 pa)).setCell ⟨w.heap.size, 3, none⟩ (.int .i64 sc)).setCell ⟨w.heap.size, 4, none⟩ (.int .i64 0)).setCell ⟨w.heap.size, 5, none⟩ (.string ⟨#[]⟩)).setCell ⟨w.heap.size, 6, none⟩ (.string ⟨#[]⟩)).setCell ⟨w.heap.size, 7, none⟩ (.int .i64 2)) := R7.set 7 _
      have R9 : VarA w.heap.size MeetT #[.int .i64 1, .int .i64 sa, .int .i64 pa, .int .i64 sc, .int .i64 0, .string ⟨#[]⟩, .string ⟨#[]⟩, .int .i64 2, .int .i64 sb, .int .i64 0, .int .i64 0, .int .i64 0, .string ⟨#[]⟩, .string ⟨#[]⟩, .slice none 0 0, .slice none 0 0] (((((((((wr.setCell ⟨w.heap.size, 0, none⟩ (.int .i64 1)).setCell ⟨w.heap.size, 1, none⟩ (.int .i64 sa)).setCell ⟨w.heap.size, 2, none⟩ (.int .i64 pa)).setCell ⟨w.heap.size, 3, none⟩ (.int .i64 sc)).setCell ⟨w.heap.size, 4, none⟩ (.int .i64 0)).setCell ⟨w.heap.size, 5, none⟩ (.string ⟨#[]⟩)).setCell ⟨w.heap.size, 6, none⟩ (.string ⟨#[]⟩)).setCell ⟨w.heap.size, 7, none⟩ (.int .i64 2)).setCell ⟨w.heap.size, 8, none⟩ (.int .i64 sb)) := R8.set 8 _
      have R10 : VarA w.heap.size MeetT #[.int .i64 1, .int .i64 sa, .int .i64 pa, .int .i64 sc, .int .i64 0, .string ⟨#[]⟩, .string ⟨#[]⟩, .int .i64 2, .int .i64 sb, .int .i64 pb, .int .i64 0, .int .i64 0, .string ⟨#[]⟩, .string ⟨#[]⟩, .slice none 0 0, .slice none 0 0] ((((((((((wr.setCell ⟨w.heap.size, 0, none⟩ (.int .i64 1)).setCell ⟨w.heap.size, 1, none⟩ (.int .i64 sa)).setCell ⟨w.heap.size, 2, none⟩ (.int .i64 pa)).setCell ⟨w.heap.size, 3, none⟩ (.int .i64 sc)).setCell ⟨w.heap.size, 4, none⟩ (.int .i64 0)).setCell ⟨w.heap.size, 5, none⟩ (.string ⟨#[]⟩)).setCell ⟨w.heap.size, 6, none⟩ (.string ⟨#[]⟩)).setCell ⟨w.heap.size, 7, none⟩ (.int .i64 2)).setCell ⟨w.heap.size, 8, none⟩ (.int .i64 sb)).setCell ⟨w.heap.size, 9, none⟩ (.int .i64 pb)) := R9.set 9 _
      have R11 : VarA w.heap.size MeetT #[.int .i64 1, .int .i64 sa, .int .i64 pa, .int .i64 sc, .int .i64 0, .string ⟨#[]⟩, .string ⟨#[]⟩, .int .i64 2, .int .i64 sb, .int .i64 pb, .int .i64 sd, .int .i64 0, .string ⟨#[]⟩, .string ⟨#[]⟩, .slice none 0 0, .slice none 0 0] (((((((((((wr.setCell ⟨w.heap.size, 0, none⟩ (.int .i64 1)).setCell ⟨w.heap.size, 1, none⟩ (.int .i64 sa)).setCell ⟨w.heap.size, 2, none⟩ (.int .i64 pa)).setCell ⟨w.heap.size, 3, none⟩ (.int .i64 sc)).setCell ⟨w.heap.size, 4, none⟩ (.int .i64 0)).setCell ⟨w.heap.size, 5, none⟩ (.string ⟨#[]⟩)).setCell ⟨w.heap.size, 6, none⟩ (.string ⟨#[]⟩)).setCell ⟨w.heap.size, 7, none⟩ (.int .i64 2)).setCell ⟨w.heap.size, 8, none⟩ (.int .i64 sb)).setCell ⟨w.heap.size, 9, none⟩ (.int .i64 pb)).setCell ⟨w.heap.size, 10, none⟩ (.int .i64 sd)) := R10.set 10 _
      have R12 : VarA w.heap.size MeetT #[.int .i64 1, .int .i64 sa, .int .i64 pa, .int .i64 sc, .int .i64 0, .string ⟨#[]⟩, .string ⟨#[]⟩, .int .i64 2, .int .i64 sb, .int .i64 pb, .int .i64 sd, .int .i64 0, .string ⟨#[]⟩, .string ⟨#[]⟩, .slice none 0 0, .slice none 0 0] ((((((((((((wr.setCell ⟨w.heap.size, 0, none⟩ (.int .i64 1)).setCell ⟨w.heap.size, 1, none⟩ (.int .i64 sa)).setCell ⟨w.heap.size, 2, none⟩ (.int .i64 pa)).setCell ⟨w.heap.size, 3, none⟩ (.int .i64 sc)).setCell ⟨w.heap.size, 4, none⟩ (.int .i64 0)).setCell ⟨w.heap.size, 5, none⟩ (.string ⟨#[]⟩)).setCell ⟨w.heap.size, 6, none⟩ (.string ⟨#[]⟩)).setCell ⟨w.heap.size, 7, none⟩ (.int .i64 2)).setCell ⟨w.heap.size, 8, none⟩ (.int .i64 sb)).setCell ⟨w.heap.size, 9, none⟩ (.int .i64 pb)).setCell ⟨w.heap.size, 10, none⟩ (.int .i64 sd)).setCell ⟨w.heap.size, 11, none⟩ (.int .i64 0)) := R11.set 11 _
      have R13 : VarA w.heap.size MeetT #[.int .i64 1, .int .i64 sa, .int .i64 pa, .int .i64 sc, .int .i64 0, .string ⟨#[]⟩, .string ⟨#[]⟩, .int .i64 2, .int .i64 sb, .int .i64 pb, .int .i64 sd, .int .i64 0, .string ⟨#[]⟩, .string ⟨#[]⟩, .slice none 0 0, .slice none 0 0] (((((((((((((wr.setCell ⟨w.heap.size, 0, none⟩ (.int .i64 1)).setCell ⟨w.heap.size, 1, none⟩ (.int .i64 sa)).setCell ⟨w.heap.size, 2, none⟩ (.int .i64 pa)).setCell ⟨w.heap.size, 3, none⟩ (.int .i64 sc)).setCell ⟨w.heap.size, 4, none⟩ (.int .i64 0)).setCell ⟨w.heap.size, 5, none⟩ (.string ⟨#[]⟩)).setCell ⟨w.heap.size, 6, none⟩ (.string ⟨#[]⟩)).setCell ⟨w.heap.size, 7, none⟩ (.int .i64 2)).setCell ⟨w.heap.size, 8, none⟩ (.int .i64 sb)).setCell ⟨w.heap.size, 9, none⟩ (.int .i64 pb)).setCell ⟨w.heap.size, 10, none⟩ (.int .i64 sd)).setCell ⟨w.heap.size, 11, none⟩ (.int .i64 0)).setCell ⟨w.heap.size, 12, none⟩ (.string ⟨#[]⟩)) := R12.set 12 _
      have R14 : VarA w.heap.size MeetT #[.int .i64 1, .int .i64 sa, .int .i64 pa, .int .i64 sc, .int .i64 0, .string ⟨#[]⟩, .string ⟨#[]⟩, .int .i64 2, .int .i64 sb, .int .i64 pb, .int .i64 sd, .int .i64 0, .string ⟨#[]⟩, .string ⟨#[]⟩, .slice none 0 0, .slice none 0 0] ((((((((((((((wr.setCell ⟨w.heap.size, 0, none⟩ (.int .i64 1)).setCell ⟨w.heap.size, 1, none⟩ (.int .i64 sa)).setCell ⟨w.heap.size, 2, none⟩ (.int .i64 pa)).setCell ⟨w.heap.size, 3, none⟩ (.int .i64 sc)).setCell ⟨w.heap.size, 4, none⟩ (.int .i64 0)).setCell ⟨w.heap.size, 5, none⟩ (.string ⟨#[]⟩)).setCell ⟨w.heap.size, 6, none⟩ (.string ⟨#[]⟩)).setCell ⟨w.heap.size, 7, none⟩ (.int .i64 2)).setCell ⟨w.heap.size, 8, none⟩ (.int .i64 sb)).setCell ⟨w.heap.size, 9, none⟩ (.int .i64 pb)).setCell ⟨w.heap.size, 10, none⟩ (.int .i64 sd)).setCell ⟨w.heap.size, 11, none⟩ (.int .i64 0)).setCell ⟨w.heap.size, 12, none⟩ (.string ⟨#[]⟩)).setCell ⟨w.heap.size, 13, none⟩ (.string ⟨#[]⟩)) := R13.set 13 _
      have R15 : VarA w.heap.size MeetT #[.int .i64 1, .int .i64 sa, .int .i64 pa, .int .i64 sc, .int .i64 0, .string ⟨#[]⟩, .string ⟨#[]⟩, .int .i64 2, .int .i64 sb, .int .i64 pb, .int .i64 sd, .int .i64 0, .string ⟨#[]⟩, .string ⟨#[]⟩, .slice none 0 0, .slice none 0 0] (((((((((((((((wr.setCell ⟨w.heap.size, 0, none⟩ (.int .i64 1)).setCell ⟨w.heap.size, 1, none⟩ (.int .i64 sa)).setCell ⟨w.heap.size, 2, none⟩ (.int .i64 pa)).setCell ⟨w.heap.size, 3, none⟩ (.int .i64 sc)).setCell ⟨w.heap.size, 4, none⟩ (.int .i64 0)).setCell ⟨w.heap.size, 5, none⟩ (.string ⟨#[]⟩)).setCell ⟨w.heap.size, 6, none⟩ (.string ⟨#[]⟩)).setCell ⟨w.heap.size, 7, none⟩ (.int .i64 2)).setCell ⟨w.heap.size, 8, none⟩ (.int .i64 sb)).setCell ⟨w.heap.size, 9, none⟩ (.int .i64 pb)).setCell ⟨w.heap.size, 10, none⟩ (.int .i64 sd)).setCell ⟨w.heap.size, 11, none⟩ (.int .i64 0)).setCell ⟨w.heap.size, 12, none⟩ (.string ⟨#[]⟩)).setCell ⟨w.heap.size, 13, none⟩ (.string ⟨#[]⟩)).setCell ⟨w.heap.size, 14, none⟩ (.slice none 0 0)) := R14.set 14 _
      have R16 : VarA w.heap.size MeetT #[.int .i64 1, .int .i64 sa, .int .i64 pa, .int .i64 sc, .int .i64 0, .string ⟨#[]⟩, .string ⟨#[]⟩, .int .i64 2, .int .i64 sb, .int .i64 pb, .int .i64 sd, .int .i64 0, .string ⟨#[]⟩, .string ⟨#[]⟩, .slice none 0 0, .slice none 0 0] ((((((((((((((((wr.setCell ⟨w.heap.size, 0, none⟩ (.int .i64 1)).setCell ⟨w.heap.size, 1, none⟩ (.int .i64 sa)).setCell ⟨w.heap.size, 2, none⟩ (.int .i64 pa)).setCell ⟨w.heap.size, 3, none⟩ (.int .i64 sc)).setCell ⟨w.heap.size, 4, none⟩ (.int .i64 0)).setCell ⟨w.heap.size, 5, none⟩ (.string ⟨#[]⟩)).setCell ⟨w.heap.size, 6, none⟩ (.string ⟨#[]⟩)).setCell ⟨w.heap.size, 7, none⟩ (.int .i64 2)).setCell ⟨w.heap.size, 8, none⟩ (.int .i64 sb)).setCell ⟨w.heap.size, 9, none⟩ (.int .i64 pb)).setCell ⟨w.heap.size, 10, none⟩ (.int .i64 sd)).setCell ⟨w.heap.size, 11, none⟩ (.int .i64 0)).setCell ⟨w.heap.size, 12, none⟩ (.string ⟨#[]⟩)).setCell ⟨w.heap.size, 13, none⟩ (.string ⟨#[]⟩)).setCell ⟨w.heap.size, 14, none⟩ (.slice none 0 0)).setCell ⟨w.heap.size, 15, none⟩ (.slice none 0 0)) := R15.set 15 _
      have BZ := Lib.hid ((((((((((((((((M.out.below.setCell (p := ⟨w.heap.size, 0, none⟩) (Nat.le_refl _) (.int .i64 1)).setCell (p := ⟨w.heap.size, 1, none⟩) (Nat.le_refl _) (.int .i64 sa)).setCell (p := ⟨w.heap.size, 2, none⟩) (Nat.le_refl _) (.int .i64 pa)).setCell (p := ⟨w.heap.size, 3, none⟩) (Nat.le_refl _) (.int .i64 sc)).setCell (p := ⟨w.heap.size, 4, none⟩) (Nat.le_refl _) (.int .i64 0)).setCell (p := ⟨w.heap.size, 5, none⟩) (Nat.le_refl _) (.string ⟨#[]⟩)).setCell (p := ⟨w.heap.size, 6, none⟩) (Nat.le_refl _) (.string ⟨#[]⟩)).setCell (p := ⟨w.heap.size, 7, none⟩) (Nat.le_refl _) (.int .i64 2)).setCell (p := ⟨w.heap.size, 8, none⟩) (Nat.le_refl _) (.int .i64 sb)).setCell (p := ⟨w.heap.size, 9, none⟩) (Nat.le_refl _) (.int .i64 pb)).setCell (p := ⟨w.heap.size, 10, none⟩) (Nat.le_refl _) (.int .i64 sd)).setCell (p := ⟨w.heap.size, 11, none⟩) (Nat.le_refl _) (.int .i64 0)).setCell (p := ⟨w.heap.size, 12, none⟩) (Nat.le_refl _) (.string ⟨#[]⟩)).setCell (p := ⟨w.heap.size, 13, none⟩) (Nat.le_refl _) (.string ⟨#[]⟩)).setCell (p := ⟨w.heap.size, 14, none⟩) (Nat.le_refl _) (.slice none 0 0)).setCell (p := ⟨w.heap.size, 15, none⟩) (Nat.le_refl _) (.slice none 0 0))
      have j0 := R16.cell 0
      have j1 := R16.cell 1
      have j2 := R16.cell 2
      have j3 := R16.cell 3
      have j4 := R16.cell 4
      have j5 := R16.cell 5
      have j6 := R16.cell 6
      have j7 := R16.cell 7
      have j8 := R16.cell 8
      have j9 := R16.cell 9
      have j10 := R16.cell 10
      have j11 := R16.cell 11
      have j12 := R16.cell 12
      have j13 := R16.cell 13
      have j14 := R16.cell 14
      have j15 := R16.cell 15
      clear R0 R1 R2 R3 R4 R5 R6 R7 R8 R9 R10 R11 R12 R13 R14 R15 R16
      go_wp2_with fail
      exact bodyPost_ret (v := .agg #[.int .i64 1, .int .i64 sa, .int .i64 pa, .int .i64 sc, .int .i64 0, .string ⟨#[]⟩, .string ⟨#[]⟩, .int .i64 2, .int .i64 sb, .int .i64 pb, .int .i64 sd, .int .i64 0, .string ⟨#[]⟩, .string ⟨#[]⟩, .slice none 0 0, .slice none 0 0]) (by simp [results, Tryz.results37, go_sem, j0, j1, j2, j3, j4, j5, j6, j7, j8, j9, j10, j11, j12, j13, j14, j15]) rfl ⟨rfl, BZ.out⟩


end Go.Proofs.YtkjjdoadjhjmbauGreatDoor
