/-
  A meeting of two as it lies in memory: both, and what each said that was not taken yet.
-/
import Derived.Test.YtkjjdoadjhjmbaeGreatDoorJ34
import Derived.Test.YtkjjdoadjhjmbaeGreatDoorJ35
import Derived.Test.YtkjjdoadjhjmbaeGreatDoorJ36
namespace Go.Proofs.YtkjjdoadjhjmbaeGreatDoor
open Go.RowKit

abbrev MeetT : TypeId := 51
/-- Texts as cells. -/
def strC (l : List ByteArray) : List Value := l.map .string
theorem strC_snoc (l : List ByteArray) (x : ByteArray) : strC l ++ [.string x] = strC (l ++ [x]) := by simp [strC]
theorem strC_len (l : List ByteArray) : (strC l).length = l.length := by simp [strC]
theorem movS_head {w : World} {base : Nat} {v : Value} {s : ByteArray} {l : List ByteArray} (h : MovR StringT w base v (strC (s :: l))) : ∃ g off cap, v = .slice (some ⟨g, off, none⟩) (l.length + 1) cap ∧ w.cell? ⟨g, off, none⟩ = some (.string s) ∧ l.length + 1 ≤ cap := by
  obtain ⟨g, off, cap, h1, h2, h3⟩ := MovR.head (us := strC l) h
  rw [strC_len] at h1 h3
  exact ⟨g, off, cap, h1, h2, h3⟩
theorem movS_form {w : World} {base : Nat} {v : Value} {l : List ByteArray} (h : MovR StringT w base v (strC l)) : ∃ ao cap, v = .slice ao l.length cap := by
  obtain ⟨ao, cap, h1⟩ := h.form
  rw [strC_len] at h1
  exact ⟨ao, cap, h1⟩
theorem movS_tail {w : World} {base g off cap : Nat} {s : ByteArray} {l : List ByteArray} (h : MovR StringT w base (.slice (some ⟨g, off, none⟩) (l.length + 1) cap) (strC (s :: l))) : MovR StringT w base (.slice (if cap = 1 then some ⟨g, off, none⟩ else some ⟨g, off + 1, none⟩) l.length (cap - 1)) (strC l) := by
  have h1 := MovR.tail (us := strC l) (u := .string s) (g := g) (off := off) (cap := cap) (by rw [strC_len]; exact h)
  rw [strC_len] at h1
  exact h1
theorem tail_block_same (g off cap n : Nat) : (Value.slice (if cap = 1 then some ⟨g, off, none⟩ else some ⟨g, off + 1, none⟩) n (cap - 1)).ownBlock = some g := by
  split <;> rfl
theorem below_only {lo q : Nat} {X Y : World} (h : Only q X Y) (hq : lo ≤ q) (hl : lo ≤ X.heap.size) : Below lo X Y := ⟨h.os, h.tape, h.output, h.size, fun k hk => h.block k (by omega) (by omega)⟩
/-- A meeting in memory. -/
structure MM (lo m : Nat) (va vb : Value) (a0 a1 a2 a3 a4 : Int) (a5 a6 : ByteArray) (b0 b1 b2 b3 b4 : Int) (b5 b6 : ByteArray) (sa sb : List ByteArray) (X : World) : Prop where
  var : VarA m MeetT #[.int .i64 a0, .int .i64 a1, .int .i64 a2, .int .i64 a3, .int .i64 a4, .string a5, .string a6, .int .i64 b0, .int .i64 b1, .int .i64 b2, .int .i64 b3, .int .i64 b4, .string b5, .string b6, va, vb] X
  rowA : MovR StringT X lo va (strC sa)
  rowB : MovR StringT X lo vb (strC sb)
  apart : ∀ g, va.ownBlock = some g → vb.ownBlock ≠ some g
  low : lo ≤ m
section
variable {lo m : Nat} {va vb : Value} {a0 a1 a2 a3 a4 : Int} {a5 a6 : ByteArray} {b0 b1 b2 b3 b4 : Int} {b5 b6 : ByteArray} {sa sb : List ByteArray} {X Y : World}
theorem MM.next (h : MM lo m va vb a0 a1 a2 a3 a4 a5 a6 b0 b1 b2 b3 b4 b5 b6 sa sb X) (hb : Below X.heap.size X Y) : MM lo m va vb a0 a1 a2 a3 a4 a5 a6 b0 b1 b2 b3 b4 b5 b6 sa sb Y := ⟨h.var.next hb, h.rowA.next hb, h.rowB.next hb, h.apart, h.low⟩
theorem MM.offA (h : MM lo m va vb a0 a1 a2 a3 a4 a5 a6 b0 b1 b2 b3 b4 b5 b6 sa sb X) : va.ownBlock ≠ some m := h.rowA.ne h.var (by decide)
theorem MM.offB (h : MM lo m va vb a0 a1 a2 a3 a4 a5 a6 b0 b1 b2 b3 b4 b5 b6 sa sb X) : vb.ownBlock ≠ some m := h.rowB.ne h.var (by decide)
theorem MM.only (h : MM lo m va vb a0 a1 a2 a3 a4 a5 a6 b0 b1 b2 b3 b4 b5 b6 sa sb X) (ho : Only m X Y) : MovR StringT Y lo va (strC sa) ∧ MovR StringT Y lo vb (strC sb) := ⟨h.rowA.only ho h.offA, h.rowB.only ho h.offB⟩
theorem MM.tookA {s : ByteArray} {g off cap : Nat} (h : MM lo m (.slice (some ⟨g, off, none⟩) (sa.length + 1) cap) vb a0 a1 a2 a3 a4 a5 a6 b0 b1 b2 b3 b4 b5 b6 (s :: sa) sb X) : MM lo m (.slice (if cap = 1 then some ⟨g, off, none⟩ else some ⟨g, off + 1, none⟩) sa.length (cap - 1)) vb a0 a1 a2 a3 a4 a5 a6 b0 b1 b2 b3 b4 b5 b6 sa sb (X.setCell ⟨m, 14, none⟩ (.slice (if cap = 1 then some ⟨g, off, none⟩ else some ⟨g, off + 1, none⟩) sa.length (cap - 1))) := by
  have ho : Only m X (X.setCell ⟨m, 14, none⟩ (.slice (if cap = 1 then some ⟨g, off, none⟩ else some ⟨g, off + 1, none⟩) sa.length (cap - 1))) := Only.setCell 14 _
  have h1 := movS_tail h.rowA
  refine ⟨h.var.set 14 _, h1.only ho ?_, h.rowB.only ho h.offB, fun k hk => ?_, h.low⟩
  · rw [tail_block_same]
    exact h.offA
  · rw [tail_block_same] at hk
    exact h.apart k hk
theorem MM.tookB {s : ByteArray} {g off cap : Nat} (h : MM lo m va (.slice (some ⟨g, off, none⟩) (sb.length + 1) cap) a0 a1 a2 a3 a4 a5 a6 b0 b1 b2 b3 b4 b5 b6 sa (s :: sb) X) : MM lo m va (.slice (if cap = 1 then some ⟨g, off, none⟩ else some ⟨g, off + 1, none⟩) sb.length (cap - 1)) a0 a1 a2 a3 a4 a5 a6 b0 b1 b2 b3 b4 b5 b6 sa sb (X.setCell ⟨m, 15, none⟩ (.slice (if cap = 1 then some ⟨g, off, none⟩ else some ⟨g, off + 1, none⟩) sb.length (cap - 1))) := by
  have ho : Only m X (X.setCell ⟨m, 15, none⟩ (.slice (if cap = 1 then some ⟨g, off, none⟩ else some ⟨g, off + 1, none⟩) sb.length (cap - 1))) := Only.setCell 15 _
  have h1 := movS_tail h.rowB
  refine ⟨h.var.set 15 _, h.rowA.only ho h.offA, h1.only ho ?_, fun k hk => ?_, h.low⟩
  · rw [tail_block_same]
    exact h.offB
  · rw [tail_block_same]
    exact h.apart k hk
theorem MM.heardA {c0 c1 c2 c3 c4 : Int} {c5 c6 : ByteArray} (h : MM lo m va vb a0 a1 a2 a3 a4 a5 a6 b0 b1 b2 b3 b4 b5 b6 sa sb X) : MM lo m va vb c0 c1 c2 c3 c4 c5 c6 b0 b1 b2 b3 b4 b5 b6 sa sb (((((((X.setCell ⟨m, 0, none⟩ (.int .i64 c0)).setCell ⟨m, 1, none⟩ (.int .i64 c1)).setCell ⟨m, 2, none⟩ (.int .i64 c2)).setCell ⟨m, 3, none⟩ (.int .i64 c3)).setCell ⟨m, 4, none⟩ (.int .i64 c4)).setCell ⟨m, 5, none⟩ (.string c5)).setCell ⟨m, 6, none⟩ (.string c6)) := by
  have ho : Only m X (((((((X.setCell ⟨m, 0, none⟩ (.int .i64 c0)).setCell ⟨m, 1, none⟩ (.int .i64 c1)).setCell ⟨m, 2, none⟩ (.int .i64 c2)).setCell ⟨m, 3, none⟩ (.int .i64 c3)).setCell ⟨m, 4, none⟩ (.int .i64 c4)).setCell ⟨m, 5, none⟩ (.string c5)).setCell ⟨m, 6, none⟩ (.string c6)) := (((((((Only.setCell 0 (.int .i64 c0) : Only m X _).trans (Only.setCell 1 (.int .i64 c1))).trans (Only.setCell 2 (.int .i64 c2))).trans (Only.setCell 3 (.int .i64 c3))).trans (Only.setCell 4 (.int .i64 c4))).trans (Only.setCell 5 (.string c5))).trans (Only.setCell 6 (.string c6)))
  have l0 := h.var
  have l1 : VarA m MeetT #[.int .i64 c0, .int .i64 a1, .int .i64 a2, .int .i64 a3, .int .i64 a4, .string a5, .string a6, .int .i64 b0, .int .i64 b1, .int .i64 b2, .int .i64 b3, .int .i64 b4, .string b5, .string b6, va, vb] (X.setCell ⟨m, 0, none⟩ (.int .i64 c0)) := l0.set 0 _
  have l2 : VarA m MeetT #[.int .i64 c0, .int .i64 c1, .int .i64 a2, .int .i64 a3, .int .i64 a4, .string a5, .string a6, .int .i64 b0, .int .i64 b1, .int .i64 b2, .int .i64 b3, .int .i64 b4, .string b5, .string b6, va, vb] ((X.setCell ⟨m, 0, none⟩ (.int .i64 c0)).setCell ⟨m, 1, none⟩ (.int .i64 c1)) := l1.set 1 _
  have l3 : VarA m MeetT #[.int .i64 c0, .int .i64 c1, .int .i64 c2, .int .i64 a3, .int .i64 a4, .string a5, .string a6, .int .i64 b0, .int .i64 b1, .int .i64 b2, .int .i64 b3, .int .i64 b4, .string b5, .string b6, va, vb] (((X.setCell ⟨m, 0, none⟩ (.int .i64 c0)).setCell ⟨m, 1, none⟩ (.int .i64 c1)).setCell ⟨m, 2, none⟩ (.int .i64 c2)) := l2.set 2 _
  have l4 : VarA m MeetT #[.int .i64 c0, .int .i64 c1, .int .i64 c2, .int .i64 c3, .int .i64 a4, .string a5, .string a6, .int .i64 b0, .int .i64 b1, .int .i64 b2, .int .i64 b3, .int .i64 b4, .string b5, .string b6, va, vb] ((((X.setCell ⟨m, 0, none⟩ (.int .i64 c0)).setCell ⟨m, 1, none⟩ (.int .i64 c1)).setCell ⟨m, 2, none⟩ (.int .i64 c2)).setCell ⟨m, 3, none⟩ (.int .i64 c3)) := l3.set 3 _
  have l5 : VarA m MeetT #[.int .i64 c0, .int .i64 c1, .int .i64 c2, .int .i64 c3, .int .i64 c4, .string a5, .string a6, .int .i64 b0, .int .i64 b1, .int .i64 b2, .int .i64 b3, .int .i64 b4, .string b5, .string b6, va, vb] (((((X.setCell ⟨m, 0, none⟩ (.int .i64 c0)).setCell ⟨m, 1, none⟩ (.int .i64 c1)).setCell ⟨m, 2, none⟩ (.int .i64 c2)).setCell ⟨m, 3, none⟩ (.int .i64 c3)).setCell ⟨m, 4, none⟩ (.int .i64 c4)) := l4.set 4 _
  have l6 : VarA m MeetT #[.int .i64 c0, .int .i64 c1, .int .i64 c2, .int .i64 c3, .int .i64 c4, .string c5, .string a6, .int .i64 b0, .int .i64 b1, .int .i64 b2, .int .i64 b3, .int .i64 b4, .string b5, .string b6, va, vb] ((((((X.setCell ⟨m, 0, none⟩ (.int .i64 c0)).setCell ⟨m, 1, none⟩ (.int .i64 c1)).setCell ⟨m, 2, none⟩ (.int .i64 c2)).setCell ⟨m, 3, none⟩ (.int .i64 c3)).setCell ⟨m, 4, none⟩ (.int .i64 c4)).setCell ⟨m, 5, none⟩ (.string c5)) := l5.set 5 _
  have l7 : VarA m MeetT #[.int .i64 c0, .int .i64 c1, .int .i64 c2, .int .i64 c3, .int .i64 c4, .string c5, .string c6, .int .i64 b0, .int .i64 b1, .int .i64 b2, .int .i64 b3, .int .i64 b4, .string b5, .string b6, va, vb] (((((((X.setCell ⟨m, 0, none⟩ (.int .i64 c0)).setCell ⟨m, 1, none⟩ (.int .i64 c1)).setCell ⟨m, 2, none⟩ (.int .i64 c2)).setCell ⟨m, 3, none⟩ (.int .i64 c3)).setCell ⟨m, 4, none⟩ (.int .i64 c4)).setCell ⟨m, 5, none⟩ (.string c5)).setCell ⟨m, 6, none⟩ (.string c6)) := l6.set 6 _
  exact ⟨l7, (h.only ho).1, (h.only ho).2, h.apart, h.low⟩
theorem MM.heardB {c0 c1 c2 c3 c4 : Int} {c5 c6 : ByteArray} (h : MM lo m va vb a0 a1 a2 a3 a4 a5 a6 b0 b1 b2 b3 b4 b5 b6 sa sb X) : MM lo m va vb a0 a1 a2 a3 a4 a5 a6 c0 c1 c2 c3 c4 c5 c6 sa sb (((((((X.setCell ⟨m, 7, none⟩ (.int .i64 c0)).setCell ⟨m, 8, none⟩ (.int .i64 c1)).setCell ⟨m, 9, none⟩ (.int .i64 c2)).setCell ⟨m, 10, none⟩ (.int .i64 c3)).setCell ⟨m, 11, none⟩ (.int .i64 c4)).setCell ⟨m, 12, none⟩ (.string c5)).setCell ⟨m, 13, none⟩ (.string c6)) := by
  have ho : Only m X (((((((X.setCell ⟨m, 7, none⟩ (.int .i64 c0)).setCell ⟨m, 8, none⟩ (.int .i64 c1)).setCell ⟨m, 9, none⟩ (.int .i64 c2)).setCell ⟨m, 10, none⟩ (.int .i64 c3)).setCell ⟨m, 11, none⟩ (.int .i64 c4)).setCell ⟨m, 12, none⟩ (.string c5)).setCell ⟨m, 13, none⟩ (.string c6)) := (((((((Only.setCell 7 (.int .i64 c0) : Only m X _).trans (Only.setCell 8 (.int .i64 c1))).trans (Only.setCell 9 (.int .i64 c2))).trans (Only.setCell 10 (.int .i64 c3))).trans (Only.setCell 11 (.int .i64 c4))).trans (Only.setCell 12 (.string c5))).trans (Only.setCell 13 (.string c6)))
  have l0 := h.var
  have l1 : VarA m MeetT #[.int .i64 a0, .int .i64 a1, .int .i64 a2, .int .i64 a3, .int .i64 a4, .string a5, .string a6, .int .i64 c0, .int .i64 b1, .int .i64 b2, .int .i64 b3, .int .i64 b4, .string b5, .string b6, va, vb] (X.setCell ⟨m, 7, none⟩ (.int .i64 c0)) := l0.set 7 _
  have l2 : VarA m MeetT #[.int .i64 a0, .int .i64 a1, .int .i64 a2, .int .i64 a3, .int .i64 a4, .string a5, .string a6, .int .i64 c0, .int .i64 c1, .int .i64 b2, .int .i64 b3, .int .i64 b4, .string b5, .string b6, va, vb] ((X.setCell ⟨m, 7, none⟩ (.int .i64 c0)).setCell ⟨m, 8, none⟩ (.int .i64 c1)) := l1.set 8 _
  have l3 : VarA m MeetT #[.int .i64 a0, .int .i64 a1, .int .i64 a2, .int .i64 a3, .int .i64 a4, .string a5, .string a6, .int .i64 c0, .int .i64 c1, .int .i64 c2, .int .i64 b3, .int .i64 b4, .string b5, .string b6, va, vb] (((X.setCell ⟨m, 7, none⟩ (.int .i64 c0)).setCell ⟨m, 8, none⟩ (.int .i64 c1)).setCell ⟨m, 9, none⟩ (.int .i64 c2)) := l2.set 9 _
  have l4 : VarA m MeetT #[.int .i64 a0, .int .i64 a1, .int .i64 a2, .int .i64 a3, .int .i64 a4, .string a5, .string a6, .int .i64 c0, .int .i64 c1, .int .i64 c2, .int .i64 c3, .int .i64 b4, .string b5, .string b6, va, vb] ((((X.setCell ⟨m, 7, none⟩ (.int .i64 c0)).setCell ⟨m, 8, none⟩ (.int .i64 c1)).setCell ⟨m, 9, none⟩ (.int .i64 c2)).setCell ⟨m, 10, none⟩ (.int .i64 c3)) := l3.set 10 _
  have l5 : VarA m MeetT #[.int .i64 a0, .int .i64 a1, .int .i64 a2, .int .i64 a3, .int .i64 a4, .string a5, .string a6, .int .i64 c0, .int .i64 c1, .int .i64 c2, .int .i64 c3, .int .i64 c4, .string b5, .string b6, va, vb] (((((X.setCell ⟨m, 7, none⟩ (.int .i64 c0)).setCell ⟨m, 8, none⟩ (.int .i64 c1)).setCell ⟨m, 9, none⟩ (.int .i64 c2)).setCell ⟨m, 10, none⟩ (.int .i64 c3)).setCell ⟨m, 11, none⟩ (.int .i64 c4)) := l4.set 11 _
  have l6 : VarA m MeetT #[.int .i64 a0, .int .i64 a1, .int .i64 a2, .int .i64 a3, .int .i64 a4, .string a5, .string a6, .int .i64 c0, .int .i64 c1, .int .i64 c2, .int .i64 c3, .int .i64 c4, .string c5, .string b6, va, vb] ((((((X.setCell ⟨m, 7, none⟩ (.int .i64 c0)).setCell ⟨m, 8, none⟩ (.int .i64 c1)).setCell ⟨m, 9, none⟩ (.int .i64 c2)).setCell ⟨m, 10, none⟩ (.int .i64 c3)).setCell ⟨m, 11, none⟩ (.int .i64 c4)).setCell ⟨m, 12, none⟩ (.string c5)) := l5.set 12 _
  have l7 : VarA m MeetT #[.int .i64 a0, .int .i64 a1, .int .i64 a2, .int .i64 a3, .int .i64 a4, .string a5, .string a6, .int .i64 c0, .int .i64 c1, .int .i64 c2, .int .i64 c3, .int .i64 c4, .string c5, .string c6, va, vb] (((((((X.setCell ⟨m, 7, none⟩ (.int .i64 c0)).setCell ⟨m, 8, none⟩ (.int .i64 c1)).setCell ⟨m, 9, none⟩ (.int .i64 c2)).setCell ⟨m, 10, none⟩ (.int .i64 c3)).setCell ⟨m, 11, none⟩ (.int .i64 c4)).setCell ⟨m, 12, none⟩ (.string c5)).setCell ⟨m, 13, none⟩ (.string c6)) := l6.set 13 _
  exact ⟨l7, (h.only ho).1, (h.only ho).2, h.apart, h.low⟩
theorem MM.saidA {v1 : Value} {t : ByteArray} (h : MM lo m va vb a0 a1 a2 a3 a4 a5 a6 b0 b1 b2 b3 b4 b5 b6 sa sb X) (hp : PushMv StringT X lo va (strC sa) (.string t) v1 Y) : Y.cell? ⟨m, 14, none⟩ = some va ∧ Y.frozen? ⟨m, 14, none⟩ = false ∧ MM lo m v1 vb a0 a1 a2 a3 a4 a5 a6 b0 b1 b2 b3 b4 b5 b6 (sa ++ [t]) sb (Y.setCell ⟨m, 14, none⟩ v1) := by
  have vy : VarA m MeetT #[.int .i64 a0, .int .i64 a1, .int .i64 a2, .int .i64 a3, .int .i64 a4, .string a5, .string a6, .int .i64 b0, .int .i64 b1, .int .i64 b2, .int .i64 b3, .int .i64 b4, .string b5, .string b6, va, vb] Y := ⟨(hp.grown.block m h.var.lt (fun e => h.offA e.symm)).trans h.var.row⟩
  have ho : Only m Y (Y.setCell ⟨m, 14, none⟩ v1) := Only.setCell 14 _
  have hr : MovR StringT Y lo v1 (strC (sa ++ [t])) := by rw [← strC_snoc]; exact hp.row
  have hq : MovR StringT Y lo vb (strC sb) := h.rowB.grown hp.grown (fun k hk e => h.apart k e.symm hk)
  have n1 : v1.ownBlock ≠ some m := hr.ne vy (by decide)
  have n2 : vb.ownBlock ≠ some m := h.offB
  refine ⟨vy.cell 14, vy.free 14, vy.set 14 _, hr.only ho n1, hq.only ho n2, fun g h1 h2 => ?_, h.low⟩
  rcases hp.stay with h9 | ⟨q, h9, h8⟩
  · exact h.apart g (h9 ▸ h1) h2
  · have hg : g < X.heap.size := h.rowB.lt g h2
    rw [h9] at h1
    have e : q = g := Option.some.inj h1
    omega
theorem MM.saidB {v1 : Value} {t : ByteArray} (h : MM lo m va vb a0 a1 a2 a3 a4 a5 a6 b0 b1 b2 b3 b4 b5 b6 sa sb X) (hp : PushMv StringT X lo vb (strC sb) (.string t) v1 Y) : Y.cell? ⟨m, 15, none⟩ = some vb ∧ Y.frozen? ⟨m, 15, none⟩ = false ∧ MM lo m va v1 a0 a1 a2 a3 a4 a5 a6 b0 b1 b2 b3 b4 b5 b6 sa (sb ++ [t]) (Y.setCell ⟨m, 15, none⟩ v1) := by
  have vy : VarA m MeetT #[.int .i64 a0, .int .i64 a1, .int .i64 a2, .int .i64 a3, .int .i64 a4, .string a5, .string a6, .int .i64 b0, .int .i64 b1, .int .i64 b2, .int .i64 b3, .int .i64 b4, .string b5, .string b6, va, vb] Y := ⟨(hp.grown.block m h.var.lt (fun e => h.offB e.symm)).trans h.var.row⟩
  have ho : Only m Y (Y.setCell ⟨m, 15, none⟩ v1) := Only.setCell 15 _
  have hr : MovR StringT Y lo v1 (strC (sb ++ [t])) := by rw [← strC_snoc]; exact hp.row
  have hq : MovR StringT Y lo va (strC sa) := h.rowA.grown hp.grown (fun k hk e => h.apart k hk e.symm)
  have n1 : v1.ownBlock ≠ some m := hr.ne vy (by decide)
  have n2 : va.ownBlock ≠ some m := h.offA
  refine ⟨vy.cell 15, vy.free 15, vy.set 15 _, hq.only ho n2, hr.only ho n1, fun g h1 h2 => ?_, h.low⟩
  rcases hp.stay with h9 | ⟨q, h9, h8⟩
  · exact h.apart g h1 (h9 ▸ h2)
  · have hg : g < X.heap.size := h.rowA.lt g h1
    rw [h9] at h2
    have e : q = g := Option.some.inj h2
    omega
end

end Go.Proofs.YtkjjdoadjhjmbaeGreatDoor
