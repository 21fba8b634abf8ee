/-
  A meeting of two as it lies in memory: both, and what each said that was not taken yet.
  A greeting of two, in plain words: what each becomes; that both who are up heard the same; that a calm one comes up; no program is spoken of here.
-/
import Derived.Test.YtkjjdoadjhjmbauGreatDoorJ27
import Derived.Test.YtkjjdoadjhjmbauGreatDoorJ28
import Derived.Test.YtkjjdoadjhjmbauGreatDoorJ29
import Derived.Test.YtkjjdoadjhjmbauGreatDoorJ24
namespace Go.Proofs.YtkjjdoadjhjmbauGreatDoor
open Go.RowKit

abbrev MeetT : TypeId := 73
/-- Texts as cells. -/
def strC (l : List ByteArray) : List Value := l.map .string
theorem strC_snoc (l : List ByteArray) (x : ByteArray) : strC l ++ [.string x] = strC (l ++ [x]) := by simp [strC]
theorem strC_len (l : List ByteArray) : (strC l).length = l.length := by simp [strC]
theorem movS_head {w : World} {base : Nat} {v : Value} {s : ByteArray} {l : List ByteArray} (h : MovR StringT w base v (strC (s :: l))) : ∃ g off cap, v = .slice (some ⟨g, off, none⟩) (l.length + 1) cap ∧ w.cell? ⟨g, off, none⟩ = some (.string s) ∧ l.length + 1 ≤ cap := by
  obtain ⟨g, off, cap, h1, h2, h3⟩ := MovR.head (us := strC l) h
  rw [strC_len] at h1 h3
  exact ⟨g, off, cap, h1, h2, h3⟩
theorem movS_form {w : World} {base : Nat} {v : Value} {l : List ByteArray} (h : MovR StringT w base v (strC l)) : ∃ ao cap, v = .slice ao l.length cap := by
  obtain ⟨ao, cap, h1⟩ := h.form
  rw [strC_len] at h1
  exact ⟨ao, cap, h1⟩
theorem movS_tail {w : World} {base g off cap : Nat} {s : ByteArray} {l : List ByteArray} (h : MovR StringT w base (.slice (some ⟨g, off, none⟩) (l.length + 1) cap) (strC (s :: l))) : MovR StringT w base (.slice (if cap = 1 then some ⟨g, off, none⟩ else some ⟨g, off + 1, none⟩) l.length (cap - 1)) (strC l) := by
  have h1 := MovR.tail (us := strC l) (u := .string s) (g := g) (off := off) (cap := cap) (by rw [strC_len]; exact h)
  rw [strC_len] at h1
  exact h1
theorem tail_block_same (g off cap n : Nat) : (Value.slice (if cap = 1 then some ⟨g, off, none⟩ else some ⟨g, off + 1, none⟩) n (cap - 1)).ownBlock = some g := by
  split <;> rfl
theorem below_only {lo q : Nat} {X Y : World} (h : Only q X Y) (hq : lo ≤ q) (hl : lo ≤ X.heap.size) : Below lo X Y := ⟨h.os, h.tape, h.output, h.size, fun k hk => h.block k (by omega) (by omega)⟩
/-- A meeting in memory. -/
structure MM (lo m : Nat) (va vb : Value) (a0 a1 a2 a3 a4 : Int) (a5 a6 : ByteArray) (b0 b1 b2 b3 b4 : Int) (b5 b6 : ByteArray) (sa sb : List ByteArray) (X : World) : Prop where
  var : VarA m MeetT #[.int .i64 a0, .int .i64 a1, .int .i64 a2, .int .i64 a3, .int .i64 a4, .string a5, .string a6, .int .i64 b0, .int .i64 b1, .int .i64 b2, .int .i64 b3, .int .i64 b4, .string b5, .string b6, va, vb] X
  rowA : MovR StringT X lo va (strC sa)
  rowB : MovR StringT X lo vb (strC sb)
  apart : ∀ g, va.ownBlock = some g → vb.ownBlock ≠ some g
  low : lo ≤ m
section
variable {lo m : Nat} {va vb : Value} {a0 a1 a2 a3 a4 : Int} {a5 a6 : ByteArray} {b0 b1 b2 b3 b4 : Int} {b5 b6 : ByteArray} {sa sb : List ByteArray} {X Y : World}
theorem MM.next (h : MM lo m va vb a0 a1 a2 a3 a4 a5 a6 b0 b1 b2 b3 b4 b5 b6 sa sb X) (hb : Below X.heap.size X Y) : MM lo m va vb a0 a1 a2 a3 a4 a5 a6 b0 b1 b2 b3 b4 b5 b6 sa sb Y := ⟨h.var.next hb, h.rowA.next hb, h.rowB.next hb, h.apart, h.low⟩
theorem MM.offA (h : MM lo m va vb a0 a1 a2 a3 a4 a5 a6 b0 b1 b2 b3 b4 b5 b6 sa sb X) : va.ownBlock ≠ some m := h.rowA.ne h.var (by decide)
theorem MM.offB (h : MM lo m va vb a0 a1 a2 a3 a4 a5 a6 b0 b1 b2 b3 b4 b5 b6 sa sb X) : vb.ownBlock ≠ some m := h.rowB.ne h.var (by decide)
theorem MM.only (h : MM lo m va vb a0 a1 a2 a3 a4 a5 a6 b0 b1 b2 b3 b4 b5 b6 sa sb X) (ho : Only m X Y) : MovR StringT Y lo va (strC sa) ∧ MovR StringT Y lo vb (strC sb) := ⟨h.rowA.only ho h.offA, h.rowB.only ho h.offB⟩
theorem MM.tookA {s : ByteArray} {g off cap : Nat} (h : MM lo m (.slice (some ⟨g, off, none⟩) (sa.length + 1) cap) vb a0 a1 a2 a3 a4 a5 a6 b0 b1 b2 b3 b4 b5 b6 (s :: sa) sb X) : MM lo m (.slice (if cap = 1 then some ⟨g, off, none⟩ else some ⟨g, off + 1, none⟩) sa.length (cap - 1)) vb a0 a1 a2 a3 a4 a5 a6 b0 b1 b2 b3 b4 b5 b6 sa sb (X.setCell ⟨m, 14, none⟩ (.slice (if cap = 1 then some ⟨g, off, none⟩ else some ⟨g, off + 1, none⟩) sa.length (cap - 1))) := by
  have ho : Only m X (X.setCell ⟨m, 14, none⟩ (.slice (if cap = 1 then some ⟨g, off, none⟩ else some ⟨g, off + 1, none⟩) sa.length (cap - 1))) := Only.setCell 14 _
  have h1 := movS_tail h.rowA
  refine ⟨h.var.set 14 _, h1.only ho ?_, h.rowB.only ho h.offB, fun k hk => ?_, h.low⟩
  · rw [tail_block_same]
    exact h.offA
  · rw [tail_block_same] at hk
    exact h.apart k hk
theorem MM.tookB {s : ByteArray} {g off cap : Nat} (h : MM lo m va (.slice (some ⟨g, off, none⟩) (sb.length + 1) cap) a0 a1 a2 a3 a4 a5 a6 b0 b1 b2 b3 b4 b5 b6 sa (s :: sb) X) : MM lo m va (.slice (if cap = 1 then some ⟨g, off, none⟩ else some ⟨g, off + 1, none⟩) sb.length (cap - 1)) a0 a1 a2 a3 a4 a5 a6 b0 b1 b2 b3 b4 b5 b6 sa sb (X.setCell ⟨m, 15, none⟩ (.slice (if cap = 1 then some ⟨g, off, none⟩ else some ⟨g, off + 1, none⟩) sb.length (cap - 1))) := by
  have ho : Only m X (X.setCell ⟨m, 15, none⟩ (.slice (if cap = 1 then some ⟨g, off, none⟩ else some ⟨g, off + 1, none⟩) sb.length (cap - 1))) := Only.setCell 15 _
  have h1 := movS_tail h.rowB
  refine ⟨h.var.set 15 _, h.rowA.only ho h.offA, h1.only ho ?_, fun k hk => ?_, h.low⟩
  · rw [tail_block_same]
    exact h.offB
  · rw [tail_block_same]
    exact h.apart k hk
theorem MM.heardA {c0 c1 c2 c3 c4 : Int} {c5 c6 : ByteArray} (h : MM lo m va vb a0 a1 a2 a3 a4 a5 a6 b0 b1 b2 b3 b4 b5 b6 sa sb X) : MM lo m va vb c0 c1 c2 c3 c4 c5 c6 b0 b1 b2 b3 b4 b5 b6 sa sb (((((((X.setCell ⟨m, 0, none⟩ (.int .i64 c0)).setCell ⟨m, 1, none⟩ (.int .i64 c1)).setCell ⟨m, 2, none⟩ (.int .i64 c2)).setCell ⟨m, 3, none⟩ (.int .i64 c3)).setCell ⟨m, 4, none⟩ (.int .i64 c4)).setCell ⟨m, 5, none⟩ (.string c5)).setCell ⟨m, 6, none⟩ (.string c6)) := by
  have ho : Only m X (((((((X.setCell ⟨m, 0, none⟩ (.int .i64 c0)).setCell ⟨m, 1, none⟩ (.int .i64 c1)).setCell ⟨m, 2, none⟩ (.int .i64 c2)).setCell ⟨m, 3, none⟩ (.int .i64 c3)).setCell ⟨m, 4, none⟩ (.int .i64 c4)).setCell ⟨m, 5, none⟩ (.string c5)).setCell ⟨m, 6, none⟩ (.string c6)) := (((((((Only.setCell 0 (.int .i64 c0) : Only m X _).trans (Only.setCell 1 (.int .i64 c1))).trans (Only.setCell 2 (.int .i64 c2))).trans (Only.setCell 3 (.int .i64 c3))).trans (Only.setCell 4 (.int .i64 c4))).trans (Only.setCell 5 (.string c5))).trans (Only.setCell 6 (.string c6)))
  have l0 := h.var
  have l1 : VarA m MeetT #[.int .i64 c0, .int .i64 a1, .int .i64 a2, .int .i64 a3, .int .i64 a4, .string a5, .string a6, .int .i64 b0, .int .i64 b1, .int .i64 b2, .int .i64 b3, .int .i64 b4, .string b5, .string b6, va, vb] (X.setCell ⟨m, 0, none⟩ (.int .i64 c0)) := l0.set 0 _
  have l2 : VarA m MeetT #[.int .i64 c0, .int .i64 c1, .int .i64 a2, .int .i64 a3, .int .i64 a4, .string a5, .string a6, .int .i64 b0, .int .i64 b1, .int .i64 b2, .int .i64 b3, .int .i64 b4, .string b5, .string b6, va, vb] ((X.setCell ⟨m, 0, none⟩ (.int .i64 c0)).setCell ⟨m, 1, none⟩ (.int .i64 c1)) := l1.set 1 _
  have l3 : VarA m MeetT #[.int .i64 c0, .int .i64 c1, .int .i64 c2, .int .i64 a3, .int .i64 a4, .string a5, .string a6, .int .i64 b0, .int .i64 b1, .int .i64 b2, .int .i64 b3, .int .i64 b4, .string b5, .string b6, va, vb] (((X.setCell ⟨m, 0, none⟩ (.int .i64 c0)).setCell ⟨m, 1, none⟩ (.int .i64 c1)).setCell ⟨m, 2, none⟩ (.int .i64 c2)) := l2.set 2 _
  have l4 : VarA m MeetT #[.int .i64 c0, .int .i64 c1, .int .i64 c2, .int .i64 c3, .int .i64 a4, .string a5, .string a6, .int .i64 b0, .int .i64 b1, .int .i64 b2, .int .i64 b3, .int .i64 b4, .string b5, .string b6, va, vb] ((((X.setCell ⟨m, 0, none⟩ (.int .i64 c0)).setCell ⟨m, 1, none⟩ (.int .i64 c1)).setCell ⟨m, 2, none⟩ (.int .i64 c2)).setCell ⟨m, 3, none⟩ (.int .i64 c3)) := l3.set 3 _
  have l5 : VarA m MeetT #[.int .i64 c0, .int .i64 c1, .int .i64 c2, .int .i64 c3, .int .i64 c4, .string a5, .string a6, .int .i64 b0, .int .i64 b1, .int .i64 b2, .int .i64 b3, .int .i64 b4, .string b5, .string b6, va, vb] (((((X.setCell ⟨m, 0, none⟩ (.int .i64 c0)).setCell ⟨m, 1, none⟩ (.int .i64 c1)).setCell ⟨m, 2, none⟩ (.int .i64 c2)).setCell ⟨m, 3, none⟩ (.int .i64 c3)).setCell ⟨m, 4, none⟩ (.int .i64 c4)) := l4.set 4 _
  have l6 : VarA m MeetT #[.int .i64 c0, .int .i64 c1, .int .i64 c2, .int .i64 c3, .int .i64 c4, .string c5, .string a6, .int .i64 b0, .int .i64 b1, .int .i64 b2, .int .i64 b3, .int .i64 b4, .string b5, .string b6, va, vb] ((((((X.setCell ⟨m, 0, none⟩ (.int .i64 c0)).setCell ⟨m, 1, none⟩ (.int .i64 c1)).setCell ⟨m, 2, none⟩ (.int .i64 c2)).setCell ⟨m, 3, none⟩ (.int .i64 c3)).setCell ⟨m, 4, none⟩ (.int .i64 c4)).setCell ⟨m, 5, none⟩ (.string c5)) := l5.set 5 _
  have l7 : VarA m MeetT #[.int .i64 c0, .int .i64 c1, .int .i64 c2, .int .i64 c3, .int .i64 c4, .string c5, .string c6, .int .i64 b0, .int .i64 b1, .int .i64 b2, .int .i64 b3, .int .i64 b4, .string b5, .string b6, va, vb] (((((((X.setCell ⟨m, 0, none⟩ (.int .i64 c0)).setCell ⟨m, 1, none⟩ (.int .i64 c1)).setCell ⟨m, 2, none⟩ (.int .i64 c2)).setCell ⟨m, 3, none⟩ (.int .i64 c3)).setCell ⟨m, 4, none⟩ (.int .i64 c4)).setCell ⟨m, 5, none⟩ (.string c5)).setCell ⟨m, 6, none⟩ (.string c6)) := l6.set 6 _
  exact ⟨l7, (h.only ho).1, (h.only ho).2, h.apart, h.low⟩
theorem MM.heardB {c0 c1 c2 c3 c4 : Int} {c5 c6 : ByteArray} (h : MM lo m va vb a0 a1 a2 a3 a4 a5 a6 b0 b1 b2 b3 b4 b5 b6 sa sb X) : MM lo m va vb a0 a1 a2 a3 a4 a5 a6 c0 c1 c2 c3 c4 c5 c6 sa sb (((((((X.setCell ⟨m, 7, none⟩ (.int .i64 c0)).setCell ⟨m, 8, none⟩ (.int .i64 c1)).setCell ⟨m, 9, none⟩ (.int .i64 c2)).setCell ⟨m, 10, none⟩ (.int .i64 c3)).setCell ⟨m, 11, none⟩ (.int .i64 c4)).setCell ⟨m, 12, none⟩ (.string c5)).setCell ⟨m, 13, none⟩ (.string c6)) := by
  have ho : Only m X (((((((X.setCell ⟨m, 7, none⟩ (.int .i64 c0)).setCell ⟨m, 8, none⟩ (.int .i64 c1)).setCell ⟨m, 9, none⟩ (.int .i64 c2)).setCell ⟨m, 10, none⟩ (.int .i64 c3)).setCell ⟨m, 11, none⟩ (.int .i64 c4)).setCell ⟨m, 12, none⟩ (.string c5)).setCell ⟨m, 13, none⟩ (.string c6)) := (((((((Only.setCell 7 (.int .i64 c0) : Only m X _).trans (Only.setCell 8 (.int .i64 c1))).trans (Only.setCell 9 (.int .i64 c2))).trans (Only.setCell 10 (.int .i64 c3))).trans (Only.setCell 11 (.int .i64 c4))).trans (Only.setCell 12 (.string c5))).trans (Only.setCell 13 (.string c6)))
  have l0 := h.var
  have l1 : VarA m MeetT #[.int .i64 a0, .int .i64 a1, .int .i64 a2, .int .i64 a3, .int .i64 a4, .string a5, .string a6, .int .i64 c0, .int .i64 b1, .int .i64 b2, .int .i64 b3, .int .i64 b4, .string b5, .string b6, va, vb] (X.setCell ⟨m, 7, none⟩ (.int .i64 c0)) := l0.set 7 _
  have l2 : VarA m MeetT #[.int .i64 a0, .int .i64 a1, .int .i64 a2, .int .i64 a3, .int .i64 a4, .string a5, .string a6, .int .i64 c0, .int .i64 c1, .int .i64 b2, .int .i64 b3, .int .i64 b4, .string b5, .string b6, va, vb] ((X.setCell ⟨m, 7, none⟩ (.int .i64 c0)).setCell ⟨m, 8, none⟩ (.int .i64 c1)) := l1.set 8 _
  have l3 : VarA m MeetT #[.int .i64 a0, .int .i64 a1, .int .i64 a2, .int .i64 a3, .int .i64 a4, .string a5, .string a6, .int .i64 c0, .int .i64 c1, .int .i64 c2, .int .i64 b3, .int .i64 b4, .string b5, .string b6, va, vb] (((X.setCell ⟨m, 7, none⟩ (.int .i64 c0)).setCell ⟨m, 8, none⟩ (.int .i64 c1)).setCell ⟨m, 9, none⟩ (.int .i64 c2)) := l2.set 9 _
  have l4 : VarA m MeetT #[.int .i64 a0, .int .i64 a1, .int .i64 a2, .int .i64 a3, .int .i64 a4, .string a5, .string a6, .int .i64 c0, .int .i64 c1, .int .i64 c2, .int .i64 c3, .int .i64 b4, .string b5, .string b6, va, vb] ((((X.setCell ⟨m, 7, none⟩ (.int .i64 c0)).setCell ⟨m, 8, none⟩ (.int .i64 c1)).setCell ⟨m, 9, none⟩ (.int .i64 c2)).setCell ⟨m, 10, none⟩ (.int .i64 c3)) := l3.set 10 _
  have l5 : VarA m MeetT #[.int .i64 a0, .int .i64 a1, .int .i64 a2, .int .i64 a3, .int .i64 a4, .string a5, .string a6, .int .i64 c0, .int .i64 c1, .int .i64 c2, .int .i64 c3, .int .i64 c4, .string b5, .string b6, va, vb] (((((X.setCell ⟨m, 7, none⟩ (.int .i64 c0)).setCell ⟨m, 8, none⟩ (.int .i64 c1)).setCell ⟨m, 9, none⟩ (.int .i64 c2)).setCell ⟨m, 10, none⟩ (.int .i64 c3)).setCell ⟨m, 11, none⟩ (.int .i64 c4)) := l4.set 11 _
  have l6 : VarA m MeetT #[.int .i64 a0, .int .i64 a1, .int .i64 a2, .int .i64 a3, .int .i64 a4, .string a5, .string a6, .int .i64 c0, .int .i64 c1, .int .i64 c2, .int .i64 c3, .int .i64 c4, .string c5, .string b6, va, vb] ((((((X.setCell ⟨m, 7, none⟩ (.int .i64 c0)).setCell ⟨m, 8, none⟩ (.int .i64 c1)).setCell ⟨m, 9, none⟩ (.int .i64 c2)).setCell ⟨m, 10, none⟩ (.int .i64 c3)).setCell ⟨m, 11, none⟩ (.int .i64 c4)).setCell ⟨m, 12, none⟩ (.string c5)) := l5.set 12 _
  have l7 : VarA m MeetT #[.int .i64 a0, .int .i64 a1, .int .i64 a2, .int .i64 a3, .int .i64 a4, .string a5, .string a6, .int .i64 c0, .int .i64 c1, .int .i64 c2, .int .i64 c3, .int .i64 c4, .string c5, .string c6, va, vb] (((((((X.setCell ⟨m, 7, none⟩ (.int .i64 c0)).setCell ⟨m, 8, none⟩ (.int .i64 c1)).setCell ⟨m, 9, none⟩ (.int .i64 c2)).setCell ⟨m, 10, none⟩ (.int .i64 c3)).setCell ⟨m, 11, none⟩ (.int .i64 c4)).setCell ⟨m, 12, none⟩ (.string c5)).setCell ⟨m, 13, none⟩ (.string c6)) := l6.set 13 _
  exact ⟨l7, (h.only ho).1, (h.only ho).2, h.apart, h.low⟩
theorem MM.saidA {v1 : Value} {t : ByteArray} (h : MM lo m va vb a0 a1 a2 a3 a4 a5 a6 b0 b1 b2 b3 b4 b5 b6 sa sb X) (hp : PushMv StringT X lo va (strC sa) (.string t) v1 Y) : Y.cell? ⟨m, 14, none⟩ = some va ∧ Y.frozen? ⟨m, 14, none⟩ = false ∧ MM lo m v1 vb a0 a1 a2 a3 a4 a5 a6 b0 b1 b2 b3 b4 b5 b6 (sa ++ [t]) sb (Y.setCell ⟨m, 14, none⟩ v1) := by
  have vy : VarA m MeetT #[.int .i64 a0, .int .i64 a1, .int .i64 a2, .int .i64 a3, .int .i64 a4, .string a5, .string a6, .int .i64 b0, .int .i64 b1, .int .i64 b2, .int .i64 b3, .int .i64 b4, .string b5, .string b6, va, vb] Y := ⟨(hp.grown.block m h.var.lt (fun e => h.offA e.symm)).trans h.var.row⟩
  have ho : Only m Y (Y.setCell ⟨m, 14, none⟩ v1) := Only.setCell 14 _
  have hr : MovR StringT Y lo v1 (strC (sa ++ [t])) := by rw [← strC_snoc]; exact hp.row
  have hq : MovR StringT Y lo vb (strC sb) := h.rowB.grown hp.grown (fun k hk e => h.apart k e.symm hk)
  have n1 : v1.ownBlock ≠ some m := hr.ne vy (by decide)
  have n2 : vb.ownBlock ≠ some m := h.offB
  refine ⟨vy.cell 14, vy.free 14, vy.set 14 _, hr.only ho n1, hq.only ho n2, fun g h1 h2 => ?_, h.low⟩
  rcases hp.stay with h9 | ⟨q, h9, h8⟩
  · exact h.apart g (h9 ▸ h1) h2
  · have hg : g < X.heap.size := h.rowB.lt g h2
    rw [h9] at h1
    have e : q = g := Option.some.inj h1
    omega
theorem MM.saidB {v1 : Value} {t : ByteArray} (h : MM lo m va vb a0 a1 a2 a3 a4 a5 a6 b0 b1 b2 b3 b4 b5 b6 sa sb X) (hp : PushMv StringT X lo vb (strC sb) (.string t) v1 Y) : Y.cell? ⟨m, 15, none⟩ = some vb ∧ Y.frozen? ⟨m, 15, none⟩ = false ∧ MM lo m va v1 a0 a1 a2 a3 a4 a5 a6 b0 b1 b2 b3 b4 b5 b6 sa (sb ++ [t]) (Y.setCell ⟨m, 15, none⟩ v1) := by
  have vy : VarA m MeetT #[.int .i64 a0, .int .i64 a1, .int .i64 a2, .int .i64 a3, .int .i64 a4, .string a5, .string a6, .int .i64 b0, .int .i64 b1, .int .i64 b2, .int .i64 b3, .int .i64 b4, .string b5, .string b6, va, vb] Y := ⟨(hp.grown.block m h.var.lt (fun e => h.offB e.symm)).trans h.var.row⟩
  have ho : Only m Y (Y.setCell ⟨m, 15, none⟩ v1) := Only.setCell 15 _
  have hr : MovR StringT Y lo v1 (strC (sb ++ [t])) := by rw [← strC_snoc]; exact hp.row
  have hq : MovR StringT Y lo va (strC sa) := h.rowA.grown hp.grown (fun k hk e => h.apart k hk e.symm)
  have n1 : v1.ownBlock ≠ some m := hr.ne vy (by decide)
  have n2 : va.ownBlock ≠ some m := h.offA
  refine ⟨vy.cell 15, vy.free 15, vy.set 15 _, hq.only ho n2, hr.only ho n1, fun g h1 h2 => ?_, h.low⟩
  rcases hp.stay with h9 | ⟨q, h9, h8⟩
  · exact h.apart g h1 (h9 ▸ h2)
  · have hg : g < X.heap.size := h.rowA.lt g h1
    rw [h9] at h2
    have e : q = g := Option.some.inj h2
    omega
end

end Go.Proofs.YtkjjdoadjhjmbauGreatDoor
namespace Go.Proofs.YtkjjdoadjhjmbauGreatDoor
open Go.RowKit

/-- A greeter: role, secret, pin, once, step, mine, yours. -/
abbrev GrD := Int × Int × Int × Int × Int × ByteArray × ByteArray
/-- What one becomes and answers that hears a text. -/
def HearD (g : GrD) (s : ByteArray) (h : GrD) (t : ByteArray) : Prop :=
  ∃ y4 y6, HearIs g.1 g.2.1 g.2.2.1 g.2.2.2.2.1 g.2.2.2.2.2.1 g.2.2.2.2.2.2 s y4 y6 t ∧ h = (g.1, g.2.1, g.2.2.1, g.2.2.2.1, y4, g.2.2.2.2.2.1, y6)
theorem hear_d (g : GrD) (s : ByteArray) : ∃ h t, HearD g s h t := by
  obtain ⟨y4, y6, t, h⟩ := hear_is g.1 g.2.1 g.2.2.1 g.2.2.2.2.1 g.2.2.2.2.2.1 g.2.2.2.2.2.2 s
  exact ⟨_, t, y4, y6, h, rfl⟩
/-- Two who greet: both, what each said, and how much of it was taken. -/
structure GT where
  a : GrD
  b : GrD
  sa : List ByteArray
  sb : List ByteArray
  ia : Nat
  ib : Nat
/-- An answer that is not empty is said. -/
def saidT (l : List ByteArray) (t : ByteArray) : List ByteArray := if t = ⟨#[]⟩ then l else l ++ [t]
/-- How much is taken behind an event. -/
def tookT (e : Int) (i : Nat) : Nat := if 1 < e % 4 then i else i + 1
/-- What an event does. -/
def DoIs (e : Int) (x y : GT) : Prop :=
  (e % 2 = 0 ∧ ((x.sa.length ≤ x.ia ∧ y = x) ∨ ∃ s h t, x.sa[x.ia]? = some s ∧ HearD x.b s h t ∧ y = ⟨x.a, h, x.sa, saidT x.sb t, tookT e x.ia, x.ib⟩)) ∨
  (e % 2 = 1 ∧ ((x.sb.length ≤ x.ib ∧ y = x) ∨ ∃ s h t, x.sb[x.ib]? = some s ∧ HearD x.a s h t ∧ y = ⟨h, x.b, saidT x.sa t, x.sb, x.ia, tookT e x.ib⟩))
theorem do_is (e : Int) (x : GT) : ∃ y, DoIs e x y := by
  rcases Int.emod_two_eq e with h | h
  · by_cases h2 : x.sa.length ≤ x.ia
    · exact ⟨_, .inl ⟨h, .inl ⟨h2, rfl⟩⟩⟩
    · have h3 := List.getElem?_eq_getElem (show x.ia < x.sa.length by omega)
      obtain ⟨g, t, hg⟩ := hear_d x.b x.sa[x.ia]
      exact ⟨_, .inl ⟨h, .inr ⟨_, g, t, h3, hg, rfl⟩⟩⟩
  · by_cases h2 : x.sb.length ≤ x.ib
    · exact ⟨_, .inr ⟨h, .inl ⟨h2, rfl⟩⟩⟩
    · have h3 := List.getElem?_eq_getElem (show x.ib < x.sb.length by omega)
      obtain ⟨g, t, hg⟩ := hear_d x.a x.sb[x.ib]
      exact ⟨_, .inr ⟨h, .inr ⟨_, g, t, h3, hg, rfl⟩⟩⟩
/-- What events do, in order. -/
def RunIs : List Int → GT → GT → Prop
  | [], x, y => y = x
  | e :: es, x, y => ∃ z, DoIs e x z ∧ RunIs es z y
theorem run_is (es : List Int) (x : GT) : ∃ y, RunIs es x y := by
  induction es generalizing x with
  | nil => exact ⟨x, rfl⟩
  | cons e es ih =>
    obtain ⟨z, hz⟩ := do_is e x
    obtain ⟨y, hy⟩ := ih z
    exact ⟨y, z, hz, hy⟩
/-- Two who said Hello. -/
def firstG (s0 s1 s2 s3 : ByteArray) : GT :=
  ⟨(1, (secretP s0 : Nat), (publicP (secretP s1) : Nat), (secretP s2 : Nat), 1, helloB 1 (publicP (secretP s2)), ⟨#[]⟩),
   (2, (secretP s1 : Nat), (publicP (secretP s0) : Nat), (secretP s3 : Nat), 1, helloB 2 (publicP (secretP s3)), ⟨#[]⟩),
   [helloB 1 (publicP (secretP s2))], [helloB 2 (publicP (secretP s3))], 0, 0⟩

theorem oneB_size (n : Int) : (oneB n).size = 1 := rfl
theorem hello_size (r : Int) (p : Nat) : (helloB r p).size = 6 := by
  unfold helloB
  rw [ByteArray.size_append, ByteArray.size_append, numB_size, oneB_size]
  rfl
theorem pub_small (s : Nat) : publicP s < 4294967296 := by
  have h : publicP s < prime := Nat.mod_lt _ (by decide)
  rw [primeV] at h
  omega
theorem pub_secret (seed : ByteArray) : inGroup (publicP (secretP seed) : Nat) = true := by
  have h := secretP_in seed
  exact public_in _ (by omega) (by omega)
/-- A hello of one is a hello of the other one to the other. -/
theorem other_hello (r q : Int) (hq : 3 - r = q) (seed : ByteArray) : OtherIs inGroup r (helloB q (publicP (secretP seed))) (publicP (secretP seed)) true := by
  refine .inl ⟨numB (publicP (secretP seed)), rfl, by rw [hq]; rfl, ?_, (pub_secret seed).symm⟩
  exact (fourBack_four _ (pub_small _)).symm
/-- What a greeter holds on its way. -/
structure GI (r sec pin once : Int) (mine other : ByteArray) (i : Nat) (g : GrD) : Prop where
  form : ∃ k y, g = (r, sec, pin, once, k, mine, y) ∧ (k = 1 ∨ k = 2 ∨ k = 3 ∨ k = 4) ∧ (k = 1 → i = 0) ∧ (k = 2 ∨ k = 3 → y = other) ∧ y.size ≤ 6
theorem GI.hears {r sec pin once : Int} {mine other s : ByteArray} {i j : Nat} {g h : GrD} {t : ByteArray} {n : Nat} (hg : GI r sec pin once mine other i g) (ho : OtherIs inGroup r other n true) (hz : other.size ≤ 6) (hs : i = 0 → s = other) (hh : HearD g s h t) : GI r sec pin once mine other j h := by
  obtain ⟨k, y, rfl, hk, h1, h2, h3⟩ := hg
  obtain ⟨y4, y6, hh, rfl⟩ := hh
  rcases hh with ⟨e, m, hm, rfl, rfl, hp⟩ | ⟨e, ⟨m, hm⟩, rfl, rfl, rfl⟩ | ⟨e, b, hb, rfl, rfl, rfl⟩ | ⟨e1, e2, rfl, rfl, rfl⟩
  · have e' : k = 1 := e
    exact ⟨2, y6, rfl, .inr (.inl rfl), fun h => absurd h (by decide), fun _ => hs (h1 e'), by rw [hs (h1 e')]; exact hz⟩
  · have e' : k = 1 := e
    rw [hs (h1 e')] at hm
    exact absurd (other_one ho hm).2 (by decide)
  · have e' : k = 2 := e
    cases b with
    | true => exact ⟨3, _, rfl, .inr (.inr (.inl rfl)), fun h => absurd h (by decide), fun _ => h2 (.inl e'), h3⟩
    | false => exact ⟨4, _, rfl, .inr (.inr (.inr rfl)), fun h => absurd h (by decide), fun h => absurd h (by decide), h3⟩
  · exact ⟨_, _, rfl, hk, fun h => absurd h e1, h2, h3⟩
/-- What two hold on their way. -/
structure GP (s0 s1 s2 s3 : ByteArray) (x : GT) : Prop where
  ga : GI 1 (secretP s0 : Nat) (publicP (secretP s1) : Nat) (secretP s2 : Nat) (helloB 1 (publicP (secretP s2))) (helloB 2 (publicP (secretP s3))) x.ib x.a
  gb : GI 2 (secretP s1 : Nat) (publicP (secretP s0) : Nat) (secretP s3 : Nat) (helloB 2 (publicP (secretP s3))) (helloB 1 (publicP (secretP s2))) x.ia x.b
  sa : x.sa[0]? = some (helloB 1 (publicP (secretP s2)))
  sb : x.sb[0]? = some (helloB 2 (publicP (secretP s3)))
theorem said_first {l : List ByteArray} {s : ByteArray} (t : ByteArray) (h : l[0]? = some s) : (saidT l t)[0]? = some s := by
  unfold saidT
  split
  · exact h
  · rw [List.getElem?_append_left (by cases l with | nil => simp at h | cons => simp)]
    exact h
theorem GP.first (s0 s1 s2 s3 : ByteArray) : GP s0 s1 s2 s3 (firstG s0 s1 s2 s3) :=
  ⟨⟨1, _, rfl, .inl rfl, fun _ => rfl, fun h => absurd h (by decide), by decide⟩, ⟨1, _, rfl, .inl rfl, fun _ => rfl, fun h => absurd h (by decide), by decide⟩, rfl, rfl⟩
theorem GP.does {s0 s1 s2 s3 : ByteArray} {e : Int} {x y : GT} (hx : GP s0 s1 s2 s3 x) (hd : DoIs e x y) : GP s0 s1 s2 s3 y := by
  rcases hd with ⟨-, ⟨-, rfl⟩ | ⟨s, h, t, hs, hh, rfl⟩⟩ | ⟨-, ⟨-, rfl⟩ | ⟨s, h, t, hs, hh, rfl⟩⟩
  · exact hx
  · exact ⟨hx.ga, hx.gb.hears (other_hello 2 1 rfl s2) (by rw [hello_size]; omega) (fun e => by rw [e, hx.sa] at hs; exact (Option.some.inj hs).symm) hh, hx.sa, said_first t hx.sb⟩
  · exact hx
  · exact ⟨hx.ga.hears (other_hello 1 2 rfl s3) (by rw [hello_size]; omega) (fun e => by rw [e, hx.sb] at hs; exact (Option.some.inj hs).symm) hh, hx.gb, said_first t hx.sa, hx.sb⟩
theorem GP.runs {s0 s1 s2 s3 : ByteArray} {es : List Int} {x y : GT} (hx : GP s0 s1 s2 s3 x) (hr : RunIs es x y) : GP s0 s1 s2 s3 y := by
  induction es generalizing x with
  | nil => rw [show y = x from hr]; exact hx
  | cons e es ih =>
    obtain ⟨z, hz, hy⟩ := hr
    exact ih (hx.does hz) hy

theorem signed_empty (E S : Nat) : (⟨#[112]⟩ : ByteArray) ++ (numB E ++ numB S) ≠ ⟨#[]⟩ := by
  intro h
  have h2 := congrArg ByteArray.size h
  rw [ByteArray.size_append] at h2
  have h3 : (⟨#[112]⟩ : ByteArray).size = 1 := rfl
  have h4 : (⟨#[]⟩ : ByteArray).size = 0 := rfl
  omega
/-- Who hears the other one's hello. -/
theorem hear_hello {r sec pin once : Int} {mine y other t : ByteArray} {h : GrD} {n : Nat} (ho : OtherIs inGroup r other n true) (hh : HearD (r, sec, pin, once, 1, mine, y) other h t) : h = (r, sec, pin, once, 2, mine, other) ∧ ProofIs r sec 2 mine other t := by
  obtain ⟨y4, y6, hh, rfl⟩ := hh
  rcases hh with ⟨-, m, hm, rfl, rfl, hp⟩ | ⟨-, ⟨m, hm⟩, rfl, rfl, rfl⟩ | ⟨e, -⟩ | ⟨e1, -⟩
  · exact ⟨rfl, hp⟩
  · exact absurd (other_one ho hm).2 (by decide)
  · exact absurd (show (1 : Int) = 2 from e) (by decide)
  · exact absurd rfl e1
/-- Who hears a right proof. -/
theorem hear_proof {r sec pin once : Int} {mine y s t : ByteArray} {h : GrD} (hc : CheckIs r pin mine y s true) (hh : HearD (r, sec, pin, once, 2, mine, y) s h t) : h = (r, sec, pin, once, 3, mine, y) ∧ t = ⟨#[]⟩ := by
  obtain ⟨y4, y6, hh, rfl⟩ := hh
  rcases hh with ⟨e, -⟩ | ⟨e, -⟩ | ⟨-, b, hb, rfl, rfl, rfl⟩ | ⟨-, e2, -⟩
  · exact absurd (show (2 : Int) = 1 from e) (by decide)
  · exact absurd (show (2 : Int) = 1 from e) (by decide)
  · have e : b = true := hb.2 (hc.1 rfl)
    subst e
    exact ⟨rfl, rfl⟩
  · exact absurd rfl e2
theorem proof_said {r sec : Int} {mine yours t : ByteArray} (h : ProofIs r sec 2 mine yours t) : ∃ E S, SigIs sec (transB r mine yours ++ oneB r) E S ∧ t = (⟨#[112]⟩ : ByteArray) ++ (numB E ++ numB S) := by
  rcases h with ⟨-, h⟩ | ⟨h, -⟩
  · exact h
  · exact absurd (.inl rfl) h
/-- A proof of one is right to the other. -/
theorem proof_right {r q : Int} (hq : 3 - r = q) (seed mine yours t : ByteArray) (ht : transB r mine yours = transB q yours mine) (h : ProofIs q (secretP seed : Nat) 2 yours mine t) : CheckIs r (publicP (secretP seed) : Nat) mine yours t true := by
  refine ⟨fun _ => ?_, fun _ => rfl⟩
  obtain ⟨E, S, hs, rfl⟩ := proof_said h
  have hin := secretP_in seed
  rcases hs with ⟨-, hE, hS⟩ | ⟨hn, -, -⟩
  · rw [Int.toNat_natCast] at hE hS
    refine ⟨E, S, by rw [hE]; exact signE_lt _ _, by rw [hS]; exact signS_lt _ _, rfl, pub_secret seed, ?_⟩
    rw [Int.toNat_natCast, ht, hq, hE, hS, back_sign]
    rfl
  · exact absurd ⟨by omega, by omega⟩ hn
theorem said_more {l : List ByteArray} {E S : Nat} : saidT l ((⟨#[112]⟩ : ByteArray) ++ (numB E ++ numB S)) = l ++ [(⟨#[112]⟩ : ByteArray) ++ (numB E ++ numB S)] := by
  unfold saidT
  rw [if_neg (signed_empty E S)]
theorem saidT_none (l : List ByteArray) : saidT l ⟨#[]⟩ = l := by
  unfold saidT
  rw [if_pos rfl]
theorem do_zero {x y : GT} {s : ByteArray} (hs : x.sa[x.ia]? = some s) (hd : DoIs 0 x y) : ∃ h t, HearD x.b s h t ∧ y = ⟨x.a, h, x.sa, saidT x.sb t, x.ia + 1, x.ib⟩ := by
  rcases hd with ⟨-, ⟨h, -⟩ | ⟨s', h, t, hs', hh, rfl⟩⟩ | ⟨h, -⟩
  · rw [List.getElem?_eq_none h] at hs
    cases hs
  · rw [hs] at hs'
    obtain rfl := Option.some.inj hs'
    exact ⟨h, t, hh, rfl⟩
  · exact absurd h (by decide)
theorem do_one {x y : GT} {s : ByteArray} (hs : x.sb[x.ib]? = some s) (hd : DoIs 1 x y) : ∃ h t, HearD x.a s h t ∧ y = ⟨h, x.b, saidT x.sa t, x.sb, x.ia, x.ib + 1⟩ := by
  rcases hd with ⟨h, -⟩ | ⟨-, ⟨h, -⟩ | ⟨s', h, t, hs', hh, rfl⟩⟩
  · exact absurd h (by decide)
  · rw [List.getElem?_eq_none h] at hs
    cases hs
  · rw [hs] at hs'
    obtain rfl := Option.some.inj hs'
    exact ⟨h, t, hh, rfl⟩
theorem calm_go {sA pA oA sB pB oB : Int} {MA MB e : ByteArray} {nA nB : Nat} {y : GT} (oa : OtherIs inGroup 2 MA nA true) (ob : OtherIs inGroup 1 MB nB true)
    (ca : ∀ t, ProofIs 1 sA 2 MA MB t → CheckIs 2 pB MB MA t true) (cb : ∀ t, ProofIs 2 sB 2 MB MA t → CheckIs 1 pA MA MB t true)
    (hr : RunIs [0, 1, 0, 1] ⟨(1, sA, pA, oA, 1, MA, e), (2, sB, pB, oB, 1, MB, e), [MA], [MB], 0, 0⟩ y) :
    y.a = (1, sA, pA, oA, 3, MA, MB) ∧ y.b = (2, sB, pB, oB, 3, MB, MA) := by
  obtain ⟨x1, d1, x2, d2, x3, d3, x4, d4, hy⟩ := hr
  obtain rfl : y = x4 := hy
  obtain ⟨h1, t1, k1, rfl⟩ := do_zero (s := MA) rfl d1
  obtain ⟨rfl, p1⟩ := hear_hello oa k1
  obtain ⟨E1, S1, -, e1⟩ := proof_said p1
  have q1 : saidT [MB] t1 = [MB, t1] := by rw [e1]; exact said_more
  simp only [q1] at d2
  obtain ⟨h2, t2, k2, rfl⟩ := do_one (s := MB) rfl d2
  obtain ⟨rfl, p2⟩ := hear_hello ob k2
  obtain ⟨E2, S2, -, e2⟩ := proof_said p2
  have q2 : saidT [MA] t2 = [MA, t2] := by rw [e2]; exact said_more
  simp only [q2] at d3
  obtain ⟨h3, t3, k3, rfl⟩ := do_zero (s := t2) rfl d3
  obtain ⟨rfl, rfl⟩ := hear_proof (ca t2 p2) k3
  simp only [saidT_none] at d4
  obtain ⟨h4, t4, k4, rfl⟩ := do_one (s := t1) rfl d4
  obtain ⟨rfl, rfl⟩ := hear_proof (cb t1 p1) k4
  exact ⟨rfl, rfl⟩
theorem trans_two (a b : ByteArray) : transB 2 a b = transB 1 b a := by
  unfold transB
  rw [if_neg (by decide), if_pos rfl]
/-- A calm greeting comes up at both. -/
theorem calm_up {s0 s1 s2 s3 : ByteArray} {y : GT} (hr : RunIs [0, 1, 0, 1] (firstG s0 s1 s2 s3) y) :
    y.a = ((1, (secretP s0 : Nat), (publicP (secretP s1) : Nat), (secretP s2 : Nat), 3, helloB 1 (publicP (secretP s2)), helloB 2 (publicP (secretP s3))) : GrD) ∧
    y.b = ((2, (secretP s1 : Nat), (publicP (secretP s0) : Nat), (secretP s3 : Nat), 3, helloB 2 (publicP (secretP s3)), helloB 1 (publicP (secretP s2))) : GrD) := by
  unfold firstG at hr
  exact calm_go (other_hello 2 1 rfl s2) (other_hello 1 2 rfl s3) (fun t h => proof_right (q := 1) (by decide) s0 _ _ t (trans_two _ _) h) (fun t h => proof_right (q := 2) (by decide) s1 _ _ t (trans_two _ _).symm h) hr

end Go.Proofs.YtkjjdoadjhjmbauGreatDoor
