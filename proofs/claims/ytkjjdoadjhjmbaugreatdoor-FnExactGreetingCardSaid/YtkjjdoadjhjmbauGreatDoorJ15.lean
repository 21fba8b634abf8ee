/-
  A greeter's cells through a region that draws its order; signatures by any number.
  The given CheckText and SharedOf.
  The program's PublicOf and SharedOf: what they answer.
  Signatures compared as values.
-/
import Derived.Test.YtkjjdoadjhjmbauGreatDoorJ09
import Derived.Test.YtkjjdoadjhjmbauGreatDoorJ14
import Derived.Test.YtkjjdoadjhjmbauGreatDoorRows
import Derived.Test.YtkjjdoadjhjmbauGreatDoorJ02
import Derived.Laws.StructEq
namespace Go.Proofs.YtkjjdoadjhjmbauGreatDoor
open Go.RowKit

section
variable {V X Y : World} {b : Nat} {x0 x1 x2 x3 x4 : Int} {x5 x6 : ByteArray}
theorem sbg_next (h : X.cell? ⟨b, 0, none⟩ = some (.int .i64 x0) ∧ X.cell? ⟨b, 1, none⟩ = some (.int .i64 x1) ∧ X.cell? ⟨b, 2, none⟩ = some (.int .i64 x2) ∧ X.cell? ⟨b, 3, none⟩ = some (.int .i64 x3) ∧ X.cell? ⟨b, 4, none⟩ = some (.int .i64 x4) ∧ X.cell? ⟨b, 5, none⟩ = some (.string x5) ∧ X.cell? ⟨b, 6, none⟩ = some (.string x6) ∧ Below V.heap.size V X) (hb : Below X.heap.size X Y) : Y.cell? ⟨b, 0, none⟩ = some (.int .i64 x0) ∧ Y.cell? ⟨b, 1, none⟩ = some (.int .i64 x1) ∧ Y.cell? ⟨b, 2, none⟩ = some (.int .i64 x2) ∧ Y.cell? ⟨b, 3, none⟩ = some (.int .i64 x3) ∧ Y.cell? ⟨b, 4, none⟩ = some (.int .i64 x4) ∧ Y.cell? ⟨b, 5, none⟩ = some (.string x5) ∧ Y.cell? ⟨b, 6, none⟩ = some (.string x6) ∧ Below V.heap.size V Y := by
  obtain ⟨h0, h1, h2, h3, h4, h5, h6, h7⟩ := h
  have hg : b < X.heap.size := cell_size (p := ⟨b, 0, none⟩) h0
  exact ⟨by rw [hb.cell (p := ⟨b, 0, none⟩) hg]; exact h0, by rw [hb.cell (p := ⟨b, 1, none⟩) hg]; exact h1, by rw [hb.cell (p := ⟨b, 2, none⟩) hg]; exact h2, by rw [hb.cell (p := ⟨b, 3, none⟩) hg]; exact h3, by rw [hb.cell (p := ⟨b, 4, none⟩) hg]; exact h4, by rw [hb.cell (p := ⟨b, 5, none⟩) hg]; exact h5, by rw [hb.cell (p := ⟨b, 6, none⟩) hg]; exact h6, h7.trans (hb.mono h7.size)⟩
theorem sbg_drew (h : X.cell? ⟨b, 0, none⟩ = some (.int .i64 x0) ∧ X.cell? ⟨b, 1, none⟩ = some (.int .i64 x1) ∧ X.cell? ⟨b, 2, none⟩ = some (.int .i64 x2) ∧ X.cell? ⟨b, 3, none⟩ = some (.int .i64 x3) ∧ X.cell? ⟨b, 4, none⟩ = some (.int .i64 x4) ∧ X.cell? ⟨b, 5, none⟩ = some (.string x5) ∧ X.cell? ⟨b, 6, none⟩ = some (.string x6) ∧ Below V.heap.size V X) : X.drew.cell? ⟨b, 0, none⟩ = some (.int .i64 x0) ∧ X.drew.cell? ⟨b, 1, none⟩ = some (.int .i64 x1) ∧ X.drew.cell? ⟨b, 2, none⟩ = some (.int .i64 x2) ∧ X.drew.cell? ⟨b, 3, none⟩ = some (.int .i64 x3) ∧ X.drew.cell? ⟨b, 4, none⟩ = some (.int .i64 x4) ∧ X.drew.cell? ⟨b, 5, none⟩ = some (.string x5) ∧ X.drew.cell? ⟨b, 6, none⟩ = some (.string x6) ∧ Below V.heap.size V X.drew := sbg_next h ((Below.refl _ X).drew)
theorem sbg_alloc (h : X.cell? ⟨b, 0, none⟩ = some (.int .i64 x0) ∧ X.cell? ⟨b, 1, none⟩ = some (.int .i64 x1) ∧ X.cell? ⟨b, 2, none⟩ = some (.int .i64 x2) ∧ X.cell? ⟨b, 3, none⟩ = some (.int .i64 x3) ∧ X.cell? ⟨b, 4, none⟩ = some (.int .i64 x4) ∧ X.cell? ⟨b, 5, none⟩ = some (.string x5) ∧ X.cell? ⟨b, 6, none⟩ = some (.string x6) ∧ Below V.heap.size V X) (o : Obj) : (X.alloc o).cell? ⟨b, 0, none⟩ = some (.int .i64 x0) ∧ (X.alloc o).cell? ⟨b, 1, none⟩ = some (.int .i64 x1) ∧ (X.alloc o).cell? ⟨b, 2, none⟩ = some (.int .i64 x2) ∧ (X.alloc o).cell? ⟨b, 3, none⟩ = some (.int .i64 x3) ∧ (X.alloc o).cell? ⟨b, 4, none⟩ = some (.int .i64 x4) ∧ (X.alloc o).cell? ⟨b, 5, none⟩ = some (.string x5) ∧ (X.alloc o).cell? ⟨b, 6, none⟩ = some (.string x6) ∧ Below V.heap.size V (X.alloc o) := sbg_next h ((Below.refl _ X).alloc (Nat.le_refl _) o)
theorem sbg_set (h : X.cell? ⟨b, 0, none⟩ = some (.int .i64 x0) ∧ X.cell? ⟨b, 1, none⟩ = some (.int .i64 x1) ∧ X.cell? ⟨b, 2, none⟩ = some (.int .i64 x2) ∧ X.cell? ⟨b, 3, none⟩ = some (.int .i64 x3) ∧ X.cell? ⟨b, 4, none⟩ = some (.int .i64 x4) ∧ X.cell? ⟨b, 5, none⟩ = some (.string x5) ∧ X.cell? ⟨b, 6, none⟩ = some (.string x6) ∧ Below V.heap.size V X) {G : Nat} (j : Nat) (hG : V.heap.size ≤ G) (h9 : b < V.heap.size) (u : Value) : (X.setCell ⟨G, j, none⟩ u).cell? ⟨b, 0, none⟩ = some (.int .i64 x0) ∧ (X.setCell ⟨G, j, none⟩ u).cell? ⟨b, 1, none⟩ = some (.int .i64 x1) ∧ (X.setCell ⟨G, j, none⟩ u).cell? ⟨b, 2, none⟩ = some (.int .i64 x2) ∧ (X.setCell ⟨G, j, none⟩ u).cell? ⟨b, 3, none⟩ = some (.int .i64 x3) ∧ (X.setCell ⟨G, j, none⟩ u).cell? ⟨b, 4, none⟩ = some (.int .i64 x4) ∧ (X.setCell ⟨G, j, none⟩ u).cell? ⟨b, 5, none⟩ = some (.string x5) ∧ (X.setCell ⟨G, j, none⟩ u).cell? ⟨b, 6, none⟩ = some (.string x6) ∧ Below V.heap.size V (X.setCell ⟨G, j, none⟩ u) := by
  obtain ⟨h0, h1, h2, h3, h4, h5, h6, h7⟩ := h
  exact ⟨by rw [World.cell?_setCell_far _ _ _ _ (by show G ≠ b; omega)]; exact h0, by rw [World.cell?_setCell_far _ _ _ _ (by show G ≠ b; omega)]; exact h1, by rw [World.cell?_setCell_far _ _ _ _ (by show G ≠ b; omega)]; exact h2, by rw [World.cell?_setCell_far _ _ _ _ (by show G ≠ b; omega)]; exact h3, by rw [World.cell?_setCell_far _ _ _ _ (by show G ≠ b; omega)]; exact h4, by rw [World.cell?_setCell_far _ _ _ _ (by show G ≠ b; omega)]; exact h5, by rw [World.cell?_setCell_far _ _ _ _ (by show G ≠ b; omega)]; exact h6, h7.setCell (p := ⟨G, j, none⟩) hG u⟩
theorem sbg_store2 (h : X.cell? ⟨b, 0, none⟩ = some (.int .i64 x0) ∧ X.cell? ⟨b, 1, none⟩ = some (.int .i64 x1) ∧ X.cell? ⟨b, 2, none⟩ = some (.int .i64 x2) ∧ X.cell? ⟨b, 3, none⟩ = some (.int .i64 x3) ∧ X.cell? ⟨b, 4, none⟩ = some (.int .i64 x4) ∧ X.cell? ⟨b, 5, none⟩ = some (.string x5) ∧ X.cell? ⟨b, 6, none⟩ = some (.string x6) ∧ Below V.heap.size V X) {G : Nat} (hG : V.heap.size ≤ G) (h9 : b < V.heap.size) (u v : Value) : ((X.setCell ⟨G, 0, none⟩ u).setCell ⟨G, 1, none⟩ v).cell? ⟨b, 0, none⟩ = some (.int .i64 x0) ∧ ((X.setCell ⟨G, 0, none⟩ u).setCell ⟨G, 1, none⟩ v).cell? ⟨b, 1, none⟩ = some (.int .i64 x1) ∧ ((X.setCell ⟨G, 0, none⟩ u).setCell ⟨G, 1, none⟩ v).cell? ⟨b, 2, none⟩ = some (.int .i64 x2) ∧ ((X.setCell ⟨G, 0, none⟩ u).setCell ⟨G, 1, none⟩ v).cell? ⟨b, 3, none⟩ = some (.int .i64 x3) ∧ ((X.setCell ⟨G, 0, none⟩ u).setCell ⟨G, 1, none⟩ v).cell? ⟨b, 4, none⟩ = some (.int .i64 x4) ∧ ((X.setCell ⟨G, 0, none⟩ u).setCell ⟨G, 1, none⟩ v).cell? ⟨b, 5, none⟩ = some (.string x5) ∧ ((X.setCell ⟨G, 0, none⟩ u).setCell ⟨G, 1, none⟩ v).cell? ⟨b, 6, none⟩ = some (.string x6) ∧ Below V.heap.size V ((X.setCell ⟨G, 0, none⟩ u).setCell ⟨G, 1, none⟩ v) := sbg_set (sbg_set h 0 hG h9 u) 1 hG h9 v
theorem sbg_far (h : X.cell? ⟨b, 0, none⟩ = some (.int .i64 x0) ∧ X.cell? ⟨b, 1, none⟩ = some (.int .i64 x1) ∧ X.cell? ⟨b, 2, none⟩ = some (.int .i64 x2) ∧ X.cell? ⟨b, 3, none⟩ = some (.int .i64 x3) ∧ X.cell? ⟨b, 4, none⟩ = some (.int .i64 x4) ∧ X.cell? ⟨b, 5, none⟩ = some (.string x5) ∧ X.cell? ⟨b, 6, none⟩ = some (.string x6) ∧ Below V.heap.size V X) {G : Nat} (j : Nat) (hG : V.heap.size ≤ G) (h9 : G ≠ b) (u : Value) : (X.setCell ⟨G, j, none⟩ u).cell? ⟨b, 0, none⟩ = some (.int .i64 x0) ∧ (X.setCell ⟨G, j, none⟩ u).cell? ⟨b, 1, none⟩ = some (.int .i64 x1) ∧ (X.setCell ⟨G, j, none⟩ u).cell? ⟨b, 2, none⟩ = some (.int .i64 x2) ∧ (X.setCell ⟨G, j, none⟩ u).cell? ⟨b, 3, none⟩ = some (.int .i64 x3) ∧ (X.setCell ⟨G, j, none⟩ u).cell? ⟨b, 4, none⟩ = some (.int .i64 x4) ∧ (X.setCell ⟨G, j, none⟩ u).cell? ⟨b, 5, none⟩ = some (.string x5) ∧ (X.setCell ⟨G, j, none⟩ u).cell? ⟨b, 6, none⟩ = some (.string x6) ∧ Below V.heap.size V (X.setCell ⟨G, j, none⟩ u) := by
  obtain ⟨h0, h1, h2, h3, h4, h5, h6, h7⟩ := h
  exact ⟨by rw [World.cell?_setCell_far _ _ _ _ (by show G ≠ b; omega)]; exact h0, by rw [World.cell?_setCell_far _ _ _ _ (by show G ≠ b; omega)]; exact h1, by rw [World.cell?_setCell_far _ _ _ _ (by show G ≠ b; omega)]; exact h2, by rw [World.cell?_setCell_far _ _ _ _ (by show G ≠ b; omega)]; exact h3, by rw [World.cell?_setCell_far _ _ _ _ (by show G ≠ b; omega)]; exact h4, by rw [World.cell?_setCell_far _ _ _ _ (by show G ≠ b; omega)]; exact h5, by rw [World.cell?_setCell_far _ _ _ _ (by show G ≠ b; omega)]; exact h6, h7.setCell (p := ⟨G, j, none⟩) hG u⟩
theorem sbg_put7 (h : X.cell? ⟨b, 0, none⟩ = some (.int .i64 x0) ∧ X.cell? ⟨b, 1, none⟩ = some (.int .i64 x1) ∧ X.cell? ⟨b, 2, none⟩ = some (.int .i64 x2) ∧ X.cell? ⟨b, 3, none⟩ = some (.int .i64 x3) ∧ X.cell? ⟨b, 4, none⟩ = some (.int .i64 x4) ∧ X.cell? ⟨b, 5, none⟩ = some (.string x5) ∧ X.cell? ⟨b, 6, none⟩ = some (.string x6) ∧ Below V.heap.size V X) {G : Nat} (hG : V.heap.size ≤ G) (h9 : G ≠ b) (u0 u1 u2 u3 u4 u5 u6 : Value) : (((((((X.setCell ⟨G, 0, none⟩ u0).setCell ⟨G, 1, none⟩ u1).setCell ⟨G, 2, none⟩ u2).setCell ⟨G, 3, none⟩ u3).setCell ⟨G, 4, none⟩ u4).setCell ⟨G, 5, none⟩ u5).setCell ⟨G, 6, none⟩ u6).cell? ⟨b, 0, none⟩ = some (.int .i64 x0) ∧ (((((((X.setCell ⟨G, 0, none⟩ u0).setCell ⟨G, 1, none⟩ u1).setCell ⟨G, 2, none⟩ u2).setCell ⟨G, 3, none⟩ u3).setCell ⟨G, 4, none⟩ u4).setCell ⟨G, 5, none⟩ u5).setCell ⟨G, 6, none⟩ u6).cell? ⟨b, 1, none⟩ = some (.int .i64 x1) ∧ (((((((X.setCell ⟨G, 0, none⟩ u0).setCell ⟨G, 1, none⟩ u1).setCell ⟨G, 2, none⟩ u2).setCell ⟨G, 3, none⟩ u3).setCell ⟨G, 4, none⟩ u4).setCell ⟨G, 5, none⟩ u5).setCell ⟨G, 6, none⟩ u6).cell? ⟨b, 2, none⟩ = some (.int .i64 x2) ∧ (((((((X.setCell ⟨G, 0, none⟩ u0).setCell ⟨G, 1, none⟩ u1).setCell ⟨G, 2, none⟩ u2).setCell ⟨G, 3, none⟩ u3).setCell ⟨G, 4, none⟩ u4).setCell ⟨G, 5, none⟩ u5).setCell ⟨G, 6, none⟩ u6).cell? ⟨b, 3, none⟩ = some (.int .i64 x3) ∧ (((((((X.setCell ⟨G, 0, none⟩ u0).setCell ⟨G, 1, none⟩ u1).setCell ⟨G, 2, none⟩ u2).setCell ⟨G, 3, none⟩ u3).setCell ⟨G, 4, none⟩ u4).setCell ⟨G, 5, none⟩ u5).setCell ⟨G, 6, none⟩ u6).cell? ⟨b, 4, none⟩ = some (.int .i64 x4) ∧ (((((((X.setCell ⟨G, 0, none⟩ u0).setCell ⟨G, 1, none⟩ u1).setCell ⟨G, 2, none⟩ u2).setCell ⟨G, 3, none⟩ u3).setCell ⟨G, 4, none⟩ u4).setCell ⟨G, 5, none⟩ u5).setCell ⟨G, 6, none⟩ u6).cell? ⟨b, 5, none⟩ = some (.string x5) ∧ (((((((X.setCell ⟨G, 0, none⟩ u0).setCell ⟨G, 1, none⟩ u1).setCell ⟨G, 2, none⟩ u2).setCell ⟨G, 3, none⟩ u3).setCell ⟨G, 4, none⟩ u4).setCell ⟨G, 5, none⟩ u5).setCell ⟨G, 6, none⟩ u6).cell? ⟨b, 6, none⟩ = some (.string x6) ∧ Below V.heap.size V (((((((X.setCell ⟨G, 0, none⟩ u0).setCell ⟨G, 1, none⟩ u1).setCell ⟨G, 2, none⟩ u2).setCell ⟨G, 3, none⟩ u3).setCell ⟨G, 4, none⟩ u4).setCell ⟨G, 5, none⟩ u5).setCell ⟨G, 6, none⟩ u6) := sbg_far (sbg_far (sbg_far (sbg_far (sbg_far (sbg_far (sbg_far h 0 hG h9 u0) 1 hG h9 u1) 2 hG h9 u2) 3 hG h9 u3) 4 hG h9 u4) 5 hG h9 u5) 6 hG h9 u6
theorem sbg_in {G0 : World} (hv : VarA b GreeterT #[.int .i64 x0, .int .i64 x1, .int .i64 x2, .int .i64 x3, .int .i64 x4, .string x5, .string x6] X) (hb : Below G0.heap.size G0 X) : X.cell? ⟨b, 0, none⟩ = some (.int .i64 x0) ∧ X.cell? ⟨b, 1, none⟩ = some (.int .i64 x1) ∧ X.cell? ⟨b, 2, none⟩ = some (.int .i64 x2) ∧ X.cell? ⟨b, 3, none⟩ = some (.int .i64 x3) ∧ X.cell? ⟨b, 4, none⟩ = some (.int .i64 x4) ∧ X.cell? ⟨b, 5, none⟩ = some (.string x5) ∧ X.cell? ⟨b, 6, none⟩ = some (.string x6) ∧ Below G0.heap.size G0 X := ⟨hv.cell 0, hv.cell 1, hv.cell 2, hv.cell 3, hv.cell 4, hv.cell 5, hv.cell 6, hb⟩
theorem sbg_of (hv : VarA b GreeterT #[.int .i64 x0, .int .i64 x1, .int .i64 x2, .int .i64 x3, .int .i64 x4, .string x5, .string x6] X) : X.cell? ⟨b, 0, none⟩ = some (.int .i64 x0) ∧ X.cell? ⟨b, 1, none⟩ = some (.int .i64 x1) ∧ X.cell? ⟨b, 2, none⟩ = some (.int .i64 x2) ∧ X.cell? ⟨b, 3, none⟩ = some (.int .i64 x3) ∧ X.cell? ⟨b, 4, none⟩ = some (.int .i64 x4) ∧ X.cell? ⟨b, 5, none⟩ = some (.string x5) ∧ X.cell? ⟨b, 6, none⟩ = some (.string x6) ∧ Below X.heap.size X X := ⟨hv.cell 0, hv.cell 1, hv.cell 2, hv.cell 3, hv.cell 4, hv.cell 5, hv.cell 6, Below.refl _ _⟩
end
section
variable {X w : World} {G base : Nat} {T : TypeId} {q0 q1 q2 q3 q4 q5 q6 : Value}
theorem VarA.put7 (h : VarA G T #[q0, q1, q2, q3, q4, q5, q6] X) (u0 u1 u2 u3 u4 u5 u6 : Value) : VarA G T #[u0, u1, u2, u3, u4, u5, u6] (((((((X.setCell ⟨G, 0, none⟩ u0).setCell ⟨G, 1, none⟩ u1).setCell ⟨G, 2, none⟩ u2).setCell ⟨G, 3, none⟩ u3).setCell ⟨G, 4, none⟩ u4).setCell ⟨G, 5, none⟩ u5).setCell ⟨G, 6, none⟩ u6) := by
  have h0 : VarA G T #[u0, q1, q2, q3, q4, q5, q6] (X.setCell ⟨G, 0, none⟩ u0) := h.set 0 u0
  have h1 : VarA G T #[u0, u1, q2, q3, q4, q5, q6] ((X.setCell ⟨G, 0, none⟩ u0).setCell ⟨G, 1, none⟩ u1) := h0.set 1 u1
  have h2 : VarA G T #[u0, u1, u2, q3, q4, q5, q6] (((X.setCell ⟨G, 0, none⟩ u0).setCell ⟨G, 1, none⟩ u1).setCell ⟨G, 2, none⟩ u2) := h1.set 2 u2
  have h3 : VarA G T #[u0, u1, u2, u3, q4, q5, q6] ((((X.setCell ⟨G, 0, none⟩ u0).setCell ⟨G, 1, none⟩ u1).setCell ⟨G, 2, none⟩ u2).setCell ⟨G, 3, none⟩ u3) := h2.set 3 u3
  have h4 : VarA G T #[u0, u1, u2, u3, u4, q5, q6] (((((X.setCell ⟨G, 0, none⟩ u0).setCell ⟨G, 1, none⟩ u1).setCell ⟨G, 2, none⟩ u2).setCell ⟨G, 3, none⟩ u3).setCell ⟨G, 4, none⟩ u4) := h3.set 4 u4
  have h5 : VarA G T #[u0, u1, u2, u3, u4, u5, q6] ((((((X.setCell ⟨G, 0, none⟩ u0).setCell ⟨G, 1, none⟩ u1).setCell ⟨G, 2, none⟩ u2).setCell ⟨G, 3, none⟩ u3).setCell ⟨G, 4, none⟩ u4).setCell ⟨G, 5, none⟩ u5) := h4.set 5 u5
  have h6 : VarA G T #[u0, u1, u2, u3, u4, u5, u6] (((((((X.setCell ⟨G, 0, none⟩ u0).setCell ⟨G, 1, none⟩ u1).setCell ⟨G, 2, none⟩ u2).setCell ⟨G, 3, none⟩ u3).setCell ⟨G, 4, none⟩ u4).setCell ⟨G, 5, none⟩ u5).setCell ⟨G, 6, none⟩ u6) := h5.set 6 u6
  exact h6
theorem below_put7 (h : Below base w X) (hG : base ≤ G) (u0 u1 u2 u3 u4 u5 u6 : Value) : Below base w (((((((X.setCell ⟨G, 0, none⟩ u0).setCell ⟨G, 1, none⟩ u1).setCell ⟨G, 2, none⟩ u2).setCell ⟨G, 3, none⟩ u3).setCell ⟨G, 4, none⟩ u4).setCell ⟨G, 5, none⟩ u5).setCell ⟨G, 6, none⟩ u6) := ((((((h.setCell (p := ⟨G, 0, none⟩) hG _).setCell (p := ⟨G, 1, none⟩) hG _).setCell (p := ⟨G, 2, none⟩) hG _).setCell (p := ⟨G, 3, none⟩) hG _).setCell (p := ⟨G, 4, none⟩) hG _).setCell (p := ⟨G, 5, none⟩) hG _).setCell (p := ⟨G, 6, none⟩) hG _
end
abbrev SigT : TypeId := 49
/-- The given SignText at every number. -/
theorem specSign_is (secret : Int) (m : ByteArray) (E S : Nat) (h : SigIs secret m E S) (hm : m.size ≤ 300000000) (w : World) :
    Calls Tryz.prog 43 #[.int .i64 secret, .string m] w fun e w' => (∃ ok, e = .returned (.tuple #[.agg #[.int .i64 (E : Nat), .int .i64 (S : Nat)], .bool ok])) ∧ Below w.heap.size w w' := by
  rcases h with ⟨⟨h1, h2⟩, rfl, rfl⟩ | ⟨h, rfl, rfl⟩
  · obtain ⟨k, rfl⟩ : ∃ k : Nat, secret = k := ⟨secret.toNat, by omega⟩
    refine (specSignText_yes k m (by omega) (by omega) hm w).mono ?_
    rintro e w1 ⟨rfl, hb⟩
    exact ⟨⟨true, rfl⟩, hb⟩
  · refine (specSignText_no secret m (by unfold SecretIn at h; omega) w).mono ?_
    rintro e w1 ⟨rfl, hb⟩
    exact ⟨⟨false, rfl⟩, hb⟩

end Go.Proofs.YtkjjdoadjhjmbauGreatDoor
namespace Go.Proofs.YtkjjdoadjhjmbauGreatDoor
open Go.RowKit

theorem inGroup_range (y : Int) (h : inGroup y = true) : 2 ≤ y ∧ y < 2147483579 := by
  unfold inGroup inGroupOf at h
  simp only [Bool.and_eq_true, decide_eq_true_eq] at h
  exact ⟨h.1, h.2.1⟩
theorem mulP_nat (x y : Nat) (hx : x < prime) (hy : y < prime) : mulP (x : Nat) (y : Nat) = x * y % prime := by
  unfold mulP
  rw [modP_nat, modP_nat, Nat.mod_eq_of_lt hx, Nat.mod_eq_of_lt hy]
theorem powI_of (b n : Nat) (hb : b < prime) (h : n ≤ 2147483579) : powI (b : Nat) (n : Nat) = powP b n := by
  rw [powI_nat _ n h, modP_nat, Nat.mod_eq_of_lt hb]
theorem backP_lt (p E S : Nat) : backP p E S < 2147483579 := Nat.mod_lt _ (by decide)

set_option maxRecDepth 100000 in
set_option maxHeartbeats 400000 in
theorem specCheck_group (p : Int) (m : ByteArray) (E S : Int) (h : inGroup p = false) (w : World) :
    Calls Tryz.prog 25 #[.int .i64 p, .string m, .agg #[.int .i64 E, .int .i64 S]] w fun e w' => e = .returned (.bool false) ∧ Below w.heap.size w w' := by
  have k0 := specInGroup_any p
  rw [h] at k0
  have H0 := Lib.hid k0
  have P0 := Lib.hid (PV.new w 49 (.int .i64 E) (.int .i64 S))
  clear k0 h
  go_enter Tryz.func25, Tryz.ntmps25
  go_wp2_with fail
  refine (H0.out _).mono ?_
  rintro e w1 ⟨rfl, rfl⟩
  go_wp2_with fail
  go_ret
  exact ⟨rfl, P0.out.below⟩

set_option maxRecDepth 100000 in
set_option maxHeartbeats 400000 in
theorem specCheck_sig (p : Int) (m : ByteArray) (E S : Int) (hp : inGroup p = true) (h : (E < 0 ∨ 1073741788 < E) ∨ (S < 0 ∨ 1073741788 < S)) (w : World) :
    Calls Tryz.prog 25 #[.int .i64 p, .string m, .agg #[.int .i64 E, .int .i64 S]] w fun e w' => e = .returned (.bool false) ∧ Below w.heap.size w w' := by
  have k0 := specInGroup_any p
  rw [hp] at k0
  have H0 := Lib.hid k0
  have P0 := Lib.hid (PV.new w 49 (.int .i64 E) (.int .i64 S))
  clear k0 hp
  by_cases h1 : E < 0 ∨ 1073741788 < E
  · have H1 := Lib.hid (inRange_no E 0 1073741788 h1)
    clear h h1
    go_enter Tryz.func25, Tryz.ntmps25
    go_wp2_with fail
    refine (H0.out _).mono ?_
    rintro e w1 ⟨rfl, rfl⟩
    go_wp2_with fail
    refine (H1.out _).mono ?_
    rintro e w2 ⟨rfl, rfl⟩
    go_wp2_with fail
    go_ret
    exact ⟨rfl, P0.out.below⟩
  · have H1 := Lib.hid (inRange_yes E 0 1073741788 (by omega) (by omega))
    have H2 := Lib.hid (inRange_no S 0 1073741788 (by omega))
    clear h h1
    go_enter Tryz.func25, Tryz.ntmps25
    go_wp2_with fail
    refine (H0.out _).mono ?_
    rintro e w1 ⟨rfl, rfl⟩
    go_wp2_with fail
    refine (H1.out _).mono ?_
    rintro e w2 ⟨rfl, rfl⟩
    go_wp2_with fail
    refine (H2.out _).mono ?_
    rintro e w3 ⟨rfl, rfl⟩
    go_wp2_with fail
    go_ret
    exact ⟨rfl, P0.out.below⟩

set_option maxRecDepth 100000 in
set_option maxHeartbeats 1600000 in
theorem specCheck_in (p : Nat) (m : ByteArray) (E S : Nat) (hp : inGroup (p : Nat) = true) (hE : E < 1073741789) (hS : S < 1073741789) (hm : m.size ≤ 300000000) (w : World) :
    Calls Tryz.prog 25 #[.int .i64 p, .string m, .agg #[.int .i64 E, .int .i64 S]] w fun e w' => e = .returned (.bool ((E : Int) == (chalP (backP p E S) p m : Nat))) ∧ Below w.heap.size w w' := by
  have k0 := specInGroup_any p
  rw [hp] at k0
  have H0 := Lib.hid k0
  have hpr := inGroup_range p hp
  have H1 := Lib.hid (inRange_yes (E : Int) 0 1073741788 (by omega) (by omega))
  have H2 := Lib.hid (inRange_yes (S : Int) 0 1073741788 (by omega) (by omega))
  have P0 := Lib.hid (PV.new w 49 (.int .i64 E) (.int .i64 S))
  have k3 := specPowP_any 4 (S : Nat)
  rw [powI_pow S (by omega)] at k3
  have hsub : (1073741789 : Int) - (E : Int) = ((1073741789 - E : Nat) : Int) := by omega
  have k4 := specPowP_any p ((1073741789 : Int) - (E : Int))
  rw [hsub, powI_of p (1073741789 - E) (by rw [primeV]; omega) (by omega), ← hsub] at k4
  have hx := powP_few 4 S
  have hy := powP_few p (1073741789 - E)
  have k5 := specMulP_any (powP 4 S : Nat) (powP p (1073741789 - E) : Nat)
  rw [mulP_nat _ _ hx hy] at k5
  have hB : powP 4 S * powP p (1073741789 - E) % prime = backP p E S := rfl
  rw [hB] at k5
  have hb := backP_lt p E S
  have k6 := specChallenge_yes (backP p E S) p m (by omega) (by omega) (by omega)
  obtain ⟨x, X1⟩ : ∃ n, Hid (n = powP 4 S) := ⟨_, rfl⟩
  obtain ⟨y, Y1⟩ : ∃ n, Hid (n = powP p (1073741789 - E)) := ⟨_, rfl⟩
  obtain ⟨r, R1⟩ : ∃ n, Hid (n = backP p E S) := ⟨_, rfl⟩
  rw [← X1.out] at k3 k5
  rw [← Y1.out] at k4 k5
  rw [← R1.out] at k5 k6 ⊢
  obtain ⟨c, C1⟩ : ∃ n, Hid (n = chalP r p m) := ⟨_, rfl⟩
  rw [← C1.out] at k6 ⊢
  have hw : IntKind.i64.wrap ((1073741789 : Int) - (E : Int)) = (1073741789 : Int) - (E : Int) := by rw [IntKind.wrap_i64]; omega
  have K3 : Hid (∀ X, (X.cell? ⟨w.heap.size, 0, none⟩ = some (.int .i64 E) ∧ X.cell? ⟨w.heap.size, 1, none⟩ = some (.int .i64 S) ∧ PV w 49 (.int .i64 E) (.int .i64 S) X) → Calls Tryz.prog 47 #[.int .i64 4, .int .i64 S] X fun e Y => e = .returned (.int .i64 x) ∧ (Y.cell? ⟨w.heap.size, 0, none⟩ = some (.int .i64 E) ∧ Y.cell? ⟨w.heap.size, 1, none⟩ = some (.int .i64 S) ∧ PV w 49 (.int .i64 E) (.int .i64 S) Y)) := fun X hX => by
    refine (k3 X).mono ?_
    rintro e Y ⟨rfl, rfl⟩
    exact ⟨rfl, hX⟩
  have K4 : Hid (∀ X, (X.cell? ⟨w.heap.size, 0, none⟩ = some (.int .i64 E) ∧ X.cell? ⟨w.heap.size, 1, none⟩ = some (.int .i64 S) ∧ PV w 49 (.int .i64 E) (.int .i64 S) X) → Calls Tryz.prog 47 #[.int .i64 p, .int .i64 ((1073741789 : Int) - (E : Int))] X fun e Y => e = .returned (.int .i64 y) ∧ (Y.cell? ⟨w.heap.size, 0, none⟩ = some (.int .i64 E) ∧ Y.cell? ⟨w.heap.size, 1, none⟩ = some (.int .i64 S) ∧ PV w 49 (.int .i64 E) (.int .i64 S) Y)) := fun X hX => by
    refine (k4 X).mono ?_
    rintro e Y ⟨rfl, rfl⟩
    exact ⟨rfl, hX⟩
  have K5 : Hid (∀ X, (X.cell? ⟨w.heap.size, 0, none⟩ = some (.int .i64 E) ∧ X.cell? ⟨w.heap.size, 1, none⟩ = some (.int .i64 S) ∧ PV w 49 (.int .i64 E) (.int .i64 S) X) → Calls Tryz.prog 46 #[.int .i64 x, .int .i64 y] X fun e Y => e = .returned (.int .i64 r) ∧ (Y.cell? ⟨w.heap.size, 0, none⟩ = some (.int .i64 E) ∧ Y.cell? ⟨w.heap.size, 1, none⟩ = some (.int .i64 S) ∧ PV w 49 (.int .i64 E) (.int .i64 S) Y)) := fun X hX => by
    refine (k5 X).mono ?_
    rintro e Y ⟨rfl, rfl⟩
    exact ⟨rfl, hX⟩
  have K6 : Hid (∀ X, (X.cell? ⟨w.heap.size, 0, none⟩ = some (.int .i64 E) ∧ X.cell? ⟨w.heap.size, 1, none⟩ = some (.int .i64 S) ∧ PV w 49 (.int .i64 E) (.int .i64 S) X) → Calls Tryz.prog 48 #[.int .i64 r, .int .i64 p, .string m] X fun e Y => e = .returned (.int .i64 c) ∧ (Y.cell? ⟨w.heap.size, 0, none⟩ = some (.int .i64 E) ∧ Y.cell? ⟨w.heap.size, 1, none⟩ = some (.int .i64 S) ∧ PV w 49 (.int .i64 E) (.int .i64 S) Y)) := fun X hX => by
    refine (k6 X).mono ?_
    rintro e Y ⟨rfl, hb⟩
    exact ⟨rfl, (hX.2.2.next hb).two⟩
  clear k0 k3 k4 k5 k6 hsub hx hy hB hb X1 Y1 R1 C1 hp
  go_enter Tryz.func25, Tryz.ntmps25
  go_wp2_with fail
  refine (H0.out _).mono ?_
  rintro e w1 ⟨rfl, rfl⟩
  go_wp2_with fail
  refine (H1.out _).mono ?_
  rintro e w2 ⟨rfl, rfl⟩
  go_wp2_with fail
  refine (H2.out _).mono ?_
  rintro e w3 ⟨rfl, rfl⟩
  go_wp2_with fail
  go_region_held3 (fun X => X.cell? ⟨w.heap.size, 0, none⟩ = some (.int .i64 E) ∧ X.cell? ⟨w.heap.size, 1, none⟩ = some (.int .i64 S) ∧ PV w 49 (.int .i64 E) (.int .i64 S) X) (first | (with_reducible assumption) | (with_reducible exact (PV.drew P0.out).two)) (first | (go_at_call_of 47 (Value.int IntKind.i64 4); refine (K3.out _ (by assumption)).mono ?_; rintro e v1 ⟨rfl, hS1⟩) | (go_at_call_of 47 (Value.int IntKind.i64 (p : Int)); refine (K4.out _ (by assumption)).mono ?_; rintro e v1 ⟨rfl, hS1⟩) | (go_at_call 46; refine (K5.out _ (by assumption)).mono ?_; rintro e v1 ⟨rfl, hS1⟩))
  all_goals
    have P1 := Lib.hid hS1.2.2
    clear hS1
    go_wp2_with fail
    go_region_held3 (fun X => X.cell? ⟨w.heap.size, 0, none⟩ = some (.int .i64 E) ∧ X.cell? ⟨w.heap.size, 1, none⟩ = some (.int .i64 S) ∧ PV w 49 (.int .i64 E) (.int .i64 S) X) (first | (with_reducible assumption) | (with_reducible exact (PV.drew P1.out).two)) (first | (go_at_call 48; refine (K6.out _ (by assumption)).mono ?_; rintro e v1 ⟨rfl, hS2⟩))
    all_goals
      go_wp2_with fail
      go_ret
      exact ⟨rfl, hS2.2.2.below⟩

end Go.Proofs.YtkjjdoadjhjmbauGreatDoor
namespace Go.Proofs.YtkjjdoadjhjmbauGreatDoor
open Go.RowKit

set_option maxRecDepth 100000 in
set_option maxHeartbeats 400000 in
theorem isSecret_yes (s : Int) (h1 : 1 ≤ s) (h2 : s ≤ 1073741788) (w : World) :
    Calls Tryz.prog 69 #[.int .i64 s] w fun e w' => e = .returned (.bool true) ∧ w' = w := by
  have h3 : s < 1073741789 := by omega
  go_enter Tryz.func69, Tryz.ntmps69
  go_wp2
  go_ret
  exact ⟨rfl, rfl⟩

set_option maxRecDepth 100000 in
set_option maxHeartbeats 400000 in
theorem isSecret_no (s : Int) (h : s < 1 ∨ 1073741788 < s) (w : World) :
    Calls Tryz.prog 69 #[.int .i64 s] w fun e w' => e = .returned (.bool false) ∧ w' = w := by
  by_cases h1 : 1 ≤ s
  · have h3 : ¬ (s < 1073741789) := by omega
    clear h
    have h4 : decide (s < 1073741789) = false := decide_eq_false h3
    go_enter Tryz.func69, Tryz.ntmps69
    go_wp2
    go_ret
    exact ⟨rfl, rfl⟩
  · clear h
    go_enter Tryz.func69, Tryz.ntmps69
    go_wp2
    go_ret
    exact ⟨rfl, rfl⟩

set_option maxRecDepth 100000 in
set_option maxHeartbeats 400000 in
theorem implPublicOf_yes (s : Nat) (h1 : 1 ≤ s) (h2 : s ≤ 1073741788) (w : World) :
    Calls Tryz.prog 55 #[.int .i64 s] w fun e w' => e = .returned (.int .i64 (publicP s : Nat)) ∧ Below w.heap.size w w' := by
  have H0 := Lib.hid (isSecret_yes (s : Int) (by omega) (by omega))
  have hp := implPowP_any 4 (s : Int)
  have e1 : powI 4 (s : Nat) = publicP s := powI_pow s (by omega)
  rw [e1] at hp
  have HP := Lib.hid hp
  generalize publicP s = p at HP
  clear hp e1
  go_enter Tryz.func55, Tryz.ntmps55
  go_wp2_with fail
  refine (H0.out _).mono ?_
  rintro e w1 ⟨rfl, rfl⟩
  go_wp2_with fail
  refine (HP.out _).mono ?_
  rintro e w2 ⟨rfl, hb2⟩
  have HB2 := Lib.hid hb2
  clear hb2
  go_wp2_with fail
  go_ret
  exact ⟨rfl, HB2.out⟩

set_option maxRecDepth 100000 in
set_option maxHeartbeats 400000 in
theorem implPublicOf_no (s : Int) (h : s < 1 ∨ 1073741788 < s) (w : World) :
    Calls Tryz.prog 55 #[.int .i64 s] w fun e w' => e = .returned (.int .i64 0) ∧ Below w.heap.size w w' := by
  have H0 := Lib.hid (isSecret_no s h)
  clear h
  go_enter Tryz.func55, Tryz.ntmps55
  go_wp2_with fail
  refine (H0.out _).mono ?_
  rintro e w1 ⟨rfl, rfl⟩
  go_wp2_with fail
  go_ret
  exact ⟨rfl, Below.refl _ _⟩

end Go.Proofs.YtkjjdoadjhjmbauGreatDoor
namespace Go.Proofs.YtkjjdoadjhjmbauGreatDoor
open Go.RowKit

theorem sigFields : Tryz.prog.underlying 49 = some (.struct (Tryz.prog.fieldsOf 49)) := by kernel_rfl
theorem sigStood : Tryz.prog.stoodInHeld 49 = false := by kernel_rfl
theorem sigGuard : Tryz.prog.eqGuardType Tryz.prog.depth 49 = false := by kernel_rfl
theorem sig_eq (a b c d : Int) (w : World) : (Op.equalIn 10000 49 (.agg #[.int .i64 a, .int .i64 b]) (.agg #[.int .i64 c, .int .i64 d])).run Tryz.prog w = .ok (a == c && b == d) w := by
  have u3 := Tryz.underlying3
  have a3 := Tryz.isAgg3
  have z3 := Tryz.sizeOf3
  rw [show (10000 : Nat) = 9999 + 1 from rfl, run_equalIn_agg w 9999 49 _ _ sigFields sigStood]
  simp only [Program.fieldsOf, Tryz.underlying49]
  go_simp
  by_cases h1 : a = c <;> by_cases h2 : b = d <;> simp [h1, h2]
theorem sig_same (a b : Int) (w : World) : (Op.equalIn 10000 49 (.agg #[.int .i64 a, .int .i64 b]) (.agg #[.int .i64 a, .int .i64 b])).run Tryz.prog w = .ok true w := by
  rw [sig_eq]
  simp

end Go.Proofs.YtkjjdoadjhjmbauGreatDoor
