/-
  A greeter's cells through a region that draws its order; signatures by any number.
  The given CheckText and SharedOf.
  The program's PublicOf and SharedOf: what they answer.
  Signatures compared as values.
-/
import Derived.Test.YtkjjdoadjhjmbatDoorJ12
import Derived.Test.YtkjjdoadjhjmbatDoorJ21
import Derived.Test.YtkjjdoadjhjmbatDoorRows
import Derived.Test.YtkjjdoadjhjmbatDoorJ03
import Derived.Laws.StructEq
namespace Go.Proofs.YtkjjdoadjhjmbatDoor
open Go.RowKit

section
variable {V X Y : World} {b : Nat} {x0 x1 x2 x3 x4 : Int} {x5 x6 : ByteArray}
theorem sbg_next (h : X.cell? ⟨b, 0, none⟩ = some (.int .i64 x0) ∧ X.cell? ⟨b, 1, none⟩ = some (.int .i64 x1) ∧ X.cell? ⟨b, 2, none⟩ = some (.int .i64 x2) ∧ X.cell? ⟨b, 3, none⟩ = some (.int .i64 x3) ∧ X.cell? ⟨b, 4, none⟩ = some (.int .i64 x4) ∧ X.cell? ⟨b, 5, none⟩ = some (.string x5) ∧ X.cell? ⟨b, 6, none⟩ = some (.string x6) ∧ Below V.heap.size V X) (hb : Below X.heap.size X Y) : Y.cell? ⟨b, 0, none⟩ = some (.int .i64 x0) ∧ Y.cell? ⟨b, 1, none⟩ = some (.int .i64 x1) ∧ Y.cell? ⟨b, 2, none⟩ = some (.int .i64 x2) ∧ Y.cell? ⟨b, 3, none⟩ = some (.int .i64 x3) ∧ Y.cell? ⟨b, 4, none⟩ = some (.int .i64 x4) ∧ Y.cell? ⟨b, 5, none⟩ = some (.string x5) ∧ Y.cell? ⟨b, 6, none⟩ = some (.string x6) ∧ Below V.heap.size V Y := by
  obtain ⟨h0, h1, h2, h3, h4, h5, h6, h7⟩ := h
  have hg : b < X.heap.size := cell_size (p := ⟨b, 0, none⟩) h0
  exact ⟨by rw [hb.cell (p := ⟨b, 0, none⟩) hg]; exact h0, by rw [hb.cell (p := ⟨b, 1, none⟩) hg]; exact h1, by rw [hb.cell (p := ⟨b, 2, none⟩) hg]; exact h2, by rw [hb.cell (p := ⟨b, 3, none⟩) hg]; exact h3, by rw [hb.cell (p := ⟨b, 4, none⟩) hg]; exact h4, by rw [hb.cell (p := ⟨b, 5, none⟩) hg]; exact h5, by rw [hb.cell (p := ⟨b, 6, none⟩) hg]; exact h6, h7.trans (hb.mono h7.size)⟩
theorem sbg_drew (h : X.cell? ⟨b, 0, none⟩ = some (.int .i64 x0) ∧ X.cell? ⟨b, 1, none⟩ = some (.int .i64 x1) ∧ X.cell? ⟨b, 2, none⟩ = some (.int .i64 x2) ∧ X.cell? ⟨b, 3, none⟩ = some (.int .i64 x3) ∧ X.cell? ⟨b, 4, none⟩ = some (.int .i64 x4) ∧ X.cell? ⟨b, 5, none⟩ = some (.string x5) ∧ X.cell? ⟨b, 6, none⟩ = some (.string x6) ∧ Below V.heap.size V X) : X.drew.cell? ⟨b, 0, none⟩ = some (.int .i64 x0) ∧ X.drew.cell? ⟨b, 1, none⟩ = some (.int .i64 x1) ∧ X.drew.cell? ⟨b, 2, none⟩ = some (.int .i64 x2) ∧ X.drew.cell? ⟨b, 3, none⟩ = some (.int .i64 x3) ∧ X.drew.cell? ⟨b, 4, none⟩ = some (.int .i64 x4) ∧ X.drew.cell? ⟨b, 5, none⟩ = some (.string x5) ∧ X.drew.cell? ⟨b, 6, none⟩ = some (.string x6) ∧ Below V.heap.size V X.drew := sbg_next h ((Below.refl _ X).drew)
theorem sbg_alloc (h : X.cell? ⟨b, 0, none⟩ = some (.int .i64 x0) ∧ X.cell? ⟨b, 1, none⟩ = some (.int .i64 x1) ∧ X.cell? ⟨b, 2, none⟩ = some (.int .i64 x2) ∧ X.cell? ⟨b, 3, none⟩ = some (.int .i64 x3) ∧ X.cell? ⟨b, 4, none⟩ = some (.int .i64 x4) ∧ X.cell? ⟨b, 5, none⟩ = some (.string x5) ∧ X.cell? ⟨b, 6, none⟩ = some (.string x6) ∧ Below V.heap.size V X) (o : Obj) : (X.alloc o).cell? ⟨b, 0, none⟩ = some (.int .i64 x0) ∧ (X.alloc o).cell? ⟨b, 1, none⟩ = some (.int .i64 x1) ∧ (X.alloc o).cell? ⟨b, 2, none⟩ = some (.int .i64 x2) ∧ (X.alloc o).cell? ⟨b, 3, none⟩ = some (.int .i64 x3) ∧ (X.alloc o).cell? ⟨b, 4, none⟩ = some (.int .i64 x4) ∧ (X.alloc o).cell? ⟨b, 5, none⟩ = some (.string x5) ∧ (X.alloc o).cell? ⟨b, 6, none⟩ = some (.string x6) ∧ Below V.heap.size V (X.alloc o) := sbg_next h ((Below.refl _ X).alloc (Nat.le_refl _) o)
theorem sbg_set (h : X.cell? ⟨b, 0, none⟩ = some (.int .i64 x0) ∧ X.cell? ⟨b, 1, none⟩ = some (.int .i64 x1) ∧ X.cell? ⟨b, 2, none⟩ = some (.int .i64 x2) ∧ X.cell? ⟨b, 3, none⟩ = some (.int .i64 x3) ∧ X.cell? ⟨b, 4, none⟩ = some (.int .i64 x4) ∧ X.cell? ⟨b, 5, none⟩ = some (.string x5) ∧ X.cell? ⟨b, 6, none⟩ = some (.string x6) ∧ Below V.heap.size V X) {G : Nat} (j : Nat) (hG : V.heap.size ≤ G) (h9 : b < V.heap.size) (u : Value) : (X.setCell ⟨G, j, none⟩ u).cell? ⟨b, 0, none⟩ = some (.int .i64 x0) ∧ (X.setCell ⟨G, j, none⟩ u).cell? ⟨b, 1, none⟩ = some (.int .i64 x1) ∧ (X.setCell ⟨G, j, none⟩ u).cell? ⟨b, 2, none⟩ = some (.int .i64 x2) ∧ (X.setCell ⟨G, j, none⟩ u).cell? ⟨b, 3, none⟩ = some (.int .i64 x3) ∧ (X.setCell ⟨G, j, none⟩ u).cell? ⟨b, 4, none⟩ = some (.int .i64 x4) ∧ (X.setCell ⟨G, j, none⟩ u).cell? ⟨b, 5, none⟩ = some (.string x5) ∧ (X.setCell ⟨G, j, none⟩ u).cell? ⟨b, 6, none⟩ = some (.string x6) ∧ Below V.heap.size V (X.setCell ⟨G, j, none⟩ u) := by
  obtain ⟨h0, h1, h2, h3, h4, h5, h6, h7⟩ := h
  exact ⟨by rw [World.cell?_setCell_far _ _ _ _ (by show G ≠ b; omega)]; exact h0, by rw [World.cell?_setCell_far _ _ _ _ (by show G ≠ b; omega)]; exact h1, by rw [World.cell?_setCell_far _ _ _ _ (by show G ≠ b; omega)]; exact h2, by rw [World.cell?_setCell_far _ _ _ _ (by show G ≠ b; omega)]; exact h3, by rw [World.cell?_setCell_far _ _ _ _ (by show G ≠ b; omega)]; exact h4, by rw [World.cell?_setCell_far _ _ _ _ (by show G ≠ b; omega)]; exact h5, by rw [World.cell?_setCell_far _ _ _ _ (by show G ≠ b; omega)]; exact h6, h7.setCell (p := ⟨G, j, none⟩) hG u⟩
theorem sbg_store2 (h : X.cell? ⟨b, 0, none⟩ = some (.int .i64 x0) ∧ X.cell? ⟨b, 1, none⟩ = some (.int .i64 x1) ∧ X.cell? ⟨b, 2, none⟩ = some (.int .i64 x2) ∧ X.cell? ⟨b, 3, none⟩ = some (.int .i64 x3) ∧ X.cell? ⟨b, 4, none⟩ = some (.int .i64 x4) ∧ X.cell? ⟨b, 5, none⟩ = some (.string x5) ∧ X.cell? ⟨b, 6, none⟩ = some (.string x6) ∧ Below V.heap.size V X) {G : Nat} (hG : V.heap.size ≤ G) (h9 : b < V.heap.size) (u v : Value) : ((X.setCell ⟨G, 0, none⟩ u).setCell ⟨G, 1, none⟩ v).cell? ⟨b, 0, none⟩ = some (.int .i64 x0) ∧ ((X.setCell ⟨G, 0, none⟩ u).setCell ⟨G, 1, none⟩ v).cell? ⟨b, 1, none⟩ = some (.int .i64 x1) ∧ ((X.setCell ⟨G, 0, none⟩ u).setCell ⟨G, 1, none⟩ v).cell? ⟨b, 2, none⟩ = some (.int .i64 x2) ∧ ((X.setCell ⟨G, 0, none⟩ u).setCell ⟨G, 1, none⟩ v).cell? ⟨b, 3, none⟩ = some (.int .i64 x3) ∧ ((X.setCell ⟨G, 0, none⟩ u).setCell ⟨G, 1, none⟩ v).cell? ⟨b, 4, none⟩ = some (.int .i64 x4) ∧ ((X.setCell ⟨G, 0, none⟩ u).setCell ⟨G, 1, none⟩ v).cell? ⟨b, 5, none⟩ = some (.string x5) ∧ ((X.setCell ⟨G, 0, none⟩ u).setCell ⟨G, 1, none⟩ v).cell? ⟨b, 6, none⟩ = some (.string x6) ∧ Below V.heap.size V ((X.setCell ⟨G, 0, none⟩ u).setCell ⟨G, 1, none⟩ v) := sbg_set (sbg_set h 0 hG h9 u) 1 hG h9 v
theorem sbg_far (h : X.cell? ⟨b, 0, none⟩ = some (.int .i64 x0) ∧ X.cell? ⟨b, 1, none⟩ = some (.int .i64 x1) ∧ X.cell? ⟨b, 2, none⟩ = some (.int .i64 x2) ∧ X.cell? ⟨b, 3, none⟩ = some (.int .i64 x3) ∧ X.cell? ⟨b, 4, none⟩ = some (.int .i64 x4) ∧ X.cell? ⟨b, 5, none⟩ = some (.string x5) ∧ X.cell? ⟨b, 6, none⟩ = some (.string x6) ∧ Below V.heap.size V X) {G : Nat} (j : Nat) (hG : V.heap.size ≤ G) (h9 : G ≠ b) (u : Value) : (X.setCell ⟨G, j, none⟩ u).cell? ⟨b, 0, none⟩ = some (.int .i64 x0) ∧ (X.setCell ⟨G, j, none⟩ u).cell? ⟨b, 1, none⟩ = some (.int .i64 x1) ∧ (X.setCell ⟨G, j, none⟩ u).cell? ⟨b, 2, none⟩ = some (.int .i64 x2) ∧ (X.setCell ⟨G, j, none⟩ u).cell? ⟨b, 3, none⟩ = some (.int .i64 x3) ∧ (X.setCell ⟨G, j, none⟩ u).cell? ⟨b, 4, none⟩ = some (.int .i64 x4) ∧ (X.setCell ⟨G, j, none⟩ u).cell? ⟨b, 5, none⟩ = some (.string x5) ∧ (X.setCell ⟨G, j, none⟩ u).cell? ⟨b, 6, none⟩ = some (.string x6) ∧ Below V.heap.size V (X.setCell ⟨G, j, none⟩ u) := by
  obtain ⟨h0, h1, h2, h3, h4, h5, h6, h7⟩ := h
  exact ⟨by rw [World.cell?_setCell_far _ _ _ _ (by show G ≠ b; omega)]; exact h0, by rw [World.cell?_setCell_far _ _ _ _ (by show G ≠ b; omega)]; exact h1, by rw [World.cell?_setCell_far _ _ _ _ (by show G ≠ b; omega)]; exact h2, by rw [World.cell?_setCell_far _ _ _ _ (by show G ≠ b; omega)]; exact h3, by rw [World.cell?_setCell_far _ _ _ _ (by show G ≠ b; omega)]; exact h4, by rw [World.cell?_setCell_far _ _ _ _ (by show G ≠ b; omega)]; exact h5, by rw [World.cell?_setCell_far _ _ _ _ (by show G ≠ b; omega)]; exact h6, h7.setCell (p := ⟨G, j, none⟩) hG u⟩
theorem sbg_put7 (h : X.cell? ⟨b, 0, none⟩ = some (.int .i64 x0) ∧ X.cell? ⟨b, 1, none⟩ = some (.int .i64 x1) ∧ X.cell? ⟨b, 2, none⟩ = some (.int .i64 x2) ∧ X.cell? ⟨b, 3, none⟩ = some (.int .i64 x3) ∧ X.cell? ⟨b, 4, none⟩ = some (.int .i64 x4) ∧ X.cell? ⟨b, 5, none⟩ = some (.string x5) ∧ X.cell? ⟨b, 6, none⟩ = some (.string x6) ∧ Below V.heap.size V X) {G : Nat} (hG : V.heap.size ≤ G) (h9 : G ≠ b) (u0 u1 u2 u3 u4 u5 u6 : Value) : (((((((X.setCell ⟨G, 0, none⟩ u0).setCell ⟨G, 1, none⟩ u1).setCell ⟨G, 2, none⟩ u2).setCell ⟨G, 3, none⟩ u3).setCell ⟨G, 4, none⟩ u4).setCell ⟨G, 5, none⟩ u5).setCell ⟨G, 6, none⟩ u6).cell? ⟨b, 0, none⟩ = some (.int .i64 x0) ∧ (((((((X.setCell ⟨G, 0, none⟩ u0).setCell ⟨G, 1, none⟩ u1).setCell ⟨G, 2, none⟩ u2).setCell ⟨G, 3, none⟩ u3).setCell ⟨G, 4, none⟩ u4).setCell ⟨G, 5, none⟩ u5).setCell ⟨G, 6, none⟩ u6).cell? ⟨b, 1, none⟩ = some (.int .i64 x1) ∧ (((((((X.setCell ⟨G, 0, none⟩ u0).setCell ⟨G, 1, none⟩ u1).setCell ⟨G, 2, none⟩ u2).setCell ⟨G, 3, none⟩ u3).setCell ⟨G, 4, none⟩ u4).setCell ⟨G, 5, none⟩ u5).setCell ⟨G, 6, none⟩ u6).cell? ⟨b, 2, none⟩ = some (.int .i64 x2) ∧ (((((((X.setCell ⟨G, 0, none⟩ u0).setCell ⟨G, 1, none⟩ u1).setCell ⟨G, 2, none⟩ u2).setCell ⟨G, 3, none⟩ u3).setCell ⟨G, 4, none⟩ u4).setCell ⟨G, 5, none⟩ u5).setCell ⟨G, 6, none⟩ u6).cell? ⟨b, 3, none⟩ = some (.int .i64 x3) ∧ (((((((X.setCell ⟨G, 0, none⟩ u0).setCell ⟨G, 1, none⟩ u1).setCell ⟨G, 2, none⟩ u2).setCell ⟨G, 3, none⟩ u3).setCell ⟨G, 4, none⟩ u4).setCell ⟨G, 5, none⟩ u5).setCell ⟨G, 6, none⟩ u6).cell? ⟨b, 4, none⟩ = some (.int .i64 x4) ∧ (((((((X.setCell ⟨G, 0, none⟩ u0).setCell ⟨G, 1, none⟩ u1).setCell ⟨G, 2, none⟩ u2).setCell ⟨G, 3, none⟩ u3).setCell ⟨G, 4, none⟩ u4).setCell ⟨G, 5, none⟩ u5).setCell ⟨G, 6, none⟩ u6).cell? ⟨b, 5, none⟩ = some (.string x5) ∧ (((((((X.setCell ⟨G, 0, none⟩ u0).setCell ⟨G, 1, none⟩ u1).setCell ⟨G, 2, none⟩ u2).setCell ⟨G, 3, none⟩ u3).setCell ⟨G, 4, none⟩ u4).setCell ⟨G, 5, none⟩ u5).setCell ⟨G, 6, none⟩ u6).cell? ⟨b, 6, none⟩ = some (.string x6) ∧ Below V.heap.size V (((((((X.setCell ⟨G, 0, none⟩ u0).setCell ⟨G, 1, none⟩ u1).setCell ⟨G, 2, none⟩ u2).setCell ⟨G, 3, none⟩ u3).setCell ⟨G, 4, none⟩ u4).setCell ⟨G, 5, none⟩ u5).setCell ⟨G, 6, none⟩ u6) := sbg_far (sbg_far (sbg_far (sbg_far (sbg_far (sbg_far (sbg_far h 0 hG h9 u0) 1 hG h9 u1) 2 hG h9 u2) 3 hG h9 u3) 4 hG h9 u4) 5 hG h9 u5) 6 hG h9 u6
theorem sbg_in {G0 : World} (hv : VarA b GreeterT #[.int .i64 x0, .int .i64 x1, .int .i64 x2, .int .i64 x3, .int .i64 x4, .string x5, .string x6] X) (hb : Below G0.heap.size G0 X) : X.cell? ⟨b, 0, none⟩ = some (.int .i64 x0) ∧ X.cell? ⟨b, 1, none⟩ = some (.int .i64 x1) ∧ X.cell? ⟨b, 2, none⟩ = some (.int .i64 x2) ∧ X.cell? ⟨b, 3, none⟩ = some (.int .i64 x3) ∧ X.cell? ⟨b, 4, none⟩ = some (.int .i64 x4) ∧ X.cell? ⟨b, 5, none⟩ = some (.string x5) ∧ X.cell? ⟨b, 6, none⟩ = some (.string x6) ∧ Below G0.heap.size G0 X := ⟨hv.cell 0, hv.cell 1, hv.cell 2, hv.cell 3, hv.cell 4, hv.cell 5, hv.cell 6, hb⟩
theorem sbg_of (hv : VarA b GreeterT #[.int .i64 x0, .int .i64 x1, .int .i64 x2, .int .i64 x3, .int .i64 x4, .string x5, .string x6] X) : X.cell? ⟨b, 0, none⟩ = some (.int .i64 x0) ∧ X.cell? ⟨b, 1, none⟩ = some (.int .i64 x1) ∧ X.cell? ⟨b, 2, none⟩ = some (.int .i64 x2) ∧ X.cell? ⟨b, 3, none⟩ = some (.int .i64 x3) ∧ X.cell? ⟨b, 4, none⟩ = some (.int .i64 x4) ∧ X.cell? ⟨b, 5, none⟩ = some (.string x5) ∧ X.cell? ⟨b, 6, none⟩ = some (.string x6) ∧ Below X.heap.size X X := ⟨hv.cell 0, hv.cell 1, hv.cell 2, hv.cell 3, hv.cell 4, hv.cell 5, hv.cell 6, Below.refl _ _⟩
end
section
variable {X w : World} {G base : Nat} {T : TypeId} {q0 q1 q2 q3 q4 q5 q6 : Value}
theorem VarA.put7 (h : VarA G T #[q0, q1, q2, q3, q4, q5, q6] X) (u0 u1 u2 u3 u4 u5 u6 : Value) : VarA G T #[u0, u1, u2, u3, u4, u5, u6] (((((((X.setCell ⟨G, 0, none⟩ u0).setCell ⟨G, 1, none⟩ u1).setCell ⟨G, 2, none⟩ u2).setCell ⟨G, 3, none⟩ u3).setCell ⟨G, 4, none⟩ u4).setCell ⟨G, 5, none⟩ u5).setCell ⟨G, 6, none⟩ u6) := by
  have h0 : VarA G T #[u0, q1, q2, q3, q4, q5, q6] (X.setCell ⟨G, 0, none⟩ u0) := h.set 0 u0
  have h1 : VarA G T #[u0, u1, q2, q3, q4, q5, q6] ((X.setCell ⟨G, 0, none⟩ u0).setCell ⟨G, 1, none⟩ u1) := h0.set 1 u1
  have h2 : VarA G T #[u0, u1, u2, q3, q4, q5, q6] (((X.setCell ⟨G, 0, none⟩ u0).setCell ⟨G, 1, none⟩ u1).setCell ⟨G, 2, none⟩ u2) := h1.set 2 u2
  have h3 : VarA G T #[u0, u1, u2, u3, q4, q5, q6] ((((X.setCell ⟨G, 0, none⟩ u0).setCell ⟨G, 1, none⟩ u1).setCell ⟨G, 2, none⟩ u2).setCell ⟨G, 3, none⟩ u3) := h2.set 3 u3
  have h4 : VarA G T #[u0, u1, u2, u3, u4, q5, q6] (((((X.setCell ⟨G, 0, none⟩ u0).setCell ⟨G, 1, none⟩ u1).setCell ⟨G, 2, none⟩ u2).setCell ⟨G, 3, none⟩ u3).setCell ⟨G, 4, none⟩ u4) := h3.set 4 u4
  have h5 : VarA G T #[u0, u1, u2, u3, u4, u5, q6] ((((((X.setCell ⟨G, 0, none⟩ u0).setCell ⟨G, 1, none⟩ u1).setCell ⟨G, 2, none⟩ u2).setCell ⟨G, 3, none⟩ u3).setCell ⟨G, 4, none⟩ u4).setCell ⟨G, 5, none⟩ u5) := h4.set 5 u5
  have h6 : VarA G T #[u0, u1, u2, u3, u4, u5, u6] (((((((X.setCell ⟨G, 0, none⟩ u0).setCell ⟨G, 1, none⟩ u1).setCell ⟨G, 2, none⟩ u2).setCell ⟨G, 3, none⟩ u3).setCell ⟨G, 4, none⟩ u4).setCell ⟨G, 5, none⟩ u5).setCell ⟨G, 6, none⟩ u6) := h5.set 6 u6
  exact h6
theorem below_put7 (h : Below base w X) (hG : base ≤ G) (u0 u1 u2 u3 u4 u5 u6 : Value) : Below base w (((((((X.setCell ⟨G, 0, none⟩ u0).setCell ⟨G, 1, none⟩ u1).setCell ⟨G, 2, none⟩ u2).setCell ⟨G, 3, none⟩ u3).setCell ⟨G, 4, none⟩ u4).setCell ⟨G, 5, none⟩ u5).setCell ⟨G, 6, none⟩ u6) := ((((((h.setCell (p := ⟨G, 0, none⟩) hG _).setCell (p := ⟨G, 1, none⟩) hG _).setCell (p := ⟨G, 2, none⟩) hG _).setCell (p := ⟨G, 3, none⟩) hG _).setCell (p := ⟨G, 4, none⟩) hG _).setCell (p := ⟨G, 5, none⟩) hG _).setCell (p := ⟨G, 6, none⟩) hG _
end
abbrev SigT : TypeId := 58
/-- The given SignText at every number. -/
theorem specSign_is (secret : Int) (m : ByteArray) (E S : Nat) (h : SigIs secret m E S) (hm : m.size ≤ 300000000) (w : World) :
    Calls Tryd.prog 33 #[.int .i64 secret, .string m] w fun e w' => (∃ ok, e = .returned (.tuple #[.agg #[.int .i64 (E : Nat), .int .i64 (S : Nat)], .bool ok])) ∧ Below w.heap.size w w' := by
  rcases h with ⟨⟨h1, h2⟩, rfl, rfl⟩ | ⟨h, rfl, rfl⟩
  · obtain ⟨k, rfl⟩ : ∃ k : Nat, secret = k := ⟨secret.toNat, by omega⟩
    refine (specSignText_yes k m (by omega) (by omega) hm w).mono ?_
    rintro e w1 ⟨rfl, hb⟩
    exact ⟨⟨true, rfl⟩, hb⟩
  · refine (specSignText_no secret m (by unfold SecretIn at h; omega) w).mono ?_
    rintro e w1 ⟨rfl, hb⟩
    exact ⟨⟨false, rfl⟩, hb⟩

end Go.Proofs.YtkjjdoadjhjmbatDoor
namespace Go.Proofs.YtkjjdoadjhjmbatDoor
open Go.RowKit

theorem inGroup_range (y : Int) (h : inGroup y = true) : 2 ≤ y ∧ y < 2147483579 := by
  unfold inGroup inGroupOf at h
  simp only [Bool.and_eq_true, decide_eq_true_eq] at h
  exact ⟨h.1, h.2.1⟩
theorem mulP_nat (x y : Nat) (hx : x < prime) (hy : y < prime) : mulP (x : Nat) (y : Nat) = x * y % prime := by
  unfold mulP
  rw [modP_nat, modP_nat, Nat.mod_eq_of_lt hx, Nat.mod_eq_of_lt hy]
theorem powI_of (b n : Nat) (hb : b < prime) (h : n ≤ 2147483579) : powI (b : Nat) (n : Nat) = powP b n := by
  rw [powI_nat _ n h, modP_nat, Nat.mod_eq_of_lt hb]
theorem backP_lt (p E S : Nat) : backP p E S < 2147483579 := Nat.mod_lt _ (by decide)

end Go.Proofs.YtkjjdoadjhjmbatDoor
namespace Go.Proofs.YtkjjdoadjhjmbatDoor
open Go.RowKit

set_option maxRecDepth 100000 in
set_option maxHeartbeats 400000 in
theorem isSecret_yes (s : Int) (h1 : 1 ≤ s) (h2 : s ≤ 1073741788) (w : World) :
    Calls Tryd.prog 61 #[.int .i64 s] w fun e w' => e = .returned (.bool true) ∧ w' = w := by
  have h3 : s < 1073741789 := by omega
  go_enter Tryd.func61, Tryd.ntmps61
  go_wp2
  go_ret
  exact ⟨rfl, rfl⟩

set_option maxRecDepth 100000 in
set_option maxHeartbeats 400000 in
theorem isSecret_no (s : Int) (h : s < 1 ∨ 1073741788 < s) (w : World) :
    Calls Tryd.prog 61 #[.int .i64 s] w fun e w' => e = .returned (.bool false) ∧ w' = w := by
  by_cases h1 : 1 ≤ s
  · have h3 : ¬ (s < 1073741789) := by omega
    clear h
    have h4 : decide (s < 1073741789) = false := decide_eq_false h3
    go_enter Tryd.func61, Tryd.ntmps61
    go_wp2
    go_ret
    exact ⟨rfl, rfl⟩
  · clear h
    go_enter Tryd.func61, Tryd.ntmps61
    go_wp2
    go_ret
    exact ⟨rfl, rfl⟩

set_option maxRecDepth 100000 in
set_option maxHeartbeats 400000 in
theorem implPublicOf_yes (s : Nat) (h1 : 1 ≤ s) (h2 : s ≤ 1073741788) (w : World) :
    Calls Tryd.prog 64 #[.int .i64 s] w fun e w' => e = .returned (.int .i64 (publicP s : Nat)) ∧ Below w.heap.size w w' := by
  have H0 := Lib.hid (isSecret_yes (s : Int) (by omega) (by omega))
  have hp := implPowP_any 4 (s : Int)
  have e1 : powI 4 (s : Nat) = publicP s := powI_pow s (by omega)
  rw [e1] at hp
  have HP := Lib.hid hp
  generalize publicP s = p at HP
  clear hp e1
  go_enter Tryd.func64, Tryd.ntmps64
  go_wp2_with fail
  refine (H0.out _).mono ?_
  rintro e w1 ⟨rfl, rfl⟩
  go_wp2_with fail
  refine (HP.out _).mono ?_
  rintro e w2 ⟨rfl, hb2⟩
  have HB2 := Lib.hid hb2
  clear hb2
  go_wp2_with fail
  go_ret
  exact ⟨rfl, HB2.out⟩

set_option maxRecDepth 100000 in
set_option maxHeartbeats 400000 in
theorem implPublicOf_no (s : Int) (h : s < 1 ∨ 1073741788 < s) (w : World) :
    Calls Tryd.prog 64 #[.int .i64 s] w fun e w' => e = .returned (.int .i64 0) ∧ Below w.heap.size w w' := by
  have H0 := Lib.hid (isSecret_no s h)
  clear h
  go_enter Tryd.func64, Tryd.ntmps64
  go_wp2_with fail
  refine (H0.out _).mono ?_
  rintro e w1 ⟨rfl, rfl⟩
  go_wp2_with fail
  go_ret
  exact ⟨rfl, Below.refl _ _⟩

end Go.Proofs.YtkjjdoadjhjmbatDoor
namespace Go.Proofs.YtkjjdoadjhjmbatDoor
open Go.RowKit

theorem sigFields : Tryd.prog.underlying 58 = some (.struct (Tryd.prog.fieldsOf 58)) := by kernel_rfl
theorem sigStood : Tryd.prog.stoodInHeld 58 = false := by kernel_rfl
theorem sigGuard : Tryd.prog.eqGuardType Tryd.prog.depth 58 = false := by kernel_rfl
theorem sig_eq (a b c d : Int) (w : World) : (Op.equalIn 10000 58 (.agg #[.int .i64 a, .int .i64 b]) (.agg #[.int .i64 c, .int .i64 d])).run Tryd.prog w = .ok (a == c && b == d) w := by
  have u3 := Tryd.underlying3
  have a3 := Tryd.isAgg3
  have z3 := Tryd.sizeOf3
  rw [show (10000 : Nat) = 9999 + 1 from rfl, run_equalIn_agg w 9999 58 _ _ sigFields sigStood]
  simp only [Program.fieldsOf, Tryd.underlying58]
  go_simp
  by_cases h1 : a = c <;> by_cases h2 : b = d <;> simp [h1, h2]
theorem sig_same (a b : Int) (w : World) : (Op.equalIn 10000 58 (.agg #[.int .i64 a, .int .i64 b]) (.agg #[.int .i64 a, .int .i64 b])).run Tryd.prog w = .ok true w := by
  rw [sig_eq]
  simp

end Go.Proofs.YtkjjdoadjhjmbatDoor
