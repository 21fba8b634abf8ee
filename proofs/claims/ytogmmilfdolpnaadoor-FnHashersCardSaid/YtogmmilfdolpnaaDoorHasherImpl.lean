/-
  The program's new hasher.
-/
import Derived.Test.YtogmmilfdolpnaaDoorTextImpl
namespace Go.Proofs.YtogmmilfdolpnaaDoor
open Go.RowKit

/-- A variable of three cells in a block of its own. -/
structure VarT (r : Nat) (t : TypeId) (a b c : Value) (X : World) : Prop where
  row : X.heap[r]? = some (.cells #[a, b, c] t (0, 0))
theorem VarT.next {r : Nat} {t : TypeId} {a b c : Value} {X Y : World} (h : VarT r t a b c X) (hb : Below X.heap.size X Y) : VarT r t a b c Y := ⟨by rw [hb.block r (lt_of_block h.row)]; exact h.row⟩
theorem VarT.drew {r : Nat} {t : TypeId} {a b c : Value} {X : World} (h : VarT r t a b c X) : VarT r t a b c X.drew := ⟨h.row⟩
theorem VarT.only {r q : Nat} {t : TypeId} {a b c : Value} {X Y : World} (h : VarT r t a b c X) (ho : Only q X Y) (hr : r ≠ q) : VarT r t a b c Y := ⟨by rw [ho.block r (lt_of_block h.row) hr]; exact h.row⟩
theorem VarT.c0 {r : Nat} {t : TypeId} {a b c : Value} {X : World} (h : VarT r t a b c X) : X.cell? ⟨r, 0, none⟩ = some a := by rw [cell_of_row X r 0 _ t (0, 0) h.row]; rfl
theorem VarT.c1 {r : Nat} {t : TypeId} {a b c : Value} {X : World} (h : VarT r t a b c X) : X.cell? ⟨r, 1, none⟩ = some b := by rw [cell_of_row X r 1 _ t (0, 0) h.row]; rfl
theorem VarT.c2 {r : Nat} {t : TypeId} {a b c : Value} {X : World} (h : VarT r t a b c X) : X.cell? ⟨r, 2, none⟩ = some c := by rw [cell_of_row X r 2 _ t (0, 0) h.row]; rfl
theorem VarT.free {r : Nat} {t : TypeId} {a b c : Value} {X : World} (h : VarT r t a b c X) (j : Nat) : X.frozen? ⟨r, j, none⟩ = false := frozen_of_row X r j _ t h.row
theorem VarT.set3 {r : Nat} {t : TypeId} {a b c : Value} {X : World} (h : VarT r t a b c X) (a' b' c' : Value) : VarT r t a' b' c' (((X.setCell ⟨r, 0, none⟩ a').setCell ⟨r, 1, none⟩ b').setCell ⟨r, 2, none⟩ c') :=
  ⟨by have h1 := h.row; simp [World.setCell, Array.getElem?_modify, h1]⟩
theorem Only.set3 (w : World) (r : Nat) (v0 v1 v2 : Value) : Only r w (((w.setCell ⟨r, 0, none⟩ v0).setCell ⟨r, 1, none⟩ v1).setCell ⟨r, 2, none⟩ v2) :=
  ((Only.setCell 0 v0).trans (Only.setCell 1 v1)).trans (Only.setCell 2 v2)
theorem VarT.new (w : World) (t : TypeId) (a b c : Value) : VarT w.heap.size t a b c (w.alloc (.cells #[a, b, c] t)) := ⟨heap_alloc_new w _⟩

set_option maxRecDepth 100000 in
set_option maxHeartbeats 400000 in
theorem implHasherNew_any (w : World) :
    Calls Tryd.prog 26 #[] w fun e w' => e = .returned (.agg #[.string ⟨(bytesOf firstState).toArray⟩, .string ⟨#[]⟩, .int .i64 0]) ∧ Below w.heap.size w w' := by
  have H1 := Lib.hid firstState_any
  have H2 := Lib.hid (stateText_any firstState firstState_words rfl)
  have V0 := Lib.hid (VarT.new w 42 (.string ⟨#[]⟩) (.string ⟨#[]⟩) (.int .i64 0))
  have B0 := Lib.hid ((Below.refl w.heap.size w).alloc (Nat.le_refl _) (.cells #[.string ⟨#[]⟩, .string ⟨#[]⟩, .int .i64 0] 42))
  obtain ⟨bs, BS⟩ : ∃ b : ByteArray, Hid (b = ⟨(bytesOf firstState).toArray⟩) := ⟨_, rfl⟩
  rw [← BS.out] at H2
  rw [← BS.out]
  go_enter Tryd.func26, Tryd.ntmps26
  go_wp2_with fail
  refine (H1.out _).mono ?_
  rintro e w1 ⟨rfl, hb1⟩
  have V1 := Lib.hid (V0.out.next hb1)
  have B1 := Lib.hid (B0.out.trans (hb1.mono B0.out.size))
  clear hb1
  go_wp2_with fail
  refine (H2.out _).mono ?_
  rintro e w2 ⟨rfl, hb2⟩
  have V2 := Lib.hid (V1.out.next hb2)
  have B2 := Lib.hid (B1.out.trans (hb2.mono B1.out.size))
  have c0 := V2.out.c0
  have c1 := V2.out.c1
  have c2 := V2.out.c2
  have f0 := V2.out.free 0
  have f1 := V2.out.free 1
  have f2 := V2.out.free 2
  have V3 := Lib.hid (V2.out.set3 (.string bs) (.string ⟨#[]⟩) (.int .i64 0))
  clear hb2
  go_wp2_with fail
  have d0 := V3.out.c0
  have d1 := V3.out.c1
  have d2 := V3.out.c2
  refine bodyPost_ret (v := .agg #[.string bs, .string ⟨#[]⟩, .int .i64 0]) (by simp [results, Tryd.results26, go_sem, d0, d1, d2]) rfl ⟨rfl, ?_⟩
  exact B2.out.trans ((Only.set3 w2 w.heap.size (.string bs) (.string ⟨#[]⟩) (.int .i64 0)).below (Nat.le_refl _) B2.out.size)

end Go.Proofs.YtogmmilfdolpnaaDoor
