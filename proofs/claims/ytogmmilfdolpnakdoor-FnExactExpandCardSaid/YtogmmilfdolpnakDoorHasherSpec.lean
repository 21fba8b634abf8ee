/-
  The given new hasher.
-/
import Derived.Test.YtogmmilfdolpnakDoorShaRoundSpec
import Derived.Test.YtogmmilfdolpnakDoorPlainHasher
import Derived.Test.YtogmmilfdolpnakDoorHasherOkSpec
namespace Go.Proofs.YtogmmilfdolpnakDoor
open Go.RowKit

/-- A variable of three cells in a block of its own. -/
structure Var3 (r : Nat) (t : TypeId) (a b c : Value) (X : World) : Prop where
  row : X.heap[r]? = some (.cells #[a, b, c] t (0, 0))
theorem Var3.next {r : Nat} {t : TypeId} {a b c : Value} {X Y : World} (h : Var3 r t a b c X) (hb : Below X.heap.size X Y) : Var3 r t a b c Y := ⟨by rw [hb.block r (lt_of_block h.row)]; exact h.row⟩
theorem Var3.c0 {r : Nat} {t : TypeId} {a b c : Value} {X : World} (h : Var3 r t a b c X) : X.cell? ⟨r, 0, none⟩ = some a := by rw [cell_of_row X r 0 _ t (0, 0) h.row]; rfl
theorem Var3.c1 {r : Nat} {t : TypeId} {a b c : Value} {X : World} (h : Var3 r t a b c X) : X.cell? ⟨r, 1, none⟩ = some b := by rw [cell_of_row X r 1 _ t (0, 0) h.row]; rfl
theorem Var3.c2 {r : Nat} {t : TypeId} {a b c : Value} {X : World} (h : Var3 r t a b c X) : X.cell? ⟨r, 2, none⟩ = some c := by rw [cell_of_row X r 2 _ t (0, 0) h.row]; rfl
theorem Var3.free {r : Nat} {t : TypeId} {a b c : Value} {X : World} (h : Var3 r t a b c X) (j : Nat) : X.frozen? ⟨r, j, none⟩ = false := frozen_of_row X r j _ t h.row
theorem Var3.set3 {r : Nat} {t : TypeId} {a b c : Value} {X : World} (h : Var3 r t a b c X) (a' b' c' : Value) : Var3 r t a' b' c' (((X.setCell ⟨r, 0, none⟩ a').setCell ⟨r, 1, none⟩ b').setCell ⟨r, 2, none⟩ c') :=
  ⟨heap_setCell_same _ r 2 _ t c' (heap_setCell_same _ r 1 _ t b' (heap_setCell_same X r 0 _ t a' h.row))⟩
theorem Below.set3 {B r : Nat} {w X : World} (h : Below B w X) (hr : B ≤ r) (a b c : Value) : Below B w (((X.setCell ⟨r, 0, none⟩ a).setCell ⟨r, 1, none⟩ b).setCell ⟨r, 2, none⟩ c) :=
  ((h.setCell (p := ⟨r, 0, none⟩) hr a).setCell (p := ⟨r, 1, none⟩) hr b).setCell (p := ⟨r, 2, none⟩) hr c
theorem Var3.new (w : World) (t : TypeId) (a b c : Value) : Var3 w.heap.size t a b c (w.alloc (.cells #[a, b, c] t)) := ⟨heap_alloc_new w _⟩

set_option maxRecDepth 100000 in
set_option maxHeartbeats 400000 in
theorem specHasherNew_any (w : World) :
    Calls Tryd.prog 45 #[] w fun e w' => e = .returned (.agg #[.string ⟨(bytesOf firstState).toArray⟩, .string ⟨#[]⟩, .int .i64 0]) ∧ Below w.heap.size w w' := by
  have H1 := Lib.hid specFirst_any
  have V0 := Lib.hid (Var3.new w 25 (.string ⟨#[]⟩) (.string ⟨#[]⟩) (.int .i64 0))
  go_enter Tryd.func45, Tryd.ntmps45
  go_wp2_with fail
  refine (H1.out _).mono ?_
  rintro e w1 ⟨g, c, rfl, hg, hc, hb1⟩
  have H2 := Lib.hid (specBytes_any g c firstState firstState_words (by decide) w1 hc hg)
  have V1 := Lib.hid (V0.out.next hb1)
  have HB1 := Lib.hid (((Below.refl w.heap.size w).alloc (Nat.le_refl _) _).trans (hb1.mono (by simp)))
  clear hc hb1
  go_wp2_with fail
  refine (H2.out).mono ?_
  rintro e w2 ⟨rfl, hb2⟩
  have V2 := V1.out.next hb2
  have c0 := V2.c0
  have c1 := V2.c1
  have c2 := V2.c2
  have f0 := V2.free 0
  have f1 := V2.free 1
  have f2 := V2.free 2
  have HB2 := Lib.hid (HB1.out.trans (hb2.mono HB1.out.size))
  have V3 := Lib.hid (V2.set3 (.string ⟨(bytesOf firstState).toArray⟩) (.string ⟨#[]⟩) (.int .i64 0))
  clear V2 hb2
  go_wp2_with fail
  have d0 := V3.out.c0
  have d1 := V3.out.c1
  have d2 := V3.out.c2
  refine bodyPost_ret (v := .agg #[.string ⟨(bytesOf firstState).toArray⟩, .string ⟨#[]⟩, .int .i64 0]) (by simp [results, Tryd.results45, go_sem, d0, d1, d2]) rfl ⟨rfl, ?_⟩
  exact Below.set3 HB2.out (Nat.le_refl _) _ _ _

end Go.Proofs.YtogmmilfdolpnakDoor
