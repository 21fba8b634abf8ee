/-
  The exact law on Agree, out of one answer that both give.
-/
import Derived.Test.YtmgdhlodifkematJ19
namespace Go.Proofs.Ytmgdhlodifkemat
open Go.RowKit

section
variable {V X Y : World} {ba bb : Nat} {za zb : Int} {b1 b2 : Option Addr} {bc1 bc2 : Nat} {wa wb : List ByteArray} {pa pb : Bool}
theorem sbo_next (h : X.cell? ⟨ba, 0, none⟩ = some (.int .i64 za) ∧ X.cell? ⟨ba, 1, none⟩ = some (.slice b1 wa.length bc1) ∧ X.cell? ⟨ba, 2, none⟩ = some (.bool pa) ∧ X.cell? ⟨bb, 0, none⟩ = some (.int .i64 zb) ∧ X.cell? ⟨bb, 1, none⟩ = some (.slice b2 wb.length bc2) ∧ X.cell? ⟨bb, 2, none⟩ = some (.bool pb) ∧ Below V.heap.size V X) (hb : Below X.heap.size X Y) : Y.cell? ⟨ba, 0, none⟩ = some (.int .i64 za) ∧ Y.cell? ⟨ba, 1, none⟩ = some (.slice b1 wa.length bc1) ∧ Y.cell? ⟨ba, 2, none⟩ = some (.bool pa) ∧ Y.cell? ⟨bb, 0, none⟩ = some (.int .i64 zb) ∧ Y.cell? ⟨bb, 1, none⟩ = some (.slice b2 wb.length bc2) ∧ Y.cell? ⟨bb, 2, none⟩ = some (.bool pb) ∧ Below V.heap.size V Y := by
  obtain ⟨h0, h1, h2, k0, k1, k2, h3⟩ := h
  have hg : ba < X.heap.size := cell_size (p := ⟨ba, 0, none⟩) h0
  have hq : bb < X.heap.size := cell_size (p := ⟨bb, 0, none⟩) k0
  exact ⟨by rw [hb.cell (p := ⟨ba, 0, none⟩) hg]; exact h0, by rw [hb.cell (p := ⟨ba, 1, none⟩) hg]; exact h1, by rw [hb.cell (p := ⟨ba, 2, none⟩) hg]; exact h2, by rw [hb.cell (p := ⟨bb, 0, none⟩) hq]; exact k0, by rw [hb.cell (p := ⟨bb, 1, none⟩) hq]; exact k1, by rw [hb.cell (p := ⟨bb, 2, none⟩) hq]; exact k2, h3.trans (hb.mono h3.size)⟩
theorem sbo_drew (h : X.cell? ⟨ba, 0, none⟩ = some (.int .i64 za) ∧ X.cell? ⟨ba, 1, none⟩ = some (.slice b1 wa.length bc1) ∧ X.cell? ⟨ba, 2, none⟩ = some (.bool pa) ∧ X.cell? ⟨bb, 0, none⟩ = some (.int .i64 zb) ∧ X.cell? ⟨bb, 1, none⟩ = some (.slice b2 wb.length bc2) ∧ X.cell? ⟨bb, 2, none⟩ = some (.bool pb) ∧ Below V.heap.size V X) : X.drew.cell? ⟨ba, 0, none⟩ = some (.int .i64 za) ∧ X.drew.cell? ⟨ba, 1, none⟩ = some (.slice b1 wa.length bc1) ∧ X.drew.cell? ⟨ba, 2, none⟩ = some (.bool pa) ∧ X.drew.cell? ⟨bb, 0, none⟩ = some (.int .i64 zb) ∧ X.drew.cell? ⟨bb, 1, none⟩ = some (.slice b2 wb.length bc2) ∧ X.drew.cell? ⟨bb, 2, none⟩ = some (.bool pb) ∧ Below V.heap.size V X.drew := sbo_next h ((Below.refl _ X).drew)
theorem sbo_alloc (h : X.cell? ⟨ba, 0, none⟩ = some (.int .i64 za) ∧ X.cell? ⟨ba, 1, none⟩ = some (.slice b1 wa.length bc1) ∧ X.cell? ⟨ba, 2, none⟩ = some (.bool pa) ∧ X.cell? ⟨bb, 0, none⟩ = some (.int .i64 zb) ∧ X.cell? ⟨bb, 1, none⟩ = some (.slice b2 wb.length bc2) ∧ X.cell? ⟨bb, 2, none⟩ = some (.bool pb) ∧ Below V.heap.size V X) (o : Obj) : (X.alloc o).cell? ⟨ba, 0, none⟩ = some (.int .i64 za) ∧ (X.alloc o).cell? ⟨ba, 1, none⟩ = some (.slice b1 wa.length bc1) ∧ (X.alloc o).cell? ⟨ba, 2, none⟩ = some (.bool pa) ∧ (X.alloc o).cell? ⟨bb, 0, none⟩ = some (.int .i64 zb) ∧ (X.alloc o).cell? ⟨bb, 1, none⟩ = some (.slice b2 wb.length bc2) ∧ (X.alloc o).cell? ⟨bb, 2, none⟩ = some (.bool pb) ∧ Below V.heap.size V (X.alloc o) := sbo_next h ((Below.refl _ X).alloc (Nat.le_refl _) o)
theorem sbo_set (h : X.cell? ⟨ba, 0, none⟩ = some (.int .i64 za) ∧ X.cell? ⟨ba, 1, none⟩ = some (.slice b1 wa.length bc1) ∧ X.cell? ⟨ba, 2, none⟩ = some (.bool pa) ∧ X.cell? ⟨bb, 0, none⟩ = some (.int .i64 zb) ∧ X.cell? ⟨bb, 1, none⟩ = some (.slice b2 wb.length bc2) ∧ X.cell? ⟨bb, 2, none⟩ = some (.bool pb) ∧ Below V.heap.size V X) {G : Nat} (j : Nat) (hG : V.heap.size ≤ G) (h1 : ba < V.heap.size) (h2 : bb < V.heap.size) (u : Value) : (X.setCell ⟨G, j, none⟩ u).cell? ⟨ba, 0, none⟩ = some (.int .i64 za) ∧ (X.setCell ⟨G, j, none⟩ u).cell? ⟨ba, 1, none⟩ = some (.slice b1 wa.length bc1) ∧ (X.setCell ⟨G, j, none⟩ u).cell? ⟨ba, 2, none⟩ = some (.bool pa) ∧ (X.setCell ⟨G, j, none⟩ u).cell? ⟨bb, 0, none⟩ = some (.int .i64 zb) ∧ (X.setCell ⟨G, j, none⟩ u).cell? ⟨bb, 1, none⟩ = some (.slice b2 wb.length bc2) ∧ (X.setCell ⟨G, j, none⟩ u).cell? ⟨bb, 2, none⟩ = some (.bool pb) ∧ Below V.heap.size V (X.setCell ⟨G, j, none⟩ u) := by
  obtain ⟨k0, k1, k2, m0, m1, m2, k3⟩ := h
  exact ⟨by rw [World.cell?_setCell_far _ _ _ _ (by show G ≠ ba; omega)]; exact k0, by rw [World.cell?_setCell_far _ _ _ _ (by show G ≠ ba; omega)]; exact k1, by rw [World.cell?_setCell_far _ _ _ _ (by show G ≠ ba; omega)]; exact k2, by rw [World.cell?_setCell_far _ _ _ _ (by show G ≠ bb; omega)]; exact m0, by rw [World.cell?_setCell_far _ _ _ _ (by show G ≠ bb; omega)]; exact m1, by rw [World.cell?_setCell_far _ _ _ _ (by show G ≠ bb; omega)]; exact m2, k3.setCell (p := ⟨G, j, none⟩) hG u⟩
theorem sbo_store (h : X.cell? ⟨ba, 0, none⟩ = some (.int .i64 za) ∧ X.cell? ⟨ba, 1, none⟩ = some (.slice b1 wa.length bc1) ∧ X.cell? ⟨ba, 2, none⟩ = some (.bool pa) ∧ X.cell? ⟨bb, 0, none⟩ = some (.int .i64 zb) ∧ X.cell? ⟨bb, 1, none⟩ = some (.slice b2 wb.length bc2) ∧ X.cell? ⟨bb, 2, none⟩ = some (.bool pb) ∧ Below V.heap.size V X) {G : Nat} (hG : V.heap.size ≤ G) (h1 : ba < V.heap.size) (h2 : bb < V.heap.size) (u v t : Value) : (((X.setCell ⟨G, 0, none⟩ u).setCell ⟨G, 1, none⟩ v).setCell ⟨G, 2, none⟩ t).cell? ⟨ba, 0, none⟩ = some (.int .i64 za) ∧ (((X.setCell ⟨G, 0, none⟩ u).setCell ⟨G, 1, none⟩ v).setCell ⟨G, 2, none⟩ t).cell? ⟨ba, 1, none⟩ = some (.slice b1 wa.length bc1) ∧ (((X.setCell ⟨G, 0, none⟩ u).setCell ⟨G, 1, none⟩ v).setCell ⟨G, 2, none⟩ t).cell? ⟨ba, 2, none⟩ = some (.bool pa) ∧ (((X.setCell ⟨G, 0, none⟩ u).setCell ⟨G, 1, none⟩ v).setCell ⟨G, 2, none⟩ t).cell? ⟨bb, 0, none⟩ = some (.int .i64 zb) ∧ (((X.setCell ⟨G, 0, none⟩ u).setCell ⟨G, 1, none⟩ v).setCell ⟨G, 2, none⟩ t).cell? ⟨bb, 1, none⟩ = some (.slice b2 wb.length bc2) ∧ (((X.setCell ⟨G, 0, none⟩ u).setCell ⟨G, 1, none⟩ v).setCell ⟨G, 2, none⟩ t).cell? ⟨bb, 2, none⟩ = some (.bool pb) ∧ Below V.heap.size V (((X.setCell ⟨G, 0, none⟩ u).setCell ⟨G, 1, none⟩ v).setCell ⟨G, 2, none⟩ t) := sbo_set (sbo_set (sbo_set h 0 hG h1 h2 u) 1 hG h1 h2 v) 2 hG h1 h2 t
end

/-- Options in a variable that was made about when its row was: both from lo on, below hi. -/
structure OU (lo hi G : Nat) (z : Int) (v : Value) (ws : List ByteArray) (p : Bool) (X : World) : Prop where
  var : VarA G OptionsT #[.int .i64 z, v, .bool p] X
  co : ∃ f : List Nat, layStringS.own X lo f [v] ws ∧ ∀ g ∈ f, g < hi
  low : lo ≤ G
  high : G < hi
section
variable {lo hi G : Nat} {z : Int} {v : Value} {ws : List ByteArray} {p : Bool} {X Y : World}
theorem OU.next (h : OU lo hi G z v ws p X) (hb : Below X.heap.size X Y) : OU lo hi G z v ws p Y := by
  obtain ⟨f, h1, h2⟩ := h.co
  exact ⟨h.var.next hb, ⟨f, layStringS.next h1 hb, h2⟩, h.low, h.high⟩
theorem OU.apart (h : OU lo hi G z v ws p X) {a b : Nat} (hr : Rng a b X Y) (ho : hi ≤ a ∨ b ≤ lo) : OU lo hi G z v ws p Y := by
  obtain ⟨f, h1, h2⟩ := h.co
  have hl := h.low
  have hh := h.high
  refine ⟨h.var.rng hr (by omega), ⟨f, layStringS.rng h1 hr (fun g hg => ?_), h2⟩, h.low, h.high⟩
  have := (layStringS.blocks h1 g hg).1
  have := h2 g hg
  omega
theorem OU.rd (h : OU lo hi G z v ws p X) : layStringS.rd X [v] ws := by
  obtain ⟨f, h1, h2⟩ := h.co
  exact layStringS.read h1
theorem opt_off {b : Nat} {f : List Nat} {cs : Array Value} (h : layStringS.own X b f [v] ws) (hv : VarA G OptionsT cs X) : G ∉ f := by
  obtain ⟨us, ho, _, rfl⟩ := flat_inv flatString h
  intro hm
  rcases ho.2 with ⟨rfl, _⟩ | ⟨g', cap, cur, rfl, _, hb, _⟩
  · simp [blk, Value.ownBlock] at hm
  · have : G = g' := by simpa [blk, Value.ownBlock] using hm
    subst this
    rw [hv.row] at hb
    injection hb with hb
    injection hb with _ hb
    exact absurd hb (by decide)
theorem OU.last {V : World} {f : List Nat} (ho : layStringS.own X V.heap.size f [v] ws) (hb : Below V.heap.size V X) : OU V.heap.size (X.alloc (.cells #[.int .i64 z, v, .bool p] OptionsT)).heap.size X.heap.size z v ws p (X.alloc (.cells #[.int .i64 z, v, .bool p] OptionsT)) ∧ Below V.heap.size V (X.alloc (.cells #[.int .i64 z, v, .bool p] OptionsT)) :=
  ⟨⟨VarA.new X OptionsT _, ⟨f, layStringS.next ho ((Below.refl _ _).alloc (Nat.le_refl _) _), fun g hg => by have := (layStringS.blocks ho g hg).2; simp; omega⟩, hb.size, by simp⟩, hb.alloc hb.size _⟩
theorem OU.stored {V : World} {f : List Nat} {q0 q1 q2 : Value} (rr : VarA G OptionsT #[q0, q1, q2] X) (hG : V.heap.size ≤ G) (ho : layStringS.own X V.heap.size f [v] ws) (hb : Below V.heap.size V X) : OU V.heap.size (((X.setCell ⟨G, 0, none⟩ (.int .i64 z)).setCell ⟨G, 1, none⟩ v).setCell ⟨G, 2, none⟩ (.bool p)).heap.size G z v ws p (((X.setCell ⟨G, 0, none⟩ (.int .i64 z)).setCell ⟨G, 1, none⟩ v).setCell ⟨G, 2, none⟩ (.bool p)) ∧ Below V.heap.size V (((X.setCell ⟨G, 0, none⟩ (.int .i64 z)).setCell ⟨G, 1, none⟩ v).setCell ⟨G, 2, none⟩ (.bool p)) := by
  have hoff := opt_off ho rr
  have hsz : (((X.setCell ⟨G, 0, none⟩ (.int .i64 z)).setCell ⟨G, 1, none⟩ v).setCell ⟨G, 2, none⟩ (.bool p)).heap.size = X.heap.size := by simp [World.setCell]
  have hlt := rr.lt
  refine ⟨⟨((rr.set 0 _).set 1 _).set 2 _, ⟨f, layStringS.keep ho (fun g hg => ?_), fun g hg => by rw [hsz]; exact (layStringS.blocks ho g hg).2⟩, hG, by rw [hsz]; exact hlt⟩, ((hb.setCell (p := ⟨G, 0, none⟩) hG _).setCell (p := ⟨G, 1, none⟩) hG _).setCell (p := ⟨G, 2, none⟩) hG _⟩
  have hne : g ≠ G := fun e => hoff (e ▸ hg)
  exact (Below.heap_setCell _ _ _ _ hne).trans ((Below.heap_setCell _ _ _ _ hne).trans (Below.heap_setCell _ _ _ _ hne))
end

set_option maxRecDepth 100000 in
set_option maxHeartbeats 12800000 in
/-- The exact law on Agree, out of one answer that both give. -/
theorem lawAgreeF (za : Int) (va : Value) (wa : List ByteArray) (pa : Bool) (zb : Int) (vb : Value) (wb : List ByteArray) (pb : Bool) (ka : RoomString wa) (kb : RoomString wb) (rz : Int) (rw : List ByteArray) (rp ok : Bool) (hf : rw.length ≤ 10000000)
    (hI : FitsOptions wa → FitsOptions wb → ∀ (v1 v2 : Value) (X : World), layStringS.rd X [v1] wa → layStringS.rd X [v2] wb → Calls Try.prog 7 #[.agg #[.int .i64 za, v1, .bool pa], .agg #[.int .i64 zb, v2, .bool pb]] X fun e Y => ∃ v, e = .returned (.tuple #[v, .bool ok]) ∧ OptVal rz rw rp X v Y)
    (hS : FitsOptions wa → FitsOptions wb → ∀ (v1 v2 : Value) (X : World), layStringS.rd X [v1] wa → layStringS.rd X [v2] wb → Calls Try.prog 5 #[.agg #[.int .i64 za, v1, .bool pa], .agg #[.int .i64 zb, v2, .bool pb]] X fun e Y => ∃ v, e = .returned (.tuple #[v, .bool ok]) ∧ OptVal rz rw rp X v Y)
    (w : World) (ha : layStringS.rd w [va] wa) (hb : layStringS.rd w [vb] wb) :
    Calls Try.prog 3 #[.agg #[.int .i64 za, va, .bool pa], .agg #[.int .i64 zb, vb, .bool pb]] w fun e w' => e = .returned (.bool true) ∧ Below w.heap.size w w' := by
  obtain ⟨b1, bc1, rfl⟩ := rows_form ha
  obtain ⟨b2, bc2, rfl⟩ := rows_form hb
  have HA := Lib.hid ha
  have HB := Lib.hid hb
  have HI0 := Lib.hid hI
  have HS0 := Lib.hid hS
  have A0 := Lib.hid ((VarA.new w LOpT #[.int .i64 za, .slice b1 wa.length bc1, .bool pa]).alloc (.cells #[.int .i64 zb, .slice b2 wb.length bc2, .bool pb] LOpT))
  have h2 := VarA.new (w.alloc (.cells #[.int .i64 za, .slice b1 wa.length bc1, .bool pa] LOpT)) LOpT #[.int .i64 zb, .slice b2 wb.length bc2, .bool pb]
  rw [show (w.alloc (.cells #[.int .i64 za, .slice b1 wa.length bc1, .bool pa] LOpT)).heap.size = w.heap.size + 1 by simp] at h2
  have P0 := Lib.hid h2
  have B0 := Lib.hid (((Below.refl w.heap.size w).alloc (Nat.le_refl _) (.cells #[.int .i64 za, .slice b1 wa.length bc1, .bool pa] LOpT)).alloc (by simp) (.cells #[.int .i64 zb, .slice b2 wb.length bc2, .bool pb] LOpT))
  obtain ⟨ba, hba0⟩ : ∃ b, Hid (b = w.heap.size) := ⟨_, Lib.hid rfl⟩
  obtain ⟨bb, hbb0⟩ : ∃ b, Hid (b = w.heap.size + 1) := ⟨_, Lib.hid rfl⟩
  have hwb : w.heap.size ≤ ba ∧ ba < bb := by rw [hba0.out, hbb0.out]; omega
  clear hI hS ha hb h2
  go_enter Try.func3, Try.ntmps3
  go_upto_region 1 with fail
  generalize (w.alloc (.cells #[.int .i64 za, .slice b1 wa.length bc1, .bool pa] LOpT)).alloc (.cells #[.int .i64 zb, .slice b2 wb.length bc2, .bool pb] LOpT) = Y0 at *
  rw [← hbb0.out] at P0 ⊢
  rw [← hba0.out] at A0 ⊢
  have c0 : Y0.cell? ⟨ba, 0, none⟩ = some (.int .i64 za) := A0.out.cell 0
  have c1 : Y0.cell? ⟨ba, 1, none⟩ = some (.slice b1 wa.length bc1) := A0.out.cell 1
  have c2 : Y0.cell? ⟨ba, 2, none⟩ = some (.bool pa) := A0.out.cell 2
  have KZ := Lib.hid (szOptions_any za _ wa pa 1048576 (by omega) (by omega) ka Y0 (layStringS.below HA.out B0.out))
  go_wp2_with fail
  refine (KZ.out).mono ?_
  rintro e Y1 ⟨⟨z, rfl, hz⟩, hb1⟩
  replace A0 := Lib.hid (A0.out.next hb1)
  replace P0 := Lib.hid (P0.out.next hb1)
  replace B0 := Lib.hid (B0.out.trans (hb1.mono B0.out.size))
  clear hb1 KZ c0 c1 c2 Y0
  rcases hz with rfl | ⟨hz0, hz1, hfa⟩
  · go_wp2_with fail
    go_ret
    exact ⟨rfl, B0.out⟩
  have hz2 : ¬ (z < 0) := by omega
  have Fa := Lib.hid hfa
  have c0 : Y1.cell? ⟨bb, 0, none⟩ = some (.int .i64 zb) := P0.out.cell 0
  have c1 : Y1.cell? ⟨bb, 1, none⟩ = some (.slice b2 wb.length bc2) := P0.out.cell 1
  have c2 : Y1.cell? ⟨bb, 2, none⟩ = some (.bool pb) := P0.out.cell 2
  have KZ := Lib.hid (szOptions_any zb _ wb pb z (by omega) (by omega) kb Y1 (layStringS.below HB.out B0.out))
  go_wp2_with fail
  refine (KZ.out).mono ?_
  rintro e V1 ⟨⟨z', rfl, hz'⟩, hb1⟩
  replace A0 := Lib.hid (A0.out.next hb1)
  replace P0 := Lib.hid (P0.out.next hb1)
  have BV1 := Lib.hid (B0.out.trans (hb1.mono B0.out.size))
  clear hb1 KZ c0 c1 c2 B0 Y1 hfa
  rcases hz' with rfl | ⟨hz0', hz1', hfb⟩
  · go_wp2_with fail
    go_ret
    exact ⟨rfl, BV1.out⟩
  have hz3 : ¬ (z' < 0) := by omega
  have Fb := Lib.hid hfb
  have HI := Lib.hid (HI0.out Fa.out Fb.out)
  have HS := Lib.hid (HS0.out Fa.out Fb.out)
  have TTA : Hid (∀ X, Below w.heap.size w X → Calls Try.prog 6 #[.agg #[.int .i64 za, .slice b1 wa.length bc1, .bool pa]] X fun e Y => ∃ v, e = .returned v ∧ OptVal za wa pa X v Y) := Lib.hid (fun X hX => opt_to (layStringS.below HA.out hX) Fa.out.1)
  have TTB : Hid (∀ X, Below w.heap.size w X → Calls Try.prog 6 #[.agg #[.int .i64 zb, .slice b2 wb.length bc2, .bool pb]] X fun e Y => ∃ v, e = .returned v ∧ OptVal zb wb pb X v Y) := Lib.hid (fun X hX => opt_to (layStringS.below HB.out hX) Fb.out.1)
  have hbo : (ok != ok) = false := by cases ok <;> rfl
  clear hfb hz0 hz1 hz0' hz1' HI0 HS0
  have E0 : Hid (V1.drew.cell? ⟨ba, 0, none⟩ = some (.int .i64 za) ∧ V1.drew.cell? ⟨ba, 1, none⟩ = some (.slice b1 wa.length bc1) ∧ V1.drew.cell? ⟨ba, 2, none⟩ = some (.bool pa) ∧ V1.drew.cell? ⟨bb, 0, none⟩ = some (.int .i64 zb) ∧ V1.drew.cell? ⟨bb, 1, none⟩ = some (.slice b2 wb.length bc2) ∧ V1.drew.cell? ⟨bb, 2, none⟩ = some (.bool pb) ∧ Below V1.heap.size V1 V1.drew) := Lib.hid ⟨A0.out.cell 0, A0.out.cell 1, A0.out.cell 2, P0.out.cell 0, P0.out.cell 1, P0.out.cell 2, (Below.refl _ _).drew⟩
  have F0 : Hid (V1.cell? ⟨ba, 0, none⟩ = some (.int .i64 za) ∧ V1.cell? ⟨ba, 1, none⟩ = some (.slice b1 wa.length bc1) ∧ V1.cell? ⟨ba, 2, none⟩ = some (.bool pa) ∧ V1.cell? ⟨bb, 0, none⟩ = some (.int .i64 zb) ∧ V1.cell? ⟨bb, 1, none⟩ = some (.slice b2 wb.length bc2) ∧ V1.cell? ⟨bb, 2, none⟩ = some (.bool pb) ∧ Below V1.heap.size V1 V1) := Lib.hid ⟨A0.out.cell 0, A0.out.cell 1, A0.out.cell 2, P0.out.cell 0, P0.out.cell 1, P0.out.cell 2, Below.refl _ _⟩
  have hba : ba < V1.heap.size := A0.out.lt
  have hbb : bb < V1.heap.size := P0.out.lt
  have KA : Hid (∀ X, (X.cell? ⟨ba, 0, none⟩ = some (.int .i64 za) ∧ X.cell? ⟨ba, 1, none⟩ = some (.slice b1 wa.length bc1) ∧ X.cell? ⟨ba, 2, none⟩ = some (.bool pa) ∧ X.cell? ⟨bb, 0, none⟩ = some (.int .i64 zb) ∧ X.cell? ⟨bb, 1, none⟩ = some (.slice b2 wb.length bc2) ∧ X.cell? ⟨bb, 2, none⟩ = some (.bool pb) ∧ Below V1.heap.size V1 X) → Calls Try.prog 6 #[.agg #[.int .i64 za, .slice b1 wa.length bc1, .bool pa]] X fun e Y => ∃ t1 tc1, e = .returned (.agg #[.int .i64 za, .slice t1 wa.length tc1, .bool pa]) ∧ layStringS.rd Y [.slice t1 wa.length tc1] wa ∧ (Y.cell? ⟨ba, 0, none⟩ = some (.int .i64 za) ∧ Y.cell? ⟨ba, 1, none⟩ = some (.slice b1 wa.length bc1) ∧ Y.cell? ⟨ba, 2, none⟩ = some (.bool pa) ∧ Y.cell? ⟨bb, 0, none⟩ = some (.int .i64 zb) ∧ Y.cell? ⟨bb, 1, none⟩ = some (.slice b2 wb.length bc2) ∧ Y.cell? ⟨bb, 2, none⟩ = some (.bool pb) ∧ Below V1.heap.size V1 Y) ∧ Below X.heap.size X Y) := Lib.hid (fun X hX => by
    refine (TTA.out X (BV1.out.trans (hX.2.2.2.2.2.2.mono BV1.out.size))).mono ?_
    rintro e Y ⟨v, rfl, hv⟩
    obtain ⟨t1, tc1, f1, rfl, hd, hco, hb⟩ := hv
    exact ⟨t1, tc1, rfl, layStringS.read hco, sbo_next hX hb, hb⟩)
  have KB : Hid (∀ X, (X.cell? ⟨ba, 0, none⟩ = some (.int .i64 za) ∧ X.cell? ⟨ba, 1, none⟩ = some (.slice b1 wa.length bc1) ∧ X.cell? ⟨ba, 2, none⟩ = some (.bool pa) ∧ X.cell? ⟨bb, 0, none⟩ = some (.int .i64 zb) ∧ X.cell? ⟨bb, 1, none⟩ = some (.slice b2 wb.length bc2) ∧ X.cell? ⟨bb, 2, none⟩ = some (.bool pb) ∧ Below V1.heap.size V1 X) → Calls Try.prog 6 #[.agg #[.int .i64 zb, .slice b2 wb.length bc2, .bool pb]] X fun e Y => ∃ t2 tc2, e = .returned (.agg #[.int .i64 zb, .slice t2 wb.length tc2, .bool pb]) ∧ layStringS.rd Y [.slice t2 wb.length tc2] wb ∧ (Y.cell? ⟨ba, 0, none⟩ = some (.int .i64 za) ∧ Y.cell? ⟨ba, 1, none⟩ = some (.slice b1 wa.length bc1) ∧ Y.cell? ⟨ba, 2, none⟩ = some (.bool pa) ∧ Y.cell? ⟨bb, 0, none⟩ = some (.int .i64 zb) ∧ Y.cell? ⟨bb, 1, none⟩ = some (.slice b2 wb.length bc2) ∧ Y.cell? ⟨bb, 2, none⟩ = some (.bool pb) ∧ Below V1.heap.size V1 Y) ∧ Below X.heap.size X Y) := Lib.hid (fun X hX => by
    refine (TTB.out X (BV1.out.trans (hX.2.2.2.2.2.2.mono BV1.out.size))).mono ?_
    rintro e Y ⟨v, rfl, hv⟩
    obtain ⟨t2, tc2, f1, rfl, hd, hco, hb⟩ := hv
    exact ⟨t2, tc2, rfl, layStringS.read hco, sbo_next hX hb, hb⟩)
  have KU : Hid (∀ (t1 : Option Addr) (tc1 : Nat) (t2 : Option Addr) (tc2 : Nat) (X : World), (X.cell? ⟨ba, 0, none⟩ = some (.int .i64 za) ∧ X.cell? ⟨ba, 1, none⟩ = some (.slice b1 wa.length bc1) ∧ X.cell? ⟨ba, 2, none⟩ = some (.bool pa) ∧ X.cell? ⟨bb, 0, none⟩ = some (.int .i64 zb) ∧ X.cell? ⟨bb, 1, none⟩ = some (.slice b2 wb.length bc2) ∧ X.cell? ⟨bb, 2, none⟩ = some (.bool pb) ∧ Below V1.heap.size V1 X) → layStringS.rd X [.slice t1 wa.length tc1] wa → layStringS.rd X [.slice t2 wb.length tc2] wb → Calls Try.prog 5 #[.agg #[.int .i64 za, .slice t1 wa.length tc1, .bool pa], .agg #[.int .i64 zb, .slice t2 wb.length tc2, .bool pb]] X fun e Y => ∃ u1 uc1 fu, e = .returned (.tuple #[.agg #[.int .i64 rz, .slice u1 rw.length uc1, .bool rp], .bool ok]) ∧ layStringS.own Y V1.heap.size fu [.slice u1 rw.length uc1] rw ∧ (Y.cell? ⟨ba, 0, none⟩ = some (.int .i64 za) ∧ Y.cell? ⟨ba, 1, none⟩ = some (.slice b1 wa.length bc1) ∧ Y.cell? ⟨ba, 2, none⟩ = some (.bool pa) ∧ Y.cell? ⟨bb, 0, none⟩ = some (.int .i64 zb) ∧ Y.cell? ⟨bb, 1, none⟩ = some (.slice b2 wb.length bc2) ∧ Y.cell? ⟨bb, 2, none⟩ = some (.bool pb) ∧ Below V1.heap.size V1 Y) ∧ Below X.heap.size X Y) := Lib.hid (fun t1 tc1 t2 tc2 X hX hr1 hr2 => by
    refine (HS.out _ _ X hr1 hr2).mono ?_
    rintro e Y ⟨v, rfl, hv⟩
    obtain ⟨u1, uc1, fu, rfl, hd, hco, hb⟩ := hv
    exact ⟨u1, uc1, fu, rfl, layStringS.lower hco hX.2.2.2.2.2.2.size, sbo_next hX hb, hb⟩)
  go_wp2_with fail
  go_cut [6, 7] (fun x y wx => ∃ gu u1 uc1, x = .pointer (some ⟨gu, 0, none⟩) ∧ y = .bool ok ∧ OU V1.heap.size wx.heap.size gu rz (.slice u1 rw.length uc1) rw rp wx ∧ Below V1.heap.size V1 wx)
  case first =>
    go_region_held3 (fun X => X.cell? ⟨ba, 0, none⟩ = some (.int .i64 za) ∧ X.cell? ⟨ba, 1, none⟩ = some (.slice b1 wa.length bc1) ∧ X.cell? ⟨ba, 2, none⟩ = some (.bool pa) ∧ X.cell? ⟨bb, 0, none⟩ = some (.int .i64 zb) ∧ X.cell? ⟨bb, 1, none⟩ = some (.slice b2 wb.length bc2) ∧ X.cell? ⟨bb, 2, none⟩ = some (.bool pb) ∧ Below V1.heap.size V1 X) (first | (with_reducible assumption) | (with_reducible exact E0.out) | (with_reducible exact sbo_drew (sbo_alloc F0.out _)) | (with_reducible exact sbo_alloc F0.out _) | (with_reducible exact sbo_drew (by assumption)) | (with_reducible exact sbo_alloc (by assumption) _) | (with_reducible exact sbo_alloc E0.out _) | (with_reducible exact sbo_drew (sbo_alloc (by assumption) _)) | (exact sbo_store (by assumption) (by omega) hba hbb _ _ _)) (first | (go_at_call_of 6 (Value.agg #[Value.int IntKind.i64 za, Value.slice b1 wa.length bc1, Value.bool pa]); refine (KA.out _ (by assumption)).mono ?_; rintro e v1 ⟨t1, tc1, rfl, hq1, hS, hb⟩; (first | (have rr := VarA.next rr hb) | (have rr := VarA.next (VarA.drew rr) hb) | (have rr := VarA.next (VarA.new _ OptionsT #[Value.int .i64 0, Value.slice none 0 0, Value.bool false]) hb) | (have rr := VarA.next (VarA.drew (VarA.new _ OptionsT #[Value.int .i64 0, Value.slice none 0 0, Value.bool false])) hb) | skip); (first | (have r0 := rr.cell 0; have r1 := rr.cell 1; have r2 := rr.cell 2; have g0 := rr.free 0; have g1 := rr.free 1; have g2 := rr.free 2) | skip); have hz := hS.2.2.2.2.2.2.size) | (go_at_call_of 6 (Value.agg #[Value.int IntKind.i64 zb, Value.slice b2 wb.length bc2, Value.bool pb]); refine (KB.out _ (by assumption)).mono ?_; rintro e v1 ⟨t2, tc2, rfl, hq2, hS, hb⟩; (first | (have rr := VarA.next rr hb) | (have rr := VarA.next (VarA.drew rr) hb) | (have rr := VarA.next (VarA.new _ OptionsT #[Value.int .i64 0, Value.slice none 0 0, Value.bool false]) hb) | (have rr := VarA.next (VarA.drew (VarA.new _ OptionsT #[Value.int .i64 0, Value.slice none 0 0, Value.bool false])) hb) | skip); (first | (have r0 := rr.cell 0; have r1 := rr.cell 1; have r2 := rr.cell 2; have g0 := rr.free 0; have g1 := rr.free 1; have g2 := rr.free 2) | skip); have hz := hS.2.2.2.2.2.2.size; (first | (have hq1 := layStringS.below hq1 hb) | (have hq1 := layStringS.below (layStringS.below hq1 ((Below.refl _ _).drew)) hb) | (have hq1 := layStringS.below (layStringS.below hq1 ((Below.refl _ _).alloc (Nat.le_refl _) _)) hb) | (have hq1 := layStringS.below (layStringS.below hq1 (((Below.refl _ _).alloc (Nat.le_refl _) _).drew)) hb) | skip)) | (go_at_call 5; refine (KU.out _ _ _ _ _ (by assumption) (by (first | exact hq1 | exact layStringS.below hq1 ((Below.refl _ _).drew) | exact layStringS.below hq1 ((Below.refl _ _).alloc (Nat.le_refl _) _) | exact layStringS.below hq1 (((Below.refl _ _).alloc (Nat.le_refl _) _).drew))) (by (first | exact hq2 | exact layStringS.below hq2 ((Below.refl _ _).drew) | exact layStringS.below hq2 ((Below.refl _ _).alloc (Nat.le_refl _) _) | exact layStringS.below hq2 (((Below.refl _ _).alloc (Nat.le_refl _) _).drew)))).mono ?_; rintro e v1 ⟨u1, uc1, fu, rfl, hou, hS, hb⟩; (first | (have rr := VarA.next rr hb) | (have rr := VarA.next (VarA.drew rr) hb) | (have rr := VarA.next (VarA.new _ OptionsT #[Value.int .i64 0, Value.slice none 0 0, Value.bool false]) hb) | (have rr := VarA.next (VarA.drew (VarA.new _ OptionsT #[Value.int .i64 0, Value.slice none 0 0, Value.bool false])) hb) | skip); (first | (have r0 := rr.cell 0; have r1 := rr.cell 1; have r2 := rr.cell 2; have g0 := rr.free 0; have g1 := rr.free 1; have g2 := rr.free 2) | skip); have hz := hS.2.2.2.2.2.2.size))
    all_goals
      go_wp2_with fail
      go_meet
      first | exact ⟨_, _, _, rfl, rfl, OU.last hou hS.2.2.2.2.2.2⟩ | exact ⟨_, _, _, rfl, rfl, OU.stored rr (by omega) hou hS.2.2.2.2.2.2⟩
  case rest =>
    obtain ⟨gu, u1, uc1, rfl, rfl, hou, hbz⟩ := hcut
    generalize wc = Z1 at *
    have A1 := Lib.hid (A0.out.next hbz)
    have P1 := Lib.hid (P0.out.next hbz)
    have B1 := Lib.hid (BV1.out.trans (hbz.mono BV1.out.size))
    have U1 := Lib.hid hou
    have oV := hbz.size
    have oP := P0.out.lt
    clear hou hbz A0 P0 BV1 E0 F0 KA KB KU hba hbb
    generalize V1.heap.size = lu at *
    clear V1
    have c0 : Z1.cell? ⟨ba, 0, none⟩ = some (.int .i64 za) := A1.out.cell 0
    have c1 : Z1.cell? ⟨ba, 1, none⟩ = some (.slice b1 wa.length bc1) := A1.out.cell 1
    have c2 : Z1.cell? ⟨ba, 2, none⟩ = some (.bool pa) := A1.out.cell 2
    go_wp2_with fail
    refine (TTA.out Z1 B1.out).mono ?_
    rintro e Y3 ⟨v, rfl, hv⟩
    obtain ⟨x1, xc1, f1, rfl, hd3, hco3, hb3⟩ := hv
    have hal : Below Y3.heap.size Y3 (Y3.alloc (.cells #[.int .i64 za, .slice x1 wa.length xc1, .bool pa] OptionsT)) := (Below.refl _ _).alloc (Nat.le_refl _) _
    have X4 := Lib.hid (OV.new (z := za) (p := pa) hd3 hco3)
    have A4 := Lib.hid ((A1.out.next hb3).next hal)
    have P4 := Lib.hid ((P1.out.next hb3).next hal)
    have U4 := Lib.hid ((U1.out.next hb3).next hal)
    have B4 := Lib.hid ((B1.out.trans (hb3.mono B1.out.size)).trans (hal.mono (B1.out.trans (hb3.mono B1.out.size)).size))
    have o3 := hb3.size
    have s4 : (Y3.alloc (.cells #[.int .i64 za, .slice x1 wa.length xc1, .bool pa] OptionsT)).heap.size = Y3.heap.size + 1 := by simp
    clear hco3 hb3 hal hd3 A1 P1 U1 B1 c0 c1 c2 f1
    go_upto_region 10 with fail
    generalize Y3.alloc (.cells #[.int .i64 za, .slice x1 wa.length xc1, .bool pa] OptionsT) = V4 at *
    generalize Z1.heap.size = hu at *
    generalize Y3.heap.size = gx at *
    obtain ⟨lx, hlx⟩ : ∃ lx, lx = hu := ⟨_, rfl⟩
    rw [← hlx] at X4
    clear Z1 Y3
    have c0 : V4.cell? ⟨bb, 0, none⟩ = some (.int .i64 zb) := P4.out.cell 0
    have c1 : V4.cell? ⟨bb, 1, none⟩ = some (.slice b2 wb.length bc2) := P4.out.cell 1
    have c2 : V4.cell? ⟨bb, 2, none⟩ = some (.bool pb) := P4.out.cell 2
    go_wp2_with fail
    refine (TTB.out V4 B4.out).mono ?_
    rintro e Y5 ⟨v, rfl, hv⟩
    obtain ⟨y1, yc1, f1, rfl, hd5, hco5, hb5⟩ := hv
    have hal : Below Y5.heap.size Y5 (Y5.alloc (.cells #[.int .i64 zb, .slice y1 wb.length yc1, .bool pb] OptionsT)) := (Below.refl _ _).alloc (Nat.le_refl _) _
    have Y6 := Lib.hid (OV.new (z := zb) (p := pb) hd5 hco5)
    have X6 := Lib.hid ((X4.out.next hb5).next hal)
    have A6 := Lib.hid ((A4.out.next hb5).next hal)
    have P6 := Lib.hid ((P4.out.next hb5).next hal)
    have U6 := Lib.hid ((U4.out.next hb5).next hal)
    have B6 := Lib.hid ((B4.out.trans (hb5.mono B4.out.size)).trans (hal.mono (B4.out.trans (hb5.mono B4.out.size)).size))
    have o5 := hb5.size
    have s6 : (Y5.alloc (.cells #[.int .i64 zb, .slice y1 wb.length yc1, .bool pb] OptionsT)).heap.size = Y5.heap.size + 1 := by simp
    clear hco5 hb5 hal hd5 A4 P4 U4 B4 X4 c0 c1 c2 f1
    go_upto_region 11 with fail
    generalize Y5.alloc (.cells #[.int .i64 zb, .slice y1 wb.length yc1, .bool pb] OptionsT) = V6 at *
    generalize V4.heap.size = ly at *
    generalize Y5.heap.size = gy at *
    clear V4 Y5
    have c0 : V6.cell? ⟨gx, 0, none⟩ = some (.int .i64 za) := X6.out.var.cell 0
    have c1 : V6.cell? ⟨gx, 1, none⟩ = some (.slice x1 wa.length xc1) := X6.out.var.cell 1
    have c2 : V6.cell? ⟨gx, 2, none⟩ = some (.bool pa) := X6.out.var.cell 2
    have d0 : V6.cell? ⟨gy, 0, none⟩ = some (.int .i64 zb) := Y6.out.var.cell 0
    have d1 : V6.cell? ⟨gy, 1, none⟩ = some (.slice y1 wb.length yc1) := Y6.out.var.cell 1
    have d2 : V6.cell? ⟨gy, 2, none⟩ = some (.bool pb) := Y6.out.var.cell 2
    have KI := Lib.hid (HI.out _ _ V6 X6.out.rd Y6.out.rd)
    go_wp2_with fail
    refine (KI.out).mono ?_
    rintro e Y7 ⟨v, rfl, hv⟩
    obtain ⟨g1, gc1, f1, rfl, hd7, hco7, hb7⟩ := hv
    have hal : Below Y7.heap.size Y7 (Y7.alloc (.cells #[.int .i64 rz, .slice g1 rw.length gc1, .bool rp] OptionsT)) := (Below.refl _ _).alloc (Nat.le_refl _) _
    have o7 := hb7.size
    have G8 := Lib.hid (OV.new (z := rz) (p := rp) hd7 hco7)
    have X8 := Lib.hid ((X6.out.next hb7).next hal)
    have Y8 := Lib.hid ((Y6.out.next hb7).next hal)
    have A8 := Lib.hid ((A6.out.next hb7).next hal)
    have P8 := Lib.hid ((P6.out.next hb7).next hal)
    have U8 := Lib.hid ((U6.out.next hb7).next hal)
    have B8 := Lib.hid ((B6.out.trans (hb7.mono B6.out.size)).trans (hal.mono (B6.out.trans (hb7.mono B6.out.size)).size))
    clear hco7 hb7 hal hd7 A6 P6 U6 B6 X6 Y6 KI c0 c1 c2 d0 d1 d2 f1
    go_upto_region 12 with fail
    generalize Y7.alloc (.cells #[.int .i64 rz, .slice g1 rw.length gc1, .bool rp] OptionsT) = V8 at *
    generalize V6.heap.size = lg at *
    generalize Y7.heap.size = gg at *
    have Q8 : Hid (VarA ba LOpT #[.int .i64 za, .slice b1 wa.length bc1, .bool pa] V8 ∧ VarA bb LOpT #[.int .i64 zb, .slice b2 wb.length bc2, .bool pb] V8 ∧ OU lu hu gu rz (.slice u1 rw.length uc1) rw rp V8 ∧ OV lx gx gx za (.slice x1 wa.length xc1) wa pa V8 ∧ OV ly gy gy zb (.slice y1 wb.length yc1) wb pb V8 ∧ OV lg gg gg rz (.slice g1 rw.length gc1) rw rp V8 ∧ Below w.heap.size w V8) := Lib.hid ⟨A8.out, P8.out, U8.out, X8.out, Y8.out, G8.out, B8.out⟩
    clear V6 Y7 A8 P8 U8 X8 Y8 G8 B8
    have qn : ∀ X Y, (VarA ba LOpT #[.int .i64 za, .slice b1 wa.length bc1, .bool pa] X ∧ VarA bb LOpT #[.int .i64 zb, .slice b2 wb.length bc2, .bool pb] X ∧ OU lu hu gu rz (.slice u1 rw.length uc1) rw rp X ∧ OV lx gx gx za (.slice x1 wa.length xc1) wa pa X ∧ OV ly gy gy zb (.slice y1 wb.length yc1) wb pb X ∧ OV lg gg gg rz (.slice g1 rw.length gc1) rw rp X ∧ Below w.heap.size w X) → Below X.heap.size X Y → (VarA ba LOpT #[.int .i64 za, .slice b1 wa.length bc1, .bool pa] Y ∧ VarA bb LOpT #[.int .i64 zb, .slice b2 wb.length bc2, .bool pb] Y ∧ OU lu hu gu rz (.slice u1 rw.length uc1) rw rp Y ∧ OV lx gx gx za (.slice x1 wa.length xc1) wa pa Y ∧ OV ly gy gy zb (.slice y1 wb.length yc1) wb pb Y ∧ OV lg gg gg rz (.slice g1 rw.length gc1) rw rp Y ∧ Below w.heap.size w Y) := fun X Y h hb => ⟨h.1.next hb, h.2.1.next hb, h.2.2.1.next hb, h.2.2.2.1.next hb, h.2.2.2.2.1.next hb, h.2.2.2.2.2.1.next hb, h.2.2.2.2.2.2.trans (hb.mono h.2.2.2.2.2.2.size)⟩
    have d0 : V8.cell? ⟨gg, 0, none⟩ = some (.int .i64 rz) := Q8.out.2.2.2.2.2.1.var.cell 0
    have d1 : V8.cell? ⟨gg, 1, none⟩ = some (.slice g1 rw.length gc1) := Q8.out.2.2.2.2.2.1.var.cell 1
    have d2 : V8.cell? ⟨gg, 2, none⟩ = some (.bool rp) := Q8.out.2.2.2.2.2.1.var.cell 2
    have e0 : V8.cell? ⟨gu, 0, none⟩ = some (.int .i64 rz) := Q8.out.2.2.1.var.cell 0
    have e1 : V8.cell? ⟨gu, 1, none⟩ = some (.slice u1 rw.length uc1) := Q8.out.2.2.1.var.cell 1
    have e2 : V8.cell? ⟨gu, 2, none⟩ = some (.bool rp) := Q8.out.2.2.1.var.cell 2
    have K8 := Lib.hid (opt_eq (z := rz) (p := rp) Q8.out.2.2.2.2.2.1.rd Q8.out.2.2.1.rd hf)
    go_wp2_with fail
    refine (K8.out).mono ?_
    rintro e V9 ⟨rfl, hb9⟩
    have Q9 := Lib.hid (qn _ _ Q8.out hb9)
    clear hb9 K8 Q8 d0 d1 d2 e0 e1 e2
    have S0 : Hid (∀ X, (VarA ba LOpT #[.int .i64 za, .slice b1 wa.length bc1, .bool pa] X ∧ VarA bb LOpT #[.int .i64 zb, .slice b2 wb.length bc2, .bool pb] X ∧ OU lu hu gu rz (.slice u1 rw.length uc1) rw rp X ∧ OV lx gx gx za (.slice x1 wa.length xc1) wa pa X ∧ OV ly gy gy zb (.slice y1 wb.length yc1) wb pb X ∧ OV lg gg gg rz (.slice g1 rw.length gc1) rw rp X ∧ Below w.heap.size w X) → (X.cell? ⟨gx, 0, none⟩ = some (.int .i64 za) ∧ X.cell? ⟨gx, 1, none⟩ = some (.slice x1 wa.length xc1) ∧ X.cell? ⟨gx, 2, none⟩ = some (.bool pa) ∧ X.cell? ⟨ba, 0, none⟩ = some (.int .i64 za) ∧ X.cell? ⟨ba, 1, none⟩ = some (.slice b1 wa.length bc1) ∧ X.cell? ⟨ba, 2, none⟩ = some (.bool pa) ∧ VarA ba LOpT #[.int .i64 za, .slice b1 wa.length bc1, .bool pa] X ∧ VarA bb LOpT #[.int .i64 zb, .slice b2 wb.length bc2, .bool pb] X ∧ OU lu hu gu rz (.slice u1 rw.length uc1) rw rp X ∧ OV lx gx gx za (.slice x1 wa.length xc1) wa pa X ∧ OV ly gy gy zb (.slice y1 wb.length yc1) wb pb X ∧ OV lg gg gg rz (.slice g1 rw.length gc1) rw rp X ∧ Below w.heap.size w X)) := Lib.hid (fun X h => ⟨h.2.2.2.1.var.cell 0, h.2.2.2.1.var.cell 1, h.2.2.2.1.var.cell 2, h.1.cell 0, h.1.cell 1, h.1.cell 2, h⟩)
    have S1 : Hid (V9.drew.cell? ⟨gx, 0, none⟩ = some (.int .i64 za) ∧ V9.drew.cell? ⟨gx, 1, none⟩ = some (.slice x1 wa.length xc1) ∧ V9.drew.cell? ⟨gx, 2, none⟩ = some (.bool pa) ∧ V9.drew.cell? ⟨ba, 0, none⟩ = some (.int .i64 za) ∧ V9.drew.cell? ⟨ba, 1, none⟩ = some (.slice b1 wa.length bc1) ∧ V9.drew.cell? ⟨ba, 2, none⟩ = some (.bool pa) ∧ VarA ba LOpT #[.int .i64 za, .slice b1 wa.length bc1, .bool pa] V9.drew ∧ VarA bb LOpT #[.int .i64 zb, .slice b2 wb.length bc2, .bool pb] V9.drew ∧ OU lu hu gu rz (.slice u1 rw.length uc1) rw rp V9.drew ∧ OV lx gx gx za (.slice x1 wa.length xc1) wa pa V9.drew ∧ OV ly gy gy zb (.slice y1 wb.length yc1) wb pb V9.drew ∧ OV lg gg gg rz (.slice g1 rw.length gc1) rw rp V9.drew ∧ Below w.heap.size w V9.drew) := Lib.hid (S0.out _ (qn _ _ Q9.out ((Below.refl _ _).drew)))
    have KT : Hid (∀ X, (X.cell? ⟨gx, 0, none⟩ = some (.int .i64 za) ∧ X.cell? ⟨gx, 1, none⟩ = some (.slice x1 wa.length xc1) ∧ X.cell? ⟨gx, 2, none⟩ = some (.bool pa) ∧ X.cell? ⟨ba, 0, none⟩ = some (.int .i64 za) ∧ X.cell? ⟨ba, 1, none⟩ = some (.slice b1 wa.length bc1) ∧ X.cell? ⟨ba, 2, none⟩ = some (.bool pa) ∧ VarA ba LOpT #[.int .i64 za, .slice b1 wa.length bc1, .bool pa] X ∧ VarA bb LOpT #[.int .i64 zb, .slice b2 wb.length bc2, .bool pb] X ∧ OU lu hu gu rz (.slice u1 rw.length uc1) rw rp X ∧ OV lx gx gx za (.slice x1 wa.length xc1) wa pa X ∧ OV ly gy gy zb (.slice y1 wb.length yc1) wb pb X ∧ OV lg gg gg rz (.slice g1 rw.length gc1) rw rp X ∧ Below w.heap.size w X) → Calls Try.prog 6 #[.agg #[.int .i64 za, .slice b1 wa.length bc1, .bool pa]] X fun e Y => ∃ t1 tc1, e = .returned (.agg #[.int .i64 za, .slice t1 wa.length tc1, .bool pa]) ∧ layStringS.rd Y [.slice t1 wa.length tc1] wa ∧ (Y.cell? ⟨gx, 0, none⟩ = some (.int .i64 za) ∧ Y.cell? ⟨gx, 1, none⟩ = some (.slice x1 wa.length xc1) ∧ Y.cell? ⟨gx, 2, none⟩ = some (.bool pa) ∧ Y.cell? ⟨ba, 0, none⟩ = some (.int .i64 za) ∧ Y.cell? ⟨ba, 1, none⟩ = some (.slice b1 wa.length bc1) ∧ Y.cell? ⟨ba, 2, none⟩ = some (.bool pa) ∧ VarA ba LOpT #[.int .i64 za, .slice b1 wa.length bc1, .bool pa] Y ∧ VarA bb LOpT #[.int .i64 zb, .slice b2 wb.length bc2, .bool pb] Y ∧ OU lu hu gu rz (.slice u1 rw.length uc1) rw rp Y ∧ OV lx gx gx za (.slice x1 wa.length xc1) wa pa Y ∧ OV ly gy gy zb (.slice y1 wb.length yc1) wb pb Y ∧ OV lg gg gg rz (.slice g1 rw.length gc1) rw rp Y ∧ Below w.heap.size w Y)) := Lib.hid (fun X hX => by
      have hq := hX.2.2.2.2.2.2
      refine (TTA.out X hq.2.2.2.2.2.2).mono ?_
      rintro e Y ⟨v, rfl, hv⟩
      obtain ⟨t1, tc1, f1, rfl, hd, hco, hb⟩ := hv
      exact ⟨t1, tc1, rfl, layStringS.read hco, S0.out _ (qn _ _ hq hb)⟩)
    have KE : Hid (∀ (q1 : Value) (X : World), (X.cell? ⟨gx, 0, none⟩ = some (.int .i64 za) ∧ X.cell? ⟨gx, 1, none⟩ = some (.slice x1 wa.length xc1) ∧ X.cell? ⟨gx, 2, none⟩ = some (.bool pa) ∧ X.cell? ⟨ba, 0, none⟩ = some (.int .i64 za) ∧ X.cell? ⟨ba, 1, none⟩ = some (.slice b1 wa.length bc1) ∧ X.cell? ⟨ba, 2, none⟩ = some (.bool pa) ∧ VarA ba LOpT #[.int .i64 za, .slice b1 wa.length bc1, .bool pa] X ∧ VarA bb LOpT #[.int .i64 zb, .slice b2 wb.length bc2, .bool pb] X ∧ OU lu hu gu rz (.slice u1 rw.length uc1) rw rp X ∧ OV lx gx gx za (.slice x1 wa.length xc1) wa pa X ∧ OV ly gy gy zb (.slice y1 wb.length yc1) wb pb X ∧ OV lg gg gg rz (.slice g1 rw.length gc1) rw rp X ∧ Below w.heap.size w X) → layStringS.rd X [q1] wa → Calls Try.prog 8 #[.agg #[.int .i64 za, .slice x1 wa.length xc1, .bool pa], .agg #[.int .i64 za, q1, .bool pa]] X fun e Y => e = .returned (.bool true) ∧ (Y.cell? ⟨gx, 0, none⟩ = some (.int .i64 za) ∧ Y.cell? ⟨gx, 1, none⟩ = some (.slice x1 wa.length xc1) ∧ Y.cell? ⟨gx, 2, none⟩ = some (.bool pa) ∧ Y.cell? ⟨ba, 0, none⟩ = some (.int .i64 za) ∧ Y.cell? ⟨ba, 1, none⟩ = some (.slice b1 wa.length bc1) ∧ Y.cell? ⟨ba, 2, none⟩ = some (.bool pa) ∧ VarA ba LOpT #[.int .i64 za, .slice b1 wa.length bc1, .bool pa] Y ∧ VarA bb LOpT #[.int .i64 zb, .slice b2 wb.length bc2, .bool pb] Y ∧ OU lu hu gu rz (.slice u1 rw.length uc1) rw rp Y ∧ OV lx gx gx za (.slice x1 wa.length xc1) wa pa Y ∧ OV ly gy gy zb (.slice y1 wb.length yc1) wb pb Y ∧ OV lg gg gg rz (.slice g1 rw.length gc1) rw rp Y ∧ Below w.heap.size w Y)) := Lib.hid (fun q1 X hX hrd => by
      have hq := hX.2.2.2.2.2.2
      refine (opt_eq hq.2.2.2.1.rd hrd (by have := Fa.out.1; omega)).mono ?_
      rintro e Y ⟨rfl, hb⟩
      exact ⟨rfl, S0.out _ (qn _ _ hq hb)⟩)
    go_wp2_with fail
    go_cut [58] (fun v wx => v = .bool false ∧ Hid (VarA ba LOpT #[.int .i64 za, .slice b1 wa.length bc1, .bool pa] wx ∧ VarA bb LOpT #[.int .i64 zb, .slice b2 wb.length bc2, .bool pb] wx ∧ OU lu hu gu rz (.slice u1 rw.length uc1) rw rp wx ∧ OV lx gx gx za (.slice x1 wa.length xc1) wa pa wx ∧ OV ly gy gy zb (.slice y1 wb.length yc1) wb pb wx ∧ OV lg gg gg rz (.slice g1 rw.length gc1) rw rp wx ∧ Below w.heap.size w wx))
    case first =>
      go_region_held3 (fun X => X.cell? ⟨gx, 0, none⟩ = some (.int .i64 za) ∧ X.cell? ⟨gx, 1, none⟩ = some (.slice x1 wa.length xc1) ∧ X.cell? ⟨gx, 2, none⟩ = some (.bool pa) ∧ X.cell? ⟨ba, 0, none⟩ = some (.int .i64 za) ∧ X.cell? ⟨ba, 1, none⟩ = some (.slice b1 wa.length bc1) ∧ X.cell? ⟨ba, 2, none⟩ = some (.bool pa) ∧ VarA ba LOpT #[.int .i64 za, .slice b1 wa.length bc1, .bool pa] X ∧ VarA bb LOpT #[.int .i64 zb, .slice b2 wb.length bc2, .bool pb] X ∧ OU lu hu gu rz (.slice u1 rw.length uc1) rw rp X ∧ OV lx gx gx za (.slice x1 wa.length xc1) wa pa X ∧ OV ly gy gy zb (.slice y1 wb.length yc1) wb pb X ∧ OV lg gg gg rz (.slice g1 rw.length gc1) rw rp X ∧ Below w.heap.size w X) (first | (with_reducible assumption) | (with_reducible exact S1.out)) (first | (go_at_call 6; refine (KT.out _ (by assumption)).mono ?_; rintro e v1 ⟨t1, tc1, rfl, hrd, hS⟩) | (go_at_call 8; refine (KE.out _ _ (by assumption) hrd).mono ?_; rintro e v1 ⟨rfl, hS⟩))
      all_goals
        go_wp2_with fail
        go_meet
        exact ⟨rfl, Lib.hid hS.2.2.2.2.2.2⟩
    case rest =>
      obtain ⟨rfl, QA⟩ := hcut
      generalize wc = VA at *
      clear S0 S1 KT KE Q9
      have S0 : Hid (∀ X, (VarA ba LOpT #[.int .i64 za, .slice b1 wa.length bc1, .bool pa] X ∧ VarA bb LOpT #[.int .i64 zb, .slice b2 wb.length bc2, .bool pb] X ∧ OU lu hu gu rz (.slice u1 rw.length uc1) rw rp X ∧ OV lx gx gx za (.slice x1 wa.length xc1) wa pa X ∧ OV ly gy gy zb (.slice y1 wb.length yc1) wb pb X ∧ OV lg gg gg rz (.slice g1 rw.length gc1) rw rp X ∧ Below w.heap.size w X) → (X.cell? ⟨gy, 0, none⟩ = some (.int .i64 zb) ∧ X.cell? ⟨gy, 1, none⟩ = some (.slice y1 wb.length yc1) ∧ X.cell? ⟨gy, 2, none⟩ = some (.bool pb) ∧ X.cell? ⟨bb, 0, none⟩ = some (.int .i64 zb) ∧ X.cell? ⟨bb, 1, none⟩ = some (.slice b2 wb.length bc2) ∧ X.cell? ⟨bb, 2, none⟩ = some (.bool pb) ∧ VarA ba LOpT #[.int .i64 za, .slice b1 wa.length bc1, .bool pa] X ∧ VarA bb LOpT #[.int .i64 zb, .slice b2 wb.length bc2, .bool pb] X ∧ OU lu hu gu rz (.slice u1 rw.length uc1) rw rp X ∧ OV lx gx gx za (.slice x1 wa.length xc1) wa pa X ∧ OV ly gy gy zb (.slice y1 wb.length yc1) wb pb X ∧ OV lg gg gg rz (.slice g1 rw.length gc1) rw rp X ∧ Below w.heap.size w X)) := Lib.hid (fun X h => ⟨h.2.2.2.2.1.var.cell 0, h.2.2.2.2.1.var.cell 1, h.2.2.2.2.1.var.cell 2, h.2.1.cell 0, h.2.1.cell 1, h.2.1.cell 2, h⟩)
      have S1 : Hid (VA.drew.cell? ⟨gy, 0, none⟩ = some (.int .i64 zb) ∧ VA.drew.cell? ⟨gy, 1, none⟩ = some (.slice y1 wb.length yc1) ∧ VA.drew.cell? ⟨gy, 2, none⟩ = some (.bool pb) ∧ VA.drew.cell? ⟨bb, 0, none⟩ = some (.int .i64 zb) ∧ VA.drew.cell? ⟨bb, 1, none⟩ = some (.slice b2 wb.length bc2) ∧ VA.drew.cell? ⟨bb, 2, none⟩ = some (.bool pb) ∧ VarA ba LOpT #[.int .i64 za, .slice b1 wa.length bc1, .bool pa] VA.drew ∧ VarA bb LOpT #[.int .i64 zb, .slice b2 wb.length bc2, .bool pb] VA.drew ∧ OU lu hu gu rz (.slice u1 rw.length uc1) rw rp VA.drew ∧ OV lx gx gx za (.slice x1 wa.length xc1) wa pa VA.drew ∧ OV ly gy gy zb (.slice y1 wb.length yc1) wb pb VA.drew ∧ OV lg gg gg rz (.slice g1 rw.length gc1) rw rp VA.drew ∧ Below w.heap.size w VA.drew) := Lib.hid (S0.out _ (qn _ _ QA.out ((Below.refl _ _).drew)))
      have KT : Hid (∀ X, (X.cell? ⟨gy, 0, none⟩ = some (.int .i64 zb) ∧ X.cell? ⟨gy, 1, none⟩ = some (.slice y1 wb.length yc1) ∧ X.cell? ⟨gy, 2, none⟩ = some (.bool pb) ∧ X.cell? ⟨bb, 0, none⟩ = some (.int .i64 zb) ∧ X.cell? ⟨bb, 1, none⟩ = some (.slice b2 wb.length bc2) ∧ X.cell? ⟨bb, 2, none⟩ = some (.bool pb) ∧ VarA ba LOpT #[.int .i64 za, .slice b1 wa.length bc1, .bool pa] X ∧ VarA bb LOpT #[.int .i64 zb, .slice b2 wb.length bc2, .bool pb] X ∧ OU lu hu gu rz (.slice u1 rw.length uc1) rw rp X ∧ OV lx gx gx za (.slice x1 wa.length xc1) wa pa X ∧ OV ly gy gy zb (.slice y1 wb.length yc1) wb pb X ∧ OV lg gg gg rz (.slice g1 rw.length gc1) rw rp X ∧ Below w.heap.size w X) → Calls Try.prog 6 #[.agg #[.int .i64 zb, .slice b2 wb.length bc2, .bool pb]] X fun e Y => ∃ t2 tc2, e = .returned (.agg #[.int .i64 zb, .slice t2 wb.length tc2, .bool pb]) ∧ layStringS.rd Y [.slice t2 wb.length tc2] wb ∧ (Y.cell? ⟨gy, 0, none⟩ = some (.int .i64 zb) ∧ Y.cell? ⟨gy, 1, none⟩ = some (.slice y1 wb.length yc1) ∧ Y.cell? ⟨gy, 2, none⟩ = some (.bool pb) ∧ Y.cell? ⟨bb, 0, none⟩ = some (.int .i64 zb) ∧ Y.cell? ⟨bb, 1, none⟩ = some (.slice b2 wb.length bc2) ∧ Y.cell? ⟨bb, 2, none⟩ = some (.bool pb) ∧ VarA ba LOpT #[.int .i64 za, .slice b1 wa.length bc1, .bool pa] Y ∧ VarA bb LOpT #[.int .i64 zb, .slice b2 wb.length bc2, .bool pb] Y ∧ OU lu hu gu rz (.slice u1 rw.length uc1) rw rp Y ∧ OV lx gx gx za (.slice x1 wa.length xc1) wa pa Y ∧ OV ly gy gy zb (.slice y1 wb.length yc1) wb pb Y ∧ OV lg gg gg rz (.slice g1 rw.length gc1) rw rp Y ∧ Below w.heap.size w Y)) := Lib.hid (fun X hX => by
        have hq := hX.2.2.2.2.2.2
        refine (TTB.out X hq.2.2.2.2.2.2).mono ?_
        rintro e Y ⟨v, rfl, hv⟩
        obtain ⟨t2, tc2, f1, rfl, hd, hco, hb⟩ := hv
        exact ⟨t2, tc2, rfl, layStringS.read hco, S0.out _ (qn _ _ hq hb)⟩)
      have KE : Hid (∀ (q1 : Value) (X : World), (X.cell? ⟨gy, 0, none⟩ = some (.int .i64 zb) ∧ X.cell? ⟨gy, 1, none⟩ = some (.slice y1 wb.length yc1) ∧ X.cell? ⟨gy, 2, none⟩ = some (.bool pb) ∧ X.cell? ⟨bb, 0, none⟩ = some (.int .i64 zb) ∧ X.cell? ⟨bb, 1, none⟩ = some (.slice b2 wb.length bc2) ∧ X.cell? ⟨bb, 2, none⟩ = some (.bool pb) ∧ VarA ba LOpT #[.int .i64 za, .slice b1 wa.length bc1, .bool pa] X ∧ VarA bb LOpT #[.int .i64 zb, .slice b2 wb.length bc2, .bool pb] X ∧ OU lu hu gu rz (.slice u1 rw.length uc1) rw rp X ∧ OV lx gx gx za (.slice x1 wa.length xc1) wa pa X ∧ OV ly gy gy zb (.slice y1 wb.length yc1) wb pb X ∧ OV lg gg gg rz (.slice g1 rw.length gc1) rw rp X ∧ Below w.heap.size w X) → layStringS.rd X [q1] wb → Calls Try.prog 8 #[.agg #[.int .i64 zb, .slice y1 wb.length yc1, .bool pb], .agg #[.int .i64 zb, q1, .bool pb]] X fun e Y => e = .returned (.bool true) ∧ (Y.cell? ⟨gy, 0, none⟩ = some (.int .i64 zb) ∧ Y.cell? ⟨gy, 1, none⟩ = some (.slice y1 wb.length yc1) ∧ Y.cell? ⟨gy, 2, none⟩ = some (.bool pb) ∧ Y.cell? ⟨bb, 0, none⟩ = some (.int .i64 zb) ∧ Y.cell? ⟨bb, 1, none⟩ = some (.slice b2 wb.length bc2) ∧ Y.cell? ⟨bb, 2, none⟩ = some (.bool pb) ∧ VarA ba LOpT #[.int .i64 za, .slice b1 wa.length bc1, .bool pa] Y ∧ VarA bb LOpT #[.int .i64 zb, .slice b2 wb.length bc2, .bool pb] Y ∧ OU lu hu gu rz (.slice u1 rw.length uc1) rw rp Y ∧ OV lx gx gx za (.slice x1 wa.length xc1) wa pa Y ∧ OV ly gy gy zb (.slice y1 wb.length yc1) wb pb Y ∧ OV lg gg gg rz (.slice g1 rw.length gc1) rw rp Y ∧ Below w.heap.size w Y)) := Lib.hid (fun q1 X hX hrd => by
        have hq := hX.2.2.2.2.2.2
        refine (opt_eq hq.2.2.2.2.1.rd hrd (by have := Fb.out.1; omega)).mono ?_
        rintro e Y ⟨rfl, hb⟩
        exact ⟨rfl, S0.out _ (qn _ _ hq hb)⟩)
      go_wp2_with fail
      go_cut [63] (fun v wx => v = .bool false ∧ Hid (VarA ba LOpT #[.int .i64 za, .slice b1 wa.length bc1, .bool pa] wx ∧ VarA bb LOpT #[.int .i64 zb, .slice b2 wb.length bc2, .bool pb] wx ∧ OU lu hu gu rz (.slice u1 rw.length uc1) rw rp wx ∧ OV lx gx gx za (.slice x1 wa.length xc1) wa pa wx ∧ OV ly gy gy zb (.slice y1 wb.length yc1) wb pb wx ∧ OV lg gg gg rz (.slice g1 rw.length gc1) rw rp wx ∧ Below w.heap.size w wx))
      case first =>
        go_region_held3 (fun X => X.cell? ⟨gy, 0, none⟩ = some (.int .i64 zb) ∧ X.cell? ⟨gy, 1, none⟩ = some (.slice y1 wb.length yc1) ∧ X.cell? ⟨gy, 2, none⟩ = some (.bool pb) ∧ X.cell? ⟨bb, 0, none⟩ = some (.int .i64 zb) ∧ X.cell? ⟨bb, 1, none⟩ = some (.slice b2 wb.length bc2) ∧ X.cell? ⟨bb, 2, none⟩ = some (.bool pb) ∧ VarA ba LOpT #[.int .i64 za, .slice b1 wa.length bc1, .bool pa] X ∧ VarA bb LOpT #[.int .i64 zb, .slice b2 wb.length bc2, .bool pb] X ∧ OU lu hu gu rz (.slice u1 rw.length uc1) rw rp X ∧ OV lx gx gx za (.slice x1 wa.length xc1) wa pa X ∧ OV ly gy gy zb (.slice y1 wb.length yc1) wb pb X ∧ OV lg gg gg rz (.slice g1 rw.length gc1) rw rp X ∧ Below w.heap.size w X) (first | (with_reducible assumption) | (with_reducible exact S1.out)) (first | (go_at_call 6; refine (KT.out _ (by assumption)).mono ?_; rintro e v1 ⟨t2, tc2, rfl, hrd, hS⟩) | (go_at_call 8; refine (KE.out _ _ (by assumption) hrd).mono ?_; rintro e v1 ⟨rfl, hS⟩))
        all_goals
          go_wp2_with fail
          go_meet
          exact ⟨rfl, Lib.hid hS.2.2.2.2.2.2⟩
      case rest =>
        obtain ⟨rfl, QB⟩ := hcut
        generalize wc = VB at *
        clear S0 S1 KT KE QA qn
        have c0 : VB.cell? ⟨gx, 0, none⟩ = some (.int .i64 za) := QB.out.2.2.2.1.var.cell 0
        have c1 : VB.cell? ⟨gx, 1, none⟩ = some (.slice x1 wa.length xc1) := QB.out.2.2.2.1.var.cell 1
        have c2 : VB.cell? ⟨gx, 2, none⟩ = some (.bool pa) := QB.out.2.2.2.1.var.cell 2
        have KM := Lib.hid (QB.out.2.2.2.1.mark (by have := Fa.out.1; omega) 1 (by omega) (by omega))
        go_wp2_with fail
        refine (KM.out).mono ?_
        rintro e VC ⟨rfl, -, hcC⟩
        have AC := Lib.hid (QB.out.1.rng hcC (.inl (by omega)))
        have PC := Lib.hid (QB.out.2.1.rng hcC (.inl (by omega)))
        have UC := Lib.hid (QB.out.2.2.1.apart hcC (.inl (by omega)))
        have YC := Lib.hid (QB.out.2.2.2.2.1.apart hcC (.inr (by omega)) (.inr (by omega)))
        have GC := Lib.hid (QB.out.2.2.2.2.2.1.apart hcC (.inr (by omega)) (.inr (by omega)))
        have BC := Lib.hid (QB.out.2.2.2.2.2.2.trans (hcC.below (by omega) QB.out.2.2.2.2.2.2.size))
        clear hcC KM QB c0 c1 c2
        obtain ⟨k1, hk1, hk2, hk3⟩ : ∃ k : Int, (1 + 1 * (wa.length : Int)) = k ∧ 1 ≤ k ∧ k ≤ 100000000 := ⟨_, rfl, by omega, by have := Fa.out.1; omega⟩
        rw [hk1]
        clear hk1
        have c0 : VC.cell? ⟨gy, 0, none⟩ = some (.int .i64 zb) := YC.out.var.cell 0
        have c1 : VC.cell? ⟨gy, 1, none⟩ = some (.slice y1 wb.length yc1) := YC.out.var.cell 1
        have c2 : VC.cell? ⟨gy, 2, none⟩ = some (.bool pb) := YC.out.var.cell 2
        have KM := Lib.hid (YC.out.mark (by have := Fb.out.1; omega) k1 hk2 hk3)
        have hnn : ¬ (k1 + 1 * (wb.length : Int) < 0) := by omega
        go_wp2_with fail
        refine (KM.out).mono ?_
        rintro e VE ⟨rfl, -, hcE⟩
        have QE : Hid (VarA ba LOpT #[.int .i64 za, .slice b1 wa.length bc1, .bool pa] VE ∧ VarA bb LOpT #[.int .i64 zb, .slice b2 wb.length bc2, .bool pb] VE ∧ OU lu hu gu rz (.slice u1 rw.length uc1) rw rp VE ∧ OV lg gg gg rz (.slice g1 rw.length gc1) rw rp VE ∧ Below w.heap.size w VE) := Lib.hid ⟨AC.out.rng hcE (.inl (by omega)), PC.out.rng hcE (.inl (by omega)), UC.out.apart hcE (.inl (by omega)), GC.out.apart hcE (.inr (by omega)) (.inr (by omega)), BC.out.trans (hcE.below (by omega) BC.out.size)⟩
        clear hcE KM AC PC UC YC GC BC c0 c1 c2
        generalize k1 + 1 * (wb.length : Int) = zk at *
        have qn : ∀ X Y, (VarA ba LOpT #[.int .i64 za, .slice b1 wa.length bc1, .bool pa] X ∧ VarA bb LOpT #[.int .i64 zb, .slice b2 wb.length bc2, .bool pb] X ∧ OU lu hu gu rz (.slice u1 rw.length uc1) rw rp X ∧ OV lg gg gg rz (.slice g1 rw.length gc1) rw rp X ∧ Below w.heap.size w X) → Below X.heap.size X Y → (VarA ba LOpT #[.int .i64 za, .slice b1 wa.length bc1, .bool pa] Y ∧ VarA bb LOpT #[.int .i64 zb, .slice b2 wb.length bc2, .bool pb] Y ∧ OU lu hu gu rz (.slice u1 rw.length uc1) rw rp Y ∧ OV lg gg gg rz (.slice g1 rw.length gc1) rw rp Y ∧ Below w.heap.size w Y) := fun X Y h hb => ⟨h.1.next hb, h.2.1.next hb, h.2.2.1.next hb, h.2.2.2.1.next hb, h.2.2.2.2.trans (hb.mono h.2.2.2.2.size)⟩
        have d0 : VE.cell? ⟨gg, 0, none⟩ = some (.int .i64 rz) := QE.out.2.2.2.1.var.cell 0
        have d1 : VE.cell? ⟨gg, 1, none⟩ = some (.slice g1 rw.length gc1) := QE.out.2.2.2.1.var.cell 1
        have d2 : VE.cell? ⟨gg, 2, none⟩ = some (.bool rp) := QE.out.2.2.2.1.var.cell 2
        have e0 : VE.cell? ⟨gu, 0, none⟩ = some (.int .i64 rz) := QE.out.2.2.1.var.cell 0
        have e1 : VE.cell? ⟨gu, 1, none⟩ = some (.slice u1 rw.length uc1) := QE.out.2.2.1.var.cell 1
        have e2 : VE.cell? ⟨gu, 2, none⟩ = some (.bool rp) := QE.out.2.2.1.var.cell 2
        have KB := Lib.hid (opt_eq (z := rz) (p := rp) QE.out.2.2.2.1.rd QE.out.2.2.1.rd hf)
        go_wp2_with fail
        refine (KB.out).mono ?_
        rintro e VF ⟨rfl, hbF⟩
        have QF := Lib.hid (qn _ _ QE.out hbF)
        clear hbF KB QE d0 d1 d2 e0 e1 e2 qn
        have d0 : VF.cell? ⟨gg, 0, none⟩ = some (.int .i64 rz) := QF.out.2.2.2.1.var.cell 0
        have d1 : VF.cell? ⟨gg, 1, none⟩ = some (.slice g1 rw.length gc1) := QF.out.2.2.2.1.var.cell 1
        have d2 : VF.cell? ⟨gg, 2, none⟩ = some (.bool rp) := QF.out.2.2.2.1.var.cell 2
        have KC := Lib.hid (QF.out.2.2.2.1.mark hf 1 (by omega) (by omega))
        go_wp2_with fail
        refine (KC.out).mono ?_
        rintro e VG ⟨rfl, hmG, hcG⟩
        have QG : Hid (VarA ba LOpT #[.int .i64 za, .slice b1 wa.length bc1, .bool pa] VG ∧ VarA bb LOpT #[.int .i64 zb, .slice b2 wb.length bc2, .bool pb] VG ∧ OU lu hu gu rz (.slice u1 rw.length uc1) rw rp VG ∧ OV lg gg gg rz (.slice g1 rw.length gc1) (layStringS.mark 1 rw).1 rp VG ∧ Below w.heap.size w VG) := Lib.hid ⟨QF.out.1.rng hcG (.inl (by omega)), QF.out.2.1.rng hcG (.inl (by omega)), QF.out.2.2.1.apart hcG (.inl (by omega)), hmG, QF.out.2.2.2.2.trans (hcG.below (by omega) QF.out.2.2.2.2.size)⟩
        clear hmG hcG KC QF d0 d1 d2
        have qm : ∀ X Y, (VarA ba LOpT #[.int .i64 za, .slice b1 wa.length bc1, .bool pa] X ∧ VarA bb LOpT #[.int .i64 zb, .slice b2 wb.length bc2, .bool pb] X ∧ OU lu hu gu rz (.slice u1 rw.length uc1) rw rp X ∧ OV lg gg gg rz (.slice g1 rw.length gc1) (layStringS.mark 1 rw).1 rp X ∧ Below w.heap.size w X) → Below X.heap.size X Y → (VarA ba LOpT #[.int .i64 za, .slice b1 wa.length bc1, .bool pa] Y ∧ VarA bb LOpT #[.int .i64 zb, .slice b2 wb.length bc2, .bool pb] Y ∧ OU lu hu gu rz (.slice u1 rw.length uc1) rw rp Y ∧ OV lg gg gg rz (.slice g1 rw.length gc1) (layStringS.mark 1 rw).1 rp Y ∧ Below w.heap.size w Y) := fun X Y h hb => ⟨h.1.next hb, h.2.1.next hb, h.2.2.1.next hb, h.2.2.2.1.next hb, h.2.2.2.2.trans (hb.mono h.2.2.2.2.size)⟩
        have KH : Hid (∀ X, (VarA ba LOpT #[.int .i64 za, .slice b1 wa.length bc1, .bool pa] X ∧ VarA bb LOpT #[.int .i64 zb, .slice b2 wb.length bc2, .bool pb] X ∧ OU lu hu gu rz (.slice u1 rw.length uc1) rw rp X ∧ OV lg gg gg rz (.slice g1 rw.length gc1) (layStringS.mark 1 rw).1 rp X ∧ Below w.heap.size w X) → Calls Try.prog 10 #[.agg #[.int .i64 rz, .slice g1 rw.length gc1, .bool rp], .int .i64 1] X fun e Y => e = .returned (.int .i64 (1 + 1 * (rw.length : Int))) ∧ Below X.heap.size X Y) := Lib.hid (fun X h => OV.held 1 h.2.2.2.1 hf (by omega) (by omega))
        have hm1 : ¬ ((1 + 1 * (rw.length : Int)) < 0) := by omega
        generalize (1 + 1 * (rw.length : Int)) = zr at *
        have d0 : VG.cell? ⟨gg, 0, none⟩ = some (.int .i64 rz) := QG.out.2.2.2.1.var.cell 0
        have d1 : VG.cell? ⟨gg, 1, none⟩ = some (.slice g1 rw.length gc1) := QG.out.2.2.2.1.var.cell 1
        have d2 : VG.cell? ⟨gg, 2, none⟩ = some (.bool rp) := QG.out.2.2.2.1.var.cell 2
        go_wp2_with fail
        refine (KH.out VG QG.out).mono ?_
        rintro e VH ⟨rfl, hbH⟩
        have QH := Lib.hid (qm _ _ QG.out hbH)
        clear hbH QG d0 d1 d2
        have AH := Lib.hid QH.out.1
        have PH := Lib.hid QH.out.2.1
        have BH := Lib.hid QH.out.2.2.2.2
        go_upto_region 31 with fail
        have E0 : Hid (VH.drew.cell? ⟨ba, 0, none⟩ = some (.int .i64 za) ∧ VH.drew.cell? ⟨ba, 1, none⟩ = some (.slice b1 wa.length bc1) ∧ VH.drew.cell? ⟨ba, 2, none⟩ = some (.bool pa) ∧ VH.drew.cell? ⟨bb, 0, none⟩ = some (.int .i64 zb) ∧ VH.drew.cell? ⟨bb, 1, none⟩ = some (.slice b2 wb.length bc2) ∧ VH.drew.cell? ⟨bb, 2, none⟩ = some (.bool pb) ∧ Below VH.heap.size VH VH.drew) := Lib.hid ⟨AH.out.cell 0, AH.out.cell 1, AH.out.cell 2, PH.out.cell 0, PH.out.cell 1, PH.out.cell 2, (Below.refl _ _).drew⟩
        have F0 : Hid (VH.cell? ⟨ba, 0, none⟩ = some (.int .i64 za) ∧ VH.cell? ⟨ba, 1, none⟩ = some (.slice b1 wa.length bc1) ∧ VH.cell? ⟨ba, 2, none⟩ = some (.bool pa) ∧ VH.cell? ⟨bb, 0, none⟩ = some (.int .i64 zb) ∧ VH.cell? ⟨bb, 1, none⟩ = some (.slice b2 wb.length bc2) ∧ VH.cell? ⟨bb, 2, none⟩ = some (.bool pb) ∧ Below VH.heap.size VH VH) := Lib.hid ⟨AH.out.cell 0, AH.out.cell 1, AH.out.cell 2, PH.out.cell 0, PH.out.cell 1, PH.out.cell 2, Below.refl _ _⟩
        have hba : ba < VH.heap.size := AH.out.lt
        have hbb : bb < VH.heap.size := PH.out.lt
        have KA : Hid (∀ X, (X.cell? ⟨ba, 0, none⟩ = some (.int .i64 za) ∧ X.cell? ⟨ba, 1, none⟩ = some (.slice b1 wa.length bc1) ∧ X.cell? ⟨ba, 2, none⟩ = some (.bool pa) ∧ X.cell? ⟨bb, 0, none⟩ = some (.int .i64 zb) ∧ X.cell? ⟨bb, 1, none⟩ = some (.slice b2 wb.length bc2) ∧ X.cell? ⟨bb, 2, none⟩ = some (.bool pb) ∧ Below VH.heap.size VH X) → Calls Try.prog 6 #[.agg #[.int .i64 za, .slice b1 wa.length bc1, .bool pa]] X fun e Y => ∃ t1 tc1, e = .returned (.agg #[.int .i64 za, .slice t1 wa.length tc1, .bool pa]) ∧ layStringS.rd Y [.slice t1 wa.length tc1] wa ∧ (Y.cell? ⟨ba, 0, none⟩ = some (.int .i64 za) ∧ Y.cell? ⟨ba, 1, none⟩ = some (.slice b1 wa.length bc1) ∧ Y.cell? ⟨ba, 2, none⟩ = some (.bool pa) ∧ Y.cell? ⟨bb, 0, none⟩ = some (.int .i64 zb) ∧ Y.cell? ⟨bb, 1, none⟩ = some (.slice b2 wb.length bc2) ∧ Y.cell? ⟨bb, 2, none⟩ = some (.bool pb) ∧ Below VH.heap.size VH Y) ∧ Below X.heap.size X Y) := Lib.hid (fun X hX => by
          refine (TTA.out X (BH.out.trans (hX.2.2.2.2.2.2.mono BH.out.size))).mono ?_
          rintro e Y ⟨v, rfl, hv⟩
          obtain ⟨t1, tc1, f1, rfl, hd, hco, hb⟩ := hv
          exact ⟨t1, tc1, rfl, layStringS.read hco, sbo_next hX hb, hb⟩)
        have KB : Hid (∀ X, (X.cell? ⟨ba, 0, none⟩ = some (.int .i64 za) ∧ X.cell? ⟨ba, 1, none⟩ = some (.slice b1 wa.length bc1) ∧ X.cell? ⟨ba, 2, none⟩ = some (.bool pa) ∧ X.cell? ⟨bb, 0, none⟩ = some (.int .i64 zb) ∧ X.cell? ⟨bb, 1, none⟩ = some (.slice b2 wb.length bc2) ∧ X.cell? ⟨bb, 2, none⟩ = some (.bool pb) ∧ Below VH.heap.size VH X) → Calls Try.prog 6 #[.agg #[.int .i64 zb, .slice b2 wb.length bc2, .bool pb]] X fun e Y => ∃ t2 tc2, e = .returned (.agg #[.int .i64 zb, .slice t2 wb.length tc2, .bool pb]) ∧ layStringS.rd Y [.slice t2 wb.length tc2] wb ∧ (Y.cell? ⟨ba, 0, none⟩ = some (.int .i64 za) ∧ Y.cell? ⟨ba, 1, none⟩ = some (.slice b1 wa.length bc1) ∧ Y.cell? ⟨ba, 2, none⟩ = some (.bool pa) ∧ Y.cell? ⟨bb, 0, none⟩ = some (.int .i64 zb) ∧ Y.cell? ⟨bb, 1, none⟩ = some (.slice b2 wb.length bc2) ∧ Y.cell? ⟨bb, 2, none⟩ = some (.bool pb) ∧ Below VH.heap.size VH Y) ∧ Below X.heap.size X Y) := Lib.hid (fun X hX => by
          refine (TTB.out X (BH.out.trans (hX.2.2.2.2.2.2.mono BH.out.size))).mono ?_
          rintro e Y ⟨v, rfl, hv⟩
          obtain ⟨t2, tc2, f1, rfl, hd, hco, hb⟩ := hv
          exact ⟨t2, tc2, rfl, layStringS.read hco, sbo_next hX hb, hb⟩)
        have KU : Hid (∀ (t1 : Option Addr) (tc1 : Nat) (t2 : Option Addr) (tc2 : Nat) (X : World), (X.cell? ⟨ba, 0, none⟩ = some (.int .i64 za) ∧ X.cell? ⟨ba, 1, none⟩ = some (.slice b1 wa.length bc1) ∧ X.cell? ⟨ba, 2, none⟩ = some (.bool pa) ∧ X.cell? ⟨bb, 0, none⟩ = some (.int .i64 zb) ∧ X.cell? ⟨bb, 1, none⟩ = some (.slice b2 wb.length bc2) ∧ X.cell? ⟨bb, 2, none⟩ = some (.bool pb) ∧ Below VH.heap.size VH X) → layStringS.rd X [.slice t1 wa.length tc1] wa → layStringS.rd X [.slice t2 wb.length tc2] wb → Calls Try.prog 7 #[.agg #[.int .i64 za, .slice t1 wa.length tc1, .bool pa], .agg #[.int .i64 zb, .slice t2 wb.length tc2, .bool pb]] X fun e Y => ∃ u1 uc1 fu, e = .returned (.tuple #[.agg #[.int .i64 rz, .slice u1 rw.length uc1, .bool rp], .bool ok]) ∧ layStringS.own Y VH.heap.size fu [.slice u1 rw.length uc1] rw ∧ (Y.cell? ⟨ba, 0, none⟩ = some (.int .i64 za) ∧ Y.cell? ⟨ba, 1, none⟩ = some (.slice b1 wa.length bc1) ∧ Y.cell? ⟨ba, 2, none⟩ = some (.bool pa) ∧ Y.cell? ⟨bb, 0, none⟩ = some (.int .i64 zb) ∧ Y.cell? ⟨bb, 1, none⟩ = some (.slice b2 wb.length bc2) ∧ Y.cell? ⟨bb, 2, none⟩ = some (.bool pb) ∧ Below VH.heap.size VH Y) ∧ Below X.heap.size X Y) := Lib.hid (fun t1 tc1 t2 tc2 X hX hr1 hr2 => by
          refine (HI.out _ _ X hr1 hr2).mono ?_
          rintro e Y ⟨v, rfl, hv⟩
          obtain ⟨u1, uc1, fu, rfl, hd, hco, hb⟩ := hv
          exact ⟨u1, uc1, fu, rfl, layStringS.lower hco hX.2.2.2.2.2.2.size, sbo_next hX hb, hb⟩)
        go_cut [15, 16] (fun x y wx => ∃ gu u1 uc1, x = .pointer (some ⟨gu, 0, none⟩) ∧ y = .bool ok ∧ OU VH.heap.size wx.heap.size gu rz (.slice u1 rw.length uc1) rw rp wx ∧ Below VH.heap.size VH wx)
        case first =>
          go_region_held3 (fun X => X.cell? ⟨ba, 0, none⟩ = some (.int .i64 za) ∧ X.cell? ⟨ba, 1, none⟩ = some (.slice b1 wa.length bc1) ∧ X.cell? ⟨ba, 2, none⟩ = some (.bool pa) ∧ X.cell? ⟨bb, 0, none⟩ = some (.int .i64 zb) ∧ X.cell? ⟨bb, 1, none⟩ = some (.slice b2 wb.length bc2) ∧ X.cell? ⟨bb, 2, none⟩ = some (.bool pb) ∧ Below VH.heap.size VH X) (first | (with_reducible assumption) | (with_reducible exact E0.out) | (with_reducible exact sbo_drew (sbo_alloc F0.out _)) | (with_reducible exact sbo_alloc F0.out _) | (with_reducible exact sbo_drew (by assumption)) | (with_reducible exact sbo_alloc (by assumption) _) | (with_reducible exact sbo_alloc E0.out _) | (with_reducible exact sbo_drew (sbo_alloc (by assumption) _)) | (exact sbo_store (by assumption) (by omega) hba hbb _ _ _)) (first | (go_at_call_of 6 (Value.agg #[Value.int IntKind.i64 za, Value.slice b1 wa.length bc1, Value.bool pa]); refine (KA.out _ (by assumption)).mono ?_; rintro e v1 ⟨t1, tc1, rfl, hq1, hS, hb⟩; (first | (have rr := VarA.next rr hb) | (have rr := VarA.next (VarA.drew rr) hb) | (have rr := VarA.next (VarA.new _ OptionsT #[Value.int .i64 0, Value.slice none 0 0, Value.bool false]) hb) | (have rr := VarA.next (VarA.drew (VarA.new _ OptionsT #[Value.int .i64 0, Value.slice none 0 0, Value.bool false])) hb) | skip); (first | (have r0 := rr.cell 0; have r1 := rr.cell 1; have r2 := rr.cell 2; have g0 := rr.free 0; have g1 := rr.free 1; have g2 := rr.free 2) | skip); have hz := hS.2.2.2.2.2.2.size) | (go_at_call_of 6 (Value.agg #[Value.int IntKind.i64 zb, Value.slice b2 wb.length bc2, Value.bool pb]); refine (KB.out _ (by assumption)).mono ?_; rintro e v1 ⟨t2, tc2, rfl, hq2, hS, hb⟩; (first | (have rr := VarA.next rr hb) | (have rr := VarA.next (VarA.drew rr) hb) | (have rr := VarA.next (VarA.new _ OptionsT #[Value.int .i64 0, Value.slice none 0 0, Value.bool false]) hb) | (have rr := VarA.next (VarA.drew (VarA.new _ OptionsT #[Value.int .i64 0, Value.slice none 0 0, Value.bool false])) hb) | skip); (first | (have r0 := rr.cell 0; have r1 := rr.cell 1; have r2 := rr.cell 2; have g0 := rr.free 0; have g1 := rr.free 1; have g2 := rr.free 2) | skip); have hz := hS.2.2.2.2.2.2.size; (first | (have hq1 := layStringS.below hq1 hb) | (have hq1 := layStringS.below (layStringS.below hq1 ((Below.refl _ _).drew)) hb) | (have hq1 := layStringS.below (layStringS.below hq1 ((Below.refl _ _).alloc (Nat.le_refl _) _)) hb) | (have hq1 := layStringS.below (layStringS.below hq1 (((Below.refl _ _).alloc (Nat.le_refl _) _).drew)) hb) | skip)) | (go_at_call 7; refine (KU.out _ _ _ _ _ (by assumption) (by (first | exact hq1 | exact layStringS.below hq1 ((Below.refl _ _).drew) | exact layStringS.below hq1 ((Below.refl _ _).alloc (Nat.le_refl _) _) | exact layStringS.below hq1 (((Below.refl _ _).alloc (Nat.le_refl _) _).drew))) (by (first | exact hq2 | exact layStringS.below hq2 ((Below.refl _ _).drew) | exact layStringS.below hq2 ((Below.refl _ _).alloc (Nat.le_refl _) _) | exact layStringS.below hq2 (((Below.refl _ _).alloc (Nat.le_refl _) _).drew)))).mono ?_; rintro e v1 ⟨u1, uc1, fu, rfl, hou, hS, hb⟩; (first | (have rr := VarA.next rr hb) | (have rr := VarA.next (VarA.drew rr) hb) | (have rr := VarA.next (VarA.new _ OptionsT #[Value.int .i64 0, Value.slice none 0 0, Value.bool false]) hb) | (have rr := VarA.next (VarA.drew (VarA.new _ OptionsT #[Value.int .i64 0, Value.slice none 0 0, Value.bool false])) hb) | skip); (first | (have r0 := rr.cell 0; have r1 := rr.cell 1; have r2 := rr.cell 2; have g0 := rr.free 0; have g1 := rr.free 1; have g2 := rr.free 2) | skip); have hz := hS.2.2.2.2.2.2.size))
          all_goals
            go_wp2_with fail
            go_meet
            first | exact ⟨_, _, _, rfl, rfl, OU.last hou hS.2.2.2.2.2.2⟩ | exact ⟨_, _, _, rfl, rfl, OU.stored rr (by omega) hou hS.2.2.2.2.2.2⟩
        case rest =>
          obtain ⟨gh, h1, hc1, rfl, rfl, hoh, hbz⟩ := hcut
          generalize wc = VI at *
          have QI := Lib.hid (qm _ _ QH.out hbz)
          have HH := Lib.hid hoh
          clear hoh hbz QH AH PH BH E0 F0 KA KB KU hba hbb
          have d0 : VI.cell? ⟨gh, 0, none⟩ = some (.int .i64 rz) := HH.out.var.cell 0
          have d1 : VI.cell? ⟨gh, 1, none⟩ = some (.slice h1 rw.length hc1) := HH.out.var.cell 1
          have d2 : VI.cell? ⟨gh, 2, none⟩ = some (.bool rp) := HH.out.var.cell 2
          have e0 : VI.cell? ⟨gu, 0, none⟩ = some (.int .i64 rz) := QI.out.2.2.1.var.cell 0
          have e1 : VI.cell? ⟨gu, 1, none⟩ = some (.slice u1 rw.length uc1) := QI.out.2.2.1.var.cell 1
          have e2 : VI.cell? ⟨gu, 2, none⟩ = some (.bool rp) := QI.out.2.2.1.var.cell 2
          have KJ := Lib.hid (opt_eq (z := rz) (p := rp) HH.out.rd QI.out.2.2.1.rd hf)
          go_wp2_with fail
          refine (KJ.out).mono ?_
          rintro e VJ ⟨rfl, hbJ⟩
          have QJ := Lib.hid (qm _ _ QI.out hbJ)
          clear hbJ KJ QI HH d0 d1 d2 e0 e1 e2
          have d0 : VJ.cell? ⟨gg, 0, none⟩ = some (.int .i64 rz) := QJ.out.2.2.2.1.var.cell 0
          have d1 : VJ.cell? ⟨gg, 1, none⟩ = some (.slice g1 rw.length gc1) := QJ.out.2.2.2.1.var.cell 1
          have d2 : VJ.cell? ⟨gg, 2, none⟩ = some (.bool rp) := QJ.out.2.2.2.1.var.cell 2
          go_wp2_with fail
          refine (KH.out VJ QJ.out).mono ?_
          rintro e VK ⟨rfl, hbK⟩
          have BZ := Lib.hid (QJ.out.2.2.2.2.trans (hbK.mono QJ.out.2.2.2.2.size))
          clear hbK
          go_wp2_with fail
          go_ret
          exact ⟨rfl, BZ.out⟩

end Go.Proofs.Ytmgdhlodifkemat
