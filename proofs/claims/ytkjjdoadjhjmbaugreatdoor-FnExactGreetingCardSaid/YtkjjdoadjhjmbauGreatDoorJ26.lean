/-
  The program's Hello.
  How a greeter goes to the later steps.
  Rows and variables of different types lie apart; no program is spoken of here.
-/
import Derived.Test.YtkjjdoadjhjmbauGreatDoorJ24
import Derived.Test.YtkjjdoadjhjmbauGreatDoorJ25
import Derived.Test.YtkjjdoadjhjmbauGreatDoorJ06
namespace Go.Proofs.YtkjjdoadjhjmbauGreatDoor
open Go.RowKit

/-- The greeter, the result and the copy in their variables. -/
structure GN (w : World) (nx : Nat) (x0 x1 x2 x3 x4 : Int) (x5 x6 : ByteArray) (y4 : Int) (y5 y6 : ByteArray) (X : World) : Prop where
  gr : GR w x0 x1 x2 x3 x4 x5 x6 X
  n : VarA nx GreeterT #[.int .i64 x0, .int .i64 x1, .int .i64 x2, .int .i64 x3, .int .i64 y4, .string y5, .string y6] X
  far : w.heap.size + 2 ≤ nx
section
variable {w : World} {nx : Nat} {x0 x1 x2 x3 x4 : Int} {x5 x6 : ByteArray} {y4 : Int} {y5 y6 : ByteArray} {X Y : World}
theorem GN.next (h : GN w nx x0 x1 x2 x3 x4 x5 x6 y4 y5 y6 X) (hb : Below X.heap.size X Y) : GN w nx x0 x1 x2 x3 x4 x5 x6 y4 y5 y6 Y := ⟨h.gr.next hb, h.n.next hb, h.far⟩
theorem GR.off (h : GR w x0 x1 x2 x3 x4 x5 x6 X) {nx : Nat} (hn : w.heap.size + 2 ≤ nx) (j : Nat) (v : Value) : GR w x0 x1 x2 x3 x4 x5 x6 (X.setCell ⟨nx, j, none⟩ v) := ⟨h.g.off j _ (by omega), h.r.off j _ (by omega), h.below.setCell (p := ⟨nx, j, none⟩) (by show w.heap.size ≤ nx; omega) _⟩
theorem GN.step (h : GN w nx x0 x1 x2 x3 x4 x5 x6 y4 y5 y6 X) (k : Int) : GN w nx x0 x1 x2 x3 x4 x5 x6 k y5 y6 (X.setCell ⟨nx, 4, none⟩ (.int .i64 k)) := ⟨h.gr.off h.far 4 _, h.n.set 4 _, h.far⟩
theorem GN.mine (h : GN w nx x0 x1 x2 x3 x4 x5 x6 y4 y5 y6 X) (t : ByteArray) : GN w nx x0 x1 x2 x3 x4 x5 x6 y4 t y6 (X.setCell ⟨nx, 5, none⟩ (.string t)) := ⟨h.gr.off h.far 5 _, h.n.set 5 _, h.far⟩
theorem GN.yours (h : GN w nx x0 x1 x2 x3 x4 x5 x6 y4 y5 y6 X) (t : ByteArray) : GN w nx x0 x1 x2 x3 x4 x5 x6 y4 y5 t (X.setCell ⟨nx, 6, none⟩ (.string t)) := ⟨h.gr.off h.far 6 _, h.n.set 6 _, h.far⟩
theorem GN.made (h : GR w x0 x1 x2 x3 x4 x5 x6 X) : GN w X.heap.size x0 x1 x2 x3 x4 x5 x6 x4 x5 x6 (X.alloc (.cells #[.int .i64 x0, .int .i64 x1, .int .i64 x2, .int .i64 x3, .int .i64 x4, .string x5, .string x6] GreeterT)) :=
  ⟨h.next ((Below.refl _ _).alloc (Nat.le_refl _) _), VarA.new X GreeterT _, h.r.lt⟩
end

theorem hello_size' (r : Int) (p : Nat) : (helloB r p).size = 6 := rfl
/-- The result's variable, whatever it holds. -/
def GResV (w X : World) : Prop := ∃ r0 r1 r2 r3 r4 r5 r6, VarA (w.heap.size + 1) GreeterT #[r0, r1, r2, r3, r4, r5, r6] X ∧ Below w.heap.size w X
theorem GResV.next {w X Y : World} (h : GResV w X) (hb : Below X.heap.size X Y) : GResV w Y := by
  obtain ⟨r0, r1, r2, r3, r4, r5, r6, h1, h2⟩ := h
  exact ⟨r0, r1, r2, r3, r4, r5, r6, h1.next hb, h2.trans (hb.mono h2.size)⟩
theorem GResV.set7 {w X : World} (h : GResV w X) (u0 u1 u2 u3 u4 u5 u6 : Value) : GResV w (((((((X.setCell ⟨w.heap.size + 1, 0, none⟩ u0).setCell ⟨w.heap.size + 1, 1, none⟩ u1).setCell ⟨w.heap.size + 1, 2, none⟩ u2).setCell ⟨w.heap.size + 1, 3, none⟩ u3).setCell ⟨w.heap.size + 1, 4, none⟩ u4).setCell ⟨w.heap.size + 1, 5, none⟩ u5).setCell ⟨w.heap.size + 1, 6, none⟩ u6) := by
  obtain ⟨r0, r1, r2, r3, r4, r5, r6, h1, h2⟩ := h
  exact ⟨_, _, _, _, _, _, _, h1.set7 u0 u1 u2 u3 u4 u5 u6, below_set7 h2 (Nat.le_succ _) u0 u1 u2 u3 u4 u5 u6⟩
set_option maxRecDepth 100000 in
set_option maxHeartbeats 3200000 in
theorem implHello_any (HG : CloneG) (x0 x1 x2 x3 x4 : Int) (x5 x6 : ByteArray) (h5 : x5.size ≤ 10000000) (h6 : x6.size ≤ 10000000) (y4 : Int) (y5 t : ByteArray) (hh : HelloIs x0 x3 x4 x5 y4 y5 t) (w : World) :
    Calls Tryz.prog 58 #[.agg #[.int .i64 x0, .int .i64 x1, .int .i64 x2, .int .i64 x3, .int .i64 x4, .string x5, .string x6]] w fun e w' => e = .returned (.tuple #[.agg #[.int .i64 x0, .int .i64 x1, .int .i64 x2, .int .i64 x3, .int .i64 y4, .string y5, .string x6], .string t]) ∧ Below w.heap.size w w' := by
  have H0 := Lib.hid (GR.new (w := w) (x0 := x0) (x1 := x1) (x2 := x2) (x3 := x3) (x4 := x4) (x5 := x5) (x6 := x6))
  go_enter Tryz.func58, Tryz.ntmps58
  go_upto_region 1 with fail
  generalize (w.alloc (.cells #[.int .i64 x0, .int .i64 x1, .int .i64 x2, .int .i64 x3, .int .i64 x4, .string x5, .string x6] GreeterT)).alloc (.cells #[.int .i64 0, .int .i64 0, .int .i64 0, .int .i64 0, .int .i64 0, .string ⟨#[]⟩, .string ⟨#[]⟩] GreeterT) = Y0 at *
  have K0 := Lib.hid (copyOfGreeter_any HG x0 x1 x2 x3 x4 x5 x6 h5 h6 Y0)
  have e0 : Y0.cell? ⟨w.heap.size, 0, none⟩ = some (.int .i64 x0) := H0.out.g.cell 0
  have e1 : Y0.cell? ⟨w.heap.size, 1, none⟩ = some (.int .i64 x1) := H0.out.g.cell 1
  have e2 : Y0.cell? ⟨w.heap.size, 2, none⟩ = some (.int .i64 x2) := H0.out.g.cell 2
  have e3 : Y0.cell? ⟨w.heap.size, 3, none⟩ = some (.int .i64 x3) := H0.out.g.cell 3
  have e4 : Y0.cell? ⟨w.heap.size, 4, none⟩ = some (.int .i64 x4) := H0.out.g.cell 4
  have e5 : Y0.cell? ⟨w.heap.size, 5, none⟩ = some (.string x5) := H0.out.g.cell 5
  have e6 : Y0.cell? ⟨w.heap.size, 6, none⟩ = some (.string x6) := H0.out.g.cell 6
  go_wp2_with fail
  refine K0.out.mono ?_
  rintro e Y1 ⟨rfl, hb⟩
  have H1 := Lib.hid (GN.made (H0.out.next hb))
  clear hb K0 H0 e0 e1 e2 e3 e4 e5 e6
  go_upto_region 2 with fail
  generalize Y1.alloc (.cells #[.int .i64 x0, .int .i64 x1, .int .i64 x2, .int .i64 x3, .int .i64 x4, .string x5, .string x6] GreeterT) = Z1 at *
  generalize Y1.heap.size = nx at *
  have c4 : Z1.cell? ⟨w.heap.size, 4, none⟩ = some (.int .i64 x4) := H1.out.gr.g.cell 4
  have K1 := Lib.hid (stepOf_any x4 Z1)
  rcases hh with ⟨rfl, rfl, p, hp, hy, ht⟩ | ⟨hne, rfl, rfl, rfl⟩
  · rw [show stepT 0 = StNewT from rfl] at K1
    have ht' := ht.symm
    subst ht'
    clear ht
    go_wp2_with fail
    refine K1.out.mono ?_
    rintro e Y2 ⟨rfl, rfl⟩
    clear K1 c4
    have TA := assertNew_New
    have H2 := Lib.hid (H1.out.next ((Below.refl _ _).alloc (Nat.le_refl _) (.cells #[] StNewT)))
    clear H1
    go_wp2_with fail
    generalize Y2.alloc (.cells #[] StNewT) = Y3 at *
    have hpl := pub_lt hp
    have PP := Lib.hid hp
    have HM := Lib.hid hy
    clear hp hy TA
    have KP : Hid (∀ X, (X.cell? ⟨w.heap.size, 0, none⟩ = some (.int .i64 x0) ∧ X.cell? ⟨w.heap.size, 3, none⟩ = some (.int .i64 x3) ∧ ∃ q, GN w nx x0 x1 x2 x3 0 x5 x6 0 q x6 X) → Calls Tryz.prog 55 #[.int .i64 x3] X fun e Y => e = .returned (.int .i64 (p : Nat)) ∧ (Y.cell? ⟨w.heap.size, 0, none⟩ = some (.int .i64 x0) ∧ Y.cell? ⟨w.heap.size, 3, none⟩ = some (.int .i64 x3) ∧ ∃ q, GN w nx x0 x1 x2 x3 0 x5 x6 0 q x6 Y)) := Lib.hid (fun X hX => by
      obtain ⟨_, _, q, hv⟩ := hX
      refine (implPublic_any x3 p PP.out X).mono ?_
      rintro e Y ⟨rfl, hb⟩
      have h9 := hv.next hb
      exact ⟨rfl, h9.gr.g.cell 0, h9.gr.g.cell 3, q, h9⟩)
    have KN : Hid (∀ X, (X.cell? ⟨w.heap.size, 0, none⟩ = some (.int .i64 x0) ∧ X.cell? ⟨w.heap.size, 3, none⟩ = some (.int .i64 x3) ∧ ∃ q, GN w nx x0 x1 x2 x3 0 x5 x6 0 q x6 X) → Calls Tryz.prog 73 #[.int .i64 x0, .int .i64 (p : Nat)] X fun e Y => e = .returned (.string y5) ∧ (Y.cell? ⟨w.heap.size, 0, none⟩ = some (.int .i64 x0) ∧ Y.cell? ⟨w.heap.size, 3, none⟩ = some (.int .i64 x3) ∧ ∃ q, GN w nx x0 x1 x2 x3 0 x5 x6 0 q x6 Y)) := Lib.hid (fun X hX => by
      obtain ⟨_, _, q, hv⟩ := hX
      refine (helloText_any x0 p hpl X).mono ?_
      rintro e Y ⟨rfl, hb⟩
      have h9 := hv.next hb
      exact ⟨by rw [HM.out], h9.gr.g.cell 0, h9.gr.g.cell 3, q, h9⟩)
    have E0 : Hid (Y3.drew.cell? ⟨w.heap.size, 0, none⟩ = some (.int .i64 x0) ∧ Y3.drew.cell? ⟨w.heap.size, 3, none⟩ = some (.int .i64 x3) ∧ ∃ q, GN w nx x0 x1 x2 x3 0 x5 x6 0 q x6 Y3.drew) := Lib.hid (by
      have h9 := H2.out.next ((Below.refl _ _).drew)
      exact ⟨h9.gr.g.cell 0, h9.gr.g.cell 3, _, h9⟩)
    have SS : Hid (∀ X, (X.cell? ⟨w.heap.size, 0, none⟩ = some (.int .i64 x0) ∧ X.cell? ⟨w.heap.size, 3, none⟩ = some (.int .i64 x3) ∧ ∃ q, GN w nx x0 x1 x2 x3 0 x5 x6 0 q x6 X) → ((X.setCell ⟨nx, 5, none⟩ (.string y5)).cell? ⟨w.heap.size, 0, none⟩ = some (.int .i64 x0) ∧ (X.setCell ⟨nx, 5, none⟩ (.string y5)).cell? ⟨w.heap.size, 3, none⟩ = some (.int .i64 x3) ∧ ∃ q, GN w nx x0 x1 x2 x3 0 x5 x6 0 q x6 (X.setCell ⟨nx, 5, none⟩ (.string y5)))) := Lib.hid (fun X hX => by
      obtain ⟨_, _, q, hv⟩ := hX
      have h9 := hv.mine y5
      exact ⟨h9.gr.g.cell 0, h9.gr.g.cell 3, _, h9⟩)
    go_cut [] (fun wx => Hid (GN w nx x0 x1 x2 x3 0 x5 x6 0 y5 x6 wx))
    case first =>
      go_region_held3 (fun X => X.cell? ⟨w.heap.size, 0, none⟩ = some (.int .i64 x0) ∧ X.cell? ⟨w.heap.size, 3, none⟩ = some (.int .i64 x3) ∧ ∃ q, GN w nx x0 x1 x2 x3 0 x5 x6 0 q x6 X) (first | (with_reducible assumption) | (with_reducible exact E0.out) | (exact SS.out _ (by assumption))) (first | (go_at_call 55; refine (KP.out _ (by assumption)).mono ?_; rintro e v1 ⟨rfl, hS⟩; (obtain ⟨_, _, q, hv⟩ := id hS; have s5 := hv.n.cell 5; have s6 := hv.n.free 5)) | (go_at_call 73; refine (KN.out _ (by assumption)).mono ?_; rintro e v1 ⟨rfl, hS⟩; (obtain ⟨_, _, q, hv⟩ := id hS; have s5 := hv.n.cell 5; have s6 := hv.n.free 5)))
      all_goals
        go_wp2_with fail
        go_meet
        exact Lib.hid (hv.mine y5)
    case rest =>
      have KG := Lib.hid (goTo_said nx GreeterT _ (.int .i64 0) wc hcut.out.n rfl)
      clear KP KN E0 SS H2
      go_wp2_with fail
      refine KG.out.mono ?_
      rintro e V2 ⟨rfl, Z2, hb, rfl⟩
      have H3 := Lib.hid ((hcut.out.next hb).step 1)
      clear hb KG hcut
      generalize Z2.setCell ⟨nx, 4, none⟩ (.int .i64 1) = V2 at *
      have z5 : y5.size ≤ 100000000 := by rw [HM.out, hello_size']; omega
      have hfar := H3.out.far
      have NX : Hid (∀ X Y, (X.cell? ⟨nx, 0, none⟩ = some (.int .i64 x0) ∧ X.cell? ⟨nx, 1, none⟩ = some (.int .i64 x1) ∧ X.cell? ⟨nx, 2, none⟩ = some (.int .i64 x2) ∧ X.cell? ⟨nx, 3, none⟩ = some (.int .i64 x3) ∧ X.cell? ⟨nx, 4, none⟩ = some (.int .i64 1) ∧ X.cell? ⟨nx, 5, none⟩ = some (.string y5) ∧ X.cell? ⟨nx, 6, none⟩ = some (.string x6) ∧ GResV w X) → Below X.heap.size X Y → (Y.cell? ⟨nx, 0, none⟩ = some (.int .i64 x0) ∧ Y.cell? ⟨nx, 1, none⟩ = some (.int .i64 x1) ∧ Y.cell? ⟨nx, 2, none⟩ = some (.int .i64 x2) ∧ Y.cell? ⟨nx, 3, none⟩ = some (.int .i64 x3) ∧ Y.cell? ⟨nx, 4, none⟩ = some (.int .i64 1) ∧ Y.cell? ⟨nx, 5, none⟩ = some (.string y5) ∧ Y.cell? ⟨nx, 6, none⟩ = some (.string x6) ∧ GResV w Y)) := Lib.hid (fun X Y hX hb => by
        obtain ⟨h0, h1, h2, h3, h4, h5, h6, h7⟩ := hX
        have hg : nx < X.heap.size := cell_size (p := ⟨nx, 0, none⟩) h0
        exact ⟨(hb.cell (p := ⟨nx, 0, none⟩) hg).trans h0, (hb.cell (p := ⟨nx, 1, none⟩) hg).trans h1, (hb.cell (p := ⟨nx, 2, none⟩) hg).trans h2, (hb.cell (p := ⟨nx, 3, none⟩) hg).trans h3, (hb.cell (p := ⟨nx, 4, none⟩) hg).trans h4, (hb.cell (p := ⟨nx, 5, none⟩) hg).trans h5, (hb.cell (p := ⟨nx, 6, none⟩) hg).trans h6, h7.next hb⟩)
      have KC : Hid (∀ X, (X.cell? ⟨nx, 0, none⟩ = some (.int .i64 x0) ∧ X.cell? ⟨nx, 1, none⟩ = some (.int .i64 x1) ∧ X.cell? ⟨nx, 2, none⟩ = some (.int .i64 x2) ∧ X.cell? ⟨nx, 3, none⟩ = some (.int .i64 x3) ∧ X.cell? ⟨nx, 4, none⟩ = some (.int .i64 1) ∧ X.cell? ⟨nx, 5, none⟩ = some (.string y5) ∧ X.cell? ⟨nx, 6, none⟩ = some (.string x6) ∧ GResV w X) → Calls Tryz.prog 49 #[.string y5] X fun e Y => e = .returned (.string y5) ∧ (Y.cell? ⟨nx, 0, none⟩ = some (.int .i64 x0) ∧ Y.cell? ⟨nx, 1, none⟩ = some (.int .i64 x1) ∧ Y.cell? ⟨nx, 2, none⟩ = some (.int .i64 x2) ∧ Y.cell? ⟨nx, 3, none⟩ = some (.int .i64 x3) ∧ Y.cell? ⟨nx, 4, none⟩ = some (.int .i64 1) ∧ Y.cell? ⟨nx, 5, none⟩ = some (.string y5) ∧ Y.cell? ⟨nx, 6, none⟩ = some (.string x6) ∧ GResV w Y)) := Lib.hid (fun X hX => by
        refine (HG y5 X z5).mono ?_
        rintro e Y ⟨rfl, hb⟩
        exact ⟨rfl, NX.out X Y hX hb⟩)
      have E0 : Hid (V2.drew.cell? ⟨nx, 0, none⟩ = some (.int .i64 x0) ∧ V2.drew.cell? ⟨nx, 1, none⟩ = some (.int .i64 x1) ∧ V2.drew.cell? ⟨nx, 2, none⟩ = some (.int .i64 x2) ∧ V2.drew.cell? ⟨nx, 3, none⟩ = some (.int .i64 x3) ∧ V2.drew.cell? ⟨nx, 4, none⟩ = some (.int .i64 1) ∧ V2.drew.cell? ⟨nx, 5, none⟩ = some (.string y5) ∧ V2.drew.cell? ⟨nx, 6, none⟩ = some (.string x6) ∧ GResV w V2.drew) := Lib.hid (by
        have h9 := H3.out.next ((Below.refl _ _).drew)
        exact ⟨h9.n.cell 0, h9.n.cell 1, h9.n.cell 2, h9.n.cell 3, h9.n.cell 4, h9.n.cell 5, h9.n.cell 6, _, _, _, _, _, _, _, h9.gr.r, h9.gr.below⟩)
      have SS : Hid (∀ X, (X.cell? ⟨nx, 0, none⟩ = some (.int .i64 x0) ∧ X.cell? ⟨nx, 1, none⟩ = some (.int .i64 x1) ∧ X.cell? ⟨nx, 2, none⟩ = some (.int .i64 x2) ∧ X.cell? ⟨nx, 3, none⟩ = some (.int .i64 x3) ∧ X.cell? ⟨nx, 4, none⟩ = some (.int .i64 1) ∧ X.cell? ⟨nx, 5, none⟩ = some (.string y5) ∧ X.cell? ⟨nx, 6, none⟩ = some (.string x6) ∧ GResV w X) → ((((((((X.setCell ⟨w.heap.size + 1, 0, none⟩ (.int .i64 x0)).setCell ⟨w.heap.size + 1, 1, none⟩ (.int .i64 x1)).setCell ⟨w.heap.size + 1, 2, none⟩ (.int .i64 x2)).setCell ⟨w.heap.size + 1, 3, none⟩ (.int .i64 x3)).setCell ⟨w.heap.size + 1, 4, none⟩ (.int .i64 1)).setCell ⟨w.heap.size + 1, 5, none⟩ (.string y5)).setCell ⟨w.heap.size + 1, 6, none⟩ (.string x6)).cell? ⟨nx, 0, none⟩ = some (.int .i64 x0) ∧ (((((((X.setCell ⟨w.heap.size + 1, 0, none⟩ (.int .i64 x0)).setCell ⟨w.heap.size + 1, 1, none⟩ (.int .i64 x1)).setCell ⟨w.heap.size + 1, 2, none⟩ (.int .i64 x2)).setCell ⟨w.heap.size + 1, 3, none⟩ (.int .i64 x3)).setCell ⟨w.heap.size + 1, 4, none⟩ (.int .i64 1)).setCell ⟨w.heap.size + 1, 5, none⟩ (.string y5)).setCell ⟨w.heap.size + 1, 6, none⟩ (.string x6)).cell? ⟨nx, 1, none⟩ = some (.int .i64 x1) ∧ (((((((X.setCell ⟨w.heap.size + 1, 0, none⟩ (.int .i64 x0)).setCell ⟨w.heap.size + 1, 1, none⟩ (.int .i64 x1)).setCell ⟨w.heap.size + 1, 2, none⟩ (.int .i64 x2)).setCell ⟨w.heap.size + 1, 3, none⟩ (.int .i64 x3)).setCell ⟨w.heap.size + 1, 4, none⟩ (.int .i64 1)).setCell ⟨w.heap.size + 1, 5, none⟩ (.string y5)).setCell ⟨w.heap.size + 1, 6, none⟩ (.string x6)).cell? ⟨nx, 2, none⟩ = some (.int .i64 x2) ∧ (((((((X.setCell ⟨w.heap.size + 1, 0, none⟩ (.int .i64 x0)).setCell ⟨w.heap.size + 1, 1, none⟩ (.int .i64 x1)).setCell ⟨w.heap.size + 1, 2, none⟩ (.int .i64 x2)).setCell ⟨w.heap.size + 1, 3, none⟩ (.int .i64 x3)).setCell ⟨w.heap.size + 1, 4, none⟩ (.int .i64 1)).setCell ⟨w.heap.size + 1, 5, none⟩ (.string y5)).setCell ⟨w.heap.size + 1, 6, none⟩ (.string x6)).cell? ⟨nx, 3, none⟩ = some (.int .i64 x3) ∧ (((((((X.setCell ⟨w.heap.size + 1, 0, none⟩ (.int .i64 x0)).setCell ⟨w.heap.size + 1, 1, none⟩ (.int .i64 x1)).setCell ⟨w.heap.size + 1, 2, none⟩ (.int .i64 x2)).setCell ⟨w.heap.size + 1, 3, none⟩ (.int .i64 x3)).setCell ⟨w.heap.size + 1, 4, none⟩ (.int .i64 1)).setCell ⟨w.heap.size + 1, 5, none⟩ (.string y5)).setCell ⟨w.heap.size + 1, 6, none⟩ (.string x6)).cell? ⟨nx, 4, none⟩ = some (.int .i64 1) ∧ (((((((X.setCell ⟨w.heap.size + 1, 0, none⟩ (.int .i64 x0)).setCell ⟨w.heap.size + 1, 1, none⟩ (.int .i64 x1)).setCell ⟨w.heap.size + 1, 2, none⟩ (.int .i64 x2)).setCell ⟨w.heap.size + 1, 3, none⟩ (.int .i64 x3)).setCell ⟨w.heap.size + 1, 4, none⟩ (.int .i64 1)).setCell ⟨w.heap.size + 1, 5, none⟩ (.string y5)).setCell ⟨w.heap.size + 1, 6, none⟩ (.string x6)).cell? ⟨nx, 5, none⟩ = some (.string y5) ∧ (((((((X.setCell ⟨w.heap.size + 1, 0, none⟩ (.int .i64 x0)).setCell ⟨w.heap.size + 1, 1, none⟩ (.int .i64 x1)).setCell ⟨w.heap.size + 1, 2, none⟩ (.int .i64 x2)).setCell ⟨w.heap.size + 1, 3, none⟩ (.int .i64 x3)).setCell ⟨w.heap.size + 1, 4, none⟩ (.int .i64 1)).setCell ⟨w.heap.size + 1, 5, none⟩ (.string y5)).setCell ⟨w.heap.size + 1, 6, none⟩ (.string x6)).cell? ⟨nx, 6, none⟩ = some (.string x6) ∧ GResV w (((((((X.setCell ⟨w.heap.size + 1, 0, none⟩ (.int .i64 x0)).setCell ⟨w.heap.size + 1, 1, none⟩ (.int .i64 x1)).setCell ⟨w.heap.size + 1, 2, none⟩ (.int .i64 x2)).setCell ⟨w.heap.size + 1, 3, none⟩ (.int .i64 x3)).setCell ⟨w.heap.size + 1, 4, none⟩ (.int .i64 1)).setCell ⟨w.heap.size + 1, 5, none⟩ (.string y5)).setCell ⟨w.heap.size + 1, 6, none⟩ (.string x6)))) := Lib.hid (fun X hX => by
        obtain ⟨h0, h1, h2, h3, h4, h5, h6, h7⟩ := hX
        have off : ∀ (Z : World) (j k : Nat) (v : Value), (Z.setCell ⟨w.heap.size + 1, k, none⟩ v).cell? ⟨nx, j, none⟩ = Z.cell? ⟨nx, j, none⟩ := fun Z j k v => World.cell?_setCell_far _ _ _ _ (by show w.heap.size + 1 ≠ nx; omega)
        exact ⟨by rw [off, off, off, off, off, off, off]; exact h0, by rw [off, off, off, off, off, off, off]; exact h1, by rw [off, off, off, off, off, off, off]; exact h2, by rw [off, off, off, off, off, off, off]; exact h3, by rw [off, off, off, off, off, off, off]; exact h4, by rw [off, off, off, off, off, off, off]; exact h5, by rw [off, off, off, off, off, off, off]; exact h6, h7.set7 (.int .i64 x0) (.int .i64 x1) (.int .i64 x2) (.int .i64 x3) (.int .i64 1) (.string y5) (.string x6)⟩)
      clear H3 z5 HM PP NX
      go_wp2_with fail
      go_region_held3 (fun X => X.cell? ⟨nx, 0, none⟩ = some (.int .i64 x0) ∧ X.cell? ⟨nx, 1, none⟩ = some (.int .i64 x1) ∧ X.cell? ⟨nx, 2, none⟩ = some (.int .i64 x2) ∧ X.cell? ⟨nx, 3, none⟩ = some (.int .i64 x3) ∧ X.cell? ⟨nx, 4, none⟩ = some (.int .i64 1) ∧ X.cell? ⟨nx, 5, none⟩ = some (.string y5) ∧ X.cell? ⟨nx, 6, none⟩ = some (.string x6) ∧ GResV w X) (first | (with_reducible assumption) | (with_reducible exact E0.out) | (exact SS.out _ (by assumption))) (first | (go_at_call 49; refine (KC.out _ (by assumption)).mono ?_; rintro e v1 ⟨rfl, hS⟩; (obtain ⟨_, _, _, _, _, _, _, r0, r1, r2, r3, r4, r5, r6, hr, hbr⟩ := id hS; have s0_ := hr.cell 0; have t0_ := hr.free 0; have s1_ := hr.cell 1; have t1_ := hr.free 1; have s2_ := hr.cell 2; have t2_ := hr.free 2; have s3_ := hr.cell 3; have t3_ := hr.free 3; have s4_ := hr.cell 4; have t4_ := hr.free 4; have s5_ := hr.cell 5; have t5_ := hr.free 5; have s6_ := hr.cell 6; have t6_ := hr.free 6)))
      all_goals
        have R9 := hr.set7 (.int .i64 x0) (.int .i64 x1) (.int .i64 x2) (.int .i64 x3) (.int .i64 1) (.string y5) (.string x6)
        have BZ := Lib.hid (below_set7 hbr (Nat.le_succ _) (.int .i64 x0) (.int .i64 x1) (.int .i64 x2) (.int .i64 x3) (.int .i64 1) (.string y5) (.string x6))
        have j0 := R9.cell 0
        have j1 := R9.cell 1
        have j2 := R9.cell 2
        have j3 := R9.cell 3
        have j4 := R9.cell 4
        have j5 := R9.cell 5
        have j6 := R9.cell 6
        clear R9
        go_wp2_with fail
        exact bodyPost_ret (v := .tuple #[.agg #[.int .i64 x0, .int .i64 x1, .int .i64 x2, .int .i64 x3, .int .i64 1, .string y5, .string x6], .string y5]) (by simp [results, Tryz.results58, go_sem, j0, j1, j2, j3, j4, j5, j6]) rfl ⟨rfl, BZ.out⟩
  · have hN : ∃ T, stepT y4 = T ∧ (T = StSaidT ∨ T = StHeardT ∨ T = StUpT ∨ T = StBadT) := by
      refine ⟨_, rfl, ?_⟩
      unfold stepT
      rw [if_neg hne]
      split
      · exact .inl rfl
      · split
        · exact .inr (.inl rfl)
        · split
          · exact .inr (.inr (.inl rfl))
          · exact .inr (.inr (.inr rfl))
    obtain ⟨T, hT, hTT⟩ := hN
    rw [hT] at K1
    clear hT
    go_cut [6] (fun z wx => z = .bool false ∧ Hid (GN w nx x0 x1 x2 x3 y4 y5 x6 y4 y5 x6 wx))
    case first =>
      have TA1 := assertNew_Said
      have TA2 := assertNew_Heard
      have TA3 := assertNew_Up
      have TA4 := assertNew_Bad
      have H2 := Lib.hid (H1.out.next ((Below.refl _ _).alloc (Nat.le_refl _) (.cells #[] StNewT)))
      go_wp2_with fail
      refine K1.out.mono ?_
      rintro e Y2 ⟨rfl, rfl⟩
      rcases hTT with rfl | rfl | rfl | rfl
      all_goals
        go_wp2_with fail
        go_meet
        exact ⟨rfl, H2⟩
    case rest =>
      obtain ⟨rfl, H2⟩ := hcut
      clear K1 H1 c4 hTT
      go_upto_region 4 with fail
      have e0 : wc.cell? ⟨nx, 0, none⟩ = some (.int .i64 x0) := H2.out.n.cell 0
      have e1 : wc.cell? ⟨nx, 1, none⟩ = some (.int .i64 x1) := H2.out.n.cell 1
      have e2 : wc.cell? ⟨nx, 2, none⟩ = some (.int .i64 x2) := H2.out.n.cell 2
      have e3 : wc.cell? ⟨nx, 3, none⟩ = some (.int .i64 x3) := H2.out.n.cell 3
      have e4 : wc.cell? ⟨nx, 4, none⟩ = some (.int .i64 y4) := H2.out.n.cell 4
      have e5 : wc.cell? ⟨nx, 5, none⟩ = some (.string y5) := H2.out.n.cell 5
      have e6 : wc.cell? ⟨nx, 6, none⟩ = some (.string x6) := H2.out.n.cell 6
      have d0 : wc.cell? ⟨w.heap.size + 1, 0, none⟩ = some (.int .i64 0) := H2.out.gr.r.cell 0
      have f0 := H2.out.gr.r.free 0
      have d1 : wc.cell? ⟨w.heap.size + 1, 1, none⟩ = some (.int .i64 0) := H2.out.gr.r.cell 1
      have f1 := H2.out.gr.r.free 1
      have d2 : wc.cell? ⟨w.heap.size + 1, 2, none⟩ = some (.int .i64 0) := H2.out.gr.r.cell 2
      have f2 := H2.out.gr.r.free 2
      have d3 : wc.cell? ⟨w.heap.size + 1, 3, none⟩ = some (.int .i64 0) := H2.out.gr.r.cell 3
      have f3 := H2.out.gr.r.free 3
      have d4 : wc.cell? ⟨w.heap.size + 1, 4, none⟩ = some (.int .i64 0) := H2.out.gr.r.cell 4
      have f4 := H2.out.gr.r.free 4
      have d5 : wc.cell? ⟨w.heap.size + 1, 5, none⟩ = some (.string ⟨#[]⟩) := H2.out.gr.r.cell 5
      have f5 := H2.out.gr.r.free 5
      have d6 : wc.cell? ⟨w.heap.size + 1, 6, none⟩ = some (.string ⟨#[]⟩) := H2.out.gr.r.cell 6
      have f6 := H2.out.gr.r.free 6
      have R9 := H2.out.gr.r.set7 (.int .i64 x0) (.int .i64 x1) (.int .i64 x2) (.int .i64 x3) (.int .i64 y4) (.string y5) (.string x6)
      have BZ := Lib.hid (below_set7 H2.out.gr.below (Nat.le_succ _) (.int .i64 x0) (.int .i64 x1) (.int .i64 x2) (.int .i64 x3) (.int .i64 y4) (.string y5) (.string x6))
      have j0 := R9.cell 0
      have j1 := R9.cell 1
      have j2 := R9.cell 2
      have j3 := R9.cell 3
      have j4 := R9.cell 4
      have j5 := R9.cell 5
      have j6 := R9.cell 6
      clear R9
      go_wp2_with fail
      exact bodyPost_ret (v := .tuple #[.agg #[.int .i64 x0, .int .i64 x1, .int .i64 x2, .int .i64 x3, .int .i64 y4, .string y5, .string x6], .string ⟨#[]⟩]) (by simp [results, Tryz.results58, go_sem, j0, j1, j2, j3, j4, j5, j6]) rfl ⟨rfl, BZ.out⟩

end Go.Proofs.YtkjjdoadjhjmbauGreatDoor
namespace Go.Proofs.YtkjjdoadjhjmbauGreatDoor
open Go.RowKit

theorem number_heard (X : World) : Calls Tryz.prog 147 #[.agg #[]] X (NumEnd 2 X) := by
  have B0 := Lib.hid ((Below.refl X.heap.size X).alloc (Nat.le_refl _) (.cells #[] StHeardT))
  go_enter Tryz.func147, Tryz.ntmps147
  go_wp2_with fail
  go_ret
  exact ⟨rfl, B0.out⟩
theorem number_up (X : World) : Calls Tryz.prog 149 #[.agg #[]] X (NumEnd 3 X) := by
  have B0 := Lib.hid ((Below.refl X.heap.size X).alloc (Nat.le_refl _) (.cells #[] StUpT))
  go_enter Tryz.func149, Tryz.ntmps149
  go_wp2_with fail
  go_ret
  exact ⟨rfl, B0.out⟩
theorem number_bad (X : World) : Calls Tryz.prog 150 #[.agg #[]] X (NumEnd 4 X) := by
  have B0 := Lib.hid ((Below.refl X.heap.size X).alloc (Nat.le_refl _) (.cells #[] StBadT))
  go_enter Tryz.func150, Tryz.ntmps150
  go_wp2_with fail
  go_ret
  exact ⟨rfl, B0.out⟩
section
variable (G : Nat) (T : TypeId) (cs : Array Value) (v : Value) (X : World) (hv : VarA G T cs X) (hc : cs[4]? = some v)
include hv hc
theorem goTo_heard : Calls Tryz.prog 63 #[.pointer (some ⟨G, 0, none⟩), .iface StHeardT (.agg #[])] X (WentTo G 2 X) := by
  have HV := Lib.hid hv
  have HC := Lib.hid hc
  clear hv hc
  have K := Lib.hid (number_heard X)
  obtain ⟨Q, HQ⟩ : ∃ Q : Ending → World → Prop, Hid (Q = WentTo G 2 X) := ⟨_, Lib.hid rfl⟩
  rw [← HQ.out]
  go_enter Tryz.func63, Tryz.ntmps63
  go_wp2_with fail
  refine K.out.mono ?_
  rintro e Z ⟨rfl, hb⟩
  have V9 := HV.out.next hb
  have c4 : Z.cell? ⟨G, 4, none⟩ = some v := (V9.cell 4).trans HC.out
  have f4 := V9.free 4
  have E : Hid (Q (.returned (.tuple #[])) (Z.setCell ⟨G, 4, none⟩ (.int .i64 2))) := Lib.hid (by rw [HQ.out]; exact ⟨rfl, Z, hb, rfl⟩)
  clear V9 hb
  go_wp2_with fail
  exact bodyPost_end (results_none rfl _ _ _) rfl E.out
theorem goTo_up : Calls Tryz.prog 63 #[.pointer (some ⟨G, 0, none⟩), .iface StUpT (.agg #[])] X (WentTo G 3 X) := by
  have HV := Lib.hid hv
  have HC := Lib.hid hc
  clear hv hc
  have K := Lib.hid (number_up X)
  obtain ⟨Q, HQ⟩ : ∃ Q : Ending → World → Prop, Hid (Q = WentTo G 3 X) := ⟨_, Lib.hid rfl⟩
  rw [← HQ.out]
  go_enter Tryz.func63, Tryz.ntmps63
  go_wp2_with fail
  refine K.out.mono ?_
  rintro e Z ⟨rfl, hb⟩
  have V9 := HV.out.next hb
  have c4 : Z.cell? ⟨G, 4, none⟩ = some v := (V9.cell 4).trans HC.out
  have f4 := V9.free 4
  have E : Hid (Q (.returned (.tuple #[])) (Z.setCell ⟨G, 4, none⟩ (.int .i64 3))) := Lib.hid (by rw [HQ.out]; exact ⟨rfl, Z, hb, rfl⟩)
  clear V9 hb
  go_wp2_with fail
  exact bodyPost_end (results_none rfl _ _ _) rfl E.out
theorem goTo_bad : Calls Tryz.prog 63 #[.pointer (some ⟨G, 0, none⟩), .iface StBadT (.agg #[])] X (WentTo G 4 X) := by
  have HV := Lib.hid hv
  have HC := Lib.hid hc
  clear hv hc
  have K := Lib.hid (number_bad X)
  obtain ⟨Q, HQ⟩ : ∃ Q : Ending → World → Prop, Hid (Q = WentTo G 4 X) := ⟨_, Lib.hid rfl⟩
  rw [← HQ.out]
  go_enter Tryz.func63, Tryz.ntmps63
  go_wp2_with fail
  refine K.out.mono ?_
  rintro e Z ⟨rfl, hb⟩
  have V9 := HV.out.next hb
  have c4 : Z.cell? ⟨G, 4, none⟩ = some v := (V9.cell 4).trans HC.out
  have f4 := V9.free 4
  have E : Hid (Q (.returned (.tuple #[])) (Z.setCell ⟨G, 4, none⟩ (.int .i64 4))) := Lib.hid (by rw [HQ.out]; exact ⟨rfl, Z, hb, rfl⟩)
  clear V9 hb
  go_wp2_with fail
  exact bodyPost_end (results_none rfl _ _ _) rfl E.out
end

end Go.Proofs.YtkjjdoadjhjmbauGreatDoor
namespace Go.Proofs.YtkjjdoadjhjmbauGreatDoor
open Go.RowKit

/-- A flat row and a variable of another type lie apart. -/
theorem row_off {α : Type} {A : Lay α} (hf : Flat A) {e T : TypeId} {X : World} {b G : Nat} {f : List Nat} {v : Value} {xs : List α} {cs : Array Value} (h : (Lay.rows e A).own X b f [v] xs) (hv : VarA G T cs X) (hT : T ≠ e) : G ∉ f := by
  obtain ⟨us, ho, _, rfl⟩ := flat_inv hf h
  intro hm
  rcases ho.2 with ⟨rfl, _⟩ | ⟨g', cap, cur, rfl, _, hb, _⟩
  · simp [blk, Value.ownBlock] at hm
  · have : G = g' := by simpa [blk, Value.ownBlock] using hm
    subst this
    rw [hv.row] at hb
    injection hb with hb
    injection hb with _ hb
    exact hT hb
theorem rows_off {α β : Type} {A : Lay α} {B : Lay β} (hf : Flat A) (hf' : Flat B) {e e' : TypeId} {X : World} {b b' : Nat} {f f' : List Nat} {v v' : Value} {xs : List α} {ys : List β} (h : (Lay.rows e A).own X b f [v] xs) (h' : (Lay.rows e' B).own X b' f' [v'] ys) (he : e ≠ e') : ∀ g ∈ f, g ∉ f' := by
  obtain ⟨us, ho, _, rfl⟩ := flat_inv hf h
  obtain ⟨us', ho', _, rfl⟩ := flat_inv hf' h'
  intro g hg hg'
  rcases ho.2 with ⟨rfl, _⟩ | ⟨g1, cap, cur, rfl, _, hb, _⟩
  · simp [blk, Value.ownBlock] at hg
  · rcases ho'.2 with ⟨rfl, _⟩ | ⟨g2, cap2, cur2, rfl, _, hb2, _⟩
    · simp [blk, Value.ownBlock] at hg'
    · have e1 : g = g1 := by simpa [blk, Value.ownBlock] using hg
      have e2 : g = g2 := by simpa [blk, Value.ownBlock] using hg'
      subst e1
      subst e2
      rw [hb] at hb2
      injection hb2 with hb2
      injection hb2 with _ hb2
      exact he hb2

theorem VarA.next' {r : Nat} {t : TypeId} {cs : Array Value} {X Y : World} {b : Nat} (h : VarA r t cs X) (hb : Below b X Y) (hr : r < b) : VarA r t cs Y := ⟨(hb.block r hr).trans h.row⟩

end Go.Proofs.YtkjjdoadjhjmbauGreatDoor
