/-
  Options in variables of their own, with rows of their own, by ranges of blocks: for the exact laws.
  The exact law on OptionText, out of one answer that both give.
-/
import Derived.Test.YtmgdhlodifkemasDoorJ16
import Derived.Test.YtmgdhlodifkemasDoorJ11
namespace Go.Proofs.YtmgdhlodifkemasDoor
open Go.RowKit

abbrev LOpT : TypeId := 24
/-- Options in their variable, whose row lies in blocks from lo on, below hi. -/
structure OV (lo hi G : Nat) (z : Int) (v : Value) (ws : List ByteArray) (p : Bool) (X : World) : Prop where
  var : VarA G OptionsT #[.int .i64 z, v, .bool p] X
  co : ∃ f : List Nat, f.Nodup ∧ layStringS.own X lo f [v] ws ∧ ∀ g ∈ f, g < hi
  gh : hi ≤ G
/-- Options as an answer, of the call's own. -/
def OptVal (z : Int) (ws : List ByteArray) (p : Bool) (X : World) (v : Value) (Y : World) : Prop := ∃ (a : Option Addr) (c : Nat) (f : List Nat), v = .agg #[.int .i64 z, .slice a ws.length c, .bool p] ∧ f.Nodup ∧ layStringS.own Y X.heap.size f [.slice a ws.length c] ws ∧ Below X.heap.size X Y
section
variable {lo hi G : Nat} {z : Int} {v : Value} {ws : List ByteArray} {p : Bool} {X Y : World}
theorem OV.next (h : OV lo hi G z v ws p X) (hb : Below X.heap.size X Y) : OV lo hi G z v ws p Y := by
  obtain ⟨f, h0, h1, h2⟩ := h.co
  exact ⟨h.var.next hb, ⟨f, h0, layStringS.next h1 hb, h2⟩, h.gh⟩
theorem OV.apart (h : OV lo hi G z v ws p X) {a b : Nat} (hr : Rng a b X Y) (ho : hi ≤ a ∨ b ≤ lo) (hG : G < a ∨ b ≤ G) : OV lo hi G z v ws p Y := by
  obtain ⟨f, h0, h1, h2⟩ := h.co
  refine ⟨h.var.rng hr hG, ⟨f, h0, layStringS.rng h1 hr (fun g hg => ?_), h2⟩, h.gh⟩
  have := (layStringS.blocks h1 g hg).1
  have := h2 g hg
  omega
theorem OV.new {w : World} {f : List Nat} (hd : f.Nodup) (h : layStringS.own X w.heap.size f [v] ws) : OV w.heap.size X.heap.size X.heap.size z v ws p (X.alloc (.cells #[.int .i64 z, v, .bool p] OptionsT)) :=
  ⟨VarA.new X OptionsT _, ⟨f, hd, layStringS.next h ((Below.refl _ _).alloc (Nat.le_refl _) _), fun g hg => (layStringS.blocks h g hg).2⟩, Nat.le_refl _⟩
theorem OV.rd (h : OV lo hi G z v ws p X) : layStringS.rd X [v] ws := by
  obtain ⟨f, h0, h1, h2⟩ := h.co
  exact layStringS.read h1
theorem opt_to (h : layStringS.rd X [v] ws) (hf : ws.length ≤ 1048576) :
    Calls Tryd.prog 6 #[.agg #[.int .i64 z, v, .bool p]] X fun e Y => ∃ u, e = .returned u ∧ OptVal z ws p X u Y := by
  refine (toOptions_any z v ws p X h hf).mono ?_
  rintro e Y ⟨cs, fp, rfl, hd, hown, hb⟩
  obtain ⟨u1, f1, rfl, rfl, o1⟩ := layOptions_own.1 hown
  obtain ⟨a, c, rfl⟩ := rows_form (layStringS.read o1)
  exact ⟨_, rfl, a, c, _, rfl, hd, o1, hb⟩
theorem opt_eq {u : Value} (h : layStringS.rd X [v] ws) (k : layStringS.rd X [u] ws) (hf : ws.length ≤ 10000000) :
    Calls Tryd.prog 8 #[.agg #[.int .i64 z, v, .bool p], .agg #[.int .i64 z, u, .bool p]] X fun e Y => e = .returned (.bool true) ∧ Below X.heap.size X Y :=
  eqOptions_same z v u ws p X h k (by omega)
end

end Go.Proofs.YtmgdhlodifkemasDoor
namespace Go.Proofs.YtmgdhlodifkemasDoor
open Go.RowKit

set_option maxRecDepth 100000 in
set_option maxHeartbeats 3200000 in
/-- The exact law on OptionText, out of one answer that both give. -/
theorem lawOptionTextF (n0 : Int) (v1 : Value) (p1 : List ByteArray) (n2 : Bool) (k1 : RoomString p1) (t : ByteArray) (b : Bool) (w : World)
    (hI : FitsOptions p1 → ∀ (v1 : Value) (X : World), Below w.heap.size w X → layStringS.rd X [v1] p1 → Calls Tryd.prog 7 #[.agg #[.int .i64 n0, v1, .bool n2]] X fun e Y => e = .returned (.tuple #[.string t, .bool b]) ∧ Below X.heap.size X Y)
    (hS : FitsOptions p1 → ∀ (v1 : Value) (X : World), layStringS.rd X [v1] p1 → Calls Tryd.prog 5 #[.agg #[.int .i64 n0, v1, .bool n2]] X fun e Y => e = .returned (.tuple #[.string t, .bool b]) ∧ Below X.heap.size X Y)
    (ha : layStringS.rd w [v1] p1) :
    Calls Tryd.prog 3 #[.agg #[.int .i64 n0, v1, .bool n2]] w fun e w' => e = .returned (.bool true) ∧ Below w.heap.size w w' := by
  obtain ⟨b1, bc1, rfl⟩ := rows_form ha
  have HA := Lib.hid ha
  have HI := Lib.hid hI
  have HS := Lib.hid hS
  have A0 := Lib.hid (VarA.new w LOpT #[.int .i64 n0, .slice b1 p1.length bc1, .bool n2])
  have B0 := Lib.hid ((Below.refl w.heap.size w).alloc (Nat.le_refl _) (.cells #[.int .i64 n0, .slice b1 p1.length bc1, .bool n2] LOpT))
  clear hI hS ha
  go_enter Tryd.func3, Tryd.ntmps3
  go_upto_region 1 with fail
  generalize w.alloc (.cells #[.int .i64 n0, .slice b1 p1.length bc1, .bool n2] LOpT) = Y0 at *
  have c0 : Y0.cell? ⟨w.heap.size, 0, none⟩ = some (.int .i64 n0) := A0.out.cell 0
  have c1 : Y0.cell? ⟨w.heap.size, 1, none⟩ = some (.slice b1 p1.length bc1) := A0.out.cell 1
  have c2 : Y0.cell? ⟨w.heap.size, 2, none⟩ = some (.bool n2) := A0.out.cell 2
  have KZ := Lib.hid (szOptions_any n0 _ p1 n2 1048576 (by omega) (by omega) k1 Y0 (layStringS.below HA.out B0.out))
  go_wp2_with fail
  refine (KZ.out).mono ?_
  rintro e Y1 ⟨⟨z, rfl, hz⟩, hb1⟩
  have A1 := Lib.hid (A0.out.next hb1)
  have B1 := Lib.hid (B0.out.trans (hb1.mono B0.out.size))
  clear hb1 A0 B0 KZ c0 c1 c2
  rcases hz with rfl | ⟨hz0, hz1, hfit⟩
  · go_wp2_with fail
    go_ret
    exact ⟨rfl, B1.out⟩
  have hz2 : ¬ (z < 0) := by omega
  have HF := Lib.hid hfit
  have TT : Hid (∀ X, Below w.heap.size w X → Calls Tryd.prog 6 #[.agg #[.int .i64 n0, .slice b1 p1.length bc1, .bool n2]] X fun e Y => ∃ v, e = .returned v ∧ OptVal n0 p1 n2 X v Y) := Lib.hid (fun X hX => opt_to (layStringS.below HA.out hX) HF.out.1)
  have hbb : (b != b) = false := by cases b <;> rfl
  have htt : (t.toList == t.toList) = true := by simp
  clear hfit hz0 hz1
  have c0 : Y1.cell? ⟨w.heap.size, 0, none⟩ = some (.int .i64 n0) := A1.out.cell 0
  have c1 : Y1.cell? ⟨w.heap.size, 1, none⟩ = some (.slice b1 p1.length bc1) := A1.out.cell 1
  have c2 : Y1.cell? ⟨w.heap.size, 2, none⟩ = some (.bool n2) := A1.out.cell 2
  go_wp2_with fail
  refine (TT.out Y1 B1.out).mono ?_
  rintro e Y2 ⟨v, rfl, hv⟩
  obtain ⟨t1, tc1, f1, rfl, hd2, hco2, hb2⟩ := hv
  have A2 := Lib.hid (A1.out.next hb2)
  have B2 := Lib.hid (B1.out.trans (hb2.mono B1.out.size))
  have KS := Lib.hid (HS.out HF.out _ Y2 (layStringS.read hco2))
  clear hco2 hb2 A1 B1 hd2 c0 c1 c2 f1
  go_wp2_with fail
  refine (KS.out).mono ?_
  rintro e V4 ⟨rfl, hb3⟩
  have A4 := Lib.hid (A2.out.next hb3)
  have B4 := Lib.hid (B2.out.trans (hb3.mono B2.out.size))
  clear hb3 A2 B2 KS Y2
  go_upto_region 6 with fail
  have c0 : V4.cell? ⟨w.heap.size, 0, none⟩ = some (.int .i64 n0) := A4.out.cell 0
  have c1 : V4.cell? ⟨w.heap.size, 1, none⟩ = some (.slice b1 p1.length bc1) := A4.out.cell 1
  have c2 : V4.cell? ⟨w.heap.size, 2, none⟩ = some (.bool n2) := A4.out.cell 2
  go_wp2_with fail
  refine (TT.out V4 B4.out).mono ?_
  rintro e Y5 ⟨v, rfl, hv⟩
  obtain ⟨x1, xc1, f1, rfl, hd5, hco5, hb5⟩ := hv
  have hal : Below Y5.heap.size Y5 (Y5.alloc (.cells #[.int .i64 n0, .slice x1 p1.length xc1, .bool n2] OptionsT)) := (Below.refl _ _).alloc (Nat.le_refl _) _
  have X6 := Lib.hid (OV.new (z := n0) (p := n2) hd5 hco5)
  have A6 := Lib.hid ((A4.out.next hb5).next hal)
  have B6 := Lib.hid ((B4.out.trans (hb5.mono B4.out.size)).trans (hal.mono (B4.out.trans (hb5.mono B4.out.size)).size))
  clear hco5 hb5 hal hd5 A4 B4 c0 c1 c2 f1
  go_upto_region 7 with fail
  generalize Y5.alloc (.cells #[.int .i64 n0, .slice x1 p1.length xc1, .bool n2] OptionsT) = V6 at *
  generalize V4.heap.size = lx at *
  generalize Y5.heap.size = gx at *
  clear V4 Y5
  have c0 : V6.cell? ⟨gx, 0, none⟩ = some (.int .i64 n0) := X6.out.var.cell 0
  have c1 : V6.cell? ⟨gx, 1, none⟩ = some (.slice x1 p1.length xc1) := X6.out.var.cell 1
  have c2 : V6.cell? ⟨gx, 2, none⟩ = some (.bool n2) := X6.out.var.cell 2
  have KI := Lib.hid (HI.out HF.out _ V6 B6.out X6.out.rd)
  go_wp2_with fail
  refine (KI.out).mono ?_
  rintro e V9 ⟨rfl, hb7⟩
  have qnext : ∀ X Y, (VarA w.heap.size LOpT #[.int .i64 n0, .slice b1 p1.length bc1, .bool n2] X ∧ OV lx gx gx n0 (.slice x1 p1.length xc1) p1 n2 X ∧ Below w.heap.size w X) → Below X.heap.size X Y → (VarA w.heap.size LOpT #[.int .i64 n0, .slice b1 p1.length bc1, .bool n2] Y ∧ OV lx gx gx n0 (.slice x1 p1.length xc1) p1 n2 Y ∧ Below w.heap.size w Y) := fun X Y h hb => ⟨h.1.next hb, h.2.1.next hb, h.2.2.trans (hb.mono h.2.2.size)⟩
  have Q9 := Lib.hid (qnext _ _ ⟨A6.out, X6.out, B6.out⟩ hb7)
  clear hb7 A6 B6 X6 KI V6 c0 c1 c2
  have S0 : Hid (∀ X, (VarA w.heap.size LOpT #[.int .i64 n0, .slice b1 p1.length bc1, .bool n2] X ∧ OV lx gx gx n0 (.slice x1 p1.length xc1) p1 n2 X ∧ Below w.heap.size w X) → (X.cell? ⟨gx, 0, none⟩ = some (.int .i64 n0) ∧ X.cell? ⟨gx, 1, none⟩ = some (.slice x1 p1.length xc1) ∧ X.cell? ⟨gx, 2, none⟩ = some (.bool n2) ∧ X.cell? ⟨w.heap.size, 0, none⟩ = some (.int .i64 n0) ∧ X.cell? ⟨w.heap.size, 1, none⟩ = some (.slice b1 p1.length bc1) ∧ X.cell? ⟨w.heap.size, 2, none⟩ = some (.bool n2) ∧ VarA w.heap.size LOpT #[.int .i64 n0, .slice b1 p1.length bc1, .bool n2] X ∧ OV lx gx gx n0 (.slice x1 p1.length xc1) p1 n2 X ∧ Below w.heap.size w X)) := Lib.hid (fun X h => ⟨h.2.1.var.cell 0, h.2.1.var.cell 1, h.2.1.var.cell 2, h.1.cell 0, h.1.cell 1, h.1.cell 2, h⟩)
  have S1 : Hid (V9.drew.cell? ⟨gx, 0, none⟩ = some (.int .i64 n0) ∧ V9.drew.cell? ⟨gx, 1, none⟩ = some (.slice x1 p1.length xc1) ∧ V9.drew.cell? ⟨gx, 2, none⟩ = some (.bool n2) ∧ V9.drew.cell? ⟨w.heap.size, 0, none⟩ = some (.int .i64 n0) ∧ V9.drew.cell? ⟨w.heap.size, 1, none⟩ = some (.slice b1 p1.length bc1) ∧ V9.drew.cell? ⟨w.heap.size, 2, none⟩ = some (.bool n2) ∧ VarA w.heap.size LOpT #[.int .i64 n0, .slice b1 p1.length bc1, .bool n2] V9.drew ∧ OV lx gx gx n0 (.slice x1 p1.length xc1) p1 n2 V9.drew ∧ Below w.heap.size w V9.drew) := Lib.hid (S0.out _ (qnext _ _ Q9.out ((Below.refl _ _).drew)))
  have KT : Hid (∀ X, (X.cell? ⟨gx, 0, none⟩ = some (.int .i64 n0) ∧ X.cell? ⟨gx, 1, none⟩ = some (.slice x1 p1.length xc1) ∧ X.cell? ⟨gx, 2, none⟩ = some (.bool n2) ∧ X.cell? ⟨w.heap.size, 0, none⟩ = some (.int .i64 n0) ∧ X.cell? ⟨w.heap.size, 1, none⟩ = some (.slice b1 p1.length bc1) ∧ X.cell? ⟨w.heap.size, 2, none⟩ = some (.bool n2) ∧ VarA w.heap.size LOpT #[.int .i64 n0, .slice b1 p1.length bc1, .bool n2] X ∧ OV lx gx gx n0 (.slice x1 p1.length xc1) p1 n2 X ∧ Below w.heap.size w X) → Calls Tryd.prog 6 #[.agg #[.int .i64 n0, .slice b1 p1.length bc1, .bool n2]] X fun e Y => ∃ (t1 : Option Addr) (tc1 : Nat), e = .returned (.agg #[.int .i64 n0, .slice t1 p1.length tc1, .bool n2]) ∧ layStringS.rd Y [.slice t1 p1.length tc1] p1 ∧ (Y.cell? ⟨gx, 0, none⟩ = some (.int .i64 n0) ∧ Y.cell? ⟨gx, 1, none⟩ = some (.slice x1 p1.length xc1) ∧ Y.cell? ⟨gx, 2, none⟩ = some (.bool n2) ∧ Y.cell? ⟨w.heap.size, 0, none⟩ = some (.int .i64 n0) ∧ Y.cell? ⟨w.heap.size, 1, none⟩ = some (.slice b1 p1.length bc1) ∧ Y.cell? ⟨w.heap.size, 2, none⟩ = some (.bool n2) ∧ VarA w.heap.size LOpT #[.int .i64 n0, .slice b1 p1.length bc1, .bool n2] Y ∧ OV lx gx gx n0 (.slice x1 p1.length xc1) p1 n2 Y ∧ Below w.heap.size w Y)) := Lib.hid (fun X hX => by
    have hq := hX.2.2.2.2.2.2
    refine (TT.out X hq.2.2).mono ?_
    rintro e Y ⟨v, rfl, hv⟩
    obtain ⟨t1, tc1, f1, rfl, hd, hco, hb⟩ := hv
    exact ⟨t1, tc1, rfl, layStringS.read hco, S0.out _ (qnext _ _ hq hb)⟩)
  have KE : Hid (∀ (y1 : Value) (X : World), (X.cell? ⟨gx, 0, none⟩ = some (.int .i64 n0) ∧ X.cell? ⟨gx, 1, none⟩ = some (.slice x1 p1.length xc1) ∧ X.cell? ⟨gx, 2, none⟩ = some (.bool n2) ∧ X.cell? ⟨w.heap.size, 0, none⟩ = some (.int .i64 n0) ∧ X.cell? ⟨w.heap.size, 1, none⟩ = some (.slice b1 p1.length bc1) ∧ X.cell? ⟨w.heap.size, 2, none⟩ = some (.bool n2) ∧ VarA w.heap.size LOpT #[.int .i64 n0, .slice b1 p1.length bc1, .bool n2] X ∧ OV lx gx gx n0 (.slice x1 p1.length xc1) p1 n2 X ∧ Below w.heap.size w X) → layStringS.rd X [y1] p1 → Calls Tryd.prog 8 #[.agg #[.int .i64 n0, .slice x1 p1.length xc1, .bool n2], .agg #[.int .i64 n0, y1, .bool n2]] X fun e Y => e = .returned (.bool true) ∧ (Y.cell? ⟨gx, 0, none⟩ = some (.int .i64 n0) ∧ Y.cell? ⟨gx, 1, none⟩ = some (.slice x1 p1.length xc1) ∧ Y.cell? ⟨gx, 2, none⟩ = some (.bool n2) ∧ Y.cell? ⟨w.heap.size, 0, none⟩ = some (.int .i64 n0) ∧ Y.cell? ⟨w.heap.size, 1, none⟩ = some (.slice b1 p1.length bc1) ∧ Y.cell? ⟨w.heap.size, 2, none⟩ = some (.bool n2) ∧ VarA w.heap.size LOpT #[.int .i64 n0, .slice b1 p1.length bc1, .bool n2] Y ∧ OV lx gx gx n0 (.slice x1 p1.length xc1) p1 n2 Y ∧ Below w.heap.size w Y)) := Lib.hid (fun y1 X hX hrd => by
    have hq := hX.2.2.2.2.2.2
    refine (opt_eq hq.2.1.rd hrd (by have := HF.out.1; omega)).mono ?_
    rintro e Y ⟨rfl, hb⟩
    exact ⟨rfl, S0.out _ (qnext _ _ hq hb)⟩)
  go_wp2_with fail
  go_region_held3 (fun X => X.cell? ⟨gx, 0, none⟩ = some (.int .i64 n0) ∧ X.cell? ⟨gx, 1, none⟩ = some (.slice x1 p1.length xc1) ∧ X.cell? ⟨gx, 2, none⟩ = some (.bool n2) ∧ X.cell? ⟨w.heap.size, 0, none⟩ = some (.int .i64 n0) ∧ X.cell? ⟨w.heap.size, 1, none⟩ = some (.slice b1 p1.length bc1) ∧ X.cell? ⟨w.heap.size, 2, none⟩ = some (.bool n2) ∧ VarA w.heap.size LOpT #[.int .i64 n0, .slice b1 p1.length bc1, .bool n2] X ∧ OV lx gx gx n0 (.slice x1 p1.length xc1) p1 n2 X ∧ Below w.heap.size w X) (first | (with_reducible assumption) | (with_reducible exact S1.out)) (first | (go_at_call 6; refine (KT.out _ (by assumption)).mono ?_; rintro e v1 ⟨t1, tc1, rfl, hrd, hS⟩) | (go_at_call 8; refine (KE.out _ _ (by assumption) hrd).mono ?_; rintro e v1 ⟨rfl, hS⟩))
  all_goals
    go_wp2_with fail
    go_ret
    exact ⟨rfl, (hS.2.2.2.2.2.2).2.2⟩

end Go.Proofs.YtmgdhlodifkemasDoor
