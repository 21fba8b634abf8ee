/-
  Two right options drawn; a text of options drawn.
-/
import Derived.Test.YtmgdhlodifkemadDoorJ14
import Derived.Test.YtmgdhlodifkemadDoorJ15
import Derived.Test.YtmgdhlodifkemadDoorJ18
namespace Go.Proofs.YtmgdhlodifkemadDoor
open Go.RowKit

/-- A row of texts stays where another block is written. -/
theorem texts_far {X : World} {b f : Nat} {fs : List Nat} {v : Value} {ws : List ByteArray} (h : layStringS.own X b fs [v] ws) (hb : f < b) (j : Nat) (u : Value) : layStringS.own (X.setCell ⟨f, j, none⟩ u) b fs [v] ws :=
  layStringS.keep h (fun g hg => Below.heap_setCell _ _ _ _ (show g ≠ f by have := (layStringS.blocks h g hg).1; omega))
/-- Two right options, drawn. -/
def DrewTwo (w : World) (e : Ending) (w' : World) : Prop :=
  ∃ (z1 : Int) (b1 : Option Addr) (d1 : Nat) (ws1 : List ByteArray) (p1 : Bool) (z2 : Int) (b2 : Option Addr) (d2 : Nat) (ws2 : List ByteArray) (p2 : Bool), OptP z1 ws1 ∧ OptP z2 ws2 ∧
    e = .returned (.tuple #[.agg #[.int .i64 z1, .slice b1 ws1.length d1, .bool p1], .agg #[.int .i64 z2, .slice b2 ws2.length d2, .bool p2]]) ∧ layStringS.rd w' [.slice b1 ws1.length d1] ws1 ∧ layStringS.rd w' [.slice b2 ws2.length d2] ws2 ∧ Below w.heap.size w w'

set_option maxRecDepth 100000 in
set_option maxHeartbeats 3200000 in
theorem drawOptions_any (a : Option Addr) (len cap : Nat) (w : World) (H : Src a len w) :
    Calls Tryd.prog 16 #[.slice a len cap] w (DrewTwo w) := by
  have A0 := Lib.hid ((VarA.new w OptionsT #[.int .i64 0, .slice none 0 0, .bool false]).alloc (.cells #[.int .i64 0, .slice none 0 0, .bool false] OptionsT))
  have h2 := VarA.new (w.alloc (.cells #[.int .i64 0, .slice none 0 0, .bool false] OptionsT)) OptionsT #[.int .i64 0, .slice none 0 0, .bool false]
  rw [show (w.alloc (.cells #[.int .i64 0, .slice none 0 0, .bool false] OptionsT)).heap.size = w.heap.size + 1 by simp] at h2
  have P0 := Lib.hid h2
  have B0 := Lib.hid (((Below.refl w.heap.size w).alloc (Nat.le_refl _) (.cells #[.int .i64 0, .slice none 0 0, .bool false] OptionsT)).alloc (by simp) (.cells #[.int .i64 0, .slice none 0 0, .bool false] OptionsT))
  have HS := Lib.hid H
  clear H h2
  obtain ⟨Q, HQ⟩ : ∃ Q : Ending → World → Prop, Hid (Q = DrewTwo w) := ⟨_, Lib.hid rfl⟩
  rw [← HQ.out]
  go_enter Tryd.func16, Tryd.ntmps16
  go_upto_region 1 with fail
  generalize (w.alloc (.cells #[.int .i64 0, .slice none 0 0, .bool false] OptionsT)).alloc (.cells #[.int .i64 0, .slice none 0 0, .bool false] OptionsT) = Y0 at *
  go_wp2_with fail
  refine (new_any a len cap _ (HS.out.below B0.out)).mono ?_
  rintro e w1 ⟨c, rfl, hc, hcur, hb⟩
  have A1 := Lib.hid (A0.out.next hb)
  have P1 := Lib.hid (P0.out.next hb)
  have B1 := Lib.hid (B0.out.trans (hb.mono B0.out.size))
  have hyc := P0.out.lt
  have hcw : c < w1.heap.size := cell_size (p := ⟨c, 0, none⟩) hcur.c0
  clear hb A0 P0 B0
  go_wp2_with fail
  refine (options_any _ hcur).mono ?_
  rintro e w2 ⟨z1, b1, d1, ws1, p1, f1, hP1, rfl, hn1, hown1, hcur2, ho⟩
  have hs1 := B1.out.size
  have A2 := Lib.hid (A1.out.only ho (by omega))
  have P2 := Lib.hid (P1.out.only ho (by omega))
  have B2 := Lib.hid (B1.out.trans (ho.below (B := w.heap.size) (by omega) hs1))
  have O1 := Lib.hid hown1
  have hs2 := ho.size
  clear ho hown1 A1 P1 B1 hcur
  go_wp2_with fail
  refine (options_any _ hcur2).mono ?_
  rintro e w3 ⟨z2, b2, d2, ws2, p2, f2, hP2, rfl, hn2, hown2, -, ho⟩
  have hs3 := B2.out.size
  have A3 := Lib.hid (A2.out.only ho (by omega))
  have P3 := Lib.hid (P2.out.only ho (by omega))
  have B3 := Lib.hid (B2.out.trans (ho.below (B := w.heap.size) (by omega) hs3))
  have O2 := Lib.hid (texts_only O1.out ho hcw)
  have O3 := Lib.hid hown2
  have HP := Lib.hid (And.intro hP1 hP2)
  clear ho hown2 A2 P2 B2 hcur2 O1 hP1 hP2 HS
  have q0 : w3.cell? ⟨w.heap.size, 0, none⟩ = some (.int .i64 0) := A3.out.cell 0
  have q1 : w3.cell? ⟨w.heap.size, 1, none⟩ = some (.slice none 0 0) := A3.out.cell 1
  have q2 : w3.cell? ⟨w.heap.size, 2, none⟩ = some (.bool false) := A3.out.cell 2
  have g0 := A3.out.free 0
  have g1 := A3.out.free 1
  have g2 := A3.out.free 2
  have r0 : w3.cell? ⟨w.heap.size + 1, 0, none⟩ = some (.int .i64 0) := P3.out.cell 0
  have r1 : w3.cell? ⟨w.heap.size + 1, 1, none⟩ = some (.slice none 0 0) := P3.out.cell 1
  have r2 : w3.cell? ⟨w.heap.size + 1, 2, none⟩ = some (.bool false) := P3.out.cell 2
  have k0 := P3.out.free 0
  have k1 := P3.out.free 1
  have k2 := P3.out.free 2
  have T1 := ((A3.out.set 0 (.int .i64 z1)).set 1 (.slice b1 ws1.length d1)).set 2 (.bool p1)
  have T2 := ((T1.off (q := w.heap.size + 1) 0 (.int .i64 z2) (by omega)).off (q := w.heap.size + 1) 1 (.slice b2 ws2.length d2) (by omega)).off (q := w.heap.size + 1) 2 (.bool p2) (by omega)
  have T3 := ((((P3.out.off (q := w.heap.size) 0 (.int .i64 z1) (by omega)).off (q := w.heap.size) 1 (.slice b1 ws1.length d1) (by omega)).off (q := w.heap.size) 2 (.bool p1) (by omega)).set 0 (.int .i64 z2)).set 1 (.slice b2 ws2.length d2) |>.set 2 (.bool p2)
  have j0 := T2.cell 0
  have j1 := T2.cell 1
  have j2 := T2.cell 2
  have l0 := T3.cell 0
  have l1 := T3.cell 1
  have l2 := T3.cell 2
  have F1 := Lib.hid (texts_far (texts_far (texts_far (texts_far (texts_far (texts_far O2.out (show w.heap.size < w1.heap.size by omega) 0 (.int .i64 z1)) (show w.heap.size < w1.heap.size by omega) 1 (.slice b1 ws1.length d1)) (show w.heap.size < w1.heap.size by omega) 2 (.bool p1)) (show w.heap.size + 1 < w1.heap.size by omega) 0 (.int .i64 z2)) (show w.heap.size + 1 < w1.heap.size by omega) 1 (.slice b2 ws2.length d2)) (show w.heap.size + 1 < w1.heap.size by omega) 2 (.bool p2))
  have F2 := Lib.hid (texts_far (texts_far (texts_far (texts_far (texts_far (texts_far O3.out (show w.heap.size < w2.heap.size by omega) 0 (.int .i64 z1)) (show w.heap.size < w2.heap.size by omega) 1 (.slice b1 ws1.length d1)) (show w.heap.size < w2.heap.size by omega) 2 (.bool p1)) (show w.heap.size + 1 < w2.heap.size by omega) 0 (.int .i64 z2)) (show w.heap.size + 1 < w2.heap.size by omega) 1 (.slice b2 ws2.length d2)) (show w.heap.size + 1 < w2.heap.size by omega) 2 (.bool p2))
  have B4 := Lib.hid ((((((B3.out.setCell (p := ⟨w.heap.size, 0, none⟩) (Nat.le_refl _) (.int .i64 z1)).setCell (p := ⟨w.heap.size, 1, none⟩) (Nat.le_refl _) (.slice b1 ws1.length d1)).setCell (p := ⟨w.heap.size, 2, none⟩) (Nat.le_refl _) (.bool p1)).setCell (p := ⟨w.heap.size + 1, 0, none⟩) (Nat.le_succ _) (.int .i64 z2)).setCell (p := ⟨w.heap.size + 1, 1, none⟩) (Nat.le_succ _) (.slice b2 ws2.length d2)).setCell (p := ⟨w.heap.size + 1, 2, none⟩) (Nat.le_succ _) (.bool p2))
  clear T1 T2 T3 A3 P3 B3 O2 O3
  go_wp2_with fail
  exact bodyPost_ret (v := .tuple #[.agg #[.int .i64 z1, .slice b1 ws1.length d1, .bool p1], .agg #[.int .i64 z2, .slice b2 ws2.length d2, .bool p2]]) (by simp [results, Tryd.results16, go_sem, j0, j1, j2, l0, l1, l2]) rfl (by rw [HQ.out]; exact ⟨z1, b1, d1, ws1, p1, z2, b2, d2, ws2, p2, HP.out.1, HP.out.2, rfl, layStringS.read F1.out, layStringS.read F2.out, B4.out⟩)

/-- The texts that are drawn of a list. -/
def oddOpts : List ByteArray := [⟨#[]⟩, ⟨#[115, 105, 122, 101, 32, 51, 48]⟩, ⟨#[115, 105, 122, 101, 32, 51, 48, 59, 119, 97, 121, 115]⟩, ⟨#[115, 105, 122, 101, 32, 51, 48, 59, 119, 97, 121, 115, 32, 97, 59, 112, 105, 101, 99, 101, 115, 59]⟩, ⟨#[115, 105, 122, 101, 32, 48, 51, 48, 59, 119, 97, 121, 115, 32, 97]⟩, ⟨#[119, 97, 121, 115, 32, 97, 59, 115, 105, 122, 101, 32, 51, 48]⟩, ⟨#[115, 105, 122, 101, 32, 51, 48, 59, 119, 97, 121, 115, 32, 97, 59, 112, 105, 101, 99, 101, 115]⟩]
theorem oddOpts_size : ∀ x ∈ oddOpts, x.size ≤ 1001 := by
  intro x hx
  simp only [oddOpts, List.mem_cons, List.not_mem_nil, or_false] at hx
  rcases hx with rfl | rfl | rfl | rfl | rfl | rfl | rfl <;> decide
set_option maxRecDepth 100000 in
set_option maxHeartbeats 3200000 in
theorem drawReadOption_any (a : Option Addr) (len cap : Nat) (w : World) (H : Src a len w) :
    Calls Tryd.prog 22 #[.slice a len cap] w fun e w' => ∃ t : ByteArray, t.size ≤ 1001 ∧ e = .returned (.string t) ∧ Below w.heap.size w w' := by
  have HS := Lib.hid H
  clear H
  go_enter Tryd.func22, Tryd.ntmps22
  go_wp2_with fail
  refine (new_any a len cap _ HS.out).mono ?_
  rintro e w1 ⟨c, rfl, hc, hcur, hb⟩
  have B1 := Lib.hid hb
  clear hb HS
  go_wp2_with fail
  refine (optAny_any _ hcur).mono ?_
  rintro e w2 ⟨z, b, d, ws, p, f, hP, rfl, hn, hown, hcur2, ho⟩
  have hs1 := B1.out.size
  have B2 := Lib.hid (B1.out.trans (ho.below (B := w.heap.size) hc hs1))
  obtain ⟨t, ok, hti⟩ := text_is z ws p
  have htf := text_few hti
  have KT := Lib.hid (specOptionText_any z _ ws p t ok hti (by have := hP.1; omega) (fun x hx => by have := hP.2 x hx; omega) w2 (layStringS.read hown))
  clear ho hown hti hP hn B1
  go_wp2_with fail
  refine (KT.out).mono ?_
  rintro e w3 ⟨rfl, hb⟩
  have C3 := Lib.hid (hcur2.below hb)
  have hs2 := B2.out.size
  have B3 := Lib.hid (B2.out.trans (hb.mono hs2))
  clear hb KT B2 hcur2 hcur
  go_wp2_with fail
  refine (below_any 6 (by omega) (by omega) _ C3.out).mono ?_
  rintro e w4 ⟨x, x0, x1, rfl, hc1, ho⟩
  have hs3 := B3.out.size
  have B4 := Lib.hid (B3.out.trans (ho.below (B := w.heap.size) hc hs3))
  have C4 := Lib.hid hc1
  clear ho hc1 B3 C3
  have hx3 : x = 0 ∨ x = 1 ∨ 1 < x := by omega
  rcases hx3 with rfl | rfl | hx
  · have hal : Below w4.heap.size w4 (w4.alloc (.cells (oddOpts.map Value.string).toArray StringT)) := (Below.refl _ _).alloc (Nat.le_refl _) _
    have C5 := Lib.hid (C4.out.below hal)
    have hs4 := B4.out.size
    have B5 := Lib.hid (B4.out.trans (hal.mono hs4))
    have hcw : c < w4.heap.size := cell_size (p := ⟨c, 0, none⟩) C4.out.c0
    have OC : Hid (∀ j, j < 7 → (w4.alloc (.cells (oddOpts.map Value.string).toArray StringT)).cell? ⟨w4.heap.size, j, none⟩ = some (.string (oddOpts.getD j ⟨#[]⟩))) := Lib.hid (fun j hj => by
      have h7 : j = 0 ∨ j = 1 ∨ j = 2 ∨ j = 3 ∨ j = 4 ∨ j = 5 ∨ j = 6 := by omega
      rcases h7 with rfl | rfl | rfl | rfl | rfl | rfl | rfl <;> simp [oddOpts])
    clear hal
    simp only [oddOpts, List.map_cons, List.map_nil] at C5 B5
    go_wp2_with fail
    refine (pickText_any w4.heap.size 7 oddOpts rfl (by omega) (by omega) (by omega) _ C5.out ?_).mono ?_
    · intro j hj
      have h9 := OC.out j hj
      simpa only [oddOpts, List.map_cons, List.map_nil] using h9
    rintro e w5 ⟨y, hy, rfl, -, ho⟩
    have B6 := Lib.hid (B5.out.trans (ho.below (B := w.heap.size) hc B5.out.size))
    have HY := Lib.hid (oddOpts_size y hy)
    clear ho hy
    go_wp2_with fail
    go_ret
    exact ⟨_, HY.out, rfl, B6.out⟩
  · go_wp2_with fail
    refine (spoilt_any t (by omega) _ C4.out).mono ?_
    rintro e w5 ⟨y, hy, rfl, -, ho⟩
    have B6 := Lib.hid (B4.out.trans (ho.below (B := w.heap.size) hc B4.out.size))
    clear ho
    go_wp2_with fail
    go_ret
    exact ⟨_, hy, rfl, B6.out⟩
  · have n0 : (x == 0) = false := by rw [beq_eq_false_iff_ne]; omega
    have n1 : (x == 1) = false := by rw [beq_eq_false_iff_ne]; omega
    go_wp2_with fail
    go_ret
    exact ⟨_, by omega, rfl, B4.out⟩

end Go.Proofs.YtmgdhlodifkemadDoor
