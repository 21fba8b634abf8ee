/-
  The given Install and TidySlots.
-/
import Derived.Test.YtoaifgblbfdncabDoorJ09
import Derived.Test.YtoaifgblbfdncabDoorJ14
namespace Go.Proofs.YtoaifgblbfdncabDoor
open Go.RowKit

/-- No row. -/
theorem none_own (w : World) (b : Nat) : layIntS.own w b [] [.slice none 0 0] [] := ⟨_, rfl, .inl ⟨rfl, rfl, rfl⟩⟩
/-- What Install tells. -/
def InstallEnd (x0 : Int) (x1 x2 : ByteArray) (x3 : Int) (r4 : List Int) (x5 : Int) (y0 : Int) (y1 y2 : ByteArray) (y3 : Int) (s4 : List Int) (y5 : Int) (send op : ByteArray) (now : Int) (w : World) (e : Ending) (w' : World) : Prop :=
  ∃ (z0 : Int) (z1 z2 : ByteArray) (z3 : Int) (t4 : List Int) (z5 : Int) (n0 : Int) (n1 n2 : ByteArray) (n3 : Int) (o4 : List Int) (n5 : Int) (ok : Bool) (v4 u4 : Value) (f g : List Nat),
    ((ok = true ∧ InstallP x0 x1 x2 x3 r4 x5 y0 y1 y2 y3 s4 y5 send op now ∧ (z0 = x0 + 1 ∧ z1 = send ∧ z2 = op ∧ z3 = 0 ∧ t4 = [] ∧ z5 = 0) ∧ (n0 = x0 ∧ n1 = x1 ∧ n2 = x2 ∧ n3 = x3 ∧ o4 = r4 ∧ UntilIs x0 x1 x2 x3 r4 x5 now n5)) ∨
     (ok = false ∧ ¬ InstallP x0 x1 x2 x3 r4 x5 y0 y1 y2 y3 s4 y5 send op now ∧ (z0 = x0 ∧ z1 = x1 ∧ z2 = x2 ∧ z3 = x3 ∧ t4 = r4 ∧ z5 = x5) ∧ (n0 = y0 ∧ n1 = y1 ∧ n2 = y2 ∧ n3 = y3 ∧ o4 = s4 ∧ n5 = y5))) ∧
    e = .returned (.tuple #[.agg #[.int .i64 z0, .string z1, .string z2, .int .i64 z3, v4, .int .i64 z5, .int .i64 n0, .string n1, .string n2, .int .i64 n3, u4, .int .i64 n5], .bool ok]) ∧ (f ++ g).Nodup ∧ layIntS.own w' w.heap.size f [v4] t4 ∧ layIntS.own w' w.heap.size g [u4] o4 ∧ Below w.heap.size w w'
set_option maxRecDepth 100000 in
set_option maxHeartbeats 6400000 in
theorem specInstall_any (x0 : Int) (x1 x2 : ByteArray) (x3 : Int) (v4 : Value) (r4 : List Int) (x5 : Int) (y0 : Int) (y1 y2 : ByteArray) (y3 : Int) (u4 : Value) (s4 : List Int) (y5 : Int) (send op : ByteArray) (now : Int) (hl : r4.length ≤ 10000000) (hk : s4.length ≤ 10000000) (w : World) (h : layIntS.rd w [v4] r4) (k : layIntS.rd w [u4] s4) :
    Calls Tryd.prog 15 #[.agg #[.int .i64 x0, .string x1, .string x2, .int .i64 x3, v4, .int .i64 x5, .int .i64 y0, .string y1, .string y2, .int .i64 y3, u4, .int .i64 y5], .string send, .string op, .int .i64 now] w (InstallEnd x0 x1 x2 x3 r4 x5 y0 y1 y2 y3 s4 y5 send op now w) := by
  obtain ⟨a4, p4, rfl⟩ := rows_form h
  obtain ⟨b4, q4, rfl⟩ := rows_form k
  have e1 : (w.alloc (.cells #[.int .i64 x0, .string x1, .string x2, .int .i64 x3, .slice a4 r4.length p4, .int .i64 x5, .int .i64 y0, .string y1, .string y2, .int .i64 y3, .slice b4 s4.length q4, .int .i64 y5] SlotsT)).heap.size = w.heap.size + 1 := by simp
  have h2 := VarA.new (w.alloc (.cells #[.int .i64 x0, .string x1, .string x2, .int .i64 x3, .slice a4 r4.length p4, .int .i64 x5, .int .i64 y0, .string y1, .string y2, .int .i64 y3, .slice b4 s4.length q4, .int .i64 y5] SlotsT)) SlotsT #[.int .i64 0, .string ⟨#[]⟩, .string ⟨#[]⟩, .int .i64 0, .slice none 0 0, .int .i64 0, .int .i64 0, .string ⟨#[]⟩, .string ⟨#[]⟩, .int .i64 0, .slice none 0 0, .int .i64 0]
  rw [e1] at h2
  have A0 := Lib.hid ((VarA.new w SlotsT #[.int .i64 x0, .string x1, .string x2, .int .i64 x3, .slice a4 r4.length p4, .int .i64 x5, .int .i64 y0, .string y1, .string y2, .int .i64 y3, .slice b4 s4.length q4, .int .i64 y5]).alloc (.cells #[.int .i64 0, .string ⟨#[]⟩, .string ⟨#[]⟩, .int .i64 0, .slice none 0 0, .int .i64 0, .int .i64 0, .string ⟨#[]⟩, .string ⟨#[]⟩, .int .i64 0, .slice none 0 0, .int .i64 0] SlotsT))
  have A1 := Lib.hid h2
  have BY := Lib.hid (((Below.refl w.heap.size w).alloc (Nat.le_refl _) (.cells #[.int .i64 x0, .string x1, .string x2, .int .i64 x3, .slice a4 r4.length p4, .int .i64 x5, .int .i64 y0, .string y1, .string y2, .int .i64 y3, .slice b4 s4.length q4, .int .i64 y5] SlotsT)).alloc (by simp) (.cells #[.int .i64 0, .string ⟨#[]⟩, .string ⟨#[]⟩, .int .i64 0, .slice none 0 0, .int .i64 0, .int .i64 0, .string ⟨#[]⟩, .string ⟨#[]⟩, .int .i64 0, .slice none 0 0, .int .i64 0] SlotsT))
  have hz : Hid (w.heap.size + 2 ≤ ((w.alloc (.cells #[.int .i64 x0, .string x1, .string x2, .int .i64 x3, .slice a4 r4.length p4, .int .i64 x5, .int .i64 y0, .string y1, .string y2, .int .i64 y3, .slice b4 s4.length q4, .int .i64 y5] SlotsT)).alloc (.cells #[.int .i64 0, .string ⟨#[]⟩, .string ⟨#[]⟩, .int .i64 0, .slice none 0 0, .int .i64 0, .int .i64 0, .string ⟨#[]⟩, .string ⟨#[]⟩, .int .i64 0, .slice none 0 0, .int .i64 0] SlotsT)).heap.size) := Lib.hid (by simp)
  have HR := Lib.hid h
  have HK := Lib.hid k
  clear h k h2 e1
  obtain ⟨Q, HQ⟩ : ∃ Q : Ending → World → Prop, Hid (Q = InstallEnd x0 x1 x2 x3 r4 x5 y0 y1 y2 y3 s4 y5 send op now w) := ⟨_, Lib.hid rfl⟩
  rw [← HQ.out]
  go_enter Tryd.func15, Tryd.ntmps15
  go_upto_region 1 with fail
  generalize ((w.alloc (.cells #[.int .i64 x0, .string x1, .string x2, .int .i64 x3, .slice a4 r4.length p4, .int .i64 x5, .int .i64 y0, .string y1, .string y2, .int .i64 y3, .slice b4 s4.length q4, .int .i64 y5] SlotsT)).alloc (.cells #[.int .i64 0, .string ⟨#[]⟩, .string ⟨#[]⟩, .int .i64 0, .slice none 0 0, .int .i64 0, .int .i64 0, .string ⟨#[]⟩, .string ⟨#[]⟩, .int .i64 0, .slice none 0 0, .int .i64 0] SlotsT)) = Y at *
  have c0 : Y.cell? ⟨w.heap.size, 0, none⟩ = some (.int .i64 x0) := A0.out.cell 0
  have c1 : Y.cell? ⟨w.heap.size, 1, none⟩ = some (.string x1) := A0.out.cell 1
  have c2 : Y.cell? ⟨w.heap.size, 2, none⟩ = some (.string x2) := A0.out.cell 2
  have c3 : Y.cell? ⟨w.heap.size, 3, none⟩ = some (.int .i64 x3) := A0.out.cell 3
  have c4 : Y.cell? ⟨w.heap.size, 4, none⟩ = some (.slice a4 r4.length p4) := A0.out.cell 4
  have c5 : Y.cell? ⟨w.heap.size, 5, none⟩ = some (.int .i64 x5) := A0.out.cell 5
  have c6 : Y.cell? ⟨w.heap.size, 6, none⟩ = some (.int .i64 y0) := A0.out.cell 6
  have c7 : Y.cell? ⟨w.heap.size, 7, none⟩ = some (.string y1) := A0.out.cell 7
  have c8 : Y.cell? ⟨w.heap.size, 8, none⟩ = some (.string y2) := A0.out.cell 8
  have c9 : Y.cell? ⟨w.heap.size, 9, none⟩ = some (.int .i64 y3) := A0.out.cell 9
  have c10 : Y.cell? ⟨w.heap.size, 10, none⟩ = some (.slice b4 s4.length q4) := A0.out.cell 10
  have c11 : Y.cell? ⟨w.heap.size, 11, none⟩ = some (.int .i64 y5) := A0.out.cell 11
  have K := Lib.hid (specCopy_any x0 x1 x2 x3 _ r4 x5 y0 y1 y2 y3 _ s4 y5 hl hk Y (layIntS.below HR.out BY.out) (layIntS.below HK.out BY.out))
  go_wp2_with fail
  refine (K.out).mono ?_
  rintro e Y1 ⟨v5, v6, f, g, rfl, hd, o1, o2, hb⟩
  obtain ⟨ma, mk, rfl⟩ := rows_form (layIntS.read o1)
  obtain ⟨la, lk, rfl⟩ := rows_form (layIntS.read o2)
  have ND := Lib.hid hd
  have F1 : Hid (∀ a ∈ f, w.heap.size + 2 ≤ a ∧ a < Y1.heap.size) := Lib.hid (fun a ha => by have := layIntS.blocks o1 a ha; have := hz.out; omega)
  have F2 : Hid (∀ a ∈ g, w.heap.size + 2 ≤ a ∧ a < Y1.heap.size) := Lib.hid (fun a ha => by have := layIntS.blocks o2 a ha; have := hz.out; omega)
  have hal : Below Y1.heap.size Y1 (Y1.alloc (.cells #[.int .i64 x0, .string x1, .string x2, .int .i64 x3, .slice ma r4.length mk, .int .i64 x5, .int .i64 y0, .string y1, .string y2, .int .i64 y3, .slice la s4.length lk, .int .i64 y5] SlotsT)) := (Below.refl _ _).alloc (Nat.le_refl _) _
  have O1 := Lib.hid (layIntS.lower (layIntS.next o1 hal) (Nat.le_trans (show w.heap.size + 2 ≤ _ from hz.out) (Nat.le_refl _)))
  have O2 := Lib.hid (layIntS.lower (layIntS.next o2 hal) (Nat.le_trans (show w.heap.size + 2 ≤ _ from hz.out) (Nat.le_refl _)))
  replace A0 := Lib.hid ((A0.out.next hb).next hal)
  replace A1 := Lib.hid ((A1.out.next hb).next hal)
  have A2 := Lib.hid (VarA.new Y1 SlotsT #[.int .i64 x0, .string x1, .string x2, .int .i64 x3, .slice ma r4.length mk, .int .i64 x5, .int .i64 y0, .string y1, .string y2, .int .i64 y3, .slice la s4.length lk, .int .i64 y5])
  have hz1 : Hid (w.heap.size + 2 ≤ Y1.heap.size) := Lib.hid (Nat.le_trans hz.out hb.size)
  replace BY := Lib.hid ((BY.out.trans (hb.mono BY.out.size)).trans (hal.mono (Nat.le_trans BY.out.size hb.size)))
  clear hb hal hd o1 o2 K c0 c1 c2 c3 c4 c5 c6 c7 c8 c9 c10 c11
  go_upto_region 2 with fail
  generalize Y1.alloc (.cells #[.int .i64 x0, .string x1, .string x2, .int .i64 x3, .slice ma r4.length mk, .int .i64 x5, .int .i64 y0, .string y1, .string y2, .int .i64 y3, .slice la s4.length lk, .int .i64 y5] SlotsT) = Y2 at *
  generalize Y1.heap.size = G at *
  have c0 : Y2.cell? ⟨w.heap.size, 0, none⟩ = some (.int .i64 x0) := A0.out.cell 0
  have c1 : Y2.cell? ⟨w.heap.size, 1, none⟩ = some (.string x1) := A0.out.cell 1
  have c2 : Y2.cell? ⟨w.heap.size, 2, none⟩ = some (.string x2) := A0.out.cell 2
  have c3 : Y2.cell? ⟨w.heap.size, 3, none⟩ = some (.int .i64 x3) := A0.out.cell 3
  have c4 : Y2.cell? ⟨w.heap.size, 4, none⟩ = some (.slice a4 r4.length p4) := A0.out.cell 4
  have c5 : Y2.cell? ⟨w.heap.size, 5, none⟩ = some (.int .i64 x5) := A0.out.cell 5
  have c6 : Y2.cell? ⟨w.heap.size, 6, none⟩ = some (.int .i64 y0) := A0.out.cell 6
  have c7 : Y2.cell? ⟨w.heap.size, 7, none⟩ = some (.string y1) := A0.out.cell 7
  have c8 : Y2.cell? ⟨w.heap.size, 8, none⟩ = some (.string y2) := A0.out.cell 8
  have c9 : Y2.cell? ⟨w.heap.size, 9, none⟩ = some (.int .i64 y3) := A0.out.cell 9
  have c10 : Y2.cell? ⟨w.heap.size, 10, none⟩ = some (.slice b4 s4.length q4) := A0.out.cell 10
  have c11 : Y2.cell? ⟨w.heap.size, 11, none⟩ = some (.int .i64 y5) := A0.out.cell 11
  by_cases h1 : SlotsP x0 x1 x2 x3 r4 x5 y0 y1 y2 y3 s4 y5
  rotate_left
  · have K := Lib.hid (specSlotsOk_bool x0 x1 x2 x3 _ r4 x5 y0 y1 y2 y3 _ s4 y5 false ⟨fun e => (by cases e), fun e => absurd e h1⟩ (by omega) (by omega) Y2 (layIntS.below HR.out BY.out) (layIntS.below HK.out BY.out))
    go_wp2_with fail
    refine (K.out).mono ?_
    rintro e Y3 ⟨rfl, hb⟩
    replace A0 := Lib.hid (A0.out.next hb)
    replace A1 := Lib.hid (A1.out.next hb)
    replace A2 := Lib.hid (A2.out.next hb)
    replace O1 := Lib.hid (layIntS.next O1.out hb)
    replace O2 := Lib.hid (layIntS.next O2.out hb)
    replace BY := Lib.hid (BY.out.trans (hb.mono BY.out.size))
    clear hb K c0 c1 c2 c3 c4 c5 c6 c7 c8 c9 c10 c11
    have c0 : Y3.cell? ⟨w.heap.size, 0, none⟩ = some (.int .i64 x0) := A0.out.cell 0
    have c1 : Y3.cell? ⟨w.heap.size, 1, none⟩ = some (.string x1) := A0.out.cell 1
    have c2 : Y3.cell? ⟨w.heap.size, 2, none⟩ = some (.string x2) := A0.out.cell 2
    have c3 : Y3.cell? ⟨w.heap.size, 3, none⟩ = some (.int .i64 x3) := A0.out.cell 3
    have c4 : Y3.cell? ⟨w.heap.size, 4, none⟩ = some (.slice a4 r4.length p4) := A0.out.cell 4
    have c5 : Y3.cell? ⟨w.heap.size, 5, none⟩ = some (.int .i64 x5) := A0.out.cell 5
    have c6 : Y3.cell? ⟨w.heap.size, 6, none⟩ = some (.int .i64 y0) := A0.out.cell 6
    have c7 : Y3.cell? ⟨w.heap.size, 7, none⟩ = some (.string y1) := A0.out.cell 7
    have c8 : Y3.cell? ⟨w.heap.size, 8, none⟩ = some (.string y2) := A0.out.cell 8
    have c9 : Y3.cell? ⟨w.heap.size, 9, none⟩ = some (.int .i64 y3) := A0.out.cell 9
    have c10 : Y3.cell? ⟨w.heap.size, 10, none⟩ = some (.slice b4 s4.length q4) := A0.out.cell 10
    have c11 : Y3.cell? ⟨w.heap.size, 11, none⟩ = some (.int .i64 y5) := A0.out.cell 11
    go_upto_region 3 with fail
    clear c0 c1 c2 c3 c4 c5 c6 c7 c8 c9 c10 c11
    have c0 : Y3.cell? ⟨G, 0, none⟩ = some (.int .i64 x0) := A2.out.cell 0
    have c1 : Y3.cell? ⟨G, 1, none⟩ = some (.string x1) := A2.out.cell 1
    have c2 : Y3.cell? ⟨G, 2, none⟩ = some (.string x2) := A2.out.cell 2
    have c3 : Y3.cell? ⟨G, 3, none⟩ = some (.int .i64 x3) := A2.out.cell 3
    have c4 : Y3.cell? ⟨G, 4, none⟩ = some (.slice ma r4.length mk) := A2.out.cell 4
    have c5 : Y3.cell? ⟨G, 5, none⟩ = some (.int .i64 x5) := A2.out.cell 5
    have c6 : Y3.cell? ⟨G, 6, none⟩ = some (.int .i64 y0) := A2.out.cell 6
    have c7 : Y3.cell? ⟨G, 7, none⟩ = some (.string y1) := A2.out.cell 7
    have c8 : Y3.cell? ⟨G, 8, none⟩ = some (.string y2) := A2.out.cell 8
    have c9 : Y3.cell? ⟨G, 9, none⟩ = some (.int .i64 y3) := A2.out.cell 9
    have c10 : Y3.cell? ⟨G, 10, none⟩ = some (.slice la s4.length lk) := A2.out.cell 10
    have c11 : Y3.cell? ⟨G, 11, none⟩ = some (.int .i64 y5) := A2.out.cell 11
    have d0 : Y3.cell? ⟨w.heap.size + 1, 0, none⟩ = some (.int .i64 0) := A1.out.cell 0
    have d1 : Y3.cell? ⟨w.heap.size + 1, 1, none⟩ = some (.string ⟨#[]⟩) := A1.out.cell 1
    have d2 : Y3.cell? ⟨w.heap.size + 1, 2, none⟩ = some (.string ⟨#[]⟩) := A1.out.cell 2
    have d3 : Y3.cell? ⟨w.heap.size + 1, 3, none⟩ = some (.int .i64 0) := A1.out.cell 3
    have d4 : Y3.cell? ⟨w.heap.size + 1, 4, none⟩ = some (.slice none 0 0) := A1.out.cell 4
    have d5 : Y3.cell? ⟨w.heap.size + 1, 5, none⟩ = some (.int .i64 0) := A1.out.cell 5
    have d6 : Y3.cell? ⟨w.heap.size + 1, 6, none⟩ = some (.int .i64 0) := A1.out.cell 6
    have d7 : Y3.cell? ⟨w.heap.size + 1, 7, none⟩ = some (.string ⟨#[]⟩) := A1.out.cell 7
    have d8 : Y3.cell? ⟨w.heap.size + 1, 8, none⟩ = some (.string ⟨#[]⟩) := A1.out.cell 8
    have d9 : Y3.cell? ⟨w.heap.size + 1, 9, none⟩ = some (.int .i64 0) := A1.out.cell 9
    have d10 : Y3.cell? ⟨w.heap.size + 1, 10, none⟩ = some (.slice none 0 0) := A1.out.cell 10
    have d11 : Y3.cell? ⟨w.heap.size + 1, 11, none⟩ = some (.int .i64 0) := A1.out.cell 11
    have g0 := A1.out.free 0
    have g1 := A1.out.free 1
    have g2 := A1.out.free 2
    have g3 := A1.out.free 3
    have g4 := A1.out.free 4
    have g5 := A1.out.free 5
    have g6 := A1.out.free 6
    have g7 := A1.out.free 7
    have g8 := A1.out.free 8
    have g9 := A1.out.free 9
    have g10 := A1.out.free 10
    have g11 := A1.out.free 11
    have S1 := putBoth A1.out (.int .i64 x0) (.string x1) (.string x2) (.int .i64 x3) (.slice ma r4.length mk) (.int .i64 x5) (.int .i64 y0) (.string y1) (.string y2) (.int .i64 y3) (.slice la s4.length lk) (.int .i64 y5)
    have j0 := S1.cell 0
    have j1 := S1.cell 1
    have j2 := S1.cell 2
    have j3 := S1.cell 3
    have j4 := S1.cell 4
    have j5 := S1.cell 5
    have j6 := S1.cell 6
    have j7 := S1.cell 7
    have j8 := S1.cell 8
    have j9 := S1.cell 9
    have j10 := S1.cell 10
    have j11 := S1.cell 11
    have E : Hid (Q (.returned (.tuple #[.agg #[.int .i64 x0, .string x1, .string x2, .int .i64 x3, .slice ma r4.length mk, .int .i64 x5, .int .i64 y0, .string y1, .string y2, .int .i64 y3, .slice la s4.length lk, .int .i64 y5], .bool false])) ((((((((((((Y3.setCell ⟨w.heap.size + 1, 0, none⟩ (.int .i64 x0)).setCell ⟨w.heap.size + 1, 1, none⟩ (.string x1)).setCell ⟨w.heap.size + 1, 2, none⟩ (.string x2)).setCell ⟨w.heap.size + 1, 3, none⟩ (.int .i64 x3)).setCell ⟨w.heap.size + 1, 4, none⟩ (.slice ma r4.length mk)).setCell ⟨w.heap.size + 1, 5, none⟩ (.int .i64 x5)).setCell ⟨w.heap.size + 1, 6, none⟩ (.int .i64 y0)).setCell ⟨w.heap.size + 1, 7, none⟩ (.string y1)).setCell ⟨w.heap.size + 1, 8, none⟩ (.string y2)).setCell ⟨w.heap.size + 1, 9, none⟩ (.int .i64 y3)).setCell ⟨w.heap.size + 1, 10, none⟩ (.slice la s4.length lk)).setCell ⟨w.heap.size + 1, 11, none⟩ (.int .i64 y5))) := by
      rw [HQ.out]
      have ho : Only (w.heap.size + 1) Y3 ((((((((((((Y3.setCell ⟨w.heap.size + 1, 0, none⟩ (.int .i64 x0)).setCell ⟨w.heap.size + 1, 1, none⟩ (.string x1)).setCell ⟨w.heap.size + 1, 2, none⟩ (.string x2)).setCell ⟨w.heap.size + 1, 3, none⟩ (.int .i64 x3)).setCell ⟨w.heap.size + 1, 4, none⟩ (.slice ma r4.length mk)).setCell ⟨w.heap.size + 1, 5, none⟩ (.int .i64 x5)).setCell ⟨w.heap.size + 1, 6, none⟩ (.int .i64 y0)).setCell ⟨w.heap.size + 1, 7, none⟩ (.string y1)).setCell ⟨w.heap.size + 1, 8, none⟩ (.string y2)).setCell ⟨w.heap.size + 1, 9, none⟩ (.int .i64 y3)).setCell ⟨w.heap.size + 1, 10, none⟩ (.slice la s4.length lk)).setCell ⟨w.heap.size + 1, 11, none⟩ (.int .i64 y5)) := (putMain_only Y3 (w.heap.size + 1) _ _ _ _ _ _).trans (putLame_only _ (w.heap.size + 1) _ _ _ _ _ _)
      have hbel : Below w.heap.size w ((((((((((((Y3.setCell ⟨w.heap.size + 1, 0, none⟩ (.int .i64 x0)).setCell ⟨w.heap.size + 1, 1, none⟩ (.string x1)).setCell ⟨w.heap.size + 1, 2, none⟩ (.string x2)).setCell ⟨w.heap.size + 1, 3, none⟩ (.int .i64 x3)).setCell ⟨w.heap.size + 1, 4, none⟩ (.slice ma r4.length mk)).setCell ⟨w.heap.size + 1, 5, none⟩ (.int .i64 x5)).setCell ⟨w.heap.size + 1, 6, none⟩ (.int .i64 y0)).setCell ⟨w.heap.size + 1, 7, none⟩ (.string y1)).setCell ⟨w.heap.size + 1, 8, none⟩ (.string y2)).setCell ⟨w.heap.size + 1, 9, none⟩ (.int .i64 y3)).setCell ⟨w.heap.size + 1, 10, none⟩ (.slice la s4.length lk)).setCell ⟨w.heap.size + 1, 11, none⟩ (.int .i64 y5)) := putBoth_below BY.out (show w.heap.size ≤ w.heap.size + 1 by omega) _ _ _ _ _ _ _ _ _ _ _ _
      exact Lib.hid ⟨x0, x1, x2, x3, r4, x5, y0, y1, y2, y3, s4, y5, false, _, _, f, g, .inr ⟨rfl, fun h => h1 h.1, ⟨rfl, rfl, rfl, rfl, rfl, rfl⟩, ⟨rfl, rfl, rfl, rfl, rfl, rfl⟩⟩, rfl, ND.out, layIntS.lower (layIntS.keep O1.out (fun a ha => ho.block a (layIntS.blocks O1.out a ha).2 (by have := (F1.out a ha).1; omega))) (by omega), layIntS.lower (layIntS.keep O2.out (fun a ha => ho.block a (layIntS.blocks O2.out a ha).2 (by have := (F2.out a ha).1; omega))) (by omega), hbel⟩
    clear S1
    go_wp2_with fail
    try simp only [Exit.inBlock, Exit.then]
    exact bodyPost_ret (v := .tuple #[.agg #[.int .i64 x0, .string x1, .string x2, .int .i64 x3, .slice ma r4.length mk, .int .i64 x5, .int .i64 y0, .string y1, .string y2, .int .i64 y3, .slice la s4.length lk, .int .i64 y5], .bool false]) (by simp [results, Tryd.results15, go_sem, j0, j1, j2, j3, j4, j5, j6, j7, j8, j9, j10, j11]) rfl E.out
  have K := Lib.hid (specSlotsOk_bool x0 x1 x2 x3 _ r4 x5 y0 y1 y2 y3 _ s4 y5 true ⟨fun _ => h1, fun _ => rfl⟩ (by omega) (by omega) Y2 (layIntS.below HR.out BY.out) (layIntS.below HK.out BY.out))
  go_wp2_with fail
  refine (K.out).mono ?_
  rintro e Y3 ⟨rfl, hb⟩
  replace A0 := Lib.hid (A0.out.next hb)
  replace A1 := Lib.hid (A1.out.next hb)
  replace A2 := Lib.hid (A2.out.next hb)
  replace O1 := Lib.hid (layIntS.next O1.out hb)
  replace O2 := Lib.hid (layIntS.next O2.out hb)
  replace BY := Lib.hid (BY.out.trans (hb.mono BY.out.size))
  clear hb K c0 c1 c2 c3 c4 c5 c6 c7 c8 c9 c10 c11
  have c0 : Y3.cell? ⟨w.heap.size, 0, none⟩ = some (.int .i64 x0) := A0.out.cell 0
  have c1 : Y3.cell? ⟨w.heap.size, 1, none⟩ = some (.string x1) := A0.out.cell 1
  have c2 : Y3.cell? ⟨w.heap.size, 2, none⟩ = some (.string x2) := A0.out.cell 2
  have c3 : Y3.cell? ⟨w.heap.size, 3, none⟩ = some (.int .i64 x3) := A0.out.cell 3
  have c4 : Y3.cell? ⟨w.heap.size, 4, none⟩ = some (.slice a4 r4.length p4) := A0.out.cell 4
  have c5 : Y3.cell? ⟨w.heap.size, 5, none⟩ = some (.int .i64 x5) := A0.out.cell 5
  have c6 : Y3.cell? ⟨w.heap.size, 6, none⟩ = some (.int .i64 y0) := A0.out.cell 6
  have c7 : Y3.cell? ⟨w.heap.size, 7, none⟩ = some (.string y1) := A0.out.cell 7
  have c8 : Y3.cell? ⟨w.heap.size, 8, none⟩ = some (.string y2) := A0.out.cell 8
  have c9 : Y3.cell? ⟨w.heap.size, 9, none⟩ = some (.int .i64 y3) := A0.out.cell 9
  have c10 : Y3.cell? ⟨w.heap.size, 10, none⟩ = some (.slice b4 s4.length q4) := A0.out.cell 10
  have c11 : Y3.cell? ⟨w.heap.size, 11, none⟩ = some (.int .i64 y5) := A0.out.cell 11
  by_cases h2 : (send.size : Int) = 32
  rotate_left
  · have q2 := nat_no h2
    go_upto_region 3 with fail
    clear c0 c1 c2 c3 c4 c5 c6 c7 c8 c9 c10 c11
    have c0 : Y3.cell? ⟨G, 0, none⟩ = some (.int .i64 x0) := A2.out.cell 0
    have c1 : Y3.cell? ⟨G, 1, none⟩ = some (.string x1) := A2.out.cell 1
    have c2 : Y3.cell? ⟨G, 2, none⟩ = some (.string x2) := A2.out.cell 2
    have c3 : Y3.cell? ⟨G, 3, none⟩ = some (.int .i64 x3) := A2.out.cell 3
    have c4 : Y3.cell? ⟨G, 4, none⟩ = some (.slice ma r4.length mk) := A2.out.cell 4
    have c5 : Y3.cell? ⟨G, 5, none⟩ = some (.int .i64 x5) := A2.out.cell 5
    have c6 : Y3.cell? ⟨G, 6, none⟩ = some (.int .i64 y0) := A2.out.cell 6
    have c7 : Y3.cell? ⟨G, 7, none⟩ = some (.string y1) := A2.out.cell 7
    have c8 : Y3.cell? ⟨G, 8, none⟩ = some (.string y2) := A2.out.cell 8
    have c9 : Y3.cell? ⟨G, 9, none⟩ = some (.int .i64 y3) := A2.out.cell 9
    have c10 : Y3.cell? ⟨G, 10, none⟩ = some (.slice la s4.length lk) := A2.out.cell 10
    have c11 : Y3.cell? ⟨G, 11, none⟩ = some (.int .i64 y5) := A2.out.cell 11
    have d0 : Y3.cell? ⟨w.heap.size + 1, 0, none⟩ = some (.int .i64 0) := A1.out.cell 0
    have d1 : Y3.cell? ⟨w.heap.size + 1, 1, none⟩ = some (.string ⟨#[]⟩) := A1.out.cell 1
    have d2 : Y3.cell? ⟨w.heap.size + 1, 2, none⟩ = some (.string ⟨#[]⟩) := A1.out.cell 2
    have d3 : Y3.cell? ⟨w.heap.size + 1, 3, none⟩ = some (.int .i64 0) := A1.out.cell 3
    have d4 : Y3.cell? ⟨w.heap.size + 1, 4, none⟩ = some (.slice none 0 0) := A1.out.cell 4
    have d5 : Y3.cell? ⟨w.heap.size + 1, 5, none⟩ = some (.int .i64 0) := A1.out.cell 5
    have d6 : Y3.cell? ⟨w.heap.size + 1, 6, none⟩ = some (.int .i64 0) := A1.out.cell 6
    have d7 : Y3.cell? ⟨w.heap.size + 1, 7, none⟩ = some (.string ⟨#[]⟩) := A1.out.cell 7
    have d8 : Y3.cell? ⟨w.heap.size + 1, 8, none⟩ = some (.string ⟨#[]⟩) := A1.out.cell 8
    have d9 : Y3.cell? ⟨w.heap.size + 1, 9, none⟩ = some (.int .i64 0) := A1.out.cell 9
    have d10 : Y3.cell? ⟨w.heap.size + 1, 10, none⟩ = some (.slice none 0 0) := A1.out.cell 10
    have d11 : Y3.cell? ⟨w.heap.size + 1, 11, none⟩ = some (.int .i64 0) := A1.out.cell 11
    have g0 := A1.out.free 0
    have g1 := A1.out.free 1
    have g2 := A1.out.free 2
    have g3 := A1.out.free 3
    have g4 := A1.out.free 4
    have g5 := A1.out.free 5
    have g6 := A1.out.free 6
    have g7 := A1.out.free 7
    have g8 := A1.out.free 8
    have g9 := A1.out.free 9
    have g10 := A1.out.free 10
    have g11 := A1.out.free 11
    have S1 := putBoth A1.out (.int .i64 x0) (.string x1) (.string x2) (.int .i64 x3) (.slice ma r4.length mk) (.int .i64 x5) (.int .i64 y0) (.string y1) (.string y2) (.int .i64 y3) (.slice la s4.length lk) (.int .i64 y5)
    have j0 := S1.cell 0
    have j1 := S1.cell 1
    have j2 := S1.cell 2
    have j3 := S1.cell 3
    have j4 := S1.cell 4
    have j5 := S1.cell 5
    have j6 := S1.cell 6
    have j7 := S1.cell 7
    have j8 := S1.cell 8
    have j9 := S1.cell 9
    have j10 := S1.cell 10
    have j11 := S1.cell 11
    have E : Hid (Q (.returned (.tuple #[.agg #[.int .i64 x0, .string x1, .string x2, .int .i64 x3, .slice ma r4.length mk, .int .i64 x5, .int .i64 y0, .string y1, .string y2, .int .i64 y3, .slice la s4.length lk, .int .i64 y5], .bool false])) ((((((((((((Y3.setCell ⟨w.heap.size + 1, 0, none⟩ (.int .i64 x0)).setCell ⟨w.heap.size + 1, 1, none⟩ (.string x1)).setCell ⟨w.heap.size + 1, 2, none⟩ (.string x2)).setCell ⟨w.heap.size + 1, 3, none⟩ (.int .i64 x3)).setCell ⟨w.heap.size + 1, 4, none⟩ (.slice ma r4.length mk)).setCell ⟨w.heap.size + 1, 5, none⟩ (.int .i64 x5)).setCell ⟨w.heap.size + 1, 6, none⟩ (.int .i64 y0)).setCell ⟨w.heap.size + 1, 7, none⟩ (.string y1)).setCell ⟨w.heap.size + 1, 8, none⟩ (.string y2)).setCell ⟨w.heap.size + 1, 9, none⟩ (.int .i64 y3)).setCell ⟨w.heap.size + 1, 10, none⟩ (.slice la s4.length lk)).setCell ⟨w.heap.size + 1, 11, none⟩ (.int .i64 y5))) := by
      rw [HQ.out]
      have ho : Only (w.heap.size + 1) Y3 ((((((((((((Y3.setCell ⟨w.heap.size + 1, 0, none⟩ (.int .i64 x0)).setCell ⟨w.heap.size + 1, 1, none⟩ (.string x1)).setCell ⟨w.heap.size + 1, 2, none⟩ (.string x2)).setCell ⟨w.heap.size + 1, 3, none⟩ (.int .i64 x3)).setCell ⟨w.heap.size + 1, 4, none⟩ (.slice ma r4.length mk)).setCell ⟨w.heap.size + 1, 5, none⟩ (.int .i64 x5)).setCell ⟨w.heap.size + 1, 6, none⟩ (.int .i64 y0)).setCell ⟨w.heap.size + 1, 7, none⟩ (.string y1)).setCell ⟨w.heap.size + 1, 8, none⟩ (.string y2)).setCell ⟨w.heap.size + 1, 9, none⟩ (.int .i64 y3)).setCell ⟨w.heap.size + 1, 10, none⟩ (.slice la s4.length lk)).setCell ⟨w.heap.size + 1, 11, none⟩ (.int .i64 y5)) := (putMain_only Y3 (w.heap.size + 1) _ _ _ _ _ _).trans (putLame_only _ (w.heap.size + 1) _ _ _ _ _ _)
      have hbel : Below w.heap.size w ((((((((((((Y3.setCell ⟨w.heap.size + 1, 0, none⟩ (.int .i64 x0)).setCell ⟨w.heap.size + 1, 1, none⟩ (.string x1)).setCell ⟨w.heap.size + 1, 2, none⟩ (.string x2)).setCell ⟨w.heap.size + 1, 3, none⟩ (.int .i64 x3)).setCell ⟨w.heap.size + 1, 4, none⟩ (.slice ma r4.length mk)).setCell ⟨w.heap.size + 1, 5, none⟩ (.int .i64 x5)).setCell ⟨w.heap.size + 1, 6, none⟩ (.int .i64 y0)).setCell ⟨w.heap.size + 1, 7, none⟩ (.string y1)).setCell ⟨w.heap.size + 1, 8, none⟩ (.string y2)).setCell ⟨w.heap.size + 1, 9, none⟩ (.int .i64 y3)).setCell ⟨w.heap.size + 1, 10, none⟩ (.slice la s4.length lk)).setCell ⟨w.heap.size + 1, 11, none⟩ (.int .i64 y5)) := putBoth_below BY.out (show w.heap.size ≤ w.heap.size + 1 by omega) _ _ _ _ _ _ _ _ _ _ _ _
      exact Lib.hid ⟨x0, x1, x2, x3, r4, x5, y0, y1, y2, y3, s4, y5, false, _, _, f, g, .inr ⟨rfl, fun h => h2 (by have := h.2.1; omega), ⟨rfl, rfl, rfl, rfl, rfl, rfl⟩, ⟨rfl, rfl, rfl, rfl, rfl, rfl⟩⟩, rfl, ND.out, layIntS.lower (layIntS.keep O1.out (fun a ha => ho.block a (layIntS.blocks O1.out a ha).2 (by have := (F1.out a ha).1; omega))) (by omega), layIntS.lower (layIntS.keep O2.out (fun a ha => ho.block a (layIntS.blocks O2.out a ha).2 (by have := (F2.out a ha).1; omega))) (by omega), hbel⟩
    clear S1
    go_wp2_with fail
    try simp only [Exit.inBlock, Exit.then]
    exact bodyPost_ret (v := .tuple #[.agg #[.int .i64 x0, .string x1, .string x2, .int .i64 x3, .slice ma r4.length mk, .int .i64 x5, .int .i64 y0, .string y1, .string y2, .int .i64 y3, .slice la s4.length lk, .int .i64 y5], .bool false]) (by simp [results, Tryd.results15, go_sem, j0, j1, j2, j3, j4, j5, j6, j7, j8, j9, j10, j11]) rfl E.out
  have q2 := nat_yes h2
  by_cases h3 : (op.size : Int) = 32
  rotate_left
  · have q3 := nat_no h3
    go_upto_region 3 with fail
    clear c0 c1 c2 c3 c4 c5 c6 c7 c8 c9 c10 c11
    have c0 : Y3.cell? ⟨G, 0, none⟩ = some (.int .i64 x0) := A2.out.cell 0
    have c1 : Y3.cell? ⟨G, 1, none⟩ = some (.string x1) := A2.out.cell 1
    have c2 : Y3.cell? ⟨G, 2, none⟩ = some (.string x2) := A2.out.cell 2
    have c3 : Y3.cell? ⟨G, 3, none⟩ = some (.int .i64 x3) := A2.out.cell 3
    have c4 : Y3.cell? ⟨G, 4, none⟩ = some (.slice ma r4.length mk) := A2.out.cell 4
    have c5 : Y3.cell? ⟨G, 5, none⟩ = some (.int .i64 x5) := A2.out.cell 5
    have c6 : Y3.cell? ⟨G, 6, none⟩ = some (.int .i64 y0) := A2.out.cell 6
    have c7 : Y3.cell? ⟨G, 7, none⟩ = some (.string y1) := A2.out.cell 7
    have c8 : Y3.cell? ⟨G, 8, none⟩ = some (.string y2) := A2.out.cell 8
    have c9 : Y3.cell? ⟨G, 9, none⟩ = some (.int .i64 y3) := A2.out.cell 9
    have c10 : Y3.cell? ⟨G, 10, none⟩ = some (.slice la s4.length lk) := A2.out.cell 10
    have c11 : Y3.cell? ⟨G, 11, none⟩ = some (.int .i64 y5) := A2.out.cell 11
    have d0 : Y3.cell? ⟨w.heap.size + 1, 0, none⟩ = some (.int .i64 0) := A1.out.cell 0
    have d1 : Y3.cell? ⟨w.heap.size + 1, 1, none⟩ = some (.string ⟨#[]⟩) := A1.out.cell 1
    have d2 : Y3.cell? ⟨w.heap.size + 1, 2, none⟩ = some (.string ⟨#[]⟩) := A1.out.cell 2
    have d3 : Y3.cell? ⟨w.heap.size + 1, 3, none⟩ = some (.int .i64 0) := A1.out.cell 3
    have d4 : Y3.cell? ⟨w.heap.size + 1, 4, none⟩ = some (.slice none 0 0) := A1.out.cell 4
    have d5 : Y3.cell? ⟨w.heap.size + 1, 5, none⟩ = some (.int .i64 0) := A1.out.cell 5
    have d6 : Y3.cell? ⟨w.heap.size + 1, 6, none⟩ = some (.int .i64 0) := A1.out.cell 6
    have d7 : Y3.cell? ⟨w.heap.size + 1, 7, none⟩ = some (.string ⟨#[]⟩) := A1.out.cell 7
    have d8 : Y3.cell? ⟨w.heap.size + 1, 8, none⟩ = some (.string ⟨#[]⟩) := A1.out.cell 8
    have d9 : Y3.cell? ⟨w.heap.size + 1, 9, none⟩ = some (.int .i64 0) := A1.out.cell 9
    have d10 : Y3.cell? ⟨w.heap.size + 1, 10, none⟩ = some (.slice none 0 0) := A1.out.cell 10
    have d11 : Y3.cell? ⟨w.heap.size + 1, 11, none⟩ = some (.int .i64 0) := A1.out.cell 11
    have g0 := A1.out.free 0
    have g1 := A1.out.free 1
    have g2 := A1.out.free 2
    have g3 := A1.out.free 3
    have g4 := A1.out.free 4
    have g5 := A1.out.free 5
    have g6 := A1.out.free 6
    have g7 := A1.out.free 7
    have g8 := A1.out.free 8
    have g9 := A1.out.free 9
    have g10 := A1.out.free 10
    have g11 := A1.out.free 11
    have S1 := putBoth A1.out (.int .i64 x0) (.string x1) (.string x2) (.int .i64 x3) (.slice ma r4.length mk) (.int .i64 x5) (.int .i64 y0) (.string y1) (.string y2) (.int .i64 y3) (.slice la s4.length lk) (.int .i64 y5)
    have j0 := S1.cell 0
    have j1 := S1.cell 1
    have j2 := S1.cell 2
    have j3 := S1.cell 3
    have j4 := S1.cell 4
    have j5 := S1.cell 5
    have j6 := S1.cell 6
    have j7 := S1.cell 7
    have j8 := S1.cell 8
    have j9 := S1.cell 9
    have j10 := S1.cell 10
    have j11 := S1.cell 11
    have E : Hid (Q (.returned (.tuple #[.agg #[.int .i64 x0, .string x1, .string x2, .int .i64 x3, .slice ma r4.length mk, .int .i64 x5, .int .i64 y0, .string y1, .string y2, .int .i64 y3, .slice la s4.length lk, .int .i64 y5], .bool false])) ((((((((((((Y3.setCell ⟨w.heap.size + 1, 0, none⟩ (.int .i64 x0)).setCell ⟨w.heap.size + 1, 1, none⟩ (.string x1)).setCell ⟨w.heap.size + 1, 2, none⟩ (.string x2)).setCell ⟨w.heap.size + 1, 3, none⟩ (.int .i64 x3)).setCell ⟨w.heap.size + 1, 4, none⟩ (.slice ma r4.length mk)).setCell ⟨w.heap.size + 1, 5, none⟩ (.int .i64 x5)).setCell ⟨w.heap.size + 1, 6, none⟩ (.int .i64 y0)).setCell ⟨w.heap.size + 1, 7, none⟩ (.string y1)).setCell ⟨w.heap.size + 1, 8, none⟩ (.string y2)).setCell ⟨w.heap.size + 1, 9, none⟩ (.int .i64 y3)).setCell ⟨w.heap.size + 1, 10, none⟩ (.slice la s4.length lk)).setCell ⟨w.heap.size + 1, 11, none⟩ (.int .i64 y5))) := by
      rw [HQ.out]
      have ho : Only (w.heap.size + 1) Y3 ((((((((((((Y3.setCell ⟨w.heap.size + 1, 0, none⟩ (.int .i64 x0)).setCell ⟨w.heap.size + 1, 1, none⟩ (.string x1)).setCell ⟨w.heap.size + 1, 2, none⟩ (.string x2)).setCell ⟨w.heap.size + 1, 3, none⟩ (.int .i64 x3)).setCell ⟨w.heap.size + 1, 4, none⟩ (.slice ma r4.length mk)).setCell ⟨w.heap.size + 1, 5, none⟩ (.int .i64 x5)).setCell ⟨w.heap.size + 1, 6, none⟩ (.int .i64 y0)).setCell ⟨w.heap.size + 1, 7, none⟩ (.string y1)).setCell ⟨w.heap.size + 1, 8, none⟩ (.string y2)).setCell ⟨w.heap.size + 1, 9, none⟩ (.int .i64 y3)).setCell ⟨w.heap.size + 1, 10, none⟩ (.slice la s4.length lk)).setCell ⟨w.heap.size + 1, 11, none⟩ (.int .i64 y5)) := (putMain_only Y3 (w.heap.size + 1) _ _ _ _ _ _).trans (putLame_only _ (w.heap.size + 1) _ _ _ _ _ _)
      have hbel : Below w.heap.size w ((((((((((((Y3.setCell ⟨w.heap.size + 1, 0, none⟩ (.int .i64 x0)).setCell ⟨w.heap.size + 1, 1, none⟩ (.string x1)).setCell ⟨w.heap.size + 1, 2, none⟩ (.string x2)).setCell ⟨w.heap.size + 1, 3, none⟩ (.int .i64 x3)).setCell ⟨w.heap.size + 1, 4, none⟩ (.slice ma r4.length mk)).setCell ⟨w.heap.size + 1, 5, none⟩ (.int .i64 x5)).setCell ⟨w.heap.size + 1, 6, none⟩ (.int .i64 y0)).setCell ⟨w.heap.size + 1, 7, none⟩ (.string y1)).setCell ⟨w.heap.size + 1, 8, none⟩ (.string y2)).setCell ⟨w.heap.size + 1, 9, none⟩ (.int .i64 y3)).setCell ⟨w.heap.size + 1, 10, none⟩ (.slice la s4.length lk)).setCell ⟨w.heap.size + 1, 11, none⟩ (.int .i64 y5)) := putBoth_below BY.out (show w.heap.size ≤ w.heap.size + 1 by omega) _ _ _ _ _ _ _ _ _ _ _ _
      exact Lib.hid ⟨x0, x1, x2, x3, r4, x5, y0, y1, y2, y3, s4, y5, false, _, _, f, g, .inr ⟨rfl, fun h => h3 (by have := h.2.2.1; omega), ⟨rfl, rfl, rfl, rfl, rfl, rfl⟩, ⟨rfl, rfl, rfl, rfl, rfl, rfl⟩⟩, rfl, ND.out, layIntS.lower (layIntS.keep O1.out (fun a ha => ho.block a (layIntS.blocks O1.out a ha).2 (by have := (F1.out a ha).1; omega))) (by omega), layIntS.lower (layIntS.keep O2.out (fun a ha => ho.block a (layIntS.blocks O2.out a ha).2 (by have := (F2.out a ha).1; omega))) (by omega), hbel⟩
    clear S1
    go_wp2_with fail
    try simp only [Exit.inBlock, Exit.then]
    exact bodyPost_ret (v := .tuple #[.agg #[.int .i64 x0, .string x1, .string x2, .int .i64 x3, .slice ma r4.length mk, .int .i64 x5, .int .i64 y0, .string y1, .string y2, .int .i64 y3, .slice la s4.length lk, .int .i64 y5], .bool false]) (by simp [results, Tryd.results15, go_sem, j0, j1, j2, j3, j4, j5, j6, j7, j8, j9, j10, j11]) rfl E.out
  have q3 := nat_yes h3
  by_cases h4 : 0 ≤ now ∧ now ≤ 999999990
  rotate_left
  · have K := Lib.hid (inRange_no now 0 999999990 (by omega) Y3)
    go_wp2_with fail
    refine (K.out).mono ?_
    rintro e Z9 ⟨rfl, hz9⟩
    rw [hz9]
    clear hz9 Z9 K
    go_upto_region 3 with fail
    clear c0 c1 c2 c3 c4 c5 c6 c7 c8 c9 c10 c11
    have c0 : Y3.cell? ⟨G, 0, none⟩ = some (.int .i64 x0) := A2.out.cell 0
    have c1 : Y3.cell? ⟨G, 1, none⟩ = some (.string x1) := A2.out.cell 1
    have c2 : Y3.cell? ⟨G, 2, none⟩ = some (.string x2) := A2.out.cell 2
    have c3 : Y3.cell? ⟨G, 3, none⟩ = some (.int .i64 x3) := A2.out.cell 3
    have c4 : Y3.cell? ⟨G, 4, none⟩ = some (.slice ma r4.length mk) := A2.out.cell 4
    have c5 : Y3.cell? ⟨G, 5, none⟩ = some (.int .i64 x5) := A2.out.cell 5
    have c6 : Y3.cell? ⟨G, 6, none⟩ = some (.int .i64 y0) := A2.out.cell 6
    have c7 : Y3.cell? ⟨G, 7, none⟩ = some (.string y1) := A2.out.cell 7
    have c8 : Y3.cell? ⟨G, 8, none⟩ = some (.string y2) := A2.out.cell 8
    have c9 : Y3.cell? ⟨G, 9, none⟩ = some (.int .i64 y3) := A2.out.cell 9
    have c10 : Y3.cell? ⟨G, 10, none⟩ = some (.slice la s4.length lk) := A2.out.cell 10
    have c11 : Y3.cell? ⟨G, 11, none⟩ = some (.int .i64 y5) := A2.out.cell 11
    have d0 : Y3.cell? ⟨w.heap.size + 1, 0, none⟩ = some (.int .i64 0) := A1.out.cell 0
    have d1 : Y3.cell? ⟨w.heap.size + 1, 1, none⟩ = some (.string ⟨#[]⟩) := A1.out.cell 1
    have d2 : Y3.cell? ⟨w.heap.size + 1, 2, none⟩ = some (.string ⟨#[]⟩) := A1.out.cell 2
    have d3 : Y3.cell? ⟨w.heap.size + 1, 3, none⟩ = some (.int .i64 0) := A1.out.cell 3
    have d4 : Y3.cell? ⟨w.heap.size + 1, 4, none⟩ = some (.slice none 0 0) := A1.out.cell 4
    have d5 : Y3.cell? ⟨w.heap.size + 1, 5, none⟩ = some (.int .i64 0) := A1.out.cell 5
    have d6 : Y3.cell? ⟨w.heap.size + 1, 6, none⟩ = some (.int .i64 0) := A1.out.cell 6
    have d7 : Y3.cell? ⟨w.heap.size + 1, 7, none⟩ = some (.string ⟨#[]⟩) := A1.out.cell 7
    have d8 : Y3.cell? ⟨w.heap.size + 1, 8, none⟩ = some (.string ⟨#[]⟩) := A1.out.cell 8
    have d9 : Y3.cell? ⟨w.heap.size + 1, 9, none⟩ = some (.int .i64 0) := A1.out.cell 9
    have d10 : Y3.cell? ⟨w.heap.size + 1, 10, none⟩ = some (.slice none 0 0) := A1.out.cell 10
    have d11 : Y3.cell? ⟨w.heap.size + 1, 11, none⟩ = some (.int .i64 0) := A1.out.cell 11
    have g0 := A1.out.free 0
    have g1 := A1.out.free 1
    have g2 := A1.out.free 2
    have g3 := A1.out.free 3
    have g4 := A1.out.free 4
    have g5 := A1.out.free 5
    have g6 := A1.out.free 6
    have g7 := A1.out.free 7
    have g8 := A1.out.free 8
    have g9 := A1.out.free 9
    have g10 := A1.out.free 10
    have g11 := A1.out.free 11
    have S1 := putBoth A1.out (.int .i64 x0) (.string x1) (.string x2) (.int .i64 x3) (.slice ma r4.length mk) (.int .i64 x5) (.int .i64 y0) (.string y1) (.string y2) (.int .i64 y3) (.slice la s4.length lk) (.int .i64 y5)
    have j0 := S1.cell 0
    have j1 := S1.cell 1
    have j2 := S1.cell 2
    have j3 := S1.cell 3
    have j4 := S1.cell 4
    have j5 := S1.cell 5
    have j6 := S1.cell 6
    have j7 := S1.cell 7
    have j8 := S1.cell 8
    have j9 := S1.cell 9
    have j10 := S1.cell 10
    have j11 := S1.cell 11
    have E : Hid (Q (.returned (.tuple #[.agg #[.int .i64 x0, .string x1, .string x2, .int .i64 x3, .slice ma r4.length mk, .int .i64 x5, .int .i64 y0, .string y1, .string y2, .int .i64 y3, .slice la s4.length lk, .int .i64 y5], .bool false])) ((((((((((((Y3.setCell ⟨w.heap.size + 1, 0, none⟩ (.int .i64 x0)).setCell ⟨w.heap.size + 1, 1, none⟩ (.string x1)).setCell ⟨w.heap.size + 1, 2, none⟩ (.string x2)).setCell ⟨w.heap.size + 1, 3, none⟩ (.int .i64 x3)).setCell ⟨w.heap.size + 1, 4, none⟩ (.slice ma r4.length mk)).setCell ⟨w.heap.size + 1, 5, none⟩ (.int .i64 x5)).setCell ⟨w.heap.size + 1, 6, none⟩ (.int .i64 y0)).setCell ⟨w.heap.size + 1, 7, none⟩ (.string y1)).setCell ⟨w.heap.size + 1, 8, none⟩ (.string y2)).setCell ⟨w.heap.size + 1, 9, none⟩ (.int .i64 y3)).setCell ⟨w.heap.size + 1, 10, none⟩ (.slice la s4.length lk)).setCell ⟨w.heap.size + 1, 11, none⟩ (.int .i64 y5))) := by
      rw [HQ.out]
      have ho : Only (w.heap.size + 1) Y3 ((((((((((((Y3.setCell ⟨w.heap.size + 1, 0, none⟩ (.int .i64 x0)).setCell ⟨w.heap.size + 1, 1, none⟩ (.string x1)).setCell ⟨w.heap.size + 1, 2, none⟩ (.string x2)).setCell ⟨w.heap.size + 1, 3, none⟩ (.int .i64 x3)).setCell ⟨w.heap.size + 1, 4, none⟩ (.slice ma r4.length mk)).setCell ⟨w.heap.size + 1, 5, none⟩ (.int .i64 x5)).setCell ⟨w.heap.size + 1, 6, none⟩ (.int .i64 y0)).setCell ⟨w.heap.size + 1, 7, none⟩ (.string y1)).setCell ⟨w.heap.size + 1, 8, none⟩ (.string y2)).setCell ⟨w.heap.size + 1, 9, none⟩ (.int .i64 y3)).setCell ⟨w.heap.size + 1, 10, none⟩ (.slice la s4.length lk)).setCell ⟨w.heap.size + 1, 11, none⟩ (.int .i64 y5)) := (putMain_only Y3 (w.heap.size + 1) _ _ _ _ _ _).trans (putLame_only _ (w.heap.size + 1) _ _ _ _ _ _)
      have hbel : Below w.heap.size w ((((((((((((Y3.setCell ⟨w.heap.size + 1, 0, none⟩ (.int .i64 x0)).setCell ⟨w.heap.size + 1, 1, none⟩ (.string x1)).setCell ⟨w.heap.size + 1, 2, none⟩ (.string x2)).setCell ⟨w.heap.size + 1, 3, none⟩ (.int .i64 x3)).setCell ⟨w.heap.size + 1, 4, none⟩ (.slice ma r4.length mk)).setCell ⟨w.heap.size + 1, 5, none⟩ (.int .i64 x5)).setCell ⟨w.heap.size + 1, 6, none⟩ (.int .i64 y0)).setCell ⟨w.heap.size + 1, 7, none⟩ (.string y1)).setCell ⟨w.heap.size + 1, 8, none⟩ (.string y2)).setCell ⟨w.heap.size + 1, 9, none⟩ (.int .i64 y3)).setCell ⟨w.heap.size + 1, 10, none⟩ (.slice la s4.length lk)).setCell ⟨w.heap.size + 1, 11, none⟩ (.int .i64 y5)) := putBoth_below BY.out (show w.heap.size ≤ w.heap.size + 1 by omega) _ _ _ _ _ _ _ _ _ _ _ _
      exact Lib.hid ⟨x0, x1, x2, x3, r4, x5, y0, y1, y2, y3, s4, y5, false, _, _, f, g, .inr ⟨rfl, fun h => h4 h.2.2.2.1, ⟨rfl, rfl, rfl, rfl, rfl, rfl⟩, ⟨rfl, rfl, rfl, rfl, rfl, rfl⟩⟩, rfl, ND.out, layIntS.lower (layIntS.keep O1.out (fun a ha => ho.block a (layIntS.blocks O1.out a ha).2 (by have := (F1.out a ha).1; omega))) (by omega), layIntS.lower (layIntS.keep O2.out (fun a ha => ho.block a (layIntS.blocks O2.out a ha).2 (by have := (F2.out a ha).1; omega))) (by omega), hbel⟩
    clear S1
    go_wp2_with fail
    try simp only [Exit.inBlock, Exit.then]
    exact bodyPost_ret (v := .tuple #[.agg #[.int .i64 x0, .string x1, .string x2, .int .i64 x3, .slice ma r4.length mk, .int .i64 x5, .int .i64 y0, .string y1, .string y2, .int .i64 y3, .slice la s4.length lk, .int .i64 y5], .bool false]) (by simp [results, Tryd.results15, go_sem, j0, j1, j2, j3, j4, j5, j6, j7, j8, j9, j10, j11]) rfl E.out
  have K := Lib.hid (inRange_yes now 0 999999990 h4.1 h4.2 Y3)
  go_wp2_with fail
  refine (K.out).mono ?_
  rintro e Z9 ⟨rfl, hz9⟩
  rw [hz9]
  clear hz9 Z9 K
  by_cases h5 : x0 = 1000000000
  · have q5 := int_yes h5
    have HNO : Hid (¬ InstallP x0 x1 x2 x3 r4 x5 y0 y1 y2 y3 s4 y5 send op now) := Lib.hid (fun h => h.2.2.2.2 h5)
    clear h5
    go_upto_region 3 with fail
    clear c0 c1 c2 c3 c4 c5 c6 c7 c8 c9 c10 c11
    have c0 : Y3.cell? ⟨G, 0, none⟩ = some (.int .i64 x0) := A2.out.cell 0
    have c1 : Y3.cell? ⟨G, 1, none⟩ = some (.string x1) := A2.out.cell 1
    have c2 : Y3.cell? ⟨G, 2, none⟩ = some (.string x2) := A2.out.cell 2
    have c3 : Y3.cell? ⟨G, 3, none⟩ = some (.int .i64 x3) := A2.out.cell 3
    have c4 : Y3.cell? ⟨G, 4, none⟩ = some (.slice ma r4.length mk) := A2.out.cell 4
    have c5 : Y3.cell? ⟨G, 5, none⟩ = some (.int .i64 x5) := A2.out.cell 5
    have c6 : Y3.cell? ⟨G, 6, none⟩ = some (.int .i64 y0) := A2.out.cell 6
    have c7 : Y3.cell? ⟨G, 7, none⟩ = some (.string y1) := A2.out.cell 7
    have c8 : Y3.cell? ⟨G, 8, none⟩ = some (.string y2) := A2.out.cell 8
    have c9 : Y3.cell? ⟨G, 9, none⟩ = some (.int .i64 y3) := A2.out.cell 9
    have c10 : Y3.cell? ⟨G, 10, none⟩ = some (.slice la s4.length lk) := A2.out.cell 10
    have c11 : Y3.cell? ⟨G, 11, none⟩ = some (.int .i64 y5) := A2.out.cell 11
    have d0 : Y3.cell? ⟨w.heap.size + 1, 0, none⟩ = some (.int .i64 0) := A1.out.cell 0
    have d1 : Y3.cell? ⟨w.heap.size + 1, 1, none⟩ = some (.string ⟨#[]⟩) := A1.out.cell 1
    have d2 : Y3.cell? ⟨w.heap.size + 1, 2, none⟩ = some (.string ⟨#[]⟩) := A1.out.cell 2
    have d3 : Y3.cell? ⟨w.heap.size + 1, 3, none⟩ = some (.int .i64 0) := A1.out.cell 3
    have d4 : Y3.cell? ⟨w.heap.size + 1, 4, none⟩ = some (.slice none 0 0) := A1.out.cell 4
    have d5 : Y3.cell? ⟨w.heap.size + 1, 5, none⟩ = some (.int .i64 0) := A1.out.cell 5
    have d6 : Y3.cell? ⟨w.heap.size + 1, 6, none⟩ = some (.int .i64 0) := A1.out.cell 6
    have d7 : Y3.cell? ⟨w.heap.size + 1, 7, none⟩ = some (.string ⟨#[]⟩) := A1.out.cell 7
    have d8 : Y3.cell? ⟨w.heap.size + 1, 8, none⟩ = some (.string ⟨#[]⟩) := A1.out.cell 8
    have d9 : Y3.cell? ⟨w.heap.size + 1, 9, none⟩ = some (.int .i64 0) := A1.out.cell 9
    have d10 : Y3.cell? ⟨w.heap.size + 1, 10, none⟩ = some (.slice none 0 0) := A1.out.cell 10
    have d11 : Y3.cell? ⟨w.heap.size + 1, 11, none⟩ = some (.int .i64 0) := A1.out.cell 11
    have g0 := A1.out.free 0
    have g1 := A1.out.free 1
    have g2 := A1.out.free 2
    have g3 := A1.out.free 3
    have g4 := A1.out.free 4
    have g5 := A1.out.free 5
    have g6 := A1.out.free 6
    have g7 := A1.out.free 7
    have g8 := A1.out.free 8
    have g9 := A1.out.free 9
    have g10 := A1.out.free 10
    have g11 := A1.out.free 11
    have S1 := putBoth A1.out (.int .i64 x0) (.string x1) (.string x2) (.int .i64 x3) (.slice ma r4.length mk) (.int .i64 x5) (.int .i64 y0) (.string y1) (.string y2) (.int .i64 y3) (.slice la s4.length lk) (.int .i64 y5)
    have j0 := S1.cell 0
    have j1 := S1.cell 1
    have j2 := S1.cell 2
    have j3 := S1.cell 3
    have j4 := S1.cell 4
    have j5 := S1.cell 5
    have j6 := S1.cell 6
    have j7 := S1.cell 7
    have j8 := S1.cell 8
    have j9 := S1.cell 9
    have j10 := S1.cell 10
    have j11 := S1.cell 11
    have E : Hid (Q (.returned (.tuple #[.agg #[.int .i64 x0, .string x1, .string x2, .int .i64 x3, .slice ma r4.length mk, .int .i64 x5, .int .i64 y0, .string y1, .string y2, .int .i64 y3, .slice la s4.length lk, .int .i64 y5], .bool false])) ((((((((((((Y3.setCell ⟨w.heap.size + 1, 0, none⟩ (.int .i64 x0)).setCell ⟨w.heap.size + 1, 1, none⟩ (.string x1)).setCell ⟨w.heap.size + 1, 2, none⟩ (.string x2)).setCell ⟨w.heap.size + 1, 3, none⟩ (.int .i64 x3)).setCell ⟨w.heap.size + 1, 4, none⟩ (.slice ma r4.length mk)).setCell ⟨w.heap.size + 1, 5, none⟩ (.int .i64 x5)).setCell ⟨w.heap.size + 1, 6, none⟩ (.int .i64 y0)).setCell ⟨w.heap.size + 1, 7, none⟩ (.string y1)).setCell ⟨w.heap.size + 1, 8, none⟩ (.string y2)).setCell ⟨w.heap.size + 1, 9, none⟩ (.int .i64 y3)).setCell ⟨w.heap.size + 1, 10, none⟩ (.slice la s4.length lk)).setCell ⟨w.heap.size + 1, 11, none⟩ (.int .i64 y5))) := by
      rw [HQ.out]
      have ho : Only (w.heap.size + 1) Y3 ((((((((((((Y3.setCell ⟨w.heap.size + 1, 0, none⟩ (.int .i64 x0)).setCell ⟨w.heap.size + 1, 1, none⟩ (.string x1)).setCell ⟨w.heap.size + 1, 2, none⟩ (.string x2)).setCell ⟨w.heap.size + 1, 3, none⟩ (.int .i64 x3)).setCell ⟨w.heap.size + 1, 4, none⟩ (.slice ma r4.length mk)).setCell ⟨w.heap.size + 1, 5, none⟩ (.int .i64 x5)).setCell ⟨w.heap.size + 1, 6, none⟩ (.int .i64 y0)).setCell ⟨w.heap.size + 1, 7, none⟩ (.string y1)).setCell ⟨w.heap.size + 1, 8, none⟩ (.string y2)).setCell ⟨w.heap.size + 1, 9, none⟩ (.int .i64 y3)).setCell ⟨w.heap.size + 1, 10, none⟩ (.slice la s4.length lk)).setCell ⟨w.heap.size + 1, 11, none⟩ (.int .i64 y5)) := (putMain_only Y3 (w.heap.size + 1) _ _ _ _ _ _).trans (putLame_only _ (w.heap.size + 1) _ _ _ _ _ _)
      have hbel : Below w.heap.size w ((((((((((((Y3.setCell ⟨w.heap.size + 1, 0, none⟩ (.int .i64 x0)).setCell ⟨w.heap.size + 1, 1, none⟩ (.string x1)).setCell ⟨w.heap.size + 1, 2, none⟩ (.string x2)).setCell ⟨w.heap.size + 1, 3, none⟩ (.int .i64 x3)).setCell ⟨w.heap.size + 1, 4, none⟩ (.slice ma r4.length mk)).setCell ⟨w.heap.size + 1, 5, none⟩ (.int .i64 x5)).setCell ⟨w.heap.size + 1, 6, none⟩ (.int .i64 y0)).setCell ⟨w.heap.size + 1, 7, none⟩ (.string y1)).setCell ⟨w.heap.size + 1, 8, none⟩ (.string y2)).setCell ⟨w.heap.size + 1, 9, none⟩ (.int .i64 y3)).setCell ⟨w.heap.size + 1, 10, none⟩ (.slice la s4.length lk)).setCell ⟨w.heap.size + 1, 11, none⟩ (.int .i64 y5)) := putBoth_below BY.out (show w.heap.size ≤ w.heap.size + 1 by omega) _ _ _ _ _ _ _ _ _ _ _ _
      exact Lib.hid ⟨x0, x1, x2, x3, r4, x5, y0, y1, y2, y3, s4, y5, false, _, _, f, g, .inr ⟨rfl, HNO.out, ⟨rfl, rfl, rfl, rfl, rfl, rfl⟩, ⟨rfl, rfl, rfl, rfl, rfl, rfl⟩⟩, rfl, ND.out, layIntS.lower (layIntS.keep O1.out (fun a ha => ho.block a (layIntS.blocks O1.out a ha).2 (by have := (F1.out a ha).1; omega))) (by omega), layIntS.lower (layIntS.keep O2.out (fun a ha => ho.block a (layIntS.blocks O2.out a ha).2 (by have := (F2.out a ha).1; omega))) (by omega), hbel⟩
    clear S1
    go_wp2_with fail
    try simp only [Exit.inBlock, Exit.then]
    exact bodyPost_ret (v := .tuple #[.agg #[.int .i64 x0, .string x1, .string x2, .int .i64 x3, .slice ma r4.length mk, .int .i64 x5, .int .i64 y0, .string y1, .string y2, .int .i64 y3, .slice la s4.length lk, .int .i64 y5], .bool false]) (by simp [results, Tryd.results15, go_sem, j0, j1, j2, j3, j4, j5, j6, j7, j8, j9, j10, j11]) rfl E.out
  have q5 := int_no h5
  have HP : Hid (InstallP x0 x1 x2 x3 r4 x5 y0 y1 y2 y3 s4 y5 send op now) := Lib.hid ⟨h1, by omega, by omega, h4, h5⟩
  have hx := slots_main h1
  have hwn : IntKind.i64.wrap (now + 10) = now + 10 := by rw [IntKind.wrap_i64]; omega
  have hwx : IntKind.i64.wrap (x0 + 1) = x0 + 1 := by rw [IntKind.wrap_i64]; omega
  clear h1 h2 h3 h5
  have hG := hz1.out
  go_upto_region 4 with fail
  have d0 : Y3.cell? ⟨G, 0, none⟩ = some (.int .i64 x0) := A2.out.cell 0
  have d1 : Y3.cell? ⟨G, 1, none⟩ = some (.string x1) := A2.out.cell 1
  have d2 : Y3.cell? ⟨G, 2, none⟩ = some (.string x2) := A2.out.cell 2
  have d3 : Y3.cell? ⟨G, 3, none⟩ = some (.int .i64 x3) := A2.out.cell 3
  have d4 : Y3.cell? ⟨G, 4, none⟩ = some (.slice ma r4.length mk) := A2.out.cell 4
  have d5 : Y3.cell? ⟨G, 5, none⟩ = some (.int .i64 x5) := A2.out.cell 5
  have d6 : Y3.cell? ⟨G, 6, none⟩ = some (.int .i64 y0) := A2.out.cell 6
  have d7 : Y3.cell? ⟨G, 7, none⟩ = some (.string y1) := A2.out.cell 7
  have d8 : Y3.cell? ⟨G, 8, none⟩ = some (.string y2) := A2.out.cell 8
  have d9 : Y3.cell? ⟨G, 9, none⟩ = some (.int .i64 y3) := A2.out.cell 9
  have d10 : Y3.cell? ⟨G, 10, none⟩ = some (.slice la s4.length lk) := A2.out.cell 10
  have d11 : Y3.cell? ⟨G, 11, none⟩ = some (.int .i64 y5) := A2.out.cell 11
  have g0 := A2.out.free 0
  have g1 := A2.out.free 1
  have g2 := A2.out.free 2
  have g3 := A2.out.free 3
  have g4 := A2.out.free 4
  have g5 := A2.out.free 5
  have g6 := A2.out.free 6
  have g7 := A2.out.free 7
  have g8 := A2.out.free 8
  have g9 := A2.out.free 9
  have g10 := A2.out.free 10
  have g11 := A2.out.free 11
  have A3 := Lib.hid (putLame A2.out (.int .i64 x0) (.string x1) (.string x2) (.int .i64 x3) (.slice ma r4.length mk) (.int .i64 x5))
  have hst : Only G Y3 ((((((Y3.setCell ⟨G, 6, none⟩ (.int .i64 x0)).setCell ⟨G, 7, none⟩ (.string x1)).setCell ⟨G, 8, none⟩ (.string x2)).setCell ⟨G, 9, none⟩ (.int .i64 x3)).setCell ⟨G, 10, none⟩ (.slice ma r4.length mk)).setCell ⟨G, 11, none⟩ (.int .i64 x5)) := putLame_only Y3 G _ _ _ _ _ _
  have B0 := Lib.hid (A0.out.only hst (by omega))
  have B1 := Lib.hid (A1.out.only hst (by omega))
  have O3 : Hid (layIntS.own ((((((Y3.setCell ⟨G, 6, none⟩ (.int .i64 x0)).setCell ⟨G, 7, none⟩ (.string x1)).setCell ⟨G, 8, none⟩ (.string x2)).setCell ⟨G, 9, none⟩ (.int .i64 x3)).setCell ⟨G, 10, none⟩ (.slice ma r4.length mk)).setCell ⟨G, 11, none⟩ (.int .i64 x5)) (w.heap.size + 2) f [.slice ma r4.length mk] r4) := Lib.hid (layIntS.keep O1.out (fun a ha => hst.block a (layIntS.blocks O1.out a ha).2 (by have := (F1.out a ha).2; omega)))
  have B3 := Lib.hid (putLame_below BY.out (show w.heap.size ≤ G by omega) (.int .i64 x0) (.string x1) (.string x2) (.int .i64 x3) (.slice ma r4.length mk) (.int .i64 x5))
  clear hst
  go_upto_region 5 with fail
  generalize ((((((Y3.setCell ⟨G, 6, none⟩ (.int .i64 x0)).setCell ⟨G, 7, none⟩ (.string x1)).setCell ⟨G, 8, none⟩ (.string x2)).setCell ⟨G, 9, none⟩ (.int .i64 x3)).setCell ⟨G, 10, none⟩ (.slice ma r4.length mk)).setCell ⟨G, 11, none⟩ (.int .i64 x5)) = Y4 at *
  clear A0 A1 A2 BY O1 O2 c0 c1 c2 c3 c4 c5 c6 c7 c8 c9 c10 c11 d0 d1 d2 d3 d4 d5 d6 d7 d8 d9 d10 d11 g0 g1 g2 g3 g4 g5 g6 g7 g8 g9 g10 g11
  have c0 : Y4.cell? ⟨w.heap.size, 0, none⟩ = some (.int .i64 x0) := B0.out.cell 0
  have c1 : Y4.cell? ⟨w.heap.size, 1, none⟩ = some (.string x1) := B0.out.cell 1
  have c2 : Y4.cell? ⟨w.heap.size, 2, none⟩ = some (.string x2) := B0.out.cell 2
  have c3 : Y4.cell? ⟨w.heap.size, 3, none⟩ = some (.int .i64 x3) := B0.out.cell 3
  have c4 : Y4.cell? ⟨w.heap.size, 4, none⟩ = some (.slice a4 r4.length p4) := B0.out.cell 4
  have c5 : Y4.cell? ⟨w.heap.size, 5, none⟩ = some (.int .i64 x5) := B0.out.cell 5
  have c6 : Y4.cell? ⟨w.heap.size, 6, none⟩ = some (.int .i64 y0) := B0.out.cell 6
  have c7 : Y4.cell? ⟨w.heap.size, 7, none⟩ = some (.string y1) := B0.out.cell 7
  have c8 : Y4.cell? ⟨w.heap.size, 8, none⟩ = some (.string y2) := B0.out.cell 8
  have c9 : Y4.cell? ⟨w.heap.size, 9, none⟩ = some (.int .i64 y3) := B0.out.cell 9
  have c10 : Y4.cell? ⟨w.heap.size, 10, none⟩ = some (.slice b4 s4.length q4) := B0.out.cell 10
  have c11 : Y4.cell? ⟨w.heap.size, 11, none⟩ = some (.int .i64 y5) := B0.out.cell 11
  by_cases hn : NoneP x0 x1 x2 x3 r4 x5
  · have K := Lib.hid (specNone_bool x0 x1 x2 x3 _ r4 x5 true ⟨fun _ => hn, fun _ => rfl⟩ Y4 (layIntS.below HR.out B3.out))
    go_wp2_with fail
    refine (K.out).mono ?_
    rintro e Y5 ⟨rfl, hb⟩
    replace B0 := Lib.hid (B0.out.next hb)
    replace B1 := Lib.hid (B1.out.next hb)
    replace A3 := Lib.hid (A3.out.next hb)
    replace O3 := Lib.hid (layIntS.next O3.out hb)
    replace B3 := Lib.hid (B3.out.trans (hb.mono B3.out.size))
    clear hb K c0 c1 c2 c3 c4 c5 c6 c7 c8 c9 c10 c11
    go_upto_region 7 with fail
    have c0 : Y5.cell? ⟨w.heap.size, 0, none⟩ = some (.int .i64 x0) := B0.out.cell 0
    have c1 : Y5.cell? ⟨w.heap.size, 1, none⟩ = some (.string x1) := B0.out.cell 1
    have c2 : Y5.cell? ⟨w.heap.size, 2, none⟩ = some (.string x2) := B0.out.cell 2
    have c3 : Y5.cell? ⟨w.heap.size, 3, none⟩ = some (.int .i64 x3) := B0.out.cell 3
    have c4 : Y5.cell? ⟨w.heap.size, 4, none⟩ = some (.slice a4 r4.length p4) := B0.out.cell 4
    have c5 : Y5.cell? ⟨w.heap.size, 5, none⟩ = some (.int .i64 x5) := B0.out.cell 5
    have c6 : Y5.cell? ⟨w.heap.size, 6, none⟩ = some (.int .i64 y0) := B0.out.cell 6
    have c7 : Y5.cell? ⟨w.heap.size, 7, none⟩ = some (.string y1) := B0.out.cell 7
    have c8 : Y5.cell? ⟨w.heap.size, 8, none⟩ = some (.string y2) := B0.out.cell 8
    have c9 : Y5.cell? ⟨w.heap.size, 9, none⟩ = some (.int .i64 y3) := B0.out.cell 9
    have c10 : Y5.cell? ⟨w.heap.size, 10, none⟩ = some (.slice b4 s4.length q4) := B0.out.cell 10
    have c11 : Y5.cell? ⟨w.heap.size, 11, none⟩ = some (.int .i64 y5) := B0.out.cell 11
    have d0 : Y5.cell? ⟨G, 0, none⟩ = some (.int .i64 x0) := A3.out.cell 0
    have d1 : Y5.cell? ⟨G, 1, none⟩ = some (.string x1) := A3.out.cell 1
    have d2 : Y5.cell? ⟨G, 2, none⟩ = some (.string x2) := A3.out.cell 2
    have d3 : Y5.cell? ⟨G, 3, none⟩ = some (.int .i64 x3) := A3.out.cell 3
    have d4 : Y5.cell? ⟨G, 4, none⟩ = some (.slice ma r4.length mk) := A3.out.cell 4
    have d5 : Y5.cell? ⟨G, 5, none⟩ = some (.int .i64 x5) := A3.out.cell 5
    have d6 : Y5.cell? ⟨G, 6, none⟩ = some (.int .i64 x0) := A3.out.cell 6
    have d7 : Y5.cell? ⟨G, 7, none⟩ = some (.string x1) := A3.out.cell 7
    have d8 : Y5.cell? ⟨G, 8, none⟩ = some (.string x2) := A3.out.cell 8
    have d9 : Y5.cell? ⟨G, 9, none⟩ = some (.int .i64 x3) := A3.out.cell 9
    have d10 : Y5.cell? ⟨G, 10, none⟩ = some (.slice ma r4.length mk) := A3.out.cell 10
    have d11 : Y5.cell? ⟨G, 11, none⟩ = some (.int .i64 x5) := A3.out.cell 11
    have g0 := A3.out.free 0
    have g1 := A3.out.free 1
    have g2 := A3.out.free 2
    have g3 := A3.out.free 3
    have g4 := A3.out.free 4
    have g5 := A3.out.free 5
    have g6 := A3.out.free 6
    have g7 := A3.out.free 7
    have g8 := A3.out.free 8
    have g9 := A3.out.free 9
    have g10 := A3.out.free 10
    have g11 := A3.out.free 11
    have A2 := Lib.hid (putMain A3.out (.int .i64 (x0 + 1)) (.string send) (.string op) (.int .i64 0) (.slice none 0 0) (.int .i64 0))
    have hst : Only G Y5 ((((((Y5.setCell ⟨G, 0, none⟩ (.int .i64 (x0 + 1))).setCell ⟨G, 1, none⟩ (.string send)).setCell ⟨G, 2, none⟩ (.string op)).setCell ⟨G, 3, none⟩ (.int .i64 0)).setCell ⟨G, 4, none⟩ (.slice none 0 0)).setCell ⟨G, 5, none⟩ (.int .i64 0)) := putMain_only Y5 G _ _ _ _ _ _
    have A1 := Lib.hid (B1.out.only hst (by omega))
    have O1 : Hid (layIntS.own ((((((Y5.setCell ⟨G, 0, none⟩ (.int .i64 (x0 + 1))).setCell ⟨G, 1, none⟩ (.string send)).setCell ⟨G, 2, none⟩ (.string op)).setCell ⟨G, 3, none⟩ (.int .i64 0)).setCell ⟨G, 4, none⟩ (.slice none 0 0)).setCell ⟨G, 5, none⟩ (.int .i64 0)) (w.heap.size + 2) f [.slice ma r4.length mk] r4) := Lib.hid (layIntS.keep O3.out (fun a ha => hst.block a (layIntS.blocks O3.out a ha).2 (by have := (F1.out a ha).2; omega)))
    have BY := Lib.hid (putMain_below B3.out (show w.heap.size ≤ G by omega) (.int .i64 (x0 + 1)) (.string send) (.string op) (.int .i64 0) (.slice none 0 0) (.int .i64 0))
    clear hst
    go_upto_region 8 with fail
    generalize ((((((Y5.setCell ⟨G, 0, none⟩ (.int .i64 (x0 + 1))).setCell ⟨G, 1, none⟩ (.string send)).setCell ⟨G, 2, none⟩ (.string op)).setCell ⟨G, 3, none⟩ (.int .i64 0)).setCell ⟨G, 4, none⟩ (.slice none 0 0)).setCell ⟨G, 5, none⟩ (.int .i64 0)) = Y7 at *
    clear A3 B0 B1 O3 B3 c0 c1 c2 c3 c4 c5 c6 c7 c8 c9 c10 c11 d0 d1 d2 d3 d4 d5 d6 d7 d8 d9 d10 d11 g0 g1 g2 g3 g4 g5 g6 g7 g8 g9 g10 g11
    have c0 : Y7.cell? ⟨G, 0, none⟩ = some (.int .i64 (x0 + 1)) := A2.out.cell 0
    have c1 : Y7.cell? ⟨G, 1, none⟩ = some (.string send) := A2.out.cell 1
    have c2 : Y7.cell? ⟨G, 2, none⟩ = some (.string op) := A2.out.cell 2
    have c3 : Y7.cell? ⟨G, 3, none⟩ = some (.int .i64 0) := A2.out.cell 3
    have c4 : Y7.cell? ⟨G, 4, none⟩ = some (.slice none 0 0) := A2.out.cell 4
    have c5 : Y7.cell? ⟨G, 5, none⟩ = some (.int .i64 0) := A2.out.cell 5
    have c6 : Y7.cell? ⟨G, 6, none⟩ = some (.int .i64 x0) := A2.out.cell 6
    have c7 : Y7.cell? ⟨G, 7, none⟩ = some (.string x1) := A2.out.cell 7
    have c8 : Y7.cell? ⟨G, 8, none⟩ = some (.string x2) := A2.out.cell 8
    have c9 : Y7.cell? ⟨G, 9, none⟩ = some (.int .i64 x3) := A2.out.cell 9
    have c10 : Y7.cell? ⟨G, 10, none⟩ = some (.slice ma r4.length mk) := A2.out.cell 10
    have c11 : Y7.cell? ⟨G, 11, none⟩ = some (.int .i64 x5) := A2.out.cell 11
    have d0 : Y7.cell? ⟨w.heap.size + 1, 0, none⟩ = some (.int .i64 0) := A1.out.cell 0
    have d1 : Y7.cell? ⟨w.heap.size + 1, 1, none⟩ = some (.string ⟨#[]⟩) := A1.out.cell 1
    have d2 : Y7.cell? ⟨w.heap.size + 1, 2, none⟩ = some (.string ⟨#[]⟩) := A1.out.cell 2
    have d3 : Y7.cell? ⟨w.heap.size + 1, 3, none⟩ = some (.int .i64 0) := A1.out.cell 3
    have d4 : Y7.cell? ⟨w.heap.size + 1, 4, none⟩ = some (.slice none 0 0) := A1.out.cell 4
    have d5 : Y7.cell? ⟨w.heap.size + 1, 5, none⟩ = some (.int .i64 0) := A1.out.cell 5
    have d6 : Y7.cell? ⟨w.heap.size + 1, 6, none⟩ = some (.int .i64 0) := A1.out.cell 6
    have d7 : Y7.cell? ⟨w.heap.size + 1, 7, none⟩ = some (.string ⟨#[]⟩) := A1.out.cell 7
    have d8 : Y7.cell? ⟨w.heap.size + 1, 8, none⟩ = some (.string ⟨#[]⟩) := A1.out.cell 8
    have d9 : Y7.cell? ⟨w.heap.size + 1, 9, none⟩ = some (.int .i64 0) := A1.out.cell 9
    have d10 : Y7.cell? ⟨w.heap.size + 1, 10, none⟩ = some (.slice none 0 0) := A1.out.cell 10
    have d11 : Y7.cell? ⟨w.heap.size + 1, 11, none⟩ = some (.int .i64 0) := A1.out.cell 11
    have g0 := A1.out.free 0
    have g1 := A1.out.free 1
    have g2 := A1.out.free 2
    have g3 := A1.out.free 3
    have g4 := A1.out.free 4
    have g5 := A1.out.free 5
    have g6 := A1.out.free 6
    have g7 := A1.out.free 7
    have g8 := A1.out.free 8
    have g9 := A1.out.free 9
    have g10 := A1.out.free 10
    have g11 := A1.out.free 11
    have S1 := putBoth A1.out (.int .i64 (x0 + 1)) (.string send) (.string op) (.int .i64 0) (.slice none 0 0) (.int .i64 0) (.int .i64 x0) (.string x1) (.string x2) (.int .i64 x3) (.slice ma r4.length mk) (.int .i64 x5)
    have j0 := S1.cell 0
    have j1 := S1.cell 1
    have j2 := S1.cell 2
    have j3 := S1.cell 3
    have j4 := S1.cell 4
    have j5 := S1.cell 5
    have j6 := S1.cell 6
    have j7 := S1.cell 7
    have j8 := S1.cell 8
    have j9 := S1.cell 9
    have j10 := S1.cell 10
    have j11 := S1.cell 11
    have E : Hid (Q (.returned (.tuple #[.agg #[.int .i64 (x0 + 1), .string send, .string op, .int .i64 0, .slice none 0 0, .int .i64 0, .int .i64 x0, .string x1, .string x2, .int .i64 x3, .slice ma r4.length mk, .int .i64 x5], .bool true])) ((((((((((((Y7.setCell ⟨w.heap.size + 1, 0, none⟩ (.int .i64 (x0 + 1))).setCell ⟨w.heap.size + 1, 1, none⟩ (.string send)).setCell ⟨w.heap.size + 1, 2, none⟩ (.string op)).setCell ⟨w.heap.size + 1, 3, none⟩ (.int .i64 0)).setCell ⟨w.heap.size + 1, 4, none⟩ (.slice none 0 0)).setCell ⟨w.heap.size + 1, 5, none⟩ (.int .i64 0)).setCell ⟨w.heap.size + 1, 6, none⟩ (.int .i64 x0)).setCell ⟨w.heap.size + 1, 7, none⟩ (.string x1)).setCell ⟨w.heap.size + 1, 8, none⟩ (.string x2)).setCell ⟨w.heap.size + 1, 9, none⟩ (.int .i64 x3)).setCell ⟨w.heap.size + 1, 10, none⟩ (.slice ma r4.length mk)).setCell ⟨w.heap.size + 1, 11, none⟩ (.int .i64 x5))) := by
      rw [HQ.out]
      have ho : Only (w.heap.size + 1) Y7 ((((((((((((Y7.setCell ⟨w.heap.size + 1, 0, none⟩ (.int .i64 (x0 + 1))).setCell ⟨w.heap.size + 1, 1, none⟩ (.string send)).setCell ⟨w.heap.size + 1, 2, none⟩ (.string op)).setCell ⟨w.heap.size + 1, 3, none⟩ (.int .i64 0)).setCell ⟨w.heap.size + 1, 4, none⟩ (.slice none 0 0)).setCell ⟨w.heap.size + 1, 5, none⟩ (.int .i64 0)).setCell ⟨w.heap.size + 1, 6, none⟩ (.int .i64 x0)).setCell ⟨w.heap.size + 1, 7, none⟩ (.string x1)).setCell ⟨w.heap.size + 1, 8, none⟩ (.string x2)).setCell ⟨w.heap.size + 1, 9, none⟩ (.int .i64 x3)).setCell ⟨w.heap.size + 1, 10, none⟩ (.slice ma r4.length mk)).setCell ⟨w.heap.size + 1, 11, none⟩ (.int .i64 x5)) := (putMain_only Y7 (w.heap.size + 1) _ _ _ _ _ _).trans (putLame_only _ (w.heap.size + 1) _ _ _ _ _ _)
      have hbel : Below w.heap.size w ((((((((((((Y7.setCell ⟨w.heap.size + 1, 0, none⟩ (.int .i64 (x0 + 1))).setCell ⟨w.heap.size + 1, 1, none⟩ (.string send)).setCell ⟨w.heap.size + 1, 2, none⟩ (.string op)).setCell ⟨w.heap.size + 1, 3, none⟩ (.int .i64 0)).setCell ⟨w.heap.size + 1, 4, none⟩ (.slice none 0 0)).setCell ⟨w.heap.size + 1, 5, none⟩ (.int .i64 0)).setCell ⟨w.heap.size + 1, 6, none⟩ (.int .i64 x0)).setCell ⟨w.heap.size + 1, 7, none⟩ (.string x1)).setCell ⟨w.heap.size + 1, 8, none⟩ (.string x2)).setCell ⟨w.heap.size + 1, 9, none⟩ (.int .i64 x3)).setCell ⟨w.heap.size + 1, 10, none⟩ (.slice ma r4.length mk)).setCell ⟨w.heap.size + 1, 11, none⟩ (.int .i64 x5)) := putBoth_below BY.out (show w.heap.size ≤ w.heap.size + 1 by omega) _ _ _ _ _ _ _ _ _ _ _ _
      exact Lib.hid ⟨x0 + 1, send, op, 0, [], 0, x0, x1, x2, x3, r4, x5, true, _, _, [], f, .inl ⟨rfl, HP.out, ⟨rfl, rfl, rfl, rfl, rfl, rfl⟩, ⟨rfl, rfl, rfl, rfl, rfl, .inl ⟨hn, rfl⟩⟩⟩, rfl, (List.nodup_append.1 ND.out).1, none_own _ _, layIntS.lower (layIntS.keep O1.out (fun a ha => ho.block a (layIntS.blocks O1.out a ha).2 (by have := (F1.out a ha).1; omega))) (by omega), hbel⟩
    clear S1
    go_wp2_with fail
    try simp only [Exit.inBlock, Exit.then]
    exact bodyPost_ret (v := .tuple #[.agg #[.int .i64 (x0 + 1), .string send, .string op, .int .i64 0, .slice none 0 0, .int .i64 0, .int .i64 x0, .string x1, .string x2, .int .i64 x3, .slice ma r4.length mk, .int .i64 x5], .bool true]) (by simp [results, Tryd.results15, go_sem, j0, j1, j2, j3, j4, j5, j6, j7, j8, j9, j10, j11]) rfl E.out
  · have K := Lib.hid (specNone_bool x0 x1 x2 x3 _ r4 x5 false ⟨fun e => (by cases e), fun e => absurd e hn⟩ Y4 (layIntS.below HR.out B3.out))
    go_wp2_with fail
    refine (K.out).mono ?_
    rintro e Y5 ⟨rfl, hb⟩
    replace B0 := Lib.hid (B0.out.next hb)
    replace B1 := Lib.hid (B1.out.next hb)
    replace A3 := Lib.hid (A3.out.next hb)
    replace O3 := Lib.hid (layIntS.next O3.out hb)
    replace B3 := Lib.hid (B3.out.trans (hb.mono B3.out.size))
    clear hb K c0 c1 c2 c3 c4 c5 c6 c7 c8 c9 c10 c11
    go_upto_region 6 with fail
    have d11 := A3.out.cell 11
    have g11 := A3.out.free 11
    have A4 : Hid (VarA G SlotsT #[.int .i64 x0, .string x1, .string x2, .int .i64 x3, .slice ma r4.length mk, .int .i64 x5, .int .i64 x0, .string x1, .string x2, .int .i64 x3, .slice ma r4.length mk, .int .i64 (now + 10)] (Y5.setCell ⟨G, 11, none⟩ (.int .i64 (now + 10)))) := Lib.hid (A3.out.set 11 _)
    have hst : Only G Y5 (Y5.setCell ⟨G, 11, none⟩ (.int .i64 (now + 10))) := Only.setCell 11 _
    have C0 := Lib.hid (B0.out.only hst (by omega))
    have C1 := Lib.hid (B1.out.only hst (by omega))
    have O4 : Hid (layIntS.own (Y5.setCell ⟨G, 11, none⟩ (.int .i64 (now + 10))) (w.heap.size + 2) f [.slice ma r4.length mk] r4) := Lib.hid (layIntS.keep O3.out (fun a ha => hst.block a (layIntS.blocks O3.out a ha).2 (by have := (F1.out a ha).2; omega)))
    have B4 := Lib.hid (B3.out.setCell (p := ⟨G, 11, none⟩) (show w.heap.size ≤ G by omega) (.int .i64 (now + 10)))
    clear hst
    go_upto_region 7 with fail
    generalize (Y5.setCell ⟨G, 11, none⟩ (.int .i64 (now + 10))) = Y6 at *
    clear A3 B0 B1 O3 B3 d11 g11
    have c0 : Y6.cell? ⟨w.heap.size, 0, none⟩ = some (.int .i64 x0) := C0.out.cell 0
    have c1 : Y6.cell? ⟨w.heap.size, 1, none⟩ = some (.string x1) := C0.out.cell 1
    have c2 : Y6.cell? ⟨w.heap.size, 2, none⟩ = some (.string x2) := C0.out.cell 2
    have c3 : Y6.cell? ⟨w.heap.size, 3, none⟩ = some (.int .i64 x3) := C0.out.cell 3
    have c4 : Y6.cell? ⟨w.heap.size, 4, none⟩ = some (.slice a4 r4.length p4) := C0.out.cell 4
    have c5 : Y6.cell? ⟨w.heap.size, 5, none⟩ = some (.int .i64 x5) := C0.out.cell 5
    have c6 : Y6.cell? ⟨w.heap.size, 6, none⟩ = some (.int .i64 y0) := C0.out.cell 6
    have c7 : Y6.cell? ⟨w.heap.size, 7, none⟩ = some (.string y1) := C0.out.cell 7
    have c8 : Y6.cell? ⟨w.heap.size, 8, none⟩ = some (.string y2) := C0.out.cell 8
    have c9 : Y6.cell? ⟨w.heap.size, 9, none⟩ = some (.int .i64 y3) := C0.out.cell 9
    have c10 : Y6.cell? ⟨w.heap.size, 10, none⟩ = some (.slice b4 s4.length q4) := C0.out.cell 10
    have c11 : Y6.cell? ⟨w.heap.size, 11, none⟩ = some (.int .i64 y5) := C0.out.cell 11
    have d0 : Y6.cell? ⟨G, 0, none⟩ = some (.int .i64 x0) := A4.out.cell 0
    have d1 : Y6.cell? ⟨G, 1, none⟩ = some (.string x1) := A4.out.cell 1
    have d2 : Y6.cell? ⟨G, 2, none⟩ = some (.string x2) := A4.out.cell 2
    have d3 : Y6.cell? ⟨G, 3, none⟩ = some (.int .i64 x3) := A4.out.cell 3
    have d4 : Y6.cell? ⟨G, 4, none⟩ = some (.slice ma r4.length mk) := A4.out.cell 4
    have d5 : Y6.cell? ⟨G, 5, none⟩ = some (.int .i64 x5) := A4.out.cell 5
    have d6 : Y6.cell? ⟨G, 6, none⟩ = some (.int .i64 x0) := A4.out.cell 6
    have d7 : Y6.cell? ⟨G, 7, none⟩ = some (.string x1) := A4.out.cell 7
    have d8 : Y6.cell? ⟨G, 8, none⟩ = some (.string x2) := A4.out.cell 8
    have d9 : Y6.cell? ⟨G, 9, none⟩ = some (.int .i64 x3) := A4.out.cell 9
    have d10 : Y6.cell? ⟨G, 10, none⟩ = some (.slice ma r4.length mk) := A4.out.cell 10
    have d11 : Y6.cell? ⟨G, 11, none⟩ = some (.int .i64 (now + 10)) := A4.out.cell 11
    have g0 := A4.out.free 0
    have g1 := A4.out.free 1
    have g2 := A4.out.free 2
    have g3 := A4.out.free 3
    have g4 := A4.out.free 4
    have g5 := A4.out.free 5
    have g6 := A4.out.free 6
    have g7 := A4.out.free 7
    have g8 := A4.out.free 8
    have g9 := A4.out.free 9
    have g10 := A4.out.free 10
    have g11 := A4.out.free 11
    have A2 := Lib.hid (putMain A4.out (.int .i64 (x0 + 1)) (.string send) (.string op) (.int .i64 0) (.slice none 0 0) (.int .i64 0))
    have hst : Only G Y6 ((((((Y6.setCell ⟨G, 0, none⟩ (.int .i64 (x0 + 1))).setCell ⟨G, 1, none⟩ (.string send)).setCell ⟨G, 2, none⟩ (.string op)).setCell ⟨G, 3, none⟩ (.int .i64 0)).setCell ⟨G, 4, none⟩ (.slice none 0 0)).setCell ⟨G, 5, none⟩ (.int .i64 0)) := putMain_only Y6 G _ _ _ _ _ _
    have A1 := Lib.hid (C1.out.only hst (by omega))
    have O1 : Hid (layIntS.own ((((((Y6.setCell ⟨G, 0, none⟩ (.int .i64 (x0 + 1))).setCell ⟨G, 1, none⟩ (.string send)).setCell ⟨G, 2, none⟩ (.string op)).setCell ⟨G, 3, none⟩ (.int .i64 0)).setCell ⟨G, 4, none⟩ (.slice none 0 0)).setCell ⟨G, 5, none⟩ (.int .i64 0)) (w.heap.size + 2) f [.slice ma r4.length mk] r4) := Lib.hid (layIntS.keep O4.out (fun a ha => hst.block a (layIntS.blocks O4.out a ha).2 (by have := (F1.out a ha).2; omega)))
    have BY := Lib.hid (putMain_below B4.out (show w.heap.size ≤ G by omega) (.int .i64 (x0 + 1)) (.string send) (.string op) (.int .i64 0) (.slice none 0 0) (.int .i64 0))
    clear hst
    go_upto_region 8 with fail
    generalize ((((((Y6.setCell ⟨G, 0, none⟩ (.int .i64 (x0 + 1))).setCell ⟨G, 1, none⟩ (.string send)).setCell ⟨G, 2, none⟩ (.string op)).setCell ⟨G, 3, none⟩ (.int .i64 0)).setCell ⟨G, 4, none⟩ (.slice none 0 0)).setCell ⟨G, 5, none⟩ (.int .i64 0)) = Y7 at *
    clear A4 C0 C1 O4 B4 c0 c1 c2 c3 c4 c5 c6 c7 c8 c9 c10 c11 d0 d1 d2 d3 d4 d5 d6 d7 d8 d9 d10 d11 g0 g1 g2 g3 g4 g5 g6 g7 g8 g9 g10 g11
    have c0 : Y7.cell? ⟨G, 0, none⟩ = some (.int .i64 (x0 + 1)) := A2.out.cell 0
    have c1 : Y7.cell? ⟨G, 1, none⟩ = some (.string send) := A2.out.cell 1
    have c2 : Y7.cell? ⟨G, 2, none⟩ = some (.string op) := A2.out.cell 2
    have c3 : Y7.cell? ⟨G, 3, none⟩ = some (.int .i64 0) := A2.out.cell 3
    have c4 : Y7.cell? ⟨G, 4, none⟩ = some (.slice none 0 0) := A2.out.cell 4
    have c5 : Y7.cell? ⟨G, 5, none⟩ = some (.int .i64 0) := A2.out.cell 5
    have c6 : Y7.cell? ⟨G, 6, none⟩ = some (.int .i64 x0) := A2.out.cell 6
    have c7 : Y7.cell? ⟨G, 7, none⟩ = some (.string x1) := A2.out.cell 7
    have c8 : Y7.cell? ⟨G, 8, none⟩ = some (.string x2) := A2.out.cell 8
    have c9 : Y7.cell? ⟨G, 9, none⟩ = some (.int .i64 x3) := A2.out.cell 9
    have c10 : Y7.cell? ⟨G, 10, none⟩ = some (.slice ma r4.length mk) := A2.out.cell 10
    have c11 : Y7.cell? ⟨G, 11, none⟩ = some (.int .i64 (now + 10)) := A2.out.cell 11
    have d0 : Y7.cell? ⟨w.heap.size + 1, 0, none⟩ = some (.int .i64 0) := A1.out.cell 0
    have d1 : Y7.cell? ⟨w.heap.size + 1, 1, none⟩ = some (.string ⟨#[]⟩) := A1.out.cell 1
    have d2 : Y7.cell? ⟨w.heap.size + 1, 2, none⟩ = some (.string ⟨#[]⟩) := A1.out.cell 2
    have d3 : Y7.cell? ⟨w.heap.size + 1, 3, none⟩ = some (.int .i64 0) := A1.out.cell 3
    have d4 : Y7.cell? ⟨w.heap.size + 1, 4, none⟩ = some (.slice none 0 0) := A1.out.cell 4
    have d5 : Y7.cell? ⟨w.heap.size + 1, 5, none⟩ = some (.int .i64 0) := A1.out.cell 5
    have d6 : Y7.cell? ⟨w.heap.size + 1, 6, none⟩ = some (.int .i64 0) := A1.out.cell 6
    have d7 : Y7.cell? ⟨w.heap.size + 1, 7, none⟩ = some (.string ⟨#[]⟩) := A1.out.cell 7
    have d8 : Y7.cell? ⟨w.heap.size + 1, 8, none⟩ = some (.string ⟨#[]⟩) := A1.out.cell 8
    have d9 : Y7.cell? ⟨w.heap.size + 1, 9, none⟩ = some (.int .i64 0) := A1.out.cell 9
    have d10 : Y7.cell? ⟨w.heap.size + 1, 10, none⟩ = some (.slice none 0 0) := A1.out.cell 10
    have d11 : Y7.cell? ⟨w.heap.size + 1, 11, none⟩ = some (.int .i64 0) := A1.out.cell 11
    have g0 := A1.out.free 0
    have g1 := A1.out.free 1
    have g2 := A1.out.free 2
    have g3 := A1.out.free 3
    have g4 := A1.out.free 4
    have g5 := A1.out.free 5
    have g6 := A1.out.free 6
    have g7 := A1.out.free 7
    have g8 := A1.out.free 8
    have g9 := A1.out.free 9
    have g10 := A1.out.free 10
    have g11 := A1.out.free 11
    have S1 := putBoth A1.out (.int .i64 (x0 + 1)) (.string send) (.string op) (.int .i64 0) (.slice none 0 0) (.int .i64 0) (.int .i64 x0) (.string x1) (.string x2) (.int .i64 x3) (.slice ma r4.length mk) (.int .i64 (now + 10))
    have j0 := S1.cell 0
    have j1 := S1.cell 1
    have j2 := S1.cell 2
    have j3 := S1.cell 3
    have j4 := S1.cell 4
    have j5 := S1.cell 5
    have j6 := S1.cell 6
    have j7 := S1.cell 7
    have j8 := S1.cell 8
    have j9 := S1.cell 9
    have j10 := S1.cell 10
    have j11 := S1.cell 11
    have E : Hid (Q (.returned (.tuple #[.agg #[.int .i64 (x0 + 1), .string send, .string op, .int .i64 0, .slice none 0 0, .int .i64 0, .int .i64 x0, .string x1, .string x2, .int .i64 x3, .slice ma r4.length mk, .int .i64 (now + 10)], .bool true])) ((((((((((((Y7.setCell ⟨w.heap.size + 1, 0, none⟩ (.int .i64 (x0 + 1))).setCell ⟨w.heap.size + 1, 1, none⟩ (.string send)).setCell ⟨w.heap.size + 1, 2, none⟩ (.string op)).setCell ⟨w.heap.size + 1, 3, none⟩ (.int .i64 0)).setCell ⟨w.heap.size + 1, 4, none⟩ (.slice none 0 0)).setCell ⟨w.heap.size + 1, 5, none⟩ (.int .i64 0)).setCell ⟨w.heap.size + 1, 6, none⟩ (.int .i64 x0)).setCell ⟨w.heap.size + 1, 7, none⟩ (.string x1)).setCell ⟨w.heap.size + 1, 8, none⟩ (.string x2)).setCell ⟨w.heap.size + 1, 9, none⟩ (.int .i64 x3)).setCell ⟨w.heap.size + 1, 10, none⟩ (.slice ma r4.length mk)).setCell ⟨w.heap.size + 1, 11, none⟩ (.int .i64 (now + 10)))) := by
      rw [HQ.out]
      have ho : Only (w.heap.size + 1) Y7 ((((((((((((Y7.setCell ⟨w.heap.size + 1, 0, none⟩ (.int .i64 (x0 + 1))).setCell ⟨w.heap.size + 1, 1, none⟩ (.string send)).setCell ⟨w.heap.size + 1, 2, none⟩ (.string op)).setCell ⟨w.heap.size + 1, 3, none⟩ (.int .i64 0)).setCell ⟨w.heap.size + 1, 4, none⟩ (.slice none 0 0)).setCell ⟨w.heap.size + 1, 5, none⟩ (.int .i64 0)).setCell ⟨w.heap.size + 1, 6, none⟩ (.int .i64 x0)).setCell ⟨w.heap.size + 1, 7, none⟩ (.string x1)).setCell ⟨w.heap.size + 1, 8, none⟩ (.string x2)).setCell ⟨w.heap.size + 1, 9, none⟩ (.int .i64 x3)).setCell ⟨w.heap.size + 1, 10, none⟩ (.slice ma r4.length mk)).setCell ⟨w.heap.size + 1, 11, none⟩ (.int .i64 (now + 10))) := (putMain_only Y7 (w.heap.size + 1) _ _ _ _ _ _).trans (putLame_only _ (w.heap.size + 1) _ _ _ _ _ _)
      have hbel : Below w.heap.size w ((((((((((((Y7.setCell ⟨w.heap.size + 1, 0, none⟩ (.int .i64 (x0 + 1))).setCell ⟨w.heap.size + 1, 1, none⟩ (.string send)).setCell ⟨w.heap.size + 1, 2, none⟩ (.string op)).setCell ⟨w.heap.size + 1, 3, none⟩ (.int .i64 0)).setCell ⟨w.heap.size + 1, 4, none⟩ (.slice none 0 0)).setCell ⟨w.heap.size + 1, 5, none⟩ (.int .i64 0)).setCell ⟨w.heap.size + 1, 6, none⟩ (.int .i64 x0)).setCell ⟨w.heap.size + 1, 7, none⟩ (.string x1)).setCell ⟨w.heap.size + 1, 8, none⟩ (.string x2)).setCell ⟨w.heap.size + 1, 9, none⟩ (.int .i64 x3)).setCell ⟨w.heap.size + 1, 10, none⟩ (.slice ma r4.length mk)).setCell ⟨w.heap.size + 1, 11, none⟩ (.int .i64 (now + 10))) := putBoth_below BY.out (show w.heap.size ≤ w.heap.size + 1 by omega) _ _ _ _ _ _ _ _ _ _ _ _
      exact Lib.hid ⟨x0 + 1, send, op, 0, [], 0, x0, x1, x2, x3, r4, now + 10, true, _, _, [], f, .inl ⟨rfl, HP.out, ⟨rfl, rfl, rfl, rfl, rfl, rfl⟩, ⟨rfl, rfl, rfl, rfl, rfl, .inr ⟨hn, rfl⟩⟩⟩, rfl, (List.nodup_append.1 ND.out).1, none_own _ _, layIntS.lower (layIntS.keep O1.out (fun a ha => ho.block a (layIntS.blocks O1.out a ha).2 (by have := (F1.out a ha).1; omega))) (by omega), hbel⟩
    clear S1
    go_wp2_with fail
    try simp only [Exit.inBlock, Exit.then]
    exact bodyPost_ret (v := .tuple #[.agg #[.int .i64 (x0 + 1), .string send, .string op, .int .i64 0, .slice none 0 0, .int .i64 0, .int .i64 x0, .string x1, .string x2, .int .i64 x3, .slice ma r4.length mk, .int .i64 (now + 10)], .bool true]) (by simp [results, Tryd.results15, go_sem, j0, j1, j2, j3, j4, j5, j6, j7, j8, j9, j10, j11]) rfl E.out

end Go.Proofs.YtoaifgblbfdncabDoor
