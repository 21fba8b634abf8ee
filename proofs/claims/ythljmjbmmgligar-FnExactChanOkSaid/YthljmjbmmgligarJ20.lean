/-
  The exact law on ChanNew, out of one answer that both give.
  The exact law on ChanNew, at every argument.
-/
import Derived.Test.YthljmjbmmgligarJ19
import Derived.Test.YthljmjbmmgligarJ18
namespace Go.Proofs.Ythljmjbmmgligar
open Go.RowKit

theorem nil_co (lo : Nat) (X : World) : CO lo (.slice none 0 0) (.slice none 0 0) (.slice none 0 0) (.slice none 0 0) (.slice none 0 0) [] [] [] [] [] ([] : List ByteArray) ([] : List PendingD) ([] : List EarlyD) ([] : List Int) ([] : List ByteArray) X :=
  ⟨⟨_, rfl, .inl ⟨rfl, rfl, rfl⟩⟩, ⟨_, rfl, .inl ⟨rfl, rfl, rfl⟩⟩, ⟨_, rfl, .inl ⟨rfl, rfl, rfl⟩⟩, ⟨_, rfl, .inl ⟨rfl, rfl, rfl⟩⟩, ⟨_, rfl, .inl ⟨rfl, rfl, rfl⟩⟩, fun g hg => by cases hg⟩

set_option maxRecDepth 100000 in
set_option maxHeartbeats 6400000 in
/-- The exact law on ChanNew, out of one answer that both give. -/
theorem lawChanNewF (me peer m0 m1 : Int) (b : Bool)
    (hI : ∀ X : World, Calls Try.prog 9 #[.int .i64 me, .int .i64 peer] X fun e Y => e = .returned (.tuple #[.agg #[.int .i64 m0, .int .i64 m1, .int .i64 0, .slice none 0 0, .slice none 0 0, .int .i64 0, .slice none 0 0, .slice none 0 0, .slice none 0 0], .bool b]) ∧ Below X.heap.size X Y)
    (hS : ∀ X : World, Calls Try.prog 8 #[.int .i64 me, .int .i64 peer] X fun e Y => e = .returned (.tuple #[.agg #[.int .i64 m0, .int .i64 m1, .int .i64 0, .slice none 0 0, .slice none 0 0, .int .i64 0, .slice none 0 0, .slice none 0 0, .slice none 0 0], .bool b]) ∧ Below X.heap.size X Y)
    (w : World) :
    Calls Try.prog 3 #[.int .i64 me, .int .i64 peer] w fun e w' => e = .returned (.bool true) ∧ Below w.heap.size w w' := by
  have HI := Lib.hid hI
  have HS := Lib.hid hS
  have hbb : (b != b) = false := by cases b <;> rfl
  have HF : Hid (Few5 10000000 ([] : List ByteArray) ([] : List PendingD) ([] : List EarlyD) ([] : List Int) ([] : List ByteArray)) := Lib.hid ⟨by simp, by simp, by simp, by simp, by simp⟩
  clear hI hS
  go_enter Try.func3, Try.ntmps3
  go_wp2_with fail
  refine (HS.out _).mono ?_
  rintro e Y3 ⟨rfl, hb3⟩
  have hal : Below Y3.heap.size Y3 (Y3.alloc (.cells #[.int .i64 m0, .int .i64 m1, .int .i64 0, .slice none 0 0, .slice none 0 0, .int .i64 0, .slice none 0 0, .slice none 0 0, .slice none 0 0] ChanT)) := (Below.refl _ _).alloc (Nat.le_refl _) _
  have U4 := Lib.hid (CV.new (X := Y3) (m0 := m0) (m1 := m1) (m2 := 0) (m5 := 0) (nil_co w.heap.size Y3))
  have B4 := Lib.hid (hb3.trans (hal.mono hb3.size))
  have o2 := hb3.size
  have hs4 : (Y3.alloc (.cells #[.int .i64 m0, .int .i64 m1, .int .i64 0, .slice none 0 0, .slice none 0 0, .int .i64 0, .slice none 0 0, .slice none 0 0, .slice none 0 0] ChanT)).heap.size = Y3.heap.size + 1 := by simp
  clear hb3 hal
  go_upto_region 2 with fail
  generalize Y3.alloc (.cells #[.int .i64 m0, .int .i64 m1, .int .i64 0, .slice none 0 0, .slice none 0 0, .int .i64 0, .slice none 0 0, .slice none 0 0, .slice none 0 0] ChanT) = V4 at *
  generalize Y3.heap.size = gu at *
  clear Y3
  go_wp2_with fail
  refine (HI.out _).mono ?_
  rintro e Y7 ⟨rfl, hb7⟩
  have hal : Below Y7.heap.size Y7 (Y7.alloc (.cells #[.int .i64 m0, .int .i64 m1, .int .i64 0, .slice none 0 0, .slice none 0 0, .int .i64 0, .slice none 0 0, .slice none 0 0, .slice none 0 0] ChanT)) := (Below.refl _ _).alloc (Nat.le_refl _) _
  have o6 := hb7.size
  have G8 := Lib.hid (CV.new (X := Y7) (m0 := m0) (m1 := m1) (m2 := 0) (m5 := 0) (nil_co V4.heap.size Y7))
  have U8 := Lib.hid ((U4.out.next hb7).next hal)
  have B8 := Lib.hid ((B4.out.trans (hb7.mono B4.out.size)).trans (hal.mono (B4.out.trans (hb7.mono B4.out.size)).size))
  clear hb7 hal U4 B4
  go_upto_region 3 with fail
  generalize Y7.alloc (.cells #[.int .i64 m0, .int .i64 m1, .int .i64 0, .slice none 0 0, .slice none 0 0, .int .i64 0, .slice none 0 0, .slice none 0 0, .slice none 0 0] ChanT) = V8 at *
  generalize Y7.heap.size = gg at *
  generalize V4.heap.size = lg at *
  clear Y7 V4
  generalize hlu : w.heap.size = lu at U8
  have d0 : V8.cell? ⟨gg, 0, none⟩ = some (.int .i64 m0) := G8.out.var.cell 0
  have d1 : V8.cell? ⟨gg, 1, none⟩ = some (.int .i64 m1) := G8.out.var.cell 1
  have d2 : V8.cell? ⟨gg, 2, none⟩ = some (.int .i64 0) := G8.out.var.cell 2
  have d3 : V8.cell? ⟨gg, 3, none⟩ = some (.slice none 0 0) := G8.out.var.cell 3
  have d4 : V8.cell? ⟨gg, 4, none⟩ = some (.slice none 0 0) := G8.out.var.cell 4
  have d5 : V8.cell? ⟨gg, 5, none⟩ = some (.int .i64 0) := G8.out.var.cell 5
  have d6 : V8.cell? ⟨gg, 6, none⟩ = some (.slice none 0 0) := G8.out.var.cell 6
  have d7 : V8.cell? ⟨gg, 7, none⟩ = some (.slice none 0 0) := G8.out.var.cell 7
  have d8 : V8.cell? ⟨gg, 8, none⟩ = some (.slice none 0 0) := G8.out.var.cell 8
  have e0 : V8.cell? ⟨gu, 0, none⟩ = some (.int .i64 m0) := U8.out.var.cell 0
  have e1 : V8.cell? ⟨gu, 1, none⟩ = some (.int .i64 m1) := U8.out.var.cell 1
  have e2 : V8.cell? ⟨gu, 2, none⟩ = some (.int .i64 0) := U8.out.var.cell 2
  have e3 : V8.cell? ⟨gu, 3, none⟩ = some (.slice none 0 0) := U8.out.var.cell 3
  have e4 : V8.cell? ⟨gu, 4, none⟩ = some (.slice none 0 0) := U8.out.var.cell 4
  have e5 : V8.cell? ⟨gu, 5, none⟩ = some (.int .i64 0) := U8.out.var.cell 5
  have e6 : V8.cell? ⟨gu, 6, none⟩ = some (.slice none 0 0) := U8.out.var.cell 6
  have e7 : V8.cell? ⟨gu, 7, none⟩ = some (.slice none 0 0) := U8.out.var.cell 7
  have e8 : V8.cell? ⟨gu, 8, none⟩ = some (.slice none 0 0) := U8.out.var.cell 8
  have K8 := Lib.hid (chan_eq (m0 := m0) (m1 := m1) (m2 := 0) (m5 := 0) G8.out.rd U8.out.rd HF.out)
  go_wp2_with fail
  refine (K8.out).mono ?_
  rintro e V9 ⟨rfl, hb9⟩
  have Q9 : Hid (CV lu gu gu m0 m1 0 0 (.slice none 0 0) (.slice none 0 0) (.slice none 0 0) (.slice none 0 0) (.slice none 0 0) [] [] [] [] [] V9 ∧ CV lg gg gg m0 m1 0 0 (.slice none 0 0) (.slice none 0 0) (.slice none 0 0) (.slice none 0 0) (.slice none 0 0) [] [] [] [] [] V9 ∧ Below w.heap.size w V9) := Lib.hid ⟨U8.out.next hb9, G8.out.next hb9, B8.out.trans (hb9.mono B8.out.size)⟩
  clear hb9 K8 U8 G8 B8 d0 d1 d2 d3 d4 d5 d6 d7 d8 e0 e1 e2 e3 e4 e5 e6 e7 e8
  have d0 : V9.cell? ⟨gg, 0, none⟩ = some (.int .i64 m0) := Q9.out.2.1.var.cell 0
  have d1 : V9.cell? ⟨gg, 1, none⟩ = some (.int .i64 m1) := Q9.out.2.1.var.cell 1
  have d2 : V9.cell? ⟨gg, 2, none⟩ = some (.int .i64 0) := Q9.out.2.1.var.cell 2
  have d3 : V9.cell? ⟨gg, 3, none⟩ = some (.slice none 0 0) := Q9.out.2.1.var.cell 3
  have d4 : V9.cell? ⟨gg, 4, none⟩ = some (.slice none 0 0) := Q9.out.2.1.var.cell 4
  have d5 : V9.cell? ⟨gg, 5, none⟩ = some (.int .i64 0) := Q9.out.2.1.var.cell 5
  have d6 : V9.cell? ⟨gg, 6, none⟩ = some (.slice none 0 0) := Q9.out.2.1.var.cell 6
  have d7 : V9.cell? ⟨gg, 7, none⟩ = some (.slice none 0 0) := Q9.out.2.1.var.cell 7
  have d8 : V9.cell? ⟨gg, 8, none⟩ = some (.slice none 0 0) := Q9.out.2.1.var.cell 8
  have KC := Lib.hid (Q9.out.2.1.mark HF.out)
  go_wp2_with fail
  refine (KC.out).mono ?_
  rintro e VD ⟨rfl, hmD, hcD⟩
  have QD : Hid (CV lu gu gu m0 m1 0 0 (.slice none 0 0) (.slice none 0 0) (.slice none 0 0) (.slice none 0 0) (.slice none 0 0) [] [] [] [] [] VD ∧ CV lg gg gg m0 m1 0 0 (.slice none 0 0) (.slice none 0 0) (.slice none 0 0) (.slice none 0 0) (.slice none 0 0) (layStringS.mark (1) []).1 (layPendingS.mark (1 + 1 * (([] : List ByteArray).length : Int)) []).1 (layEarlyS.mark (1 + 1 * (([] : List ByteArray).length : Int) + 4 * (([] : List PendingD).length : Int)) []).1 (layIntS.mark (1 + 1 * (([] : List ByteArray).length : Int) + 4 * (([] : List PendingD).length : Int) + 2 * (([] : List EarlyD).length : Int)) []).1 (layStringS.mark (1 + 1 * (([] : List ByteArray).length : Int) + 4 * (([] : List PendingD).length : Int) + 2 * (([] : List EarlyD).length : Int) + 1 * (([] : List Int).length : Int)) []).1 VD ∧ Below w.heap.size w VD) := Lib.hid ⟨Q9.out.1.apart hcD (.inl (by omega)) (.inl (by omega)), hmD, Q9.out.2.2.trans (hcD.below (by omega) Q9.out.2.2.size)⟩
  clear hmD hcD KC Q9 d0 d1 d2 d3 d4 d5 d6 d7 d8
  have qm : ∀ X Y, (CV lu gu gu m0 m1 0 0 (.slice none 0 0) (.slice none 0 0) (.slice none 0 0) (.slice none 0 0) (.slice none 0 0) [] [] [] [] [] X ∧ CV lg gg gg m0 m1 0 0 (.slice none 0 0) (.slice none 0 0) (.slice none 0 0) (.slice none 0 0) (.slice none 0 0) (layStringS.mark (1) []).1 (layPendingS.mark (1 + 1 * (([] : List ByteArray).length : Int)) []).1 (layEarlyS.mark (1 + 1 * (([] : List ByteArray).length : Int) + 4 * (([] : List PendingD).length : Int)) []).1 (layIntS.mark (1 + 1 * (([] : List ByteArray).length : Int) + 4 * (([] : List PendingD).length : Int) + 2 * (([] : List EarlyD).length : Int)) []).1 (layStringS.mark (1 + 1 * (([] : List ByteArray).length : Int) + 4 * (([] : List PendingD).length : Int) + 2 * (([] : List EarlyD).length : Int) + 1 * (([] : List Int).length : Int)) []).1 X ∧ Below w.heap.size w X) → Below X.heap.size X Y → (CV lu gu gu m0 m1 0 0 (.slice none 0 0) (.slice none 0 0) (.slice none 0 0) (.slice none 0 0) (.slice none 0 0) [] [] [] [] [] Y ∧ CV lg gg gg m0 m1 0 0 (.slice none 0 0) (.slice none 0 0) (.slice none 0 0) (.slice none 0 0) (.slice none 0 0) (layStringS.mark (1) []).1 (layPendingS.mark (1 + 1 * (([] : List ByteArray).length : Int)) []).1 (layEarlyS.mark (1 + 1 * (([] : List ByteArray).length : Int) + 4 * (([] : List PendingD).length : Int)) []).1 (layIntS.mark (1 + 1 * (([] : List ByteArray).length : Int) + 4 * (([] : List PendingD).length : Int) + 2 * (([] : List EarlyD).length : Int)) []).1 (layStringS.mark (1 + 1 * (([] : List ByteArray).length : Int) + 4 * (([] : List PendingD).length : Int) + 2 * (([] : List EarlyD).length : Int) + 1 * (([] : List Int).length : Int)) []).1 Y ∧ Below w.heap.size w Y) := fun X Y h hb => ⟨h.1.next hb, h.2.1.next hb, h.2.2.trans (hb.mono h.2.2.size)⟩
  have KH : Hid (∀ X, (CV lu gu gu m0 m1 0 0 (.slice none 0 0) (.slice none 0 0) (.slice none 0 0) (.slice none 0 0) (.slice none 0 0) [] [] [] [] [] X ∧ CV lg gg gg m0 m1 0 0 (.slice none 0 0) (.slice none 0 0) (.slice none 0 0) (.slice none 0 0) (.slice none 0 0) (layStringS.mark (1) []).1 (layPendingS.mark (1 + 1 * (([] : List ByteArray).length : Int)) []).1 (layEarlyS.mark (1 + 1 * (([] : List ByteArray).length : Int) + 4 * (([] : List PendingD).length : Int)) []).1 (layIntS.mark (1 + 1 * (([] : List ByteArray).length : Int) + 4 * (([] : List PendingD).length : Int) + 2 * (([] : List EarlyD).length : Int)) []).1 (layStringS.mark (1 + 1 * (([] : List ByteArray).length : Int) + 4 * (([] : List PendingD).length : Int) + 2 * (([] : List EarlyD).length : Int) + 1 * (([] : List Int).length : Int)) []).1 X ∧ Below w.heap.size w X) → Calls Try.prog 12 #[.agg #[.int .i64 m0, .int .i64 m1, .int .i64 0, .slice none 0 0, .slice none 0 0, .int .i64 0, .slice none 0 0, .slice none 0 0, .slice none 0 0], .int .i64 1] X fun e Y => e = .returned (.int .i64 (cntC ([] : List ByteArray) ([] : List PendingD) ([] : List EarlyD) ([] : List Int) ([] : List ByteArray))) ∧ Below X.heap.size X Y) := Lib.hid (fun X h => h.2.1.held HF.out)
  have hm1 := cnt_not (r3 := []) (r4 := []) (r6 := []) (r7 := []) (r8 := [])
  generalize cntC ([] : List ByteArray) ([] : List PendingD) ([] : List EarlyD) ([] : List Int) ([] : List ByteArray) = zr at *
  have d0 : VD.cell? ⟨gg, 0, none⟩ = some (.int .i64 m0) := QD.out.2.1.var.cell 0
  have d1 : VD.cell? ⟨gg, 1, none⟩ = some (.int .i64 m1) := QD.out.2.1.var.cell 1
  have d2 : VD.cell? ⟨gg, 2, none⟩ = some (.int .i64 0) := QD.out.2.1.var.cell 2
  have d3 : VD.cell? ⟨gg, 3, none⟩ = some (.slice none 0 0) := QD.out.2.1.var.cell 3
  have d4 : VD.cell? ⟨gg, 4, none⟩ = some (.slice none 0 0) := QD.out.2.1.var.cell 4
  have d5 : VD.cell? ⟨gg, 5, none⟩ = some (.int .i64 0) := QD.out.2.1.var.cell 5
  have d6 : VD.cell? ⟨gg, 6, none⟩ = some (.slice none 0 0) := QD.out.2.1.var.cell 6
  have d7 : VD.cell? ⟨gg, 7, none⟩ = some (.slice none 0 0) := QD.out.2.1.var.cell 7
  have d8 : VD.cell? ⟨gg, 8, none⟩ = some (.slice none 0 0) := QD.out.2.1.var.cell 8
  go_wp2_with fail
  refine (KH.out VD QD.out).mono ?_
  rintro e VE ⟨rfl, hbE⟩
  have QE := Lib.hid (qm _ _ QD.out hbE)
  clear hbE QD d0 d1 d2 d3 d4 d5 d6 d7 d8
  go_wp2_with fail
  refine (HI.out VE).mono ?_
  rintro e VG ⟨rfl, hbG⟩
  have hal : Below VG.heap.size VG (VG.alloc (.cells #[.int .i64 m0, .int .i64 m1, .int .i64 0, .slice none 0 0, .slice none 0 0, .int .i64 0, .slice none 0 0, .slice none 0 0, .slice none 0 0] ChanT)) := (Below.refl _ _).alloc (Nat.le_refl _) _
  have QG := Lib.hid (qm _ _ (qm _ _ QE.out hbG) hal)
  have HG := Lib.hid (CV.new (X := VG) (m0 := m0) (m1 := m1) (m2 := 0) (m5 := 0) (nil_co VE.heap.size VG))
  clear hbG hal QE
  go_upto_region 14 with fail
  generalize VG.alloc (.cells #[.int .i64 m0, .int .i64 m1, .int .i64 0, .slice none 0 0, .slice none 0 0, .int .i64 0, .slice none 0 0, .slice none 0 0, .slice none 0 0] ChanT) = VH at *
  generalize VG.heap.size = gh at *
  generalize VE.heap.size = lh at *
  clear VG VE
  have d0 : VH.cell? ⟨gh, 0, none⟩ = some (.int .i64 m0) := HG.out.var.cell 0
  have d1 : VH.cell? ⟨gh, 1, none⟩ = some (.int .i64 m1) := HG.out.var.cell 1
  have d2 : VH.cell? ⟨gh, 2, none⟩ = some (.int .i64 0) := HG.out.var.cell 2
  have d3 : VH.cell? ⟨gh, 3, none⟩ = some (.slice none 0 0) := HG.out.var.cell 3
  have d4 : VH.cell? ⟨gh, 4, none⟩ = some (.slice none 0 0) := HG.out.var.cell 4
  have d5 : VH.cell? ⟨gh, 5, none⟩ = some (.int .i64 0) := HG.out.var.cell 5
  have d6 : VH.cell? ⟨gh, 6, none⟩ = some (.slice none 0 0) := HG.out.var.cell 6
  have d7 : VH.cell? ⟨gh, 7, none⟩ = some (.slice none 0 0) := HG.out.var.cell 7
  have d8 : VH.cell? ⟨gh, 8, none⟩ = some (.slice none 0 0) := HG.out.var.cell 8
  have e0 : VH.cell? ⟨gu, 0, none⟩ = some (.int .i64 m0) := QG.out.1.var.cell 0
  have e1 : VH.cell? ⟨gu, 1, none⟩ = some (.int .i64 m1) := QG.out.1.var.cell 1
  have e2 : VH.cell? ⟨gu, 2, none⟩ = some (.int .i64 0) := QG.out.1.var.cell 2
  have e3 : VH.cell? ⟨gu, 3, none⟩ = some (.slice none 0 0) := QG.out.1.var.cell 3
  have e4 : VH.cell? ⟨gu, 4, none⟩ = some (.slice none 0 0) := QG.out.1.var.cell 4
  have e5 : VH.cell? ⟨gu, 5, none⟩ = some (.int .i64 0) := QG.out.1.var.cell 5
  have e6 : VH.cell? ⟨gu, 6, none⟩ = some (.slice none 0 0) := QG.out.1.var.cell 6
  have e7 : VH.cell? ⟨gu, 7, none⟩ = some (.slice none 0 0) := QG.out.1.var.cell 7
  have e8 : VH.cell? ⟨gu, 8, none⟩ = some (.slice none 0 0) := QG.out.1.var.cell 8
  have KJ := Lib.hid (chan_eq (m0 := m0) (m1 := m1) (m2 := 0) (m5 := 0) HG.out.rd QG.out.1.rd HF.out)
  go_wp2_with fail
  refine (KJ.out).mono ?_
  rintro e VI ⟨rfl, hbI⟩
  have QI := Lib.hid (qm _ _ QG.out hbI)
  clear hbI KJ QG HG d0 d1 d2 d3 d4 d5 d6 d7 d8 e0 e1 e2 e3 e4 e5 e6 e7 e8
  have d0 : VI.cell? ⟨gg, 0, none⟩ = some (.int .i64 m0) := QI.out.2.1.var.cell 0
  have d1 : VI.cell? ⟨gg, 1, none⟩ = some (.int .i64 m1) := QI.out.2.1.var.cell 1
  have d2 : VI.cell? ⟨gg, 2, none⟩ = some (.int .i64 0) := QI.out.2.1.var.cell 2
  have d3 : VI.cell? ⟨gg, 3, none⟩ = some (.slice none 0 0) := QI.out.2.1.var.cell 3
  have d4 : VI.cell? ⟨gg, 4, none⟩ = some (.slice none 0 0) := QI.out.2.1.var.cell 4
  have d5 : VI.cell? ⟨gg, 5, none⟩ = some (.int .i64 0) := QI.out.2.1.var.cell 5
  have d6 : VI.cell? ⟨gg, 6, none⟩ = some (.slice none 0 0) := QI.out.2.1.var.cell 6
  have d7 : VI.cell? ⟨gg, 7, none⟩ = some (.slice none 0 0) := QI.out.2.1.var.cell 7
  have d8 : VI.cell? ⟨gg, 8, none⟩ = some (.slice none 0 0) := QI.out.2.1.var.cell 8
  go_wp2_with fail
  refine (KH.out VI QI.out).mono ?_
  rintro e VK ⟨rfl, hbK⟩
  have BZ := Lib.hid (QI.out.2.2.trans (hbK.mono QI.out.2.2.size))
  clear hbK
  go_wp2_with fail
  go_ret
  exact ⟨rfl, BZ.out⟩

end Go.Proofs.Ythljmjbmmgligar
namespace Go.Proofs.Ythljmjbmmgligar
open Go.RowKit

theorem lawChanNew (me peer : Int) (w : World) :
    Calls Try.prog 3 #[.int .i64 me, .int .i64 peer] w fun e w' => e = .returned (.bool true) ∧ Below w.heap.size w w' := by
  by_cases h : (1 ≤ me ∧ me ≤ 99) ∧ 1 ≤ peer ∧ peer ≤ 99
  · exact lawChanNewF me peer me peer true (fun X => implChanNew_any me peer true ⟨fun _ => h, fun _ => rfl⟩ X) (fun X => specChanNew_any me peer true ⟨fun _ => h, fun _ => rfl⟩ X) w
  · exact lawChanNewF me peer 0 0 false (fun X => implChanNew_any me peer false ⟨fun e => (by cases e), fun e => absurd e h⟩ X) (fun X => specChanNew_any me peer false ⟨fun e => (by cases e), fun e => absurd e h⟩ X) w

end Go.Proofs.Ythljmjbmmgligar
