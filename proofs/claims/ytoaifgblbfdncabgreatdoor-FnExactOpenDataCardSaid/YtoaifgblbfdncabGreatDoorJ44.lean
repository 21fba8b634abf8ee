/-
  The program's OpenData.
-/
import Derived.Test.YtoaifgblbfdncabGreatDoorJ24
import Derived.Test.YtoaifgblbfdncabGreatDoorJ37
import Derived.Test.YtoaifgblbfdncabGreatDoorJ40
import Derived.Test.YtoaifgblbfdncabGreatDoorJ42
import Derived.Test.YtoaifgblbfdncabGreatDoorJ43
namespace Go.Proofs.YtoaifgblbfdncabGreatDoor
open Go.RowKit

section
variable {w X Y : World} {G : Nat} {s p o : Array Value} {f g h : List Nat} {v u x : Value} {r4 s4 r5 : List Int}
/-- The main slot's numbers are put anew. -/
theorem ODV.took {o' : Array Value} (k : ODV w G s p o f g v u r4 s4 X) (ho : Only G X Y) (hv : VarA G SlotsT o' Y) (hx : layIntS.own Y X.heap.size h [x] r5) (hh : h.Nodup) (FH : ∀ a ∈ f ++ g, a < X.heap.size) : ODV w G s p o' h g x u r5 s4 Y := by
  have hf := k.far
  have hl := k.o.lt
  exact ⟨k.s.only ho (by omega), k.p.only ho (by omega), k.r.only ho (by omega), hv, k.far, layIntS.lower hx (by omega), own_var k.rowL k.o (by decide) ho,
    List.nodup_append.2 ⟨hh, (List.nodup_append.1 k.dup).2.1, fun a ha b hb e => by have h1 := (layIntS.blocks hx a ha).1; have h2 := FH b (List.mem_append_right _ hb); omega⟩, k.below.trans (only_lo ho (by omega) k.below.size)⟩
/-- The lame slot's numbers are put anew. -/
theorem ODV.took2 {o' : Array Value} (k : ODV w G s p o f g v u r4 s4 X) (ho : Only G X Y) (hv : VarA G SlotsT o' Y) (hx : layIntS.own Y X.heap.size h [x] r5) (hh : h.Nodup) (FH : ∀ a ∈ f ++ g, a < X.heap.size) : ODV w G s p o' f h v x r4 r5 Y := by
  have hf := k.far
  have hl := k.o.lt
  exact ⟨k.s.only ho (by omega), k.p.only ho (by omega), k.r.only ho (by omega), hv, k.far, own_var k.rowM k.o (by decide) ho, layIntS.lower hx (by omega),
    List.nodup_append.2 ⟨(List.nodup_append.1 k.dup).1, hh, fun a ha b hb e => by have h1 := (layIntS.blocks hx b hb).1; have h2 := FH a (List.mem_append_left _ ha); omega⟩, k.below.trans (only_lo ho (by omega) k.below.size)⟩
end
theorem slot_pos {x0 : Int} {x1 x2 : ByteArray} {x3 : Int} {r4 : List Int} {x5 : Int} (h : SlotP x0 x1 x2 x3 r4 x5) : 0 < x0 ↔ ¬ NoneP x0 x1 x2 x3 r4 x5 := by
  rcases h with h | h
  · exact ⟨fun k _ => by have := h.1; omega, fun k => absurd h k⟩
  · exact ⟨fun _ k => by have h1 := h.1.1; have h2 := k.1; omega, fun _ => by have := h.1.1; omega⟩
set_option maxRecDepth 100000 in
set_option maxHeartbeats 12800000 in
theorem implOpenData_any (x0 : Int) (x1 x2 : ByteArray) (x3 : Int) (v4 : Value) (r4 : List Int) (x5 : Int) (y0 : Int) (y1 y2 : ByteArray) (y3 : Int) (u4 : Value) (s4 : List Int) (y5 : Int) (op key fr dst num : Int) (va : Value) (acks : List Int) (body : ByteArray) (now : Int) (l1 : x1.size ≤ 1048576) (l2 : x2.size ≤ 1048576) (m1 : y1.size ≤ 1048576) (m2 : y2.size ≤ 1048576) (hl : r4.length ≤ 10000000) (hk : s4.length ≤ 10000000) (hac : acks.length ≤ 1048576) (hbs : body.size ≤ 1048576) (gx : ∀ x ∈ r4, IntZ x) (gy : ∀ x ∈ s4, IntZ x) (r5 s5 : List Int) (t : ByteArray) (ok : Bool) (hO : OpenD x0 x1 x2 x3 r4 x5 y0 y1 y2 y3 s4 y5 op key fr dst num acks body now r5 s5 t ok) (w : World) (ht : LaidK w) (h : layIntS.rd w [v4] r4) (k : layIntS.rd w [u4] s4) (ha : layIntS.rd w [va] acks) :
    Calls Tryz.prog 9 #[.agg #[.int .i64 x0, .string x1, .string x2, .int .i64 x3, v4, .int .i64 x5, .int .i64 y0, .string y1, .string y2, .int .i64 y3, u4, .int .i64 y5], .agg #[.int .i64 op, .int .i64 key, .int .i64 fr, .int .i64 dst, .int .i64 num, va, .string body], .int .i64 now] w (OpenEnd x0 x1 x2 x3 x5 y0 y1 y2 y3 y5 r5 s5 t ok w) := by
  obtain ⟨a4, p4, rfl⟩ := rows_form h
  obtain ⟨b4, q4, rfl⟩ := rows_form k
  obtain ⟨aa, ca, rfl⟩ := rows_form ha
  have e1 : (w.alloc (.cells #[.int .i64 x0, .string x1, .string x2, .int .i64 x3, .slice a4 r4.length p4, .int .i64 x5, .int .i64 y0, .string y1, .string y2, .int .i64 y3, .slice b4 s4.length q4, .int .i64 y5] SlotsT)).heap.size = w.heap.size + 1 := by simp
  have e2 : ((w.alloc (.cells #[.int .i64 x0, .string x1, .string x2, .int .i64 x3, .slice a4 r4.length p4, .int .i64 x5, .int .i64 y0, .string y1, .string y2, .int .i64 y3, .slice b4 s4.length q4, .int .i64 y5] SlotsT)).alloc (.cells #[.int .i64 op, .int .i64 key, .int .i64 fr, .int .i64 dst, .int .i64 num, .slice aa acks.length ca, .string body] OPkT)).heap.size = w.heap.size + 1 + 1 := by simp
  have h2 := VarA.new (w.alloc (.cells #[.int .i64 x0, .string x1, .string x2, .int .i64 x3, .slice a4 r4.length p4, .int .i64 x5, .int .i64 y0, .string y1, .string y2, .int .i64 y3, .slice b4 s4.length q4, .int .i64 y5] SlotsT)) OPkT #[.int .i64 op, .int .i64 key, .int .i64 fr, .int .i64 dst, .int .i64 num, .slice aa acks.length ca, .string body]
  have h3 := VarA.new ((w.alloc (.cells #[.int .i64 x0, .string x1, .string x2, .int .i64 x3, .slice a4 r4.length p4, .int .i64 x5, .int .i64 y0, .string y1, .string y2, .int .i64 y3, .slice b4 s4.length q4, .int .i64 y5] SlotsT)).alloc (.cells #[.int .i64 op, .int .i64 key, .int .i64 fr, .int .i64 dst, .int .i64 num, .slice aa acks.length ca, .string body] OPkT)) SlotsT #[.int .i64 0, .string ⟨#[]⟩, .string ⟨#[]⟩, .int .i64 0, .slice none 0 0, .int .i64 0, .int .i64 0, .string ⟨#[]⟩, .string ⟨#[]⟩, .int .i64 0, .slice none 0 0, .int .i64 0]
  rw [e1] at h2
  rw [e2] at h3
  have A0 := Lib.hid (((VarA.new w SlotsT #[.int .i64 x0, .string x1, .string x2, .int .i64 x3, .slice a4 r4.length p4, .int .i64 x5, .int .i64 y0, .string y1, .string y2, .int .i64 y3, .slice b4 s4.length q4, .int .i64 y5]).alloc (.cells #[.int .i64 op, .int .i64 key, .int .i64 fr, .int .i64 dst, .int .i64 num, .slice aa acks.length ca, .string body] OPkT)).alloc (.cells #[.int .i64 0, .string ⟨#[]⟩, .string ⟨#[]⟩, .int .i64 0, .slice none 0 0, .int .i64 0, .int .i64 0, .string ⟨#[]⟩, .string ⟨#[]⟩, .int .i64 0, .slice none 0 0, .int .i64 0] SlotsT))
  have A1 := Lib.hid (h2.alloc (.cells #[.int .i64 0, .string ⟨#[]⟩, .string ⟨#[]⟩, .int .i64 0, .slice none 0 0, .int .i64 0, .int .i64 0, .string ⟨#[]⟩, .string ⟨#[]⟩, .int .i64 0, .slice none 0 0, .int .i64 0] SlotsT))
  have A2 := Lib.hid h3
  have BY := Lib.hid ((((Below.refl w.heap.size w).alloc (Nat.le_refl _) (.cells #[.int .i64 x0, .string x1, .string x2, .int .i64 x3, .slice a4 r4.length p4, .int .i64 x5, .int .i64 y0, .string y1, .string y2, .int .i64 y3, .slice b4 s4.length q4, .int .i64 y5] SlotsT)).alloc (by simp) (.cells #[.int .i64 op, .int .i64 key, .int .i64 fr, .int .i64 dst, .int .i64 num, .slice aa acks.length ca, .string body] OPkT)).alloc (by simp; omega) (.cells #[.int .i64 0, .string ⟨#[]⟩, .string ⟨#[]⟩, .int .i64 0, .slice none 0 0, .int .i64 0, .int .i64 0, .string ⟨#[]⟩, .string ⟨#[]⟩, .int .i64 0, .slice none 0 0, .int .i64 0] SlotsT))
  have hz : Hid (w.heap.size + 1 + 1 + 1 ≤ (((w.alloc (.cells #[.int .i64 x0, .string x1, .string x2, .int .i64 x3, .slice a4 r4.length p4, .int .i64 x5, .int .i64 y0, .string y1, .string y2, .int .i64 y3, .slice b4 s4.length q4, .int .i64 y5] SlotsT)).alloc (.cells #[.int .i64 op, .int .i64 key, .int .i64 fr, .int .i64 dst, .int .i64 num, .slice aa acks.length ca, .string body] OPkT)).alloc (.cells #[.int .i64 0, .string ⟨#[]⟩, .string ⟨#[]⟩, .int .i64 0, .slice none 0 0, .int .i64 0, .int .i64 0, .string ⟨#[]⟩, .string ⟨#[]⟩, .int .i64 0, .slice none 0 0, .int .i64 0] SlotsT)).heap.size) := Lib.hid (by simp)
  have HT := Lib.hid ht
  have HR := Lib.hid h
  have HK := Lib.hid k
  have HA := Lib.hid ha
  have HO := Lib.hid hO
  clear h k ha h2 h3 e1 e2 hO ht
  obtain ⟨Q, HQ⟩ : ∃ Q : Ending → World → Prop, Hid (Q = OpenEnd x0 x1 x2 x3 x5 y0 y1 y2 y3 y5 r5 s5 t ok w) := ⟨_, Lib.hid rfl⟩
  rw [← HQ.out]
  go_enter Tryz.func9, Tryz.ntmps9
  go_upto_region 1 with fail
  generalize (((w.alloc (.cells #[.int .i64 x0, .string x1, .string x2, .int .i64 x3, .slice a4 r4.length p4, .int .i64 x5, .int .i64 y0, .string y1, .string y2, .int .i64 y3, .slice b4 s4.length q4, .int .i64 y5] SlotsT)).alloc (.cells #[.int .i64 op, .int .i64 key, .int .i64 fr, .int .i64 dst, .int .i64 num, .slice aa acks.length ca, .string body] OPkT)).alloc (.cells #[.int .i64 0, .string ⟨#[]⟩, .string ⟨#[]⟩, .int .i64 0, .slice none 0 0, .int .i64 0, .int .i64 0, .string ⟨#[]⟩, .string ⟨#[]⟩, .int .i64 0, .slice none 0 0, .int .i64 0] SlotsT)) = Y at *
  have c0 : Y.cell? ⟨w.heap.size, 0, none⟩ = some (.int .i64 x0) := A0.out.cell 0
  have c1 : Y.cell? ⟨w.heap.size, 1, none⟩ = some (.string x1) := A0.out.cell 1
  have c2 : Y.cell? ⟨w.heap.size, 2, none⟩ = some (.string x2) := A0.out.cell 2
  have c3 : Y.cell? ⟨w.heap.size, 3, none⟩ = some (.int .i64 x3) := A0.out.cell 3
  have c4 : Y.cell? ⟨w.heap.size, 4, none⟩ = some (.slice a4 r4.length p4) := A0.out.cell 4
  have c5 : Y.cell? ⟨w.heap.size, 5, none⟩ = some (.int .i64 x5) := A0.out.cell 5
  have c6 : Y.cell? ⟨w.heap.size, 6, none⟩ = some (.int .i64 y0) := A0.out.cell 6
  have c7 : Y.cell? ⟨w.heap.size, 7, none⟩ = some (.string y1) := A0.out.cell 7
  have c8 : Y.cell? ⟨w.heap.size, 8, none⟩ = some (.string y2) := A0.out.cell 8
  have c9 : Y.cell? ⟨w.heap.size, 9, none⟩ = some (.int .i64 y3) := A0.out.cell 9
  have c10 : Y.cell? ⟨w.heap.size, 10, none⟩ = some (.slice b4 s4.length q4) := A0.out.cell 10
  have c11 : Y.cell? ⟨w.heap.size, 11, none⟩ = some (.int .i64 y5) := A0.out.cell 11
  have KC := Lib.hid (copyOfSlots_any cloneS x0 x1 x2 x3 _ r4 x5 y0 y1 y2 y3 _ s4 y5 (by omega) (by omega) (by omega) (by omega) hl hk Y (layIntS.below HR.out BY.out) (layIntS.below HK.out BY.out))
  go_wp2_with fail
  refine (KC.out).mono ?_
  rintro e Y1 ⟨v5, v6, f, g, rfl, hd, o1, o2, hb⟩
  obtain ⟨ma, mk, rfl⟩ := rows_form (layIntS.read o1)
  obtain ⟨la, lk, rfl⟩ := rows_form (layIntS.read o2)
  have hzz := hz.out
  have hal : Below Y1.heap.size Y1 (Y1.alloc (.cells #[.int .i64 x0, .string x1, .string x2, .int .i64 x3, .slice ma r4.length mk, .int .i64 x5, .int .i64 y0, .string y1, .string y2, .int .i64 y3, .slice la s4.length lk, .int .i64 y5] SlotsT)) := (Below.refl _ _).alloc (Nat.le_refl _) _
  have D0 : Hid (ODV w Y1.heap.size #[.int .i64 x0, .string x1, .string x2, .int .i64 x3, .slice a4 r4.length p4, .int .i64 x5, .int .i64 y0, .string y1, .string y2, .int .i64 y3, .slice b4 s4.length q4, .int .i64 y5] #[.int .i64 op, .int .i64 key, .int .i64 fr, .int .i64 dst, .int .i64 num, .slice aa acks.length ca, .string body] #[.int .i64 x0, .string x1, .string x2, .int .i64 x3, .slice ma r4.length mk, .int .i64 x5, .int .i64 y0, .string y1, .string y2, .int .i64 y3, .slice la s4.length lk, .int .i64 y5] f g (.slice ma r4.length mk) (.slice la s4.length lk) r4 s4 (Y1.alloc (.cells #[.int .i64 x0, .string x1, .string x2, .int .i64 x3, .slice ma r4.length mk, .int .i64 x5, .int .i64 y0, .string y1, .string y2, .int .i64 y3, .slice la s4.length lk, .int .i64 y5] SlotsT))) := Lib.hid
    ⟨(A0.out.next hb).next hal, (A1.out.next hb).next hal, (A2.out.next hb).next hal, VarA.new Y1 SlotsT _, Nat.le_trans hzz hb.size, layIntS.lower (layIntS.next o1 hal) hzz, layIntS.lower (layIntS.next o2 hal) hzz, hd, (BY.out.trans (hb.mono BY.out.size)).trans (hal.mono (Nat.le_trans BY.out.size hb.size))⟩
  have FH : Hid (∀ a ∈ f ++ g, a < Y1.heap.size + 1) := Lib.hid (fun a ha => (List.mem_append.1 ha).elim (fun h => by have := (layIntS.blocks o1 a h).2; omega) (fun h => by have := (layIntS.blocks o2 a h).2; omega))
  have hs1 : Hid ((Y1.alloc (.cells #[.int .i64 x0, .string x1, .string x2, .int .i64 x3, .slice ma r4.length mk, .int .i64 x5, .int .i64 y0, .string y1, .string y2, .int .i64 y3, .slice la s4.length lk, .int .i64 y5] SlotsT)).heap.size = Y1.heap.size + 1) := Lib.hid (by simp)
  clear hb hal hd o1 o2 KC A0 A1 A2 BY hz hzz c0 c1 c2 c3 c4 c5 c6 c7 c8 c9 c10 c11
  go_upto_region 2 with fail
  generalize Y1.alloc (.cells #[.int .i64 x0, .string x1, .string x2, .int .i64 x3, .slice ma r4.length mk, .int .i64 x5, .int .i64 y0, .string y1, .string y2, .int .i64 y3, .slice la s4.length lk, .int .i64 y5] SlotsT) = Y2 at *
  generalize Y1.heap.size = G at *
  replace FH : Hid (∀ a ∈ f ++ g, a < Y2.heap.size) := Lib.hid (fun a ha => by have := FH.out a ha; have := hs1.out; omega)
  clear hs1
  obtain ⟨b, hb⟩ : ∃ b : Bool, b = true ↔ (SlotsP x0 x1 x2 x3 r4 x5 y0 y1 y2 y3 s4 y5 ∧ PkOkP op key fr dst num acks body ∧ op = 3) := by
    by_cases h : SlotsP x0 x1 x2 x3 r4 x5 y0 y1 y2 y3 s4 y5 ∧ PkOkP op key fr dst num acks body ∧ op = 3
    · exact ⟨true, ⟨fun _ => h, fun _ => rfl⟩⟩
    · exact ⟨false, ⟨fun e => (by cases e), fun e => absurd e h⟩⟩
  have HB := Lib.hid hb
  have HN : Hid (¬ (SlotsP x0 x1 x2 x3 r4 x5 y0 y1 y2 y3 s4 y5 ∧ PkOkP op key fr dst num acks body ∧ op = 3) → b = false) := Lib.hid (fun h => by
    cases b with
    | false => rfl
    | true => exact absurd (hb.1 rfl) h)
  clear hb
  go_cut [27] (fun z wx => z = .bool (!b) ∧ Hid (ODV w G #[.int .i64 x0, .string x1, .string x2, .int .i64 x3, .slice a4 r4.length p4, .int .i64 x5, .int .i64 y0, .string y1, .string y2, .int .i64 y3, .slice b4 s4.length q4, .int .i64 y5] #[.int .i64 op, .int .i64 key, .int .i64 fr, .int .i64 dst, .int .i64 num, .slice aa acks.length ca, .string body] #[.int .i64 x0, .string x1, .string x2, .int .i64 x3, .slice ma r4.length mk, .int .i64 x5, .int .i64 y0, .string y1, .string y2, .int .i64 y3, .slice la s4.length lk, .int .i64 y5] f g (.slice ma r4.length mk) (.slice la s4.length lk) r4 s4 wx) ∧ Hid (∀ a ∈ f ++ g, a < wx.heap.size))
  case first =>
    have c0 : Y2.cell? ⟨w.heap.size, 0, none⟩ = some (.int .i64 x0) := D0.out.s.cell 0
    have c1 : Y2.cell? ⟨w.heap.size, 1, none⟩ = some (.string x1) := D0.out.s.cell 1
    have c2 : Y2.cell? ⟨w.heap.size, 2, none⟩ = some (.string x2) := D0.out.s.cell 2
    have c3 : Y2.cell? ⟨w.heap.size, 3, none⟩ = some (.int .i64 x3) := D0.out.s.cell 3
    have c4 : Y2.cell? ⟨w.heap.size, 4, none⟩ = some (.slice a4 r4.length p4) := D0.out.s.cell 4
    have c5 : Y2.cell? ⟨w.heap.size, 5, none⟩ = some (.int .i64 x5) := D0.out.s.cell 5
    have c6 : Y2.cell? ⟨w.heap.size, 6, none⟩ = some (.int .i64 y0) := D0.out.s.cell 6
    have c7 : Y2.cell? ⟨w.heap.size, 7, none⟩ = some (.string y1) := D0.out.s.cell 7
    have c8 : Y2.cell? ⟨w.heap.size, 8, none⟩ = some (.string y2) := D0.out.s.cell 8
    have c9 : Y2.cell? ⟨w.heap.size, 9, none⟩ = some (.int .i64 y3) := D0.out.s.cell 9
    have c10 : Y2.cell? ⟨w.heap.size, 10, none⟩ = some (.slice b4 s4.length q4) := D0.out.s.cell 10
    have c11 : Y2.cell? ⟨w.heap.size, 11, none⟩ = some (.int .i64 y5) := D0.out.s.cell 11
    obtain ⟨b1, hb1⟩ : ∃ b1 : Bool, b1 = true ↔ (SlotsP x0 x1 x2 x3 r4 x5 y0 y1 y2 y3 s4 y5) := by
      by_cases h : SlotsP x0 x1 x2 x3 r4 x5 y0 y1 y2 y3 s4 y5
      · exact ⟨true, ⟨fun _ => h, fun _ => rfl⟩⟩
      · exact ⟨false, ⟨fun e => (by cases e), fun e => absurd e h⟩⟩
    have K1 := Lib.hid (implSlotsOk_any x0 x1 x2 x3 _ r4 x5 y0 y1 y2 y3 _ s4 y5 b1 hb1 (by omega) (by omega) gx gy Y2 (layIntS.below HR.out D0.out.below) (layIntS.below HK.out D0.out.below))
    have H1 := Lib.hid hb1
    clear hb1
    go_wp2_with fail
    refine K1.out.mono ?_
    rintro e Y3 ⟨rfl, hb⟩
    have D1 := Lib.hid (D0.out.next hb)
    replace FH : Hid (∀ a ∈ f ++ g, a < Y3.heap.size) := Lib.hid (fun a ha => Nat.lt_of_lt_of_le (FH.out a ha) hb.size)
    clear hb K1 D0 c0 c1 c2 c3 c4 c5 c6 c7 c8 c9 c10 c11
    cases b1 with
    | false =>
      obtain rfl := HN.out (fun h => absurd (H1.out.2 h.1) (by decide))
      go_wp2_with fail
      go_meet
      exact ⟨rfl, D1, FH⟩
    | true =>
      have HS := Lib.hid (H1.out.1 rfl)
      clear H1
      have c0 : Y3.cell? ⟨w.heap.size + 1, 0, none⟩ = some (.int .i64 op) := D1.out.p.cell 0
      have c1 : Y3.cell? ⟨w.heap.size + 1, 1, none⟩ = some (.int .i64 key) := D1.out.p.cell 1
      have c2 : Y3.cell? ⟨w.heap.size + 1, 2, none⟩ = some (.int .i64 fr) := D1.out.p.cell 2
      have c3 : Y3.cell? ⟨w.heap.size + 1, 3, none⟩ = some (.int .i64 dst) := D1.out.p.cell 3
      have c4 : Y3.cell? ⟨w.heap.size + 1, 4, none⟩ = some (.int .i64 num) := D1.out.p.cell 4
      have c5 : Y3.cell? ⟨w.heap.size + 1, 5, none⟩ = some (.slice aa acks.length ca) := D1.out.p.cell 5
      have c6 : Y3.cell? ⟨w.heap.size + 1, 6, none⟩ = some (.string body) := D1.out.p.cell 6
      have K2 := Lib.hid (implPacketOk_any op key fr dst num _ acks body (by omega) (by omega) Y3 (layIntS.below HA.out D1.out.below))
      go_wp2_with fail
      refine K2.out.mono ?_
      rintro e Y4 ⟨ht, hb⟩
      have D2 := Lib.hid (D1.out.next hb)
      replace FH : Hid (∀ a ∈ f ++ g, a < Y4.heap.size) := Lib.hid (fun a ha => Nat.lt_of_lt_of_le (FH.out a ha) hb.size)
      clear hb K2 D1 c0 c1 c2 c3 c4 c5 c6
      rcases ht with ⟨hp, rfl⟩ | ⟨hp, rfl⟩
      rotate_left
      · obtain rfl := HN.out (fun h => hp h.2.1)
        clear hp
        go_wp2_with fail
        go_meet
        exact ⟨rfl, D2, FH⟩
      have HPK := Lib.hid hp
      clear hp
      have c0 : Y4.cell? ⟨w.heap.size + 1, 0, none⟩ = some (.int .i64 op) := D2.out.p.cell 0
      by_cases h3 : op = 3
      · obtain rfl : b = true := HB.out.2 ⟨HS.out, HPK.out, h3⟩
        have k3 : (op != 3) = false := by rw [h3]; rfl
        clear h3
        go_wp2_with fail
        go_meet
        exact ⟨rfl, D2, FH⟩
      · obtain rfl := HN.out (fun h => h3 h.2.2)
        have k3 : (op != 3) = true := by rw [bne_iff_ne]; exact h3
        go_wp2_with fail
        go_meet
        exact ⟨rfl, D2, FH⟩
  case rest =>
    obtain ⟨rfl, D1, FH⟩ := hcut
    clear D0
    cases b with
    | false =>
      have hno : ¬ (SlotsP x0 x1 x2 x3 r4 x5 y0 y1 y2 y3 s4 y5 ∧ PkOkP op key fr dst num acks body ∧ op = 3) := fun h => absurd (HB.out.2 h) (by decide)
      obtain ⟨rfl, rfl, rfl, rfl⟩ : r4 = r5 ∧ s4 = s5 ∧ t = ⟨#[]⟩ ∧ ok = false := by
        rcases HO.out with ⟨k1, _⟩ | ⟨k1, _⟩ | ⟨_, _, k1⟩
        · exact absurd k1 (fun h => hno ⟨h.1, h.2.1, h.2.2.1⟩)
        · exact absurd k1 (fun h => hno ⟨h.1, h.2.1, h.2.2.1⟩)
        · exact ⟨k1.1.symm, k1.2.1.symm, k1.2.2⟩
      clear hno HO
      go_upto_region 3 with fail
      have e0 : wc.cell? ⟨G, 0, none⟩ = some (.int .i64 x0) := D1.out.o.cell 0
      have e1 : wc.cell? ⟨G, 1, none⟩ = some (.string x1) := D1.out.o.cell 1
      have e2 : wc.cell? ⟨G, 2, none⟩ = some (.string x2) := D1.out.o.cell 2
      have e3 : wc.cell? ⟨G, 3, none⟩ = some (.int .i64 x3) := D1.out.o.cell 3
      have e4 : wc.cell? ⟨G, 4, none⟩ = some (.slice ma r4.length mk) := D1.out.o.cell 4
      have e5 : wc.cell? ⟨G, 5, none⟩ = some (.int .i64 x5) := D1.out.o.cell 5
      have e6 : wc.cell? ⟨G, 6, none⟩ = some (.int .i64 y0) := D1.out.o.cell 6
      have e7 : wc.cell? ⟨G, 7, none⟩ = some (.string y1) := D1.out.o.cell 7
      have e8 : wc.cell? ⟨G, 8, none⟩ = some (.string y2) := D1.out.o.cell 8
      have e9 : wc.cell? ⟨G, 9, none⟩ = some (.int .i64 y3) := D1.out.o.cell 9
      have e10 : wc.cell? ⟨G, 10, none⟩ = some (.slice la s4.length lk) := D1.out.o.cell 10
      have e11 : wc.cell? ⟨G, 11, none⟩ = some (.int .i64 y5) := D1.out.o.cell 11
      have d0 : wc.cell? ⟨w.heap.size + 1 + 1, 0, none⟩ = some (.int .i64 0) := D1.out.r.cell 0
      have d1 : wc.cell? ⟨w.heap.size + 1 + 1, 1, none⟩ = some (.string ⟨#[]⟩) := D1.out.r.cell 1
      have d2 : wc.cell? ⟨w.heap.size + 1 + 1, 2, none⟩ = some (.string ⟨#[]⟩) := D1.out.r.cell 2
      have d3 : wc.cell? ⟨w.heap.size + 1 + 1, 3, none⟩ = some (.int .i64 0) := D1.out.r.cell 3
      have d4 : wc.cell? ⟨w.heap.size + 1 + 1, 4, none⟩ = some (.slice none 0 0) := D1.out.r.cell 4
      have d5 : wc.cell? ⟨w.heap.size + 1 + 1, 5, none⟩ = some (.int .i64 0) := D1.out.r.cell 5
      have d6 : wc.cell? ⟨w.heap.size + 1 + 1, 6, none⟩ = some (.int .i64 0) := D1.out.r.cell 6
      have d7 : wc.cell? ⟨w.heap.size + 1 + 1, 7, none⟩ = some (.string ⟨#[]⟩) := D1.out.r.cell 7
      have d8 : wc.cell? ⟨w.heap.size + 1 + 1, 8, none⟩ = some (.string ⟨#[]⟩) := D1.out.r.cell 8
      have d9 : wc.cell? ⟨w.heap.size + 1 + 1, 9, none⟩ = some (.int .i64 0) := D1.out.r.cell 9
      have d10 : wc.cell? ⟨w.heap.size + 1 + 1, 10, none⟩ = some (.slice none 0 0) := D1.out.r.cell 10
      have d11 : wc.cell? ⟨w.heap.size + 1 + 1, 11, none⟩ = some (.int .i64 0) := D1.out.r.cell 11
      have g0 := D1.out.r.free 0
      have g1 := D1.out.r.free 1
      have g2 := D1.out.r.free 2
      have g3 := D1.out.r.free 3
      have g4 := D1.out.r.free 4
      have g5 := D1.out.r.free 5
      have g6 := D1.out.r.free 6
      have g7 := D1.out.r.free 7
      have g8 := D1.out.r.free 8
      have g9 := D1.out.r.free 9
      have g10 := D1.out.r.free 10
      have g11 := D1.out.r.free 11
      have S1 := putBoth D1.out.r (.int .i64 x0) (.string x1) (.string x2) (.int .i64 x3) (.slice ma r4.length mk) (.int .i64 x5) (.int .i64 y0) (.string y1) (.string y2) (.int .i64 y3) (.slice la s4.length lk) (.int .i64 y5)
      have j0 := S1.cell 0
      have j1 := S1.cell 1
      have j2 := S1.cell 2
      have j3 := S1.cell 3
      have j4 := S1.cell 4
      have j5 := S1.cell 5
      have j6 := S1.cell 6
      have j7 := S1.cell 7
      have j8 := S1.cell 8
      have j9 := S1.cell 9
      have j10 := S1.cell 10
      have j11 := S1.cell 11
      have hfr := D1.out.far
      have E : Hid (Q (.returned (.tuple #[.agg #[.int .i64 x0, .string x1, .string x2, .int .i64 x3, .slice ma r4.length mk, .int .i64 x5, .int .i64 y0, .string y1, .string y2, .int .i64 y3, .slice la s4.length lk, .int .i64 y5], .string ⟨#[]⟩, .bool false])) ((((((((((((wc.setCell ⟨w.heap.size + 1 + 1, 0, none⟩ (.int .i64 x0)).setCell ⟨w.heap.size + 1 + 1, 1, none⟩ (.string x1)).setCell ⟨w.heap.size + 1 + 1, 2, none⟩ (.string x2)).setCell ⟨w.heap.size + 1 + 1, 3, none⟩ (.int .i64 x3)).setCell ⟨w.heap.size + 1 + 1, 4, none⟩ (.slice ma r4.length mk)).setCell ⟨w.heap.size + 1 + 1, 5, none⟩ (.int .i64 x5)).setCell ⟨w.heap.size + 1 + 1, 6, none⟩ (.int .i64 y0)).setCell ⟨w.heap.size + 1 + 1, 7, none⟩ (.string y1)).setCell ⟨w.heap.size + 1 + 1, 8, none⟩ (.string y2)).setCell ⟨w.heap.size + 1 + 1, 9, none⟩ (.int .i64 y3)).setCell ⟨w.heap.size + 1 + 1, 10, none⟩ (.slice la s4.length lk)).setCell ⟨w.heap.size + 1 + 1, 11, none⟩ (.int .i64 y5))) := Lib.hid (by
        rw [HQ.out]
        have o1 : Only (w.heap.size + 1 + 1) wc ((((((((((((wc.setCell ⟨w.heap.size + 1 + 1, 0, none⟩ (.int .i64 x0)).setCell ⟨w.heap.size + 1 + 1, 1, none⟩ (.string x1)).setCell ⟨w.heap.size + 1 + 1, 2, none⟩ (.string x2)).setCell ⟨w.heap.size + 1 + 1, 3, none⟩ (.int .i64 x3)).setCell ⟨w.heap.size + 1 + 1, 4, none⟩ (.slice ma r4.length mk)).setCell ⟨w.heap.size + 1 + 1, 5, none⟩ (.int .i64 x5)).setCell ⟨w.heap.size + 1 + 1, 6, none⟩ (.int .i64 y0)).setCell ⟨w.heap.size + 1 + 1, 7, none⟩ (.string y1)).setCell ⟨w.heap.size + 1 + 1, 8, none⟩ (.string y2)).setCell ⟨w.heap.size + 1 + 1, 9, none⟩ (.int .i64 y3)).setCell ⟨w.heap.size + 1 + 1, 10, none⟩ (.slice la s4.length lk)).setCell ⟨w.heap.size + 1 + 1, 11, none⟩ (.int .i64 y5)) := (putMain_only wc (w.heap.size + 1 + 1) _ _ _ _ _ _).trans (putLame_only _ (w.heap.size + 1 + 1) _ _ _ _ _ _)
        exact ⟨_, _, _, _, rfl, D1.out.dup, layIntS.lower (own_var D1.out.rowM D1.out.r (by decide) o1) (by omega), layIntS.lower (own_var D1.out.rowL D1.out.r (by decide) o1) (by omega), D1.out.below.trans (only_lo o1 (by omega) D1.out.below.size)⟩)
      clear S1
      go_wp2_with fail
      try simp only [Exit.inBlock, Exit.then]
      exact bodyPost_ret (v := .tuple #[.agg #[.int .i64 x0, .string x1, .string x2, .int .i64 x3, .slice ma r4.length mk, .int .i64 x5, .int .i64 y0, .string y1, .string y2, .int .i64 y3, .slice la s4.length lk, .int .i64 y5], .string ⟨#[]⟩, .bool false]) (by simp [results, Tryz.results9, go_sem, j0, j1, j2, j3, j4, j5, j6, j7, j8, j9, j10, j11]) rfl E.out
    | true =>
      have HY := Lib.hid (HB.out.1 rfl)
      clear HB HN
      have PX := Lib.hid (slot_pos HY.out.1.1)
      have PY := Lib.hid (slot_pos HY.out.1.2.1)
      have hnz : Hid (IntZ num) := Lib.hid (by have h := HY.out.2.1.2.2.2.2.1; exact ⟨by omega, by omega⟩)
      go_upto_region 4 with fail
      generalize wc = Z0 at *
      have cp1 : Z0.cell? ⟨w.heap.size + 1, 1, none⟩ = some (.int .i64 key) := D1.out.p.cell 1
      by_cases hm : 0 < x0 ∧ x0 % 8 = key
      · have HOP : Hid (OpensP x2 r4 num body r5 t ok ∧ s5 = s4) := by
          rcases HO.out with ⟨_, k1, k2⟩ | ⟨k1, _⟩ | ⟨k1, _⟩
          · exact Lib.hid ⟨k1, k2⟩
          · exact absurd ⟨PX.out.1 hm.1, hm.2⟩ k1.2.2.2.1
          · exact absurd ⟨HY.out.1, HY.out.2.1, HY.out.2.2, PX.out.1 hm.1, hm.2⟩ k1
        obtain rfl := HOP.out.2.symm
        have HMM := Lib.hid hm
        clear HO hm
        have K := Lib.hid (takerOf_any G x0 y0 y5 key now (some ⟨G, 0, none⟩) (.inl ⟨HMM.out, rfl⟩) Z0 (D1.out.o.cell 0) (D1.out.o.cell 6) (D1.out.o.cell 11))
        go_wp2_with fail
        refine K.out.mono ?_
        rintro e Z1 ⟨rfl, hw⟩
        rw [hw]
        clear hw K cp1
        have KT := Lib.hid (take_any G 0 x2 _ r4 #[.int .i64 x0, .string x1, .string x2, .int .i64 x3, .slice ma r4.length mk, .int .i64 x5, .int .i64 y0, .string y1, .string y2, .int .i64 y3, .slice la s4.length lk, .int .i64 y5] rfl rfl op key fr dst num _ acks body l2 hl hbs gx hnz.out r5 t ok HOP.out.1 Z0 (fun X hb => HT.out.stays (D1.out.below.trans (hb.mono D1.out.below.size)) (Nat.le_refl _)) (layIntS.read D1.out.rowM) (layIntS.below HA.out D1.out.below) D1.out.o)
        have b_0 : Z0.cell? ⟨w.heap.size + 1, 0, none⟩ = some (.int .i64 op) := D1.out.p.cell 0
        have b_1 : Z0.cell? ⟨w.heap.size + 1, 1, none⟩ = some (.int .i64 key) := D1.out.p.cell 1
        have b_2 : Z0.cell? ⟨w.heap.size + 1, 2, none⟩ = some (.int .i64 fr) := D1.out.p.cell 2
        have b_3 : Z0.cell? ⟨w.heap.size + 1, 3, none⟩ = some (.int .i64 dst) := D1.out.p.cell 3
        have b_4 : Z0.cell? ⟨w.heap.size + 1, 4, none⟩ = some (.int .i64 num) := D1.out.p.cell 4
        have b_5 : Z0.cell? ⟨w.heap.size + 1, 5, none⟩ = some (.slice aa acks.length ca) := D1.out.p.cell 5
        have b_6 : Z0.cell? ⟨w.heap.size + 1, 6, none⟩ = some (.string body) := D1.out.p.cell 6
        go_wp2_with fail
        refine KT.out.mono ?_
        rintro e Z3 ⟨rfl, hcase⟩
        clear KT b_0 b_1 b_2 b_3 b_4 b_5 b_6
        rcases hcase with ⟨rfl, hb⟩ | ⟨rfl, v7, fo, hfo, hown, hog, hvg⟩
        · obtain ⟨rfl, rfl⟩ : r4 = r5 ∧ t = ⟨#[]⟩ := by
            rcases HOP.out.1 with ⟨k, _⟩ | ⟨_, _, k1, k2⟩
            · cases k
            · exact ⟨k1.symm, k2⟩
          have D4 := Lib.hid (D1.out.next hb)
          clear hb HOP D1
          go_upto_region 8 with fail
          have e0 : Z3.cell? ⟨G, 0, none⟩ = some (.int .i64 x0) := D4.out.o.cell 0
          have e1 : Z3.cell? ⟨G, 1, none⟩ = some (.string x1) := D4.out.o.cell 1
          have e2 : Z3.cell? ⟨G, 2, none⟩ = some (.string x2) := D4.out.o.cell 2
          have e3 : Z3.cell? ⟨G, 3, none⟩ = some (.int .i64 x3) := D4.out.o.cell 3
          have e4 : Z3.cell? ⟨G, 4, none⟩ = some (.slice ma r4.length mk) := D4.out.o.cell 4
          have e5 : Z3.cell? ⟨G, 5, none⟩ = some (.int .i64 x5) := D4.out.o.cell 5
          have e6 : Z3.cell? ⟨G, 6, none⟩ = some (.int .i64 y0) := D4.out.o.cell 6
          have e7 : Z3.cell? ⟨G, 7, none⟩ = some (.string y1) := D4.out.o.cell 7
          have e8 : Z3.cell? ⟨G, 8, none⟩ = some (.string y2) := D4.out.o.cell 8
          have e9 : Z3.cell? ⟨G, 9, none⟩ = some (.int .i64 y3) := D4.out.o.cell 9
          have e10 : Z3.cell? ⟨G, 10, none⟩ = some (.slice la s4.length lk) := D4.out.o.cell 10
          have e11 : Z3.cell? ⟨G, 11, none⟩ = some (.int .i64 y5) := D4.out.o.cell 11
          have d0 : Z3.cell? ⟨w.heap.size + 1 + 1, 0, none⟩ = some (.int .i64 0) := D4.out.r.cell 0
          have d1 : Z3.cell? ⟨w.heap.size + 1 + 1, 1, none⟩ = some (.string ⟨#[]⟩) := D4.out.r.cell 1
          have d2 : Z3.cell? ⟨w.heap.size + 1 + 1, 2, none⟩ = some (.string ⟨#[]⟩) := D4.out.r.cell 2
          have d3 : Z3.cell? ⟨w.heap.size + 1 + 1, 3, none⟩ = some (.int .i64 0) := D4.out.r.cell 3
          have d4 : Z3.cell? ⟨w.heap.size + 1 + 1, 4, none⟩ = some (.slice none 0 0) := D4.out.r.cell 4
          have d5 : Z3.cell? ⟨w.heap.size + 1 + 1, 5, none⟩ = some (.int .i64 0) := D4.out.r.cell 5
          have d6 : Z3.cell? ⟨w.heap.size + 1 + 1, 6, none⟩ = some (.int .i64 0) := D4.out.r.cell 6
          have d7 : Z3.cell? ⟨w.heap.size + 1 + 1, 7, none⟩ = some (.string ⟨#[]⟩) := D4.out.r.cell 7
          have d8 : Z3.cell? ⟨w.heap.size + 1 + 1, 8, none⟩ = some (.string ⟨#[]⟩) := D4.out.r.cell 8
          have d9 : Z3.cell? ⟨w.heap.size + 1 + 1, 9, none⟩ = some (.int .i64 0) := D4.out.r.cell 9
          have d10 : Z3.cell? ⟨w.heap.size + 1 + 1, 10, none⟩ = some (.slice none 0 0) := D4.out.r.cell 10
          have d11 : Z3.cell? ⟨w.heap.size + 1 + 1, 11, none⟩ = some (.int .i64 0) := D4.out.r.cell 11
          have g0 := D4.out.r.free 0
          have g1 := D4.out.r.free 1
          have g2 := D4.out.r.free 2
          have g3 := D4.out.r.free 3
          have g4 := D4.out.r.free 4
          have g5 := D4.out.r.free 5
          have g6 := D4.out.r.free 6
          have g7 := D4.out.r.free 7
          have g8 := D4.out.r.free 8
          have g9 := D4.out.r.free 9
          have g10 := D4.out.r.free 10
          have g11 := D4.out.r.free 11
          have S1 := putBoth D4.out.r (.int .i64 x0) (.string x1) (.string x2) (.int .i64 x3) (.slice ma r4.length mk) (.int .i64 x5) (.int .i64 y0) (.string y1) (.string y2) (.int .i64 y3) (.slice la s4.length lk) (.int .i64 y5)
          have j0 := S1.cell 0
          have j1 := S1.cell 1
          have j2 := S1.cell 2
          have j3 := S1.cell 3
          have j4 := S1.cell 4
          have j5 := S1.cell 5
          have j6 := S1.cell 6
          have j7 := S1.cell 7
          have j8 := S1.cell 8
          have j9 := S1.cell 9
          have j10 := S1.cell 10
          have j11 := S1.cell 11
          have hfr := D4.out.far
          have E : Hid (Q (.returned (.tuple #[.agg #[.int .i64 x0, .string x1, .string x2, .int .i64 x3, .slice ma r4.length mk, .int .i64 x5, .int .i64 y0, .string y1, .string y2, .int .i64 y3, .slice la s4.length lk, .int .i64 y5], .string ⟨#[]⟩, .bool false])) ((((((((((((Z3.setCell ⟨w.heap.size + 1 + 1, 0, none⟩ (.int .i64 x0)).setCell ⟨w.heap.size + 1 + 1, 1, none⟩ (.string x1)).setCell ⟨w.heap.size + 1 + 1, 2, none⟩ (.string x2)).setCell ⟨w.heap.size + 1 + 1, 3, none⟩ (.int .i64 x3)).setCell ⟨w.heap.size + 1 + 1, 4, none⟩ (.slice ma r4.length mk)).setCell ⟨w.heap.size + 1 + 1, 5, none⟩ (.int .i64 x5)).setCell ⟨w.heap.size + 1 + 1, 6, none⟩ (.int .i64 y0)).setCell ⟨w.heap.size + 1 + 1, 7, none⟩ (.string y1)).setCell ⟨w.heap.size + 1 + 1, 8, none⟩ (.string y2)).setCell ⟨w.heap.size + 1 + 1, 9, none⟩ (.int .i64 y3)).setCell ⟨w.heap.size + 1 + 1, 10, none⟩ (.slice la s4.length lk)).setCell ⟨w.heap.size + 1 + 1, 11, none⟩ (.int .i64 y5))) := Lib.hid (by
            rw [HQ.out]
            have o1 : Only (w.heap.size + 1 + 1) Z3 ((((((((((((Z3.setCell ⟨w.heap.size + 1 + 1, 0, none⟩ (.int .i64 x0)).setCell ⟨w.heap.size + 1 + 1, 1, none⟩ (.string x1)).setCell ⟨w.heap.size + 1 + 1, 2, none⟩ (.string x2)).setCell ⟨w.heap.size + 1 + 1, 3, none⟩ (.int .i64 x3)).setCell ⟨w.heap.size + 1 + 1, 4, none⟩ (.slice ma r4.length mk)).setCell ⟨w.heap.size + 1 + 1, 5, none⟩ (.int .i64 x5)).setCell ⟨w.heap.size + 1 + 1, 6, none⟩ (.int .i64 y0)).setCell ⟨w.heap.size + 1 + 1, 7, none⟩ (.string y1)).setCell ⟨w.heap.size + 1 + 1, 8, none⟩ (.string y2)).setCell ⟨w.heap.size + 1 + 1, 9, none⟩ (.int .i64 y3)).setCell ⟨w.heap.size + 1 + 1, 10, none⟩ (.slice la s4.length lk)).setCell ⟨w.heap.size + 1 + 1, 11, none⟩ (.int .i64 y5)) := (putMain_only Z3 (w.heap.size + 1 + 1) _ _ _ _ _ _).trans (putLame_only _ (w.heap.size + 1 + 1) _ _ _ _ _ _)
            exact ⟨_, _, _, _, rfl, D4.out.dup, layIntS.lower (own_var D4.out.rowM D4.out.r (by decide) o1) (by omega), layIntS.lower (own_var D4.out.rowL D4.out.r (by decide) o1) (by omega), D4.out.below.trans (only_lo o1 (by omega) D4.out.below.size)⟩)
          clear S1
          go_wp2_with fail
          try simp only [Exit.inBlock, Exit.then]
          exact bodyPost_ret (v := .tuple #[.agg #[.int .i64 x0, .string x1, .string x2, .int .i64 x3, .slice ma r4.length mk, .int .i64 x5, .int .i64 y0, .string y1, .string y2, .int .i64 y3, .slice la s4.length lk, .int .i64 y5], .string ⟨#[]⟩, .bool false]) (by simp [results, Tryz.results9, go_sem, j0, j1, j2, j3, j4, j5, j6, j7, j8, j9, j10, j11]) rfl E.out
        · obtain ⟨na, nk, rfl⟩ := rows_form (layIntS.read hown)
          have hvg2 : VarA G SlotsT #[.int .i64 x0, .string x1, .string x2, .int .i64 x3, .slice na r5.length nk, .int .i64 x5, .int .i64 y0, .string y1, .string y2, .int .i64 y3, .slice la s4.length lk, .int .i64 y5] Z3 := hvg
          have D4 := Lib.hid (D1.out.took hog hvg2 hown hfo FH.out)
          clear hvg hvg2 hog hown hfo HOP D1
          go_upto_region 8 with fail
          have e0 : Z3.cell? ⟨G, 0, none⟩ = some (.int .i64 x0) := D4.out.o.cell 0
          have e1 : Z3.cell? ⟨G, 1, none⟩ = some (.string x1) := D4.out.o.cell 1
          have e2 : Z3.cell? ⟨G, 2, none⟩ = some (.string x2) := D4.out.o.cell 2
          have e3 : Z3.cell? ⟨G, 3, none⟩ = some (.int .i64 x3) := D4.out.o.cell 3
          have e4 : Z3.cell? ⟨G, 4, none⟩ = some (.slice na r5.length nk) := D4.out.o.cell 4
          have e5 : Z3.cell? ⟨G, 5, none⟩ = some (.int .i64 x5) := D4.out.o.cell 5
          have e6 : Z3.cell? ⟨G, 6, none⟩ = some (.int .i64 y0) := D4.out.o.cell 6
          have e7 : Z3.cell? ⟨G, 7, none⟩ = some (.string y1) := D4.out.o.cell 7
          have e8 : Z3.cell? ⟨G, 8, none⟩ = some (.string y2) := D4.out.o.cell 8
          have e9 : Z3.cell? ⟨G, 9, none⟩ = some (.int .i64 y3) := D4.out.o.cell 9
          have e10 : Z3.cell? ⟨G, 10, none⟩ = some (.slice la s4.length lk) := D4.out.o.cell 10
          have e11 : Z3.cell? ⟨G, 11, none⟩ = some (.int .i64 y5) := D4.out.o.cell 11
          have d0 : Z3.cell? ⟨w.heap.size + 1 + 1, 0, none⟩ = some (.int .i64 0) := D4.out.r.cell 0
          have d1 : Z3.cell? ⟨w.heap.size + 1 + 1, 1, none⟩ = some (.string ⟨#[]⟩) := D4.out.r.cell 1
          have d2 : Z3.cell? ⟨w.heap.size + 1 + 1, 2, none⟩ = some (.string ⟨#[]⟩) := D4.out.r.cell 2
          have d3 : Z3.cell? ⟨w.heap.size + 1 + 1, 3, none⟩ = some (.int .i64 0) := D4.out.r.cell 3
          have d4 : Z3.cell? ⟨w.heap.size + 1 + 1, 4, none⟩ = some (.slice none 0 0) := D4.out.r.cell 4
          have d5 : Z3.cell? ⟨w.heap.size + 1 + 1, 5, none⟩ = some (.int .i64 0) := D4.out.r.cell 5
          have d6 : Z3.cell? ⟨w.heap.size + 1 + 1, 6, none⟩ = some (.int .i64 0) := D4.out.r.cell 6
          have d7 : Z3.cell? ⟨w.heap.size + 1 + 1, 7, none⟩ = some (.string ⟨#[]⟩) := D4.out.r.cell 7
          have d8 : Z3.cell? ⟨w.heap.size + 1 + 1, 8, none⟩ = some (.string ⟨#[]⟩) := D4.out.r.cell 8
          have d9 : Z3.cell? ⟨w.heap.size + 1 + 1, 9, none⟩ = some (.int .i64 0) := D4.out.r.cell 9
          have d10 : Z3.cell? ⟨w.heap.size + 1 + 1, 10, none⟩ = some (.slice none 0 0) := D4.out.r.cell 10
          have d11 : Z3.cell? ⟨w.heap.size + 1 + 1, 11, none⟩ = some (.int .i64 0) := D4.out.r.cell 11
          have g0 := D4.out.r.free 0
          have g1 := D4.out.r.free 1
          have g2 := D4.out.r.free 2
          have g3 := D4.out.r.free 3
          have g4 := D4.out.r.free 4
          have g5 := D4.out.r.free 5
          have g6 := D4.out.r.free 6
          have g7 := D4.out.r.free 7
          have g8 := D4.out.r.free 8
          have g9 := D4.out.r.free 9
          have g10 := D4.out.r.free 10
          have g11 := D4.out.r.free 11
          have S1 := putBoth D4.out.r (.int .i64 x0) (.string x1) (.string x2) (.int .i64 x3) (.slice na r5.length nk) (.int .i64 x5) (.int .i64 y0) (.string y1) (.string y2) (.int .i64 y3) (.slice la s4.length lk) (.int .i64 y5)
          have j0 := S1.cell 0
          have j1 := S1.cell 1
          have j2 := S1.cell 2
          have j3 := S1.cell 3
          have j4 := S1.cell 4
          have j5 := S1.cell 5
          have j6 := S1.cell 6
          have j7 := S1.cell 7
          have j8 := S1.cell 8
          have j9 := S1.cell 9
          have j10 := S1.cell 10
          have j11 := S1.cell 11
          have hfr := D4.out.far
          have E : Hid (Q (.returned (.tuple #[.agg #[.int .i64 x0, .string x1, .string x2, .int .i64 x3, .slice na r5.length nk, .int .i64 x5, .int .i64 y0, .string y1, .string y2, .int .i64 y3, .slice la s4.length lk, .int .i64 y5], .string t, .bool true])) ((((((((((((Z3.setCell ⟨w.heap.size + 1 + 1, 0, none⟩ (.int .i64 x0)).setCell ⟨w.heap.size + 1 + 1, 1, none⟩ (.string x1)).setCell ⟨w.heap.size + 1 + 1, 2, none⟩ (.string x2)).setCell ⟨w.heap.size + 1 + 1, 3, none⟩ (.int .i64 x3)).setCell ⟨w.heap.size + 1 + 1, 4, none⟩ (.slice na r5.length nk)).setCell ⟨w.heap.size + 1 + 1, 5, none⟩ (.int .i64 x5)).setCell ⟨w.heap.size + 1 + 1, 6, none⟩ (.int .i64 y0)).setCell ⟨w.heap.size + 1 + 1, 7, none⟩ (.string y1)).setCell ⟨w.heap.size + 1 + 1, 8, none⟩ (.string y2)).setCell ⟨w.heap.size + 1 + 1, 9, none⟩ (.int .i64 y3)).setCell ⟨w.heap.size + 1 + 1, 10, none⟩ (.slice la s4.length lk)).setCell ⟨w.heap.size + 1 + 1, 11, none⟩ (.int .i64 y5))) := Lib.hid (by
            rw [HQ.out]
            have o1 : Only (w.heap.size + 1 + 1) Z3 ((((((((((((Z3.setCell ⟨w.heap.size + 1 + 1, 0, none⟩ (.int .i64 x0)).setCell ⟨w.heap.size + 1 + 1, 1, none⟩ (.string x1)).setCell ⟨w.heap.size + 1 + 1, 2, none⟩ (.string x2)).setCell ⟨w.heap.size + 1 + 1, 3, none⟩ (.int .i64 x3)).setCell ⟨w.heap.size + 1 + 1, 4, none⟩ (.slice na r5.length nk)).setCell ⟨w.heap.size + 1 + 1, 5, none⟩ (.int .i64 x5)).setCell ⟨w.heap.size + 1 + 1, 6, none⟩ (.int .i64 y0)).setCell ⟨w.heap.size + 1 + 1, 7, none⟩ (.string y1)).setCell ⟨w.heap.size + 1 + 1, 8, none⟩ (.string y2)).setCell ⟨w.heap.size + 1 + 1, 9, none⟩ (.int .i64 y3)).setCell ⟨w.heap.size + 1 + 1, 10, none⟩ (.slice la s4.length lk)).setCell ⟨w.heap.size + 1 + 1, 11, none⟩ (.int .i64 y5)) := (putMain_only Z3 (w.heap.size + 1 + 1) _ _ _ _ _ _).trans (putLame_only _ (w.heap.size + 1 + 1) _ _ _ _ _ _)
            exact ⟨_, _, _, _, rfl, D4.out.dup, layIntS.lower (own_var D4.out.rowM D4.out.r (by decide) o1) (by omega), layIntS.lower (own_var D4.out.rowL D4.out.r (by decide) o1) (by omega), D4.out.below.trans (only_lo o1 (by omega) D4.out.below.size)⟩)
          clear S1
          go_wp2_with fail
          try simp only [Exit.inBlock, Exit.then]
          exact bodyPost_ret (v := .tuple #[.agg #[.int .i64 x0, .string x1, .string x2, .int .i64 x3, .slice na r5.length nk, .int .i64 x5, .int .i64 y0, .string y1, .string y2, .int .i64 y3, .slice la s4.length lk, .int .i64 y5], .string t, .bool true]) (by simp [results, Tryz.results9, go_sem, j0, j1, j2, j3, j4, j5, j6, j7, j8, j9, j10, j11]) rfl E.out
      · by_cases hlm : (0 < y0 ∧ y0 % 8 = key) ∧ now < y5
        · have HOP : Hid (OpensP y2 s4 num body s5 t ok ∧ r5 = r4) := by
            rcases HO.out with ⟨k1, _⟩ | ⟨_, k1, k2⟩ | ⟨_, k1, _⟩
            · exact absurd ⟨PX.out.2 k1.2.2.2.1, k1.2.2.2.2⟩ hm
            · exact Lib.hid ⟨k1, k2⟩
            · exact absurd ⟨HY.out.1, HY.out.2.1, HY.out.2.2, fun h => hm ⟨PX.out.2 h.1, h.2⟩, PY.out.1 hlm.1.1, hlm.2, hlm.1.2⟩ k1
          obtain rfl := HOP.out.2.symm
          have HMM := Lib.hid hm
          have HLM := Lib.hid hlm
          clear HO hm hlm
          have K := Lib.hid (takerOf_any G x0 y0 y5 key now (some ⟨G, 6, none⟩) (.inr (.inl ⟨HMM.out, HLM.out.1, HLM.out.2, rfl⟩)) Z0 (D1.out.o.cell 0) (D1.out.o.cell 6) (D1.out.o.cell 11))
          go_wp2_with fail
          refine K.out.mono ?_
          rintro e Z1 ⟨rfl, hw⟩
          rw [hw]
          clear hw K cp1
          have KT := Lib.hid (take_any G 6 y2 _ s4 #[.int .i64 x0, .string x1, .string x2, .int .i64 x3, .slice ma r4.length mk, .int .i64 x5, .int .i64 y0, .string y1, .string y2, .int .i64 y3, .slice la s4.length lk, .int .i64 y5] rfl rfl op key fr dst num _ acks body m2 hk hbs gy hnz.out s5 t ok HOP.out.1 Z0 (fun X hb => HT.out.stays (D1.out.below.trans (hb.mono D1.out.below.size)) (Nat.le_refl _)) (layIntS.read D1.out.rowL) (layIntS.below HA.out D1.out.below) D1.out.o)
          have b_0 : Z0.cell? ⟨w.heap.size + 1, 0, none⟩ = some (.int .i64 op) := D1.out.p.cell 0
          have b_1 : Z0.cell? ⟨w.heap.size + 1, 1, none⟩ = some (.int .i64 key) := D1.out.p.cell 1
          have b_2 : Z0.cell? ⟨w.heap.size + 1, 2, none⟩ = some (.int .i64 fr) := D1.out.p.cell 2
          have b_3 : Z0.cell? ⟨w.heap.size + 1, 3, none⟩ = some (.int .i64 dst) := D1.out.p.cell 3
          have b_4 : Z0.cell? ⟨w.heap.size + 1, 4, none⟩ = some (.int .i64 num) := D1.out.p.cell 4
          have b_5 : Z0.cell? ⟨w.heap.size + 1, 5, none⟩ = some (.slice aa acks.length ca) := D1.out.p.cell 5
          have b_6 : Z0.cell? ⟨w.heap.size + 1, 6, none⟩ = some (.string body) := D1.out.p.cell 6
          go_wp2_with fail
          refine KT.out.mono ?_
          rintro e Z3 ⟨rfl, hcase⟩
          clear KT b_0 b_1 b_2 b_3 b_4 b_5 b_6
          rcases hcase with ⟨rfl, hb⟩ | ⟨rfl, v7, fo, hfo, hown, hog, hvg⟩
          · obtain ⟨rfl, rfl⟩ : s4 = s5 ∧ t = ⟨#[]⟩ := by
              rcases HOP.out.1 with ⟨k, _⟩ | ⟨_, _, k1, k2⟩
              · cases k
              · exact ⟨k1.symm, k2⟩
            have D4 := Lib.hid (D1.out.next hb)
            clear hb HOP D1
            go_upto_region 8 with fail
            have e0 : Z3.cell? ⟨G, 0, none⟩ = some (.int .i64 x0) := D4.out.o.cell 0
            have e1 : Z3.cell? ⟨G, 1, none⟩ = some (.string x1) := D4.out.o.cell 1
            have e2 : Z3.cell? ⟨G, 2, none⟩ = some (.string x2) := D4.out.o.cell 2
            have e3 : Z3.cell? ⟨G, 3, none⟩ = some (.int .i64 x3) := D4.out.o.cell 3
            have e4 : Z3.cell? ⟨G, 4, none⟩ = some (.slice ma r4.length mk) := D4.out.o.cell 4
            have e5 : Z3.cell? ⟨G, 5, none⟩ = some (.int .i64 x5) := D4.out.o.cell 5
            have e6 : Z3.cell? ⟨G, 6, none⟩ = some (.int .i64 y0) := D4.out.o.cell 6
            have e7 : Z3.cell? ⟨G, 7, none⟩ = some (.string y1) := D4.out.o.cell 7
            have e8 : Z3.cell? ⟨G, 8, none⟩ = some (.string y2) := D4.out.o.cell 8
            have e9 : Z3.cell? ⟨G, 9, none⟩ = some (.int .i64 y3) := D4.out.o.cell 9
            have e10 : Z3.cell? ⟨G, 10, none⟩ = some (.slice la s4.length lk) := D4.out.o.cell 10
            have e11 : Z3.cell? ⟨G, 11, none⟩ = some (.int .i64 y5) := D4.out.o.cell 11
            have d0 : Z3.cell? ⟨w.heap.size + 1 + 1, 0, none⟩ = some (.int .i64 0) := D4.out.r.cell 0
            have d1 : Z3.cell? ⟨w.heap.size + 1 + 1, 1, none⟩ = some (.string ⟨#[]⟩) := D4.out.r.cell 1
            have d2 : Z3.cell? ⟨w.heap.size + 1 + 1, 2, none⟩ = some (.string ⟨#[]⟩) := D4.out.r.cell 2
            have d3 : Z3.cell? ⟨w.heap.size + 1 + 1, 3, none⟩ = some (.int .i64 0) := D4.out.r.cell 3
            have d4 : Z3.cell? ⟨w.heap.size + 1 + 1, 4, none⟩ = some (.slice none 0 0) := D4.out.r.cell 4
            have d5 : Z3.cell? ⟨w.heap.size + 1 + 1, 5, none⟩ = some (.int .i64 0) := D4.out.r.cell 5
            have d6 : Z3.cell? ⟨w.heap.size + 1 + 1, 6, none⟩ = some (.int .i64 0) := D4.out.r.cell 6
            have d7 : Z3.cell? ⟨w.heap.size + 1 + 1, 7, none⟩ = some (.string ⟨#[]⟩) := D4.out.r.cell 7
            have d8 : Z3.cell? ⟨w.heap.size + 1 + 1, 8, none⟩ = some (.string ⟨#[]⟩) := D4.out.r.cell 8
            have d9 : Z3.cell? ⟨w.heap.size + 1 + 1, 9, none⟩ = some (.int .i64 0) := D4.out.r.cell 9
            have d10 : Z3.cell? ⟨w.heap.size + 1 + 1, 10, none⟩ = some (.slice none 0 0) := D4.out.r.cell 10
            have d11 : Z3.cell? ⟨w.heap.size + 1 + 1, 11, none⟩ = some (.int .i64 0) := D4.out.r.cell 11
            have g0 := D4.out.r.free 0
            have g1 := D4.out.r.free 1
            have g2 := D4.out.r.free 2
            have g3 := D4.out.r.free 3
            have g4 := D4.out.r.free 4
            have g5 := D4.out.r.free 5
            have g6 := D4.out.r.free 6
            have g7 := D4.out.r.free 7
            have g8 := D4.out.r.free 8
            have g9 := D4.out.r.free 9
            have g10 := D4.out.r.free 10
            have g11 := D4.out.r.free 11
            have S1 := putBoth D4.out.r (.int .i64 x0) (.string x1) (.string x2) (.int .i64 x3) (.slice ma r4.length mk) (.int .i64 x5) (.int .i64 y0) (.string y1) (.string y2) (.int .i64 y3) (.slice la s4.length lk) (.int .i64 y5)
            have j0 := S1.cell 0
            have j1 := S1.cell 1
            have j2 := S1.cell 2
            have j3 := S1.cell 3
            have j4 := S1.cell 4
            have j5 := S1.cell 5
            have j6 := S1.cell 6
            have j7 := S1.cell 7
            have j8 := S1.cell 8
            have j9 := S1.cell 9
            have j10 := S1.cell 10
            have j11 := S1.cell 11
            have hfr := D4.out.far
            have E : Hid (Q (.returned (.tuple #[.agg #[.int .i64 x0, .string x1, .string x2, .int .i64 x3, .slice ma r4.length mk, .int .i64 x5, .int .i64 y0, .string y1, .string y2, .int .i64 y3, .slice la s4.length lk, .int .i64 y5], .string ⟨#[]⟩, .bool false])) ((((((((((((Z3.setCell ⟨w.heap.size + 1 + 1, 0, none⟩ (.int .i64 x0)).setCell ⟨w.heap.size + 1 + 1, 1, none⟩ (.string x1)).setCell ⟨w.heap.size + 1 + 1, 2, none⟩ (.string x2)).setCell ⟨w.heap.size + 1 + 1, 3, none⟩ (.int .i64 x3)).setCell ⟨w.heap.size + 1 + 1, 4, none⟩ (.slice ma r4.length mk)).setCell ⟨w.heap.size + 1 + 1, 5, none⟩ (.int .i64 x5)).setCell ⟨w.heap.size + 1 + 1, 6, none⟩ (.int .i64 y0)).setCell ⟨w.heap.size + 1 + 1, 7, none⟩ (.string y1)).setCell ⟨w.heap.size + 1 + 1, 8, none⟩ (.string y2)).setCell ⟨w.heap.size + 1 + 1, 9, none⟩ (.int .i64 y3)).setCell ⟨w.heap.size + 1 + 1, 10, none⟩ (.slice la s4.length lk)).setCell ⟨w.heap.size + 1 + 1, 11, none⟩ (.int .i64 y5))) := Lib.hid (by
              rw [HQ.out]
              have o1 : Only (w.heap.size + 1 + 1) Z3 ((((((((((((Z3.setCell ⟨w.heap.size + 1 + 1, 0, none⟩ (.int .i64 x0)).setCell ⟨w.heap.size + 1 + 1, 1, none⟩ (.string x1)).setCell ⟨w.heap.size + 1 + 1, 2, none⟩ (.string x2)).setCell ⟨w.heap.size + 1 + 1, 3, none⟩ (.int .i64 x3)).setCell ⟨w.heap.size + 1 + 1, 4, none⟩ (.slice ma r4.length mk)).setCell ⟨w.heap.size + 1 + 1, 5, none⟩ (.int .i64 x5)).setCell ⟨w.heap.size + 1 + 1, 6, none⟩ (.int .i64 y0)).setCell ⟨w.heap.size + 1 + 1, 7, none⟩ (.string y1)).setCell ⟨w.heap.size + 1 + 1, 8, none⟩ (.string y2)).setCell ⟨w.heap.size + 1 + 1, 9, none⟩ (.int .i64 y3)).setCell ⟨w.heap.size + 1 + 1, 10, none⟩ (.slice la s4.length lk)).setCell ⟨w.heap.size + 1 + 1, 11, none⟩ (.int .i64 y5)) := (putMain_only Z3 (w.heap.size + 1 + 1) _ _ _ _ _ _).trans (putLame_only _ (w.heap.size + 1 + 1) _ _ _ _ _ _)
              exact ⟨_, _, _, _, rfl, D4.out.dup, layIntS.lower (own_var D4.out.rowM D4.out.r (by decide) o1) (by omega), layIntS.lower (own_var D4.out.rowL D4.out.r (by decide) o1) (by omega), D4.out.below.trans (only_lo o1 (by omega) D4.out.below.size)⟩)
            clear S1
            go_wp2_with fail
            try simp only [Exit.inBlock, Exit.then]
            exact bodyPost_ret (v := .tuple #[.agg #[.int .i64 x0, .string x1, .string x2, .int .i64 x3, .slice ma r4.length mk, .int .i64 x5, .int .i64 y0, .string y1, .string y2, .int .i64 y3, .slice la s4.length lk, .int .i64 y5], .string ⟨#[]⟩, .bool false]) (by simp [results, Tryz.results9, go_sem, j0, j1, j2, j3, j4, j5, j6, j7, j8, j9, j10, j11]) rfl E.out
          · obtain ⟨na, nk, rfl⟩ := rows_form (layIntS.read hown)
            have hvg2 : VarA G SlotsT #[.int .i64 x0, .string x1, .string x2, .int .i64 x3, .slice ma r4.length mk, .int .i64 x5, .int .i64 y0, .string y1, .string y2, .int .i64 y3, .slice na s5.length nk, .int .i64 y5] Z3 := hvg
            have D4 := Lib.hid (D1.out.took2 hog hvg2 hown hfo FH.out)
            clear hvg hvg2 hog hown hfo HOP D1
            go_upto_region 8 with fail
            have e0 : Z3.cell? ⟨G, 0, none⟩ = some (.int .i64 x0) := D4.out.o.cell 0
            have e1 : Z3.cell? ⟨G, 1, none⟩ = some (.string x1) := D4.out.o.cell 1
            have e2 : Z3.cell? ⟨G, 2, none⟩ = some (.string x2) := D4.out.o.cell 2
            have e3 : Z3.cell? ⟨G, 3, none⟩ = some (.int .i64 x3) := D4.out.o.cell 3
            have e4 : Z3.cell? ⟨G, 4, none⟩ = some (.slice ma r4.length mk) := D4.out.o.cell 4
            have e5 : Z3.cell? ⟨G, 5, none⟩ = some (.int .i64 x5) := D4.out.o.cell 5
            have e6 : Z3.cell? ⟨G, 6, none⟩ = some (.int .i64 y0) := D4.out.o.cell 6
            have e7 : Z3.cell? ⟨G, 7, none⟩ = some (.string y1) := D4.out.o.cell 7
            have e8 : Z3.cell? ⟨G, 8, none⟩ = some (.string y2) := D4.out.o.cell 8
            have e9 : Z3.cell? ⟨G, 9, none⟩ = some (.int .i64 y3) := D4.out.o.cell 9
            have e10 : Z3.cell? ⟨G, 10, none⟩ = some (.slice na s5.length nk) := D4.out.o.cell 10
            have e11 : Z3.cell? ⟨G, 11, none⟩ = some (.int .i64 y5) := D4.out.o.cell 11
            have d0 : Z3.cell? ⟨w.heap.size + 1 + 1, 0, none⟩ = some (.int .i64 0) := D4.out.r.cell 0
            have d1 : Z3.cell? ⟨w.heap.size + 1 + 1, 1, none⟩ = some (.string ⟨#[]⟩) := D4.out.r.cell 1
            have d2 : Z3.cell? ⟨w.heap.size + 1 + 1, 2, none⟩ = some (.string ⟨#[]⟩) := D4.out.r.cell 2
            have d3 : Z3.cell? ⟨w.heap.size + 1 + 1, 3, none⟩ = some (.int .i64 0) := D4.out.r.cell 3
            have d4 : Z3.cell? ⟨w.heap.size + 1 + 1, 4, none⟩ = some (.slice none 0 0) := D4.out.r.cell 4
            have d5 : Z3.cell? ⟨w.heap.size + 1 + 1, 5, none⟩ = some (.int .i64 0) := D4.out.r.cell 5
            have d6 : Z3.cell? ⟨w.heap.size + 1 + 1, 6, none⟩ = some (.int .i64 0) := D4.out.r.cell 6
            have d7 : Z3.cell? ⟨w.heap.size + 1 + 1, 7, none⟩ = some (.string ⟨#[]⟩) := D4.out.r.cell 7
            have d8 : Z3.cell? ⟨w.heap.size + 1 + 1, 8, none⟩ = some (.string ⟨#[]⟩) := D4.out.r.cell 8
            have d9 : Z3.cell? ⟨w.heap.size + 1 + 1, 9, none⟩ = some (.int .i64 0) := D4.out.r.cell 9
            have d10 : Z3.cell? ⟨w.heap.size + 1 + 1, 10, none⟩ = some (.slice none 0 0) := D4.out.r.cell 10
            have d11 : Z3.cell? ⟨w.heap.size + 1 + 1, 11, none⟩ = some (.int .i64 0) := D4.out.r.cell 11
            have g0 := D4.out.r.free 0
            have g1 := D4.out.r.free 1
            have g2 := D4.out.r.free 2
            have g3 := D4.out.r.free 3
            have g4 := D4.out.r.free 4
            have g5 := D4.out.r.free 5
            have g6 := D4.out.r.free 6
            have g7 := D4.out.r.free 7
            have g8 := D4.out.r.free 8
            have g9 := D4.out.r.free 9
            have g10 := D4.out.r.free 10
            have g11 := D4.out.r.free 11
            have S1 := putBoth D4.out.r (.int .i64 x0) (.string x1) (.string x2) (.int .i64 x3) (.slice ma r4.length mk) (.int .i64 x5) (.int .i64 y0) (.string y1) (.string y2) (.int .i64 y3) (.slice na s5.length nk) (.int .i64 y5)
            have j0 := S1.cell 0
            have j1 := S1.cell 1
            have j2 := S1.cell 2
            have j3 := S1.cell 3
            have j4 := S1.cell 4
            have j5 := S1.cell 5
            have j6 := S1.cell 6
            have j7 := S1.cell 7
            have j8 := S1.cell 8
            have j9 := S1.cell 9
            have j10 := S1.cell 10
            have j11 := S1.cell 11
            have hfr := D4.out.far
            have E : Hid (Q (.returned (.tuple #[.agg #[.int .i64 x0, .string x1, .string x2, .int .i64 x3, .slice ma r4.length mk, .int .i64 x5, .int .i64 y0, .string y1, .string y2, .int .i64 y3, .slice na s5.length nk, .int .i64 y5], .string t, .bool true])) ((((((((((((Z3.setCell ⟨w.heap.size + 1 + 1, 0, none⟩ (.int .i64 x0)).setCell ⟨w.heap.size + 1 + 1, 1, none⟩ (.string x1)).setCell ⟨w.heap.size + 1 + 1, 2, none⟩ (.string x2)).setCell ⟨w.heap.size + 1 + 1, 3, none⟩ (.int .i64 x3)).setCell ⟨w.heap.size + 1 + 1, 4, none⟩ (.slice ma r4.length mk)).setCell ⟨w.heap.size + 1 + 1, 5, none⟩ (.int .i64 x5)).setCell ⟨w.heap.size + 1 + 1, 6, none⟩ (.int .i64 y0)).setCell ⟨w.heap.size + 1 + 1, 7, none⟩ (.string y1)).setCell ⟨w.heap.size + 1 + 1, 8, none⟩ (.string y2)).setCell ⟨w.heap.size + 1 + 1, 9, none⟩ (.int .i64 y3)).setCell ⟨w.heap.size + 1 + 1, 10, none⟩ (.slice na s5.length nk)).setCell ⟨w.heap.size + 1 + 1, 11, none⟩ (.int .i64 y5))) := Lib.hid (by
              rw [HQ.out]
              have o1 : Only (w.heap.size + 1 + 1) Z3 ((((((((((((Z3.setCell ⟨w.heap.size + 1 + 1, 0, none⟩ (.int .i64 x0)).setCell ⟨w.heap.size + 1 + 1, 1, none⟩ (.string x1)).setCell ⟨w.heap.size + 1 + 1, 2, none⟩ (.string x2)).setCell ⟨w.heap.size + 1 + 1, 3, none⟩ (.int .i64 x3)).setCell ⟨w.heap.size + 1 + 1, 4, none⟩ (.slice ma r4.length mk)).setCell ⟨w.heap.size + 1 + 1, 5, none⟩ (.int .i64 x5)).setCell ⟨w.heap.size + 1 + 1, 6, none⟩ (.int .i64 y0)).setCell ⟨w.heap.size + 1 + 1, 7, none⟩ (.string y1)).setCell ⟨w.heap.size + 1 + 1, 8, none⟩ (.string y2)).setCell ⟨w.heap.size + 1 + 1, 9, none⟩ (.int .i64 y3)).setCell ⟨w.heap.size + 1 + 1, 10, none⟩ (.slice na s5.length nk)).setCell ⟨w.heap.size + 1 + 1, 11, none⟩ (.int .i64 y5)) := (putMain_only Z3 (w.heap.size + 1 + 1) _ _ _ _ _ _).trans (putLame_only _ (w.heap.size + 1 + 1) _ _ _ _ _ _)
              exact ⟨_, _, _, _, rfl, D4.out.dup, layIntS.lower (own_var D4.out.rowM D4.out.r (by decide) o1) (by omega), layIntS.lower (own_var D4.out.rowL D4.out.r (by decide) o1) (by omega), D4.out.below.trans (only_lo o1 (by omega) D4.out.below.size)⟩)
            clear S1
            go_wp2_with fail
            try simp only [Exit.inBlock, Exit.then]
            exact bodyPost_ret (v := .tuple #[.agg #[.int .i64 x0, .string x1, .string x2, .int .i64 x3, .slice ma r4.length mk, .int .i64 x5, .int .i64 y0, .string y1, .string y2, .int .i64 y3, .slice na s5.length nk, .int .i64 y5], .string t, .bool true]) (by simp [results, Tryz.results9, go_sem, j0, j1, j2, j3, j4, j5, j6, j7, j8, j9, j10, j11]) rfl E.out
        · have HMM := Lib.hid hm
          have HLM := Lib.hid hlm
          obtain ⟨rfl, rfl, rfl, rfl⟩ : r4 = r5 ∧ s4 = s5 ∧ t = ⟨#[]⟩ ∧ ok = false := by
            rcases HO.out with ⟨k1, _⟩ | ⟨k1, _⟩ | ⟨_, _, k1⟩
            · exact absurd k1 (fun h => hm ⟨PX.out.2 h.2.2.2.1, h.2.2.2.2⟩)
            · exact absurd k1 (fun h => hlm ⟨⟨PY.out.2 h.2.2.2.2.1, h.2.2.2.2.2.2⟩, h.2.2.2.2.2.1⟩)
            · exact ⟨k1.1.symm, k1.2.1.symm, k1.2.2⟩
          clear HO hm hlm
          have K := Lib.hid (takerOf_any G x0 y0 y5 key now (none) (.inr (.inr ⟨HMM.out, HLM.out, rfl⟩)) Z0 (D1.out.o.cell 0) (D1.out.o.cell 6) (D1.out.o.cell 11))
          go_wp2_with fail
          refine K.out.mono ?_
          rintro e Z1 ⟨rfl, hw⟩
          rw [hw]
          clear hw K cp1
          go_upto_region 6 with fail
          have e0 : Z0.cell? ⟨G, 0, none⟩ = some (.int .i64 x0) := D1.out.o.cell 0
          have e1 : Z0.cell? ⟨G, 1, none⟩ = some (.string x1) := D1.out.o.cell 1
          have e2 : Z0.cell? ⟨G, 2, none⟩ = some (.string x2) := D1.out.o.cell 2
          have e3 : Z0.cell? ⟨G, 3, none⟩ = some (.int .i64 x3) := D1.out.o.cell 3
          have e4 : Z0.cell? ⟨G, 4, none⟩ = some (.slice ma r4.length mk) := D1.out.o.cell 4
          have e5 : Z0.cell? ⟨G, 5, none⟩ = some (.int .i64 x5) := D1.out.o.cell 5
          have e6 : Z0.cell? ⟨G, 6, none⟩ = some (.int .i64 y0) := D1.out.o.cell 6
          have e7 : Z0.cell? ⟨G, 7, none⟩ = some (.string y1) := D1.out.o.cell 7
          have e8 : Z0.cell? ⟨G, 8, none⟩ = some (.string y2) := D1.out.o.cell 8
          have e9 : Z0.cell? ⟨G, 9, none⟩ = some (.int .i64 y3) := D1.out.o.cell 9
          have e10 : Z0.cell? ⟨G, 10, none⟩ = some (.slice la s4.length lk) := D1.out.o.cell 10
          have e11 : Z0.cell? ⟨G, 11, none⟩ = some (.int .i64 y5) := D1.out.o.cell 11
          have d0 : Z0.cell? ⟨w.heap.size + 1 + 1, 0, none⟩ = some (.int .i64 0) := D1.out.r.cell 0
          have d1 : Z0.cell? ⟨w.heap.size + 1 + 1, 1, none⟩ = some (.string ⟨#[]⟩) := D1.out.r.cell 1
          have d2 : Z0.cell? ⟨w.heap.size + 1 + 1, 2, none⟩ = some (.string ⟨#[]⟩) := D1.out.r.cell 2
          have d3 : Z0.cell? ⟨w.heap.size + 1 + 1, 3, none⟩ = some (.int .i64 0) := D1.out.r.cell 3
          have d4 : Z0.cell? ⟨w.heap.size + 1 + 1, 4, none⟩ = some (.slice none 0 0) := D1.out.r.cell 4
          have d5 : Z0.cell? ⟨w.heap.size + 1 + 1, 5, none⟩ = some (.int .i64 0) := D1.out.r.cell 5
          have d6 : Z0.cell? ⟨w.heap.size + 1 + 1, 6, none⟩ = some (.int .i64 0) := D1.out.r.cell 6
          have d7 : Z0.cell? ⟨w.heap.size + 1 + 1, 7, none⟩ = some (.string ⟨#[]⟩) := D1.out.r.cell 7
          have d8 : Z0.cell? ⟨w.heap.size + 1 + 1, 8, none⟩ = some (.string ⟨#[]⟩) := D1.out.r.cell 8
          have d9 : Z0.cell? ⟨w.heap.size + 1 + 1, 9, none⟩ = some (.int .i64 0) := D1.out.r.cell 9
          have d10 : Z0.cell? ⟨w.heap.size + 1 + 1, 10, none⟩ = some (.slice none 0 0) := D1.out.r.cell 10
          have d11 : Z0.cell? ⟨w.heap.size + 1 + 1, 11, none⟩ = some (.int .i64 0) := D1.out.r.cell 11
          have g0 := D1.out.r.free 0
          have g1 := D1.out.r.free 1
          have g2 := D1.out.r.free 2
          have g3 := D1.out.r.free 3
          have g4 := D1.out.r.free 4
          have g5 := D1.out.r.free 5
          have g6 := D1.out.r.free 6
          have g7 := D1.out.r.free 7
          have g8 := D1.out.r.free 8
          have g9 := D1.out.r.free 9
          have g10 := D1.out.r.free 10
          have g11 := D1.out.r.free 11
          have S1 := putBoth D1.out.r (.int .i64 x0) (.string x1) (.string x2) (.int .i64 x3) (.slice ma r4.length mk) (.int .i64 x5) (.int .i64 y0) (.string y1) (.string y2) (.int .i64 y3) (.slice la s4.length lk) (.int .i64 y5)
          have j0 := S1.cell 0
          have j1 := S1.cell 1
          have j2 := S1.cell 2
          have j3 := S1.cell 3
          have j4 := S1.cell 4
          have j5 := S1.cell 5
          have j6 := S1.cell 6
          have j7 := S1.cell 7
          have j8 := S1.cell 8
          have j9 := S1.cell 9
          have j10 := S1.cell 10
          have j11 := S1.cell 11
          have hfr := D1.out.far
          have E : Hid (Q (.returned (.tuple #[.agg #[.int .i64 x0, .string x1, .string x2, .int .i64 x3, .slice ma r4.length mk, .int .i64 x5, .int .i64 y0, .string y1, .string y2, .int .i64 y3, .slice la s4.length lk, .int .i64 y5], .string ⟨#[]⟩, .bool false])) ((((((((((((Z0.setCell ⟨w.heap.size + 1 + 1, 0, none⟩ (.int .i64 x0)).setCell ⟨w.heap.size + 1 + 1, 1, none⟩ (.string x1)).setCell ⟨w.heap.size + 1 + 1, 2, none⟩ (.string x2)).setCell ⟨w.heap.size + 1 + 1, 3, none⟩ (.int .i64 x3)).setCell ⟨w.heap.size + 1 + 1, 4, none⟩ (.slice ma r4.length mk)).setCell ⟨w.heap.size + 1 + 1, 5, none⟩ (.int .i64 x5)).setCell ⟨w.heap.size + 1 + 1, 6, none⟩ (.int .i64 y0)).setCell ⟨w.heap.size + 1 + 1, 7, none⟩ (.string y1)).setCell ⟨w.heap.size + 1 + 1, 8, none⟩ (.string y2)).setCell ⟨w.heap.size + 1 + 1, 9, none⟩ (.int .i64 y3)).setCell ⟨w.heap.size + 1 + 1, 10, none⟩ (.slice la s4.length lk)).setCell ⟨w.heap.size + 1 + 1, 11, none⟩ (.int .i64 y5))) := Lib.hid (by
            rw [HQ.out]
            have o1 : Only (w.heap.size + 1 + 1) Z0 ((((((((((((Z0.setCell ⟨w.heap.size + 1 + 1, 0, none⟩ (.int .i64 x0)).setCell ⟨w.heap.size + 1 + 1, 1, none⟩ (.string x1)).setCell ⟨w.heap.size + 1 + 1, 2, none⟩ (.string x2)).setCell ⟨w.heap.size + 1 + 1, 3, none⟩ (.int .i64 x3)).setCell ⟨w.heap.size + 1 + 1, 4, none⟩ (.slice ma r4.length mk)).setCell ⟨w.heap.size + 1 + 1, 5, none⟩ (.int .i64 x5)).setCell ⟨w.heap.size + 1 + 1, 6, none⟩ (.int .i64 y0)).setCell ⟨w.heap.size + 1 + 1, 7, none⟩ (.string y1)).setCell ⟨w.heap.size + 1 + 1, 8, none⟩ (.string y2)).setCell ⟨w.heap.size + 1 + 1, 9, none⟩ (.int .i64 y3)).setCell ⟨w.heap.size + 1 + 1, 10, none⟩ (.slice la s4.length lk)).setCell ⟨w.heap.size + 1 + 1, 11, none⟩ (.int .i64 y5)) := (putMain_only Z0 (w.heap.size + 1 + 1) _ _ _ _ _ _).trans (putLame_only _ (w.heap.size + 1 + 1) _ _ _ _ _ _)
            exact ⟨_, _, _, _, rfl, D1.out.dup, layIntS.lower (own_var D1.out.rowM D1.out.r (by decide) o1) (by omega), layIntS.lower (own_var D1.out.rowL D1.out.r (by decide) o1) (by omega), D1.out.below.trans (only_lo o1 (by omega) D1.out.below.size)⟩)
          clear S1
          go_wp2_with fail
          try simp only [Exit.inBlock, Exit.then]
          exact bodyPost_ret (v := .tuple #[.agg #[.int .i64 x0, .string x1, .string x2, .int .i64 x3, .slice ma r4.length mk, .int .i64 x5, .int .i64 y0, .string y1, .string y2, .int .i64 y3, .slice la s4.length lk, .int .i64 y5], .string ⟨#[]⟩, .bool false]) (by simp [results, Tryz.results9, go_sem, j0, j1, j2, j3, j4, j5, j6, j7, j8, j9, j10, j11]) rfl E.out

end Go.Proofs.YtoaifgblbfdncabGreatDoor
