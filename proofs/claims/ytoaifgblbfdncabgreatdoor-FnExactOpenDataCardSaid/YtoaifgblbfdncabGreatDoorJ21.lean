/-
  The given opening of a packet by one set of keys.
-/
import Derived.Test.YtoaifgblbfdncabGreatDoorJ11
import Derived.Test.YtoaifgblbfdncabGreatDoorJ15
import Derived.Test.YtoaifgblbfdncabGreatDoorJ20
import Derived.Test.YtoaifgblbfdncabGreatDoorJ18
namespace Go.Proofs.YtoaifgblbfdncabGreatDoor
open Go.RowKit

abbrev OPkT : TypeId := 37
/-- A set of keys opens a packet. -/
def OpensP (x2 : ByteArray) (r4 : List Int) (num : Int) (body : ByteArray) (r5 : List Int) (t : ByteArray) (ok : Bool) : Prop :=
  (ok = true ∧ FreshP r4 num ∧ OpenIs x2 num body t true ∧ NoteIs r4 num r5) ∨ (ok = false ∧ ¬ (FreshP r4 num ∧ ∃ t, OpenIs x2 num body t true) ∧ r5 = r4 ∧ t = ⟨#[]⟩)
theorem opens_is (x2 : ByteArray) (r4 : List Int) (num : Int) (body : ByteArray) : ∃ r5 t ok, OpensP x2 r4 num body r5 t ok := by
  by_cases h : FreshP r4 num ∧ ∃ t, OpenIs x2 num body t true
  · obtain ⟨h1, t, h2⟩ := h
    obtain ⟨r, hr⟩ := note_is r4 num
    exact ⟨r, t, true, .inl ⟨rfl, h1, h2, hr⟩⟩
  · exact ⟨r4, _, false, .inr ⟨rfl, h, rfl, rfl⟩⟩
theorem open_one {key : ByteArray} {num : Int} {text t1 t2 : ByteArray} {b1 b2 : Bool} (h : OpenIs key num text t1 b1) (k : OpenIs key num text t2 b2) : t1 = t2 ∧ b1 = b2 := by
  rcases h with ⟨h1, rfl, rfl⟩ | ⟨h1, rfl, rfl⟩
  · rcases k with ⟨_, rfl, rfl⟩ | ⟨k1, _⟩
    · exact ⟨rfl, rfl⟩
    · exact absurd k1 h1
  · rcases k with ⟨k1, _⟩ | ⟨_, rfl, rfl⟩
    · exact absurd h1 k1
    · exact ⟨rfl, rfl⟩
/-- The slot, the packet and the result in their variables. -/
structure OSV (w : World) (s p : Array Value) (X : World) : Prop where
  s : VarA w.heap.size SlotT s X
  p : VarA (w.heap.size + 1) OPkT p X
  r : VarA (w.heap.size + 1 + 1) SlotT #[.int .i64 0, .string ⟨#[]⟩, .string ⟨#[]⟩, .int .i64 0, .slice none 0 0, .int .i64 0] X
  below : Below w.heap.size w X
theorem OSV.next {w X Y : World} {s p : Array Value} (h : OSV w s p X) (hb : Below X.heap.size X Y) : OSV w s p Y := ⟨h.s.next hb, h.p.next hb, h.r.next hb, h.below.trans (hb.mono h.below.size)⟩
theorem OSV.seen {w X : World} {x0 x1 x2 x3 x4 x5 : Value} {p : Array Value} (h : OSV w #[x0, x1, x2, x3, x4, x5] p X) (v : Value) : OSV w #[x0, x1, x2, x3, v, x5] p (X.setCell ⟨w.heap.size, 4, none⟩ v) := ⟨h.s.set 4 _, h.p.off 4 _ (by omega), h.r.off 4 _ (by omega), h.below.setCell (p := ⟨w.heap.size, 4, none⟩) (Nat.le_refl _) _⟩
theorem OSV.new {w : World} {s p : Array Value} : OSV w s p (((w.alloc (.cells s SlotT)).alloc (.cells p OPkT)).alloc (.cells #[.int .i64 0, .string ⟨#[]⟩, .string ⟨#[]⟩, .int .i64 0, .slice none 0 0, .int .i64 0] SlotT)) := by
  have h2 := VarA.new (w.alloc (.cells s SlotT)) OPkT p
  have h3 := VarA.new ((w.alloc (.cells s SlotT)).alloc (.cells p OPkT)) SlotT #[.int .i64 0, .string ⟨#[]⟩, .string ⟨#[]⟩, .int .i64 0, .slice none 0 0, .int .i64 0]
  rw [show (w.alloc (.cells s SlotT)).heap.size = w.heap.size + 1 by simp] at h2
  rw [show ((w.alloc (.cells s SlotT)).alloc (.cells p OPkT)).heap.size = w.heap.size + 1 + 1 by simp] at h3
  exact ⟨((VarA.new w SlotT s).alloc _).alloc _, h2.alloc _, h3, (((Below.refl w.heap.size w).alloc (Nat.le_refl _) _).alloc (by simp) _).alloc (by simp; omega) _⟩

/-- What is told of a packet that is opened by one set of keys. -/
def SlotOpened (x0 : Int) (x1 x2 : ByteArray) (x3 : Int) (v4 : Value) (x5 : Int) (r5 : List Int) (t : ByteArray) (ok : Bool) (w : World) (e : Ending) (w' : World) : Prop := ∃ v5, e = .returned (.tuple #[.agg #[.int .i64 x0, .string x1, .string x2, .int .i64 x3, v5, .int .i64 x5], .string t, .bool ok]) ∧ ((ok = false ∧ v5 = v4) ∨ (ok = true ∧ ∃ f, f.Nodup ∧ layIntS.own w' w.heap.size f [v5] r5)) ∧ Below w.heap.size w w'
set_option maxRecDepth 100000 in
set_option maxHeartbeats 3200000 in
theorem specOpenSlot_any (x0 : Int) (x1 x2 : ByteArray) (x3 : Int) (v4 : Value) (r4 : List Int) (x5 : Int) (op key fr dst num : Int) (va : Value) (acks : List Int) (body : ByteArray) (hx2 : x2.size ≤ 1048576) (hl : r4.length ≤ 10000000) (hbs : body.size ≤ 1048576) (r5 : List Int) (t : ByteArray) (ok : Bool) (hO : OpensP x2 r4 num body r5 t ok) (w : World) (h : layIntS.rd w [v4] r4) (ha : layIntS.rd w [va] acks) :
    Calls Tryz.prog 21 #[.agg #[.int .i64 x0, .string x1, .string x2, .int .i64 x3, v4, .int .i64 x5], .agg #[.int .i64 op, .int .i64 key, .int .i64 fr, .int .i64 dst, .int .i64 num, va, .string body]] w (SlotOpened x0 x1 x2 x3 v4 x5 r5 t ok w) := by
  obtain ⟨a4, p4, rfl⟩ := rows_form h
  obtain ⟨aa, ca, rfl⟩ := rows_form ha
  have H0 := Lib.hid (OSV.new (w := w) (s := #[.int .i64 x0, .string x1, .string x2, .int .i64 x3, .slice a4 r4.length p4, .int .i64 x5]) (p := #[.int .i64 op, .int .i64 key, .int .i64 fr, .int .i64 dst, .int .i64 num, .slice aa acks.length ca, .string body]))
  have HR := Lib.hid h
  have HO := Lib.hid hO
  clear h ha hO
  obtain ⟨b, hb⟩ : ∃ b : Bool, b = true ↔ FreshP r4 num := by
    by_cases h : FreshP r4 num
    · exact ⟨true, ⟨fun _ => h, fun _ => rfl⟩⟩
    · exact ⟨false, ⟨fun e => (by cases e), fun e => absurd e h⟩⟩
  obtain ⟨t1, ok1, hop⟩ := open_is x2 num body
  have HB := Lib.hid hb
  have HP := Lib.hid hop
  clear hb hop
  obtain ⟨Q, HQ⟩ : ∃ Q : Ending → World → Prop, Hid (Q = SlotOpened x0 x1 x2 x3 (.slice a4 r4.length p4) x5 r5 t ok w) := ⟨_, Lib.hid rfl⟩
  rw [← HQ.out]
  go_enter Tryz.func21, Tryz.ntmps21
  go_upto_region 1 with fail
  generalize (((w.alloc (.cells #[.int .i64 x0, .string x1, .string x2, .int .i64 x3, .slice a4 r4.length p4, .int .i64 x5] SlotT)).alloc (.cells #[.int .i64 op, .int .i64 key, .int .i64 fr, .int .i64 dst, .int .i64 num, .slice aa acks.length ca, .string body] OPkT)).alloc (.cells #[.int .i64 0, .string ⟨#[]⟩, .string ⟨#[]⟩, .int .i64 0, .slice none 0 0, .int .i64 0] SlotT)) = Y0 at *
  have c4 : Y0.cell? ⟨w.heap.size, 4, none⟩ = some (.slice a4 r4.length p4) := H0.out.s.cell 4
  have q4 : Y0.cell? ⟨w.heap.size + 1, 4, none⟩ = some (.int .i64 num) := H0.out.p.cell 4
  have K1 := Lib.hid (specIsFresh_bool r4 num _ b HB.out (by omega) Y0 (layIntS.below HR.out H0.out.below))
  go_wp2_with fail
  refine K1.out.mono ?_
  rintro e Y1 ⟨rfl, hb⟩
  have H1 := Lib.hid (H0.out.next hb)
  clear hb K1 c4 q4 H0
  cases b with
  | false =>
    obtain ⟨rfl, rfl⟩ : ok = false ∧ t = ⟨#[]⟩ := by
      rcases HO.out with ⟨-, h, -⟩ | ⟨h1, -, -, h2⟩
      · exact absurd (HB.out.2 h) (by decide)
      · exact ⟨h1, h2⟩
    go_upto_region 2 with fail
    have e0 : Y1.cell? ⟨w.heap.size, 0, none⟩ = some (.int .i64 x0) := H1.out.s.cell 0
    have e1 : Y1.cell? ⟨w.heap.size, 1, none⟩ = some (.string x1) := H1.out.s.cell 1
    have e2 : Y1.cell? ⟨w.heap.size, 2, none⟩ = some (.string x2) := H1.out.s.cell 2
    have e3 : Y1.cell? ⟨w.heap.size, 3, none⟩ = some (.int .i64 x3) := H1.out.s.cell 3
    have e4 : Y1.cell? ⟨w.heap.size, 4, none⟩ = some (.slice a4 r4.length p4) := H1.out.s.cell 4
    have e5 : Y1.cell? ⟨w.heap.size, 5, none⟩ = some (.int .i64 x5) := H1.out.s.cell 5
    have d0 : Y1.cell? ⟨w.heap.size + 1 + 1, 0, none⟩ = some (.int .i64 0) := H1.out.r.cell 0
    have f0 := H1.out.r.free 0
    have d1 : Y1.cell? ⟨w.heap.size + 1 + 1, 1, none⟩ = some (.string ⟨#[]⟩) := H1.out.r.cell 1
    have f1 := H1.out.r.free 1
    have d2 : Y1.cell? ⟨w.heap.size + 1 + 1, 2, none⟩ = some (.string ⟨#[]⟩) := H1.out.r.cell 2
    have f2 := H1.out.r.free 2
    have d3 : Y1.cell? ⟨w.heap.size + 1 + 1, 3, none⟩ = some (.int .i64 0) := H1.out.r.cell 3
    have f3 := H1.out.r.free 3
    have d4 : Y1.cell? ⟨w.heap.size + 1 + 1, 4, none⟩ = some (.slice none 0 0) := H1.out.r.cell 4
    have f4 := H1.out.r.free 4
    have d5 : Y1.cell? ⟨w.heap.size + 1 + 1, 5, none⟩ = some (.int .i64 0) := H1.out.r.cell 5
    have f5 := H1.out.r.free 5
    have R9 := putSix H1.out.r (.int .i64 x0) (.string x1) (.string x2) (.int .i64 x3) (.slice a4 r4.length p4) (.int .i64 x5)
    have BZ := Lib.hid ((((((H1.out.below.setCell (p := ⟨w.heap.size + 1 + 1, 0, none⟩) (by show w.heap.size ≤ w.heap.size + 1 + 1; omega) (.int .i64 x0)).setCell (p := ⟨w.heap.size + 1 + 1, 1, none⟩) (by show w.heap.size ≤ w.heap.size + 1 + 1; omega) (.string x1)).setCell (p := ⟨w.heap.size + 1 + 1, 2, none⟩) (by show w.heap.size ≤ w.heap.size + 1 + 1; omega) (.string x2)).setCell (p := ⟨w.heap.size + 1 + 1, 3, none⟩) (by show w.heap.size ≤ w.heap.size + 1 + 1; omega) (.int .i64 x3)).setCell (p := ⟨w.heap.size + 1 + 1, 4, none⟩) (by show w.heap.size ≤ w.heap.size + 1 + 1; omega) (.slice a4 r4.length p4)).setCell (p := ⟨w.heap.size + 1 + 1, 5, none⟩) (by show w.heap.size ≤ w.heap.size + 1 + 1; omega) (.int .i64 x5))
    have j0 := R9.cell 0
    have j1 := R9.cell 1
    have j2 := R9.cell 2
    have j3 := R9.cell 3
    have j4 := R9.cell 4
    have j5 := R9.cell 5
    clear R9
    go_wp2_with fail
    exact bodyPost_ret (v := .tuple #[.agg #[.int .i64 x0, .string x1, .string x2, .int .i64 x3, .slice a4 r4.length p4, .int .i64 x5], .string ⟨#[]⟩, .bool false]) (by simp [results, Tryz.results21, go_sem, j0, j1, j2, j3, j4, j5]) rfl (by rw [HQ.out]; exact ⟨_, rfl, .inl ⟨rfl, rfl⟩, BZ.out⟩)
  | true =>
    have hf : FreshP r4 num := HB.out.1 rfl
    have c2 : Y1.cell? ⟨w.heap.size, 2, none⟩ = some (.string x2) := H1.out.s.cell 2
    have q4 : Y1.cell? ⟨w.heap.size + 1, 4, none⟩ = some (.int .i64 num) := H1.out.p.cell 4
    have q6 : Y1.cell? ⟨w.heap.size + 1, 6, none⟩ = some (.string body) := H1.out.p.cell 6
    have K2 := Lib.hid (specOpen_is x2 num body t1 ok1 (by omega) (by omega) HP.out Y1)
    go_wp2_with fail
    refine K2.out.mono ?_
    rintro e Y2 ⟨rfl, hb⟩
    have H2 := Lib.hid (H1.out.next hb)
    clear hb K2 c2 q4 q6 H1
    cases ok1 with
    | false =>
      obtain ⟨rfl, rfl⟩ : ok = false ∧ t = ⟨#[]⟩ := by
        rcases HO.out with ⟨-, -, h, -⟩ | ⟨h1, -, -, h2⟩
        · exact absurd (open_one HP.out h).2 (by decide)
        · exact ⟨h1, h2⟩
      clear hf
      go_upto_region 5 with fail
      have e0 : Y2.cell? ⟨w.heap.size, 0, none⟩ = some (.int .i64 x0) := H2.out.s.cell 0
      have e1 : Y2.cell? ⟨w.heap.size, 1, none⟩ = some (.string x1) := H2.out.s.cell 1
      have e2 : Y2.cell? ⟨w.heap.size, 2, none⟩ = some (.string x2) := H2.out.s.cell 2
      have e3 : Y2.cell? ⟨w.heap.size, 3, none⟩ = some (.int .i64 x3) := H2.out.s.cell 3
      have e4 : Y2.cell? ⟨w.heap.size, 4, none⟩ = some (.slice a4 r4.length p4) := H2.out.s.cell 4
      have e5 : Y2.cell? ⟨w.heap.size, 5, none⟩ = some (.int .i64 x5) := H2.out.s.cell 5
      have d0 : Y2.cell? ⟨w.heap.size + 1 + 1, 0, none⟩ = some (.int .i64 0) := H2.out.r.cell 0
      have f0 := H2.out.r.free 0
      have d1 : Y2.cell? ⟨w.heap.size + 1 + 1, 1, none⟩ = some (.string ⟨#[]⟩) := H2.out.r.cell 1
      have f1 := H2.out.r.free 1
      have d2 : Y2.cell? ⟨w.heap.size + 1 + 1, 2, none⟩ = some (.string ⟨#[]⟩) := H2.out.r.cell 2
      have f2 := H2.out.r.free 2
      have d3 : Y2.cell? ⟨w.heap.size + 1 + 1, 3, none⟩ = some (.int .i64 0) := H2.out.r.cell 3
      have f3 := H2.out.r.free 3
      have d4 : Y2.cell? ⟨w.heap.size + 1 + 1, 4, none⟩ = some (.slice none 0 0) := H2.out.r.cell 4
      have f4 := H2.out.r.free 4
      have d5 : Y2.cell? ⟨w.heap.size + 1 + 1, 5, none⟩ = some (.int .i64 0) := H2.out.r.cell 5
      have f5 := H2.out.r.free 5
      have R9 := putSix H2.out.r (.int .i64 x0) (.string x1) (.string x2) (.int .i64 x3) (.slice a4 r4.length p4) (.int .i64 x5)
      have BZ := Lib.hid ((((((H2.out.below.setCell (p := ⟨w.heap.size + 1 + 1, 0, none⟩) (by show w.heap.size ≤ w.heap.size + 1 + 1; omega) (.int .i64 x0)).setCell (p := ⟨w.heap.size + 1 + 1, 1, none⟩) (by show w.heap.size ≤ w.heap.size + 1 + 1; omega) (.string x1)).setCell (p := ⟨w.heap.size + 1 + 1, 2, none⟩) (by show w.heap.size ≤ w.heap.size + 1 + 1; omega) (.string x2)).setCell (p := ⟨w.heap.size + 1 + 1, 3, none⟩) (by show w.heap.size ≤ w.heap.size + 1 + 1; omega) (.int .i64 x3)).setCell (p := ⟨w.heap.size + 1 + 1, 4, none⟩) (by show w.heap.size ≤ w.heap.size + 1 + 1; omega) (.slice a4 r4.length p4)).setCell (p := ⟨w.heap.size + 1 + 1, 5, none⟩) (by show w.heap.size ≤ w.heap.size + 1 + 1; omega) (.int .i64 x5))
      have j0 := R9.cell 0
      have j1 := R9.cell 1
      have j2 := R9.cell 2
      have j3 := R9.cell 3
      have j4 := R9.cell 4
      have j5 := R9.cell 5
      clear R9
      go_wp2_with fail
      exact bodyPost_ret (v := .tuple #[.agg #[.int .i64 x0, .string x1, .string x2, .int .i64 x3, .slice a4 r4.length p4, .int .i64 x5], .string ⟨#[]⟩, .bool false]) (by simp [results, Tryz.results21, go_sem, j0, j1, j2, j3, j4, j5]) rfl (by rw [HQ.out]; exact ⟨_, rfl, .inl ⟨rfl, rfl⟩, BZ.out⟩)
    | true =>
      obtain ⟨rfl, rfl, hn⟩ : ok = true ∧ t1 = t ∧ NoteIs r4 num r5 := by
        rcases HO.out with ⟨h1, -, h2, h3⟩ | ⟨-, h, -, -⟩
        · exact ⟨h1, (open_one HP.out h2).1, h3⟩
        · exact absurd ⟨hf, _, HP.out⟩ h
      have c4 : Y2.cell? ⟨w.heap.size, 4, none⟩ = some (.slice a4 r4.length p4) := H2.out.s.cell 4
      have q4 : Y2.cell? ⟨w.heap.size + 1, 4, none⟩ = some (.int .i64 num) := H2.out.p.cell 4
      have K3 := Lib.hid (specNoteSeen_any r4 num _ r5 hn hl Y2 (layIntS.below HR.out H2.out.below))
      clear hf hn
      go_wp2_with fail
      refine K3.out.mono ?_
      rintro e Y3 ⟨v5, f, rfl, hd, ho, hb⟩
      obtain ⟨ma, mk, rfl⟩ := rows_form (layIntS.read ho)
      have H3 := Lib.hid ((H2.out.next hb).seen (.slice ma r5.length mk))
      have hlo := H2.out.r.lt
      have OW : Hid (layIntS.own (Y3.setCell ⟨w.heap.size, 4, none⟩ (.slice ma r5.length mk)) (w.heap.size + 1 + 1 + 1) f [.slice ma r5.length mk] r5) := Lib.hid (by
        have h9 := layIntS.lower ho (show w.heap.size + 1 + 1 + 1 ≤ Y2.heap.size by omega)
        exact layIntS.keep h9 (fun a ha => (Only.setCell (c := w.heap.size) (w := Y3) 4 (.slice ma r5.length mk)).block a (layIntS.blocks h9 a ha).2 (by have := (layIntS.blocks h9 a ha).1; omega)))
      have z4 : Y3.cell? ⟨w.heap.size, 4, none⟩ = some (.slice a4 r4.length p4) := (H2.out.next hb).s.cell 4
      have g4 := (H2.out.next hb).s.free 4
      have HD := Lib.hid hd
      clear hb K3 c4 q4 H2 ho hd
      go_upto_region 7 with fail
      clear z4 g4
      generalize Y3.setCell ⟨w.heap.size, 4, none⟩ (.slice ma r5.length mk) = Y4 at *
      have e0 : Y4.cell? ⟨w.heap.size, 0, none⟩ = some (.int .i64 x0) := H3.out.s.cell 0
      have e1 : Y4.cell? ⟨w.heap.size, 1, none⟩ = some (.string x1) := H3.out.s.cell 1
      have e2 : Y4.cell? ⟨w.heap.size, 2, none⟩ = some (.string x2) := H3.out.s.cell 2
      have e3 : Y4.cell? ⟨w.heap.size, 3, none⟩ = some (.int .i64 x3) := H3.out.s.cell 3
      have e4 : Y4.cell? ⟨w.heap.size, 4, none⟩ = some (.slice ma r5.length mk) := H3.out.s.cell 4
      have e5 : Y4.cell? ⟨w.heap.size, 5, none⟩ = some (.int .i64 x5) := H3.out.s.cell 5
      have d0 : Y4.cell? ⟨w.heap.size + 1 + 1, 0, none⟩ = some (.int .i64 0) := H3.out.r.cell 0
      have f0 := H3.out.r.free 0
      have d1 : Y4.cell? ⟨w.heap.size + 1 + 1, 1, none⟩ = some (.string ⟨#[]⟩) := H3.out.r.cell 1
      have f1 := H3.out.r.free 1
      have d2 : Y4.cell? ⟨w.heap.size + 1 + 1, 2, none⟩ = some (.string ⟨#[]⟩) := H3.out.r.cell 2
      have f2 := H3.out.r.free 2
      have d3 : Y4.cell? ⟨w.heap.size + 1 + 1, 3, none⟩ = some (.int .i64 0) := H3.out.r.cell 3
      have f3 := H3.out.r.free 3
      have d4 : Y4.cell? ⟨w.heap.size + 1 + 1, 4, none⟩ = some (.slice none 0 0) := H3.out.r.cell 4
      have f4 := H3.out.r.free 4
      have d5 : Y4.cell? ⟨w.heap.size + 1 + 1, 5, none⟩ = some (.int .i64 0) := H3.out.r.cell 5
      have f5 := H3.out.r.free 5
      have R9 := putSix H3.out.r (.int .i64 x0) (.string x1) (.string x2) (.int .i64 x3) (.slice ma r5.length mk) (.int .i64 x5)
      have BZ := Lib.hid ((((((H3.out.below.setCell (p := ⟨w.heap.size + 1 + 1, 0, none⟩) (by show w.heap.size ≤ w.heap.size + 1 + 1; omega) (.int .i64 x0)).setCell (p := ⟨w.heap.size + 1 + 1, 1, none⟩) (by show w.heap.size ≤ w.heap.size + 1 + 1; omega) (.string x1)).setCell (p := ⟨w.heap.size + 1 + 1, 2, none⟩) (by show w.heap.size ≤ w.heap.size + 1 + 1; omega) (.string x2)).setCell (p := ⟨w.heap.size + 1 + 1, 3, none⟩) (by show w.heap.size ≤ w.heap.size + 1 + 1; omega) (.int .i64 x3)).setCell (p := ⟨w.heap.size + 1 + 1, 4, none⟩) (by show w.heap.size ≤ w.heap.size + 1 + 1; omega) (.slice ma r5.length mk)).setCell (p := ⟨w.heap.size + 1 + 1, 5, none⟩) (by show w.heap.size ≤ w.heap.size + 1 + 1; omega) (.int .i64 x5))
      have j0 := R9.cell 0
      have j1 := R9.cell 1
      have j2 := R9.cell 2
      have j3 := R9.cell 3
      have j4 := R9.cell 4
      have j5 := R9.cell 5
      clear R9
      have OZ : Hid (layIntS.own ((((((Y4.setCell ⟨w.heap.size + 1 + 1, 0, none⟩ (.int .i64 x0)).setCell ⟨w.heap.size + 1 + 1, 1, none⟩ (.string x1)).setCell ⟨w.heap.size + 1 + 1, 2, none⟩ (.string x2)).setCell ⟨w.heap.size + 1 + 1, 3, none⟩ (.int .i64 x3)).setCell ⟨w.heap.size + 1 + 1, 4, none⟩ (.slice ma r5.length mk)).setCell ⟨w.heap.size + 1 + 1, 5, none⟩ (.int .i64 x5)) w.heap.size f [.slice ma r5.length mk] r5) := Lib.hid (by
        have hX : Only (w.heap.size + 1 + 1) Y4 ((((((Y4.setCell ⟨w.heap.size + 1 + 1, 0, none⟩ (.int .i64 x0)).setCell ⟨w.heap.size + 1 + 1, 1, none⟩ (.string x1)).setCell ⟨w.heap.size + 1 + 1, 2, none⟩ (.string x2)).setCell ⟨w.heap.size + 1 + 1, 3, none⟩ (.int .i64 x3)).setCell ⟨w.heap.size + 1 + 1, 4, none⟩ (.slice ma r5.length mk)).setCell ⟨w.heap.size + 1 + 1, 5, none⟩ (.int .i64 x5)) := ((((((Only.setCell 0 (.int .i64 x0) : Only (w.heap.size + 1 + 1) Y4 _).trans (Only.setCell 1 (.string x1))).trans (Only.setCell 2 (.string x2))).trans (Only.setCell 3 (.int .i64 x3))).trans (Only.setCell 4 (.slice ma r5.length mk))).trans (Only.setCell 5 (.int .i64 x5)))
        exact layIntS.lower (layIntS.keep OW.out (fun a ha => hX.block a (layIntS.blocks OW.out a ha).2 (by have := (layIntS.blocks OW.out a ha).1; omega))) (by omega))
      go_wp2_with fail
      exact bodyPost_ret (v := .tuple #[.agg #[.int .i64 x0, .string x1, .string x2, .int .i64 x3, .slice ma r5.length mk, .int .i64 x5], .string t1, .bool true]) (by simp [results, Tryz.results21, go_sem, j0, j1, j2, j3, j4, j5]) rfl (by rw [HQ.out]; exact ⟨_, rfl, .inr ⟨rfl, f, HD.out, OZ.out⟩, BZ.out⟩)

end Go.Proofs.YtoaifgblbfdncabGreatDoor
