/-
  The given SealData.
-/
import Derived.Test.YtoaifgblbfdncaaGreatDoorJ12
import Derived.Test.YtoaifgblbfdncaaGreatDoorJ22
namespace Go.Proofs.YtoaifgblbfdncaaGreatDoor
open Go.RowKit

abbrev SPkT : TypeId := 38
/-- A text may be sealed. -/
def SealP (x0 : Int) (x1 x2 : ByteArray) (x3 : Int) (r4 : List Int) (x5 : Int) (y0 : Int) (y1 y2 : ByteArray) (y3 : Int) (s4 : List Int) (y5 : Int) (fr dst : Int) (body : ByteArray) : Prop := SlotsP x0 x1 x2 x3 r4 x5 y0 y1 y2 y3 s4 y5 ∧ ¬ (NoneP x0 x1 x2 x3 r4 x5 ∨ x3 = 12) ∧ (1 ≤ fr ∧ fr ≤ 99) ∧ (1 ≤ dst ∧ dst ≤ 99) ∧ body.size ≤ 104
/-- What SealData tells. -/
def SealEnd (x0 : Int) (x1 x2 : ByteArray) (x3 : Int) (r4 : List Int) (x5 : Int) (y0 : Int) (y1 y2 : ByteArray) (y3 : Int) (s4 : List Int) (y5 : Int) (fr dst : Int) (body : ByteArray) (w : World) (e : Ending) (w' : World) : Prop :=
  ∃ (c k0 k1 k2 k3 k4 : Int) (k6 : ByteArray) (ok : Bool) (v4 u4 : Value) (f g : List Nat),
    ((ok = true ∧ SealP x0 x1 x2 x3 r4 x5 y0 y1 y2 y3 s4 y5 fr dst body ∧ c = x3 + 1 ∧ k0 = 3 ∧ k1 = x0 % 8 ∧ k2 = fr ∧ k3 = dst ∧ k4 = x3 + 1 ∧ k6 = lockP x1 (x3 + 1).toNat body) ∨
     (ok = false ∧ ¬ SealP x0 x1 x2 x3 r4 x5 y0 y1 y2 y3 s4 y5 fr dst body ∧ c = x3 ∧ k0 = 0 ∧ k1 = 0 ∧ k2 = 0 ∧ k3 = 0 ∧ k4 = 0 ∧ k6 = ⟨#[]⟩)) ∧
    e = .returned (.tuple #[.agg #[.int .i64 x0, .string x1, .string x2, .int .i64 c, v4, .int .i64 x5, .int .i64 y0, .string y1, .string y2, .int .i64 y3, u4, .int .i64 y5], .agg #[.int .i64 k0, .int .i64 k1, .int .i64 k2, .int .i64 k3, .int .i64 k4, .slice none 0 0, .string k6], .bool ok]) ∧ (f ++ g).Nodup ∧ layIntS.own w' w.heap.size f [v4] r4 ∧ layIntS.own w' w.heap.size g [u4] s4 ∧ Below w.heap.size w w'
/-- The slots, both results and the copy in their variables. -/
structure SDV (w : World) (G : Nat) (s o : Array Value) (f g : List Nat) (v u : Value) (r4 s4 : List Int) (X : World) : Prop where
  s : VarA w.heap.size SlotsT s X
  r : VarA (w.heap.size + 1) SlotsT #[.int .i64 0, .string ⟨#[]⟩, .string ⟨#[]⟩, .int .i64 0, .slice none 0 0, .int .i64 0, .int .i64 0, .string ⟨#[]⟩, .string ⟨#[]⟩, .int .i64 0, .slice none 0 0, .int .i64 0] X
  k : VarA (w.heap.size + 1 + 1) SPkT #[.int .i64 0, .int .i64 0, .int .i64 0, .int .i64 0, .int .i64 0, .slice none 0 0, .string ⟨#[]⟩] X
  o : VarA G SlotsT o X
  far : w.heap.size + 1 + 1 + 1 ≤ G
  rowM : layIntS.own X (w.heap.size + 1 + 1 + 1) f [v] r4
  rowL : layIntS.own X (w.heap.size + 1 + 1 + 1) g [u] s4
  dup : (f ++ g).Nodup
  off : ∀ a ∈ f ++ g, a ≠ G
  below : Below w.heap.size w X
section
variable {w X Y : World} {G : Nat} {s o : Array Value} {f g : List Nat} {v u : Value} {r4 s4 : List Int}
theorem SDV.next (h : SDV w G s o f g v u r4 s4 X) (hb : Below X.heap.size X Y) : SDV w G s o f g v u r4 s4 Y := ⟨h.s.next hb, h.r.next hb, h.k.next hb, h.o.next hb, h.far, layIntS.next h.rowM hb, layIntS.next h.rowL hb, h.dup, h.off, h.below.trans (hb.mono h.below.size)⟩
theorem SDV.count {o0 o1 o2 o3 o4 o5 o6 o7 o8 o9 o10 o11 : Value} (h : SDV w G s #[o0, o1, o2, o3, o4, o5, o6, o7, o8, o9, o10, o11] f g v u r4 s4 X) (c : Value) : SDV w G s #[o0, o1, o2, c, o4, o5, o6, o7, o8, o9, o10, o11] f g v u r4 s4 (X.setCell ⟨G, 3, none⟩ c) := by
  have hf := h.far
  have ho : Only G X (X.setCell ⟨G, 3, none⟩ c) := Only.setCell 3 c
  exact ⟨h.s.off 3 _ (by omega), h.r.off 3 _ (by omega), h.k.off 3 _ (by omega), h.o.set 3 _, h.far, layIntS.keep h.rowM (fun a ha => ho.block a (layIntS.blocks h.rowM a ha).2 (h.off a (List.mem_append_left _ ha))), layIntS.keep h.rowL (fun a ha => ho.block a (layIntS.blocks h.rowL a ha).2 (h.off a (List.mem_append_right _ ha))), h.dup, h.off, h.below.setCell (p := ⟨G, 3, none⟩) (by show w.heap.size ≤ G; omega) _⟩
theorem only_under {lo q : Nat} {X Y : World} (h : Only q X Y) (hq : lo ≤ q) (hl : lo ≤ X.heap.size) : Below lo X Y := ⟨h.os, h.tape, h.output, h.size, fun k hk => h.block k (by omega) (by omega)⟩
theorem putSeven {T : TypeId} {q0 q1 q2 q3 q4 q5 q6 : Value} (h : VarA G T #[q0, q1, q2, q3, q4, q5, q6] X) (u0 u1 u2 u3 u4 u5 u6 : Value) : VarA G T #[u0, u1, u2, u3, u4, u5, u6] (((((((X.setCell ⟨G, 0, none⟩ (u0)).setCell ⟨G, 1, none⟩ (u1)).setCell ⟨G, 2, none⟩ (u2)).setCell ⟨G, 3, none⟩ (u3)).setCell ⟨G, 4, none⟩ (u4)).setCell ⟨G, 5, none⟩ (u5)).setCell ⟨G, 6, none⟩ (u6)) := by
  have h0 : VarA G T #[u0, q1, q2, q3, q4, q5, q6] (X.setCell ⟨G, 0, none⟩ (u0)) := h.set 0 u0
  have h1 : VarA G T #[u0, u1, q2, q3, q4, q5, q6] ((X.setCell ⟨G, 0, none⟩ (u0)).setCell ⟨G, 1, none⟩ (u1)) := h0.set 1 u1
  have h2 : VarA G T #[u0, u1, u2, q3, q4, q5, q6] (((X.setCell ⟨G, 0, none⟩ (u0)).setCell ⟨G, 1, none⟩ (u1)).setCell ⟨G, 2, none⟩ (u2)) := h1.set 2 u2
  have h3 : VarA G T #[u0, u1, u2, u3, q4, q5, q6] ((((X.setCell ⟨G, 0, none⟩ (u0)).setCell ⟨G, 1, none⟩ (u1)).setCell ⟨G, 2, none⟩ (u2)).setCell ⟨G, 3, none⟩ (u3)) := h2.set 3 u3
  have h4 : VarA G T #[u0, u1, u2, u3, u4, q5, q6] (((((X.setCell ⟨G, 0, none⟩ (u0)).setCell ⟨G, 1, none⟩ (u1)).setCell ⟨G, 2, none⟩ (u2)).setCell ⟨G, 3, none⟩ (u3)).setCell ⟨G, 4, none⟩ (u4)) := h3.set 4 u4
  have h5 : VarA G T #[u0, u1, u2, u3, u4, u5, q6] ((((((X.setCell ⟨G, 0, none⟩ (u0)).setCell ⟨G, 1, none⟩ (u1)).setCell ⟨G, 2, none⟩ (u2)).setCell ⟨G, 3, none⟩ (u3)).setCell ⟨G, 4, none⟩ (u4)).setCell ⟨G, 5, none⟩ (u5)) := h4.set 5 u5
  exact h5.set 6 u6
/-- Both results are written. -/
theorem SDV.told (h : SDV w G s o f g v u r4 s4 X) (ho : ∀ a, a ≠ w.heap.size + 1 → a ≠ w.heap.size + 1 + 1 → a < X.heap.size → Y.heap[a]? = X.heap[a]?) : layIntS.own Y w.heap.size f [v] r4 ∧ layIntS.own Y w.heap.size g [u] s4 :=
  ⟨layIntS.lower (layIntS.keep h.rowM (fun a ha => ho a (by have := (layIntS.blocks h.rowM a ha).1; omega) (by have := (layIntS.blocks h.rowM a ha).1; omega) (layIntS.blocks h.rowM a ha).2)) (by omega), layIntS.lower (layIntS.keep h.rowL (fun a ha => ho a (by have := (layIntS.blocks h.rowL a ha).1; omega) (by have := (layIntS.blocks h.rowL a ha).1; omega) (layIntS.blocks h.rowL a ha).2)) (by omega)⟩
end

set_option maxRecDepth 100000 in
set_option maxHeartbeats 6400000 in
theorem specSealData_any (x0 : Int) (x1 x2 : ByteArray) (x3 : Int) (v4 : Value) (r4 : List Int) (x5 : Int) (y0 : Int) (y1 y2 : ByteArray) (y3 : Int) (u4 : Value) (s4 : List Int) (y5 : Int) (fr dst : Int) (body : ByteArray) (l1 : x1.size ≤ 1048576) (lb : body.size ≤ 1048576) (hl : r4.length ≤ 10000000) (hk : s4.length ≤ 10000000) (w : World) (h : layIntS.rd w [v4] r4) (k : layIntS.rd w [u4] s4) :
    Calls Tryz.prog 16 #[.agg #[.int .i64 x0, .string x1, .string x2, .int .i64 x3, v4, .int .i64 x5, .int .i64 y0, .string y1, .string y2, .int .i64 y3, u4, .int .i64 y5], .int .i64 fr, .int .i64 dst, .string body] w (SealEnd x0 x1 x2 x3 r4 x5 y0 y1 y2 y3 s4 y5 fr dst body w) := by
  obtain ⟨a4, p4, rfl⟩ := rows_form h
  obtain ⟨b4, q4, rfl⟩ := rows_form k
  have e1 : (w.alloc (.cells #[.int .i64 x0, .string x1, .string x2, .int .i64 x3, .slice a4 r4.length p4, .int .i64 x5, .int .i64 y0, .string y1, .string y2, .int .i64 y3, .slice b4 s4.length q4, .int .i64 y5] SlotsT)).heap.size = w.heap.size + 1 := by simp
  have e2 : ((w.alloc (.cells #[.int .i64 x0, .string x1, .string x2, .int .i64 x3, .slice a4 r4.length p4, .int .i64 x5, .int .i64 y0, .string y1, .string y2, .int .i64 y3, .slice b4 s4.length q4, .int .i64 y5] SlotsT)).alloc (.cells #[.int .i64 0, .string ⟨#[]⟩, .string ⟨#[]⟩, .int .i64 0, .slice none 0 0, .int .i64 0, .int .i64 0, .string ⟨#[]⟩, .string ⟨#[]⟩, .int .i64 0, .slice none 0 0, .int .i64 0] SlotsT)).heap.size = w.heap.size + 1 + 1 := by simp
  have h2 := VarA.new (w.alloc (.cells #[.int .i64 x0, .string x1, .string x2, .int .i64 x3, .slice a4 r4.length p4, .int .i64 x5, .int .i64 y0, .string y1, .string y2, .int .i64 y3, .slice b4 s4.length q4, .int .i64 y5] SlotsT)) SlotsT #[.int .i64 0, .string ⟨#[]⟩, .string ⟨#[]⟩, .int .i64 0, .slice none 0 0, .int .i64 0, .int .i64 0, .string ⟨#[]⟩, .string ⟨#[]⟩, .int .i64 0, .slice none 0 0, .int .i64 0]
  have h3 := VarA.new ((w.alloc (.cells #[.int .i64 x0, .string x1, .string x2, .int .i64 x3, .slice a4 r4.length p4, .int .i64 x5, .int .i64 y0, .string y1, .string y2, .int .i64 y3, .slice b4 s4.length q4, .int .i64 y5] SlotsT)).alloc (.cells #[.int .i64 0, .string ⟨#[]⟩, .string ⟨#[]⟩, .int .i64 0, .slice none 0 0, .int .i64 0, .int .i64 0, .string ⟨#[]⟩, .string ⟨#[]⟩, .int .i64 0, .slice none 0 0, .int .i64 0] SlotsT)) SPkT #[.int .i64 0, .int .i64 0, .int .i64 0, .int .i64 0, .int .i64 0, .slice none 0 0, .string ⟨#[]⟩]
  rw [e1] at h2
  rw [e2] at h3
  have A0 := Lib.hid (((VarA.new w SlotsT #[.int .i64 x0, .string x1, .string x2, .int .i64 x3, .slice a4 r4.length p4, .int .i64 x5, .int .i64 y0, .string y1, .string y2, .int .i64 y3, .slice b4 s4.length q4, .int .i64 y5]).alloc (.cells #[.int .i64 0, .string ⟨#[]⟩, .string ⟨#[]⟩, .int .i64 0, .slice none 0 0, .int .i64 0, .int .i64 0, .string ⟨#[]⟩, .string ⟨#[]⟩, .int .i64 0, .slice none 0 0, .int .i64 0] SlotsT)).alloc (.cells #[.int .i64 0, .int .i64 0, .int .i64 0, .int .i64 0, .int .i64 0, .slice none 0 0, .string ⟨#[]⟩] SPkT))
  have A1 := Lib.hid (h2.alloc (.cells #[.int .i64 0, .int .i64 0, .int .i64 0, .int .i64 0, .int .i64 0, .slice none 0 0, .string ⟨#[]⟩] SPkT))
  have A2 := Lib.hid h3
  have BY := Lib.hid ((((Below.refl w.heap.size w).alloc (Nat.le_refl _) (.cells #[.int .i64 x0, .string x1, .string x2, .int .i64 x3, .slice a4 r4.length p4, .int .i64 x5, .int .i64 y0, .string y1, .string y2, .int .i64 y3, .slice b4 s4.length q4, .int .i64 y5] SlotsT)).alloc (by simp) (.cells #[.int .i64 0, .string ⟨#[]⟩, .string ⟨#[]⟩, .int .i64 0, .slice none 0 0, .int .i64 0, .int .i64 0, .string ⟨#[]⟩, .string ⟨#[]⟩, .int .i64 0, .slice none 0 0, .int .i64 0] SlotsT)).alloc (by simp; omega) (.cells #[.int .i64 0, .int .i64 0, .int .i64 0, .int .i64 0, .int .i64 0, .slice none 0 0, .string ⟨#[]⟩] SPkT))
  have hz : Hid (w.heap.size + 1 + 1 + 1 ≤ (((w.alloc (.cells #[.int .i64 x0, .string x1, .string x2, .int .i64 x3, .slice a4 r4.length p4, .int .i64 x5, .int .i64 y0, .string y1, .string y2, .int .i64 y3, .slice b4 s4.length q4, .int .i64 y5] SlotsT)).alloc (.cells #[.int .i64 0, .string ⟨#[]⟩, .string ⟨#[]⟩, .int .i64 0, .slice none 0 0, .int .i64 0, .int .i64 0, .string ⟨#[]⟩, .string ⟨#[]⟩, .int .i64 0, .slice none 0 0, .int .i64 0] SlotsT)).alloc (.cells #[.int .i64 0, .int .i64 0, .int .i64 0, .int .i64 0, .int .i64 0, .slice none 0 0, .string ⟨#[]⟩] SPkT)).heap.size) := Lib.hid (by simp)
  have HR := Lib.hid h
  have HK := Lib.hid k
  clear h k h2 h3 e1 e2
  obtain ⟨Q, HQ⟩ : ∃ Q : Ending → World → Prop, Hid (Q = SealEnd x0 x1 x2 x3 r4 x5 y0 y1 y2 y3 s4 y5 fr dst body w) := ⟨_, Lib.hid rfl⟩
  rw [← HQ.out]
  go_enter Tryz.func16, Tryz.ntmps16
  go_upto_region 1 with fail
  generalize (((w.alloc (.cells #[.int .i64 x0, .string x1, .string x2, .int .i64 x3, .slice a4 r4.length p4, .int .i64 x5, .int .i64 y0, .string y1, .string y2, .int .i64 y3, .slice b4 s4.length q4, .int .i64 y5] SlotsT)).alloc (.cells #[.int .i64 0, .string ⟨#[]⟩, .string ⟨#[]⟩, .int .i64 0, .slice none 0 0, .int .i64 0, .int .i64 0, .string ⟨#[]⟩, .string ⟨#[]⟩, .int .i64 0, .slice none 0 0, .int .i64 0] SlotsT)).alloc (.cells #[.int .i64 0, .int .i64 0, .int .i64 0, .int .i64 0, .int .i64 0, .slice none 0 0, .string ⟨#[]⟩] SPkT)) = Y at *
  have c0 : Y.cell? ⟨w.heap.size, 0, none⟩ = some (.int .i64 x0) := A0.out.cell 0
  have c1 : Y.cell? ⟨w.heap.size, 1, none⟩ = some (.string x1) := A0.out.cell 1
  have c2 : Y.cell? ⟨w.heap.size, 2, none⟩ = some (.string x2) := A0.out.cell 2
  have c3 : Y.cell? ⟨w.heap.size, 3, none⟩ = some (.int .i64 x3) := A0.out.cell 3
  have c4 : Y.cell? ⟨w.heap.size, 4, none⟩ = some (.slice a4 r4.length p4) := A0.out.cell 4
  have c5 : Y.cell? ⟨w.heap.size, 5, none⟩ = some (.int .i64 x5) := A0.out.cell 5
  have c6 : Y.cell? ⟨w.heap.size, 6, none⟩ = some (.int .i64 y0) := A0.out.cell 6
  have c7 : Y.cell? ⟨w.heap.size, 7, none⟩ = some (.string y1) := A0.out.cell 7
  have c8 : Y.cell? ⟨w.heap.size, 8, none⟩ = some (.string y2) := A0.out.cell 8
  have c9 : Y.cell? ⟨w.heap.size, 9, none⟩ = some (.int .i64 y3) := A0.out.cell 9
  have c10 : Y.cell? ⟨w.heap.size, 10, none⟩ = some (.slice b4 s4.length q4) := A0.out.cell 10
  have c11 : Y.cell? ⟨w.heap.size, 11, none⟩ = some (.int .i64 y5) := A0.out.cell 11
  have KC := Lib.hid (specCopy_any x0 x1 x2 x3 _ r4 x5 y0 y1 y2 y3 _ s4 y5 hl hk Y (layIntS.below HR.out BY.out) (layIntS.below HK.out BY.out))
  go_wp2_with fail
  refine (KC.out).mono ?_
  rintro e Y1 ⟨v5, v6, f, g, rfl, hd, o1, o2, hb⟩
  obtain ⟨ma, mk, rfl⟩ := rows_form (layIntS.read o1)
  obtain ⟨la, lk, rfl⟩ := rows_form (layIntS.read o2)
  have hzz := hz.out
  have hal : Below Y1.heap.size Y1 (Y1.alloc (.cells #[.int .i64 x0, .string x1, .string x2, .int .i64 x3, .slice ma r4.length mk, .int .i64 x5, .int .i64 y0, .string y1, .string y2, .int .i64 y3, .slice la s4.length lk, .int .i64 y5] SlotsT)) := (Below.refl _ _).alloc (Nat.le_refl _) _
  have D0 : Hid (SDV w Y1.heap.size #[.int .i64 x0, .string x1, .string x2, .int .i64 x3, .slice a4 r4.length p4, .int .i64 x5, .int .i64 y0, .string y1, .string y2, .int .i64 y3, .slice b4 s4.length q4, .int .i64 y5] #[.int .i64 x0, .string x1, .string x2, .int .i64 x3, .slice ma r4.length mk, .int .i64 x5, .int .i64 y0, .string y1, .string y2, .int .i64 y3, .slice la s4.length lk, .int .i64 y5] f g (.slice ma r4.length mk) (.slice la s4.length lk) r4 s4 (Y1.alloc (.cells #[.int .i64 x0, .string x1, .string x2, .int .i64 x3, .slice ma r4.length mk, .int .i64 x5, .int .i64 y0, .string y1, .string y2, .int .i64 y3, .slice la s4.length lk, .int .i64 y5] SlotsT))) := Lib.hid
    ⟨(A0.out.next hb).next hal, (A1.out.next hb).next hal, (A2.out.next hb).next hal, VarA.new Y1 SlotsT _, Nat.le_trans hzz hb.size, layIntS.lower (layIntS.next o1 hal) hzz, layIntS.lower (layIntS.next o2 hal) hzz, hd,
      fun a ha => by
        rcases List.mem_append.1 ha with h9 | h9
        · exact Nat.ne_of_lt (layIntS.blocks o1 a h9).2
        · exact Nat.ne_of_lt (layIntS.blocks o2 a h9).2, (BY.out.trans (hb.mono BY.out.size)).trans (hal.mono (Nat.le_trans BY.out.size hb.size))⟩
  clear hb hal hd o1 o2 KC A0 A1 A2 BY hz hzz c0 c1 c2 c3 c4 c5 c6 c7 c8 c9 c10 c11
  go_upto_region 2 with fail
  generalize Y1.alloc (.cells #[.int .i64 x0, .string x1, .string x2, .int .i64 x3, .slice ma r4.length mk, .int .i64 x5, .int .i64 y0, .string y1, .string y2, .int .i64 y3, .slice la s4.length lk, .int .i64 y5] SlotsT) = Y2 at *
  generalize Y1.heap.size = G at *
  obtain ⟨b, hb⟩ : ∃ b : Bool, b = true ↔ SealP x0 x1 x2 x3 r4 x5 y0 y1 y2 y3 s4 y5 fr dst body := by
    by_cases h : SealP x0 x1 x2 x3 r4 x5 y0 y1 y2 y3 s4 y5 fr dst body
    · exact ⟨true, ⟨fun _ => h, fun _ => rfl⟩⟩
    · exact ⟨false, ⟨fun e => (by cases e), fun e => absurd e h⟩⟩
  have HB := Lib.hid hb
  have HN : Hid (¬ SealP x0 x1 x2 x3 r4 x5 y0 y1 y2 y3 s4 y5 fr dst body → b = false) := Lib.hid (fun h => by
    cases b with
    | false => rfl
    | true => exact absurd (hb.1 rfl) h)
  clear hb
  go_cut [37] (fun z wx => z = .bool (!b) ∧ Hid (SDV w G #[.int .i64 x0, .string x1, .string x2, .int .i64 x3, .slice a4 r4.length p4, .int .i64 x5, .int .i64 y0, .string y1, .string y2, .int .i64 y3, .slice b4 s4.length q4, .int .i64 y5] #[.int .i64 x0, .string x1, .string x2, .int .i64 x3, .slice ma r4.length mk, .int .i64 x5, .int .i64 y0, .string y1, .string y2, .int .i64 y3, .slice la s4.length lk, .int .i64 y5] f g (.slice ma r4.length mk) (.slice la s4.length lk) r4 s4 wx))
  case first =>
    have c0 : Y2.cell? ⟨w.heap.size, 0, none⟩ = some (.int .i64 x0) := D0.out.s.cell 0
    have c1 : Y2.cell? ⟨w.heap.size, 1, none⟩ = some (.string x1) := D0.out.s.cell 1
    have c2 : Y2.cell? ⟨w.heap.size, 2, none⟩ = some (.string x2) := D0.out.s.cell 2
    have c3 : Y2.cell? ⟨w.heap.size, 3, none⟩ = some (.int .i64 x3) := D0.out.s.cell 3
    have c4 : Y2.cell? ⟨w.heap.size, 4, none⟩ = some (.slice a4 r4.length p4) := D0.out.s.cell 4
    have c5 : Y2.cell? ⟨w.heap.size, 5, none⟩ = some (.int .i64 x5) := D0.out.s.cell 5
    have c6 : Y2.cell? ⟨w.heap.size, 6, none⟩ = some (.int .i64 y0) := D0.out.s.cell 6
    have c7 : Y2.cell? ⟨w.heap.size, 7, none⟩ = some (.string y1) := D0.out.s.cell 7
    have c8 : Y2.cell? ⟨w.heap.size, 8, none⟩ = some (.string y2) := D0.out.s.cell 8
    have c9 : Y2.cell? ⟨w.heap.size, 9, none⟩ = some (.int .i64 y3) := D0.out.s.cell 9
    have c10 : Y2.cell? ⟨w.heap.size, 10, none⟩ = some (.slice b4 s4.length q4) := D0.out.s.cell 10
    have c11 : Y2.cell? ⟨w.heap.size, 11, none⟩ = some (.int .i64 y5) := D0.out.s.cell 11
    obtain ⟨b1, hb1⟩ : ∃ b1 : Bool, b1 = true ↔ SlotsP x0 x1 x2 x3 r4 x5 y0 y1 y2 y3 s4 y5 := by
      by_cases h : SlotsP x0 x1 x2 x3 r4 x5 y0 y1 y2 y3 s4 y5
      · exact ⟨true, ⟨fun _ => h, fun _ => rfl⟩⟩
      · exact ⟨false, ⟨fun e => (by cases e), fun e => absurd e h⟩⟩
    have K1 := Lib.hid (specSlotsOk_bool x0 x1 x2 x3 _ r4 x5 y0 y1 y2 y3 _ s4 y5 b1 hb1 (by omega) (by omega) Y2 (layIntS.below HR.out D0.out.below) (layIntS.below HK.out D0.out.below))
    have H1 := Lib.hid hb1
    clear hb1
    go_wp2_with fail
    refine K1.out.mono ?_
    rintro e Y3 ⟨rfl, hb⟩
    have D1 := Lib.hid (D0.out.next hb)
    clear hb K1 D0 c0 c1 c2 c3 c4 c5 c6 c7 c8 c9 c10 c11
    cases b1 with
    | false =>
      obtain rfl := HN.out (fun h => absurd (H1.out.2 h.1) (by decide))
      go_wp2_with fail
      go_meet
      exact ⟨rfl, D1⟩
    | true =>
      have HS := Lib.hid (H1.out.1 rfl)
      clear H1
      have c0 : Y3.cell? ⟨w.heap.size, 0, none⟩ = some (.int .i64 x0) := D1.out.s.cell 0
      have c1 : Y3.cell? ⟨w.heap.size, 1, none⟩ = some (.string x1) := D1.out.s.cell 1
      have c2 : Y3.cell? ⟨w.heap.size, 2, none⟩ = some (.string x2) := D1.out.s.cell 2
      have c3 : Y3.cell? ⟨w.heap.size, 3, none⟩ = some (.int .i64 x3) := D1.out.s.cell 3
      have c4 : Y3.cell? ⟨w.heap.size, 4, none⟩ = some (.slice a4 r4.length p4) := D1.out.s.cell 4
      have c5 : Y3.cell? ⟨w.heap.size, 5, none⟩ = some (.int .i64 x5) := D1.out.s.cell 5
      have c6 : Y3.cell? ⟨w.heap.size, 6, none⟩ = some (.int .i64 y0) := D1.out.s.cell 6
      have c7 : Y3.cell? ⟨w.heap.size, 7, none⟩ = some (.string y1) := D1.out.s.cell 7
      have c8 : Y3.cell? ⟨w.heap.size, 8, none⟩ = some (.string y2) := D1.out.s.cell 8
      have c9 : Y3.cell? ⟨w.heap.size, 9, none⟩ = some (.int .i64 y3) := D1.out.s.cell 9
      have c10 : Y3.cell? ⟨w.heap.size, 10, none⟩ = some (.slice b4 s4.length q4) := D1.out.s.cell 10
      have c11 : Y3.cell? ⟨w.heap.size, 11, none⟩ = some (.int .i64 y5) := D1.out.s.cell 11
      obtain ⟨b2, hb2⟩ : ∃ b2 : Bool, b2 = true ↔ NoneP x0 x1 x2 x3 r4 x5 ∨ x3 = 12 := by
        by_cases h : NoneP x0 x1 x2 x3 r4 x5 ∨ x3 = 12
        · exact ⟨true, ⟨fun _ => h, fun _ => rfl⟩⟩
        · exact ⟨false, ⟨fun e => (by cases e), fun e => absurd e h⟩⟩
      have K2 := Lib.hid (specSpent_bool x0 x1 x2 x3 _ r4 x5 y0 y1 y2 y3 _ s4 y5 b2 hb2 Y3 (layIntS.below HR.out D1.out.below) (layIntS.below HK.out D1.out.below))
      have H2 := Lib.hid hb2
      clear hb2
      go_wp2_with fail
      refine K2.out.mono ?_
      rintro e Y4 ⟨rfl, hb⟩
      have D2 := Lib.hid (D1.out.next hb)
      clear hb K2 D1 c0 c1 c2 c3 c4 c5 c6 c7 c8 c9 c10 c11
      cases b2 with
      | true =>
        obtain rfl := HN.out (fun h => h.2.1 (H2.out.1 rfl))
        go_wp2_with fail
        go_meet
        exact ⟨rfl, D2⟩
      | false =>
        have HU : Hid (¬ (NoneP x0 x1 x2 x3 r4 x5 ∨ x3 = 12)) := Lib.hid (fun h => absurd (H2.out.2 h) (by decide))
        clear H2
        by_cases h3 : 1 ≤ fr ∧ fr ≤ 99
        rotate_left
        · have K3 := Lib.hid (inRange_no fr 1 99 (by omega))
          obtain rfl := HN.out (fun h => h3 h.2.2.1)
          go_wp2_with fail
          refine (K3.out _).mono ?_
          rintro e Y5 ⟨rfl, hw⟩
          rw [hw]
          clear hw K3
          go_wp2_with fail
          go_meet
          exact ⟨rfl, D2⟩
        have K3 := Lib.hid (inRange_yes fr 1 99 h3.1 h3.2)
        go_wp2_with fail
        refine (K3.out _).mono ?_
        rintro e Y5 ⟨rfl, hw⟩
        rw [hw]
        clear hw K3
        by_cases h4 : 1 ≤ dst ∧ dst ≤ 99
        rotate_left
        · have K4 := Lib.hid (inRange_no dst 1 99 (by omega))
          obtain rfl := HN.out (fun h => h4 h.2.2.2.1)
          go_wp2_with fail
          refine (K4.out _).mono ?_
          rintro e Y6 ⟨rfl, hw⟩
          rw [hw]
          clear hw K4
          go_wp2_with fail
          go_meet
          exact ⟨rfl, D2⟩
        have K4 := Lib.hid (inRange_yes dst 1 99 h4.1 h4.2)
        go_wp2_with fail
        refine (K4.out _).mono ?_
        rintro e Y6 ⟨rfl, hw⟩
        rw [hw]
        clear hw K4
        by_cases h5 : body.size ≤ 104
        · have k5 : ¬ ((104 : Int) < (body.size : Int)) := by omega
          have k6 : decide ((104 : Int) < (body.size : Int)) = false := decide_eq_false k5
          obtain rfl : b = true := HB.out.2 ⟨HS.out, HU.out, h3, h4, h5⟩
          go_wp2_with fail
          go_meet
          exact ⟨rfl, D2⟩
        · have k5 : (104 : Int) < (body.size : Int) := by omega
          have k6 : decide ((104 : Int) < (body.size : Int)) = true := decide_eq_true k5
          obtain rfl := HN.out (fun h => h5 h.2.2.2.2)
          go_wp2_with fail
          go_meet
          exact ⟨rfl, D2⟩
  case rest =>
    obtain ⟨rfl, D1⟩ := hcut
    clear D0
    have hfar := D1.out.far
    cases b with
    | false =>
      have hno : ¬ SealP x0 x1 x2 x3 r4 x5 y0 y1 y2 y3 s4 y5 fr dst body := fun h => absurd (HB.out.2 h) (by decide)
      go_upto_region 3 with fail
      have e0 : wc.cell? ⟨G, 0, none⟩ = some (.int .i64 x0) := D1.out.o.cell 0
      have e1 : wc.cell? ⟨G, 1, none⟩ = some (.string x1) := D1.out.o.cell 1
      have e2 : wc.cell? ⟨G, 2, none⟩ = some (.string x2) := D1.out.o.cell 2
      have e3 : wc.cell? ⟨G, 3, none⟩ = some (.int .i64 x3) := D1.out.o.cell 3
      have e4 : wc.cell? ⟨G, 4, none⟩ = some (.slice ma r4.length mk) := D1.out.o.cell 4
      have e5 : wc.cell? ⟨G, 5, none⟩ = some (.int .i64 x5) := D1.out.o.cell 5
      have e6 : wc.cell? ⟨G, 6, none⟩ = some (.int .i64 y0) := D1.out.o.cell 6
      have e7 : wc.cell? ⟨G, 7, none⟩ = some (.string y1) := D1.out.o.cell 7
      have e8 : wc.cell? ⟨G, 8, none⟩ = some (.string y2) := D1.out.o.cell 8
      have e9 : wc.cell? ⟨G, 9, none⟩ = some (.int .i64 y3) := D1.out.o.cell 9
      have e10 : wc.cell? ⟨G, 10, none⟩ = some (.slice la s4.length lk) := D1.out.o.cell 10
      have e11 : wc.cell? ⟨G, 11, none⟩ = some (.int .i64 y5) := D1.out.o.cell 11
      have d0 : wc.cell? ⟨w.heap.size + 1, 0, none⟩ = some (.int .i64 0) := D1.out.r.cell 0
      have d1 : wc.cell? ⟨w.heap.size + 1, 1, none⟩ = some (.string ⟨#[]⟩) := D1.out.r.cell 1
      have d2 : wc.cell? ⟨w.heap.size + 1, 2, none⟩ = some (.string ⟨#[]⟩) := D1.out.r.cell 2
      have d3 : wc.cell? ⟨w.heap.size + 1, 3, none⟩ = some (.int .i64 0) := D1.out.r.cell 3
      have d4 : wc.cell? ⟨w.heap.size + 1, 4, none⟩ = some (.slice none 0 0) := D1.out.r.cell 4
      have d5 : wc.cell? ⟨w.heap.size + 1, 5, none⟩ = some (.int .i64 0) := D1.out.r.cell 5
      have d6 : wc.cell? ⟨w.heap.size + 1, 6, none⟩ = some (.int .i64 0) := D1.out.r.cell 6
      have d7 : wc.cell? ⟨w.heap.size + 1, 7, none⟩ = some (.string ⟨#[]⟩) := D1.out.r.cell 7
      have d8 : wc.cell? ⟨w.heap.size + 1, 8, none⟩ = some (.string ⟨#[]⟩) := D1.out.r.cell 8
      have d9 : wc.cell? ⟨w.heap.size + 1, 9, none⟩ = some (.int .i64 0) := D1.out.r.cell 9
      have d10 : wc.cell? ⟨w.heap.size + 1, 10, none⟩ = some (.slice none 0 0) := D1.out.r.cell 10
      have d11 : wc.cell? ⟨w.heap.size + 1, 11, none⟩ = some (.int .i64 0) := D1.out.r.cell 11
      have g0 := D1.out.r.free 0
      have g1 := D1.out.r.free 1
      have g2 := D1.out.r.free 2
      have g3 := D1.out.r.free 3
      have g4 := D1.out.r.free 4
      have g5 := D1.out.r.free 5
      have g6 := D1.out.r.free 6
      have g7 := D1.out.r.free 7
      have g8 := D1.out.r.free 8
      have g9 := D1.out.r.free 9
      have g10 := D1.out.r.free 10
      have g11 := D1.out.r.free 11
      have S1 := putBoth D1.out.r (.int .i64 x0) (.string x1) (.string x2) (.int .i64 x3) (.slice ma r4.length mk) (.int .i64 x5) (.int .i64 y0) (.string y1) (.string y2) (.int .i64 y3) (.slice la s4.length lk) (.int .i64 y5)
      have o1 : Only (w.heap.size + 1) wc ((((((((((((wc.setCell ⟨w.heap.size + 1, 0, none⟩ (.int .i64 x0)).setCell ⟨w.heap.size + 1, 1, none⟩ (.string x1)).setCell ⟨w.heap.size + 1, 2, none⟩ (.string x2)).setCell ⟨w.heap.size + 1, 3, none⟩ (.int .i64 x3)).setCell ⟨w.heap.size + 1, 4, none⟩ (.slice ma r4.length mk)).setCell ⟨w.heap.size + 1, 5, none⟩ (.int .i64 x5)).setCell ⟨w.heap.size + 1, 6, none⟩ (.int .i64 y0)).setCell ⟨w.heap.size + 1, 7, none⟩ (.string y1)).setCell ⟨w.heap.size + 1, 8, none⟩ (.string y2)).setCell ⟨w.heap.size + 1, 9, none⟩ (.int .i64 y3)).setCell ⟨w.heap.size + 1, 10, none⟩ (.slice la s4.length lk)).setCell ⟨w.heap.size + 1, 11, none⟩ (.int .i64 y5)) := (putMain_only wc (w.heap.size + 1) _ _ _ _ _ _).trans (putLame_only _ (w.heap.size + 1) _ _ _ _ _ _)
      have T1 := D1.out.k.only o1 (by omega)
      have h0 : ((((((((((((wc.setCell ⟨w.heap.size + 1, 0, none⟩ (.int .i64 x0)).setCell ⟨w.heap.size + 1, 1, none⟩ (.string x1)).setCell ⟨w.heap.size + 1, 2, none⟩ (.string x2)).setCell ⟨w.heap.size + 1, 3, none⟩ (.int .i64 x3)).setCell ⟨w.heap.size + 1, 4, none⟩ (.slice ma r4.length mk)).setCell ⟨w.heap.size + 1, 5, none⟩ (.int .i64 x5)).setCell ⟨w.heap.size + 1, 6, none⟩ (.int .i64 y0)).setCell ⟨w.heap.size + 1, 7, none⟩ (.string y1)).setCell ⟨w.heap.size + 1, 8, none⟩ (.string y2)).setCell ⟨w.heap.size + 1, 9, none⟩ (.int .i64 y3)).setCell ⟨w.heap.size + 1, 10, none⟩ (.slice la s4.length lk)).setCell ⟨w.heap.size + 1, 11, none⟩ (.int .i64 y5)).cell? ⟨w.heap.size + 1 + 1, 0, none⟩ = some (.int .i64 0) := T1.cell 0
      have i0 := T1.free 0
      have h1 : ((((((((((((wc.setCell ⟨w.heap.size + 1, 0, none⟩ (.int .i64 x0)).setCell ⟨w.heap.size + 1, 1, none⟩ (.string x1)).setCell ⟨w.heap.size + 1, 2, none⟩ (.string x2)).setCell ⟨w.heap.size + 1, 3, none⟩ (.int .i64 x3)).setCell ⟨w.heap.size + 1, 4, none⟩ (.slice ma r4.length mk)).setCell ⟨w.heap.size + 1, 5, none⟩ (.int .i64 x5)).setCell ⟨w.heap.size + 1, 6, none⟩ (.int .i64 y0)).setCell ⟨w.heap.size + 1, 7, none⟩ (.string y1)).setCell ⟨w.heap.size + 1, 8, none⟩ (.string y2)).setCell ⟨w.heap.size + 1, 9, none⟩ (.int .i64 y3)).setCell ⟨w.heap.size + 1, 10, none⟩ (.slice la s4.length lk)).setCell ⟨w.heap.size + 1, 11, none⟩ (.int .i64 y5)).cell? ⟨w.heap.size + 1 + 1, 1, none⟩ = some (.int .i64 0) := T1.cell 1
      have i1 := T1.free 1
      have h2 : ((((((((((((wc.setCell ⟨w.heap.size + 1, 0, none⟩ (.int .i64 x0)).setCell ⟨w.heap.size + 1, 1, none⟩ (.string x1)).setCell ⟨w.heap.size + 1, 2, none⟩ (.string x2)).setCell ⟨w.heap.size + 1, 3, none⟩ (.int .i64 x3)).setCell ⟨w.heap.size + 1, 4, none⟩ (.slice ma r4.length mk)).setCell ⟨w.heap.size + 1, 5, none⟩ (.int .i64 x5)).setCell ⟨w.heap.size + 1, 6, none⟩ (.int .i64 y0)).setCell ⟨w.heap.size + 1, 7, none⟩ (.string y1)).setCell ⟨w.heap.size + 1, 8, none⟩ (.string y2)).setCell ⟨w.heap.size + 1, 9, none⟩ (.int .i64 y3)).setCell ⟨w.heap.size + 1, 10, none⟩ (.slice la s4.length lk)).setCell ⟨w.heap.size + 1, 11, none⟩ (.int .i64 y5)).cell? ⟨w.heap.size + 1 + 1, 2, none⟩ = some (.int .i64 0) := T1.cell 2
      have i2 := T1.free 2
      have h3 : ((((((((((((wc.setCell ⟨w.heap.size + 1, 0, none⟩ (.int .i64 x0)).setCell ⟨w.heap.size + 1, 1, none⟩ (.string x1)).setCell ⟨w.heap.size + 1, 2, none⟩ (.string x2)).setCell ⟨w.heap.size + 1, 3, none⟩ (.int .i64 x3)).setCell ⟨w.heap.size + 1, 4, none⟩ (.slice ma r4.length mk)).setCell ⟨w.heap.size + 1, 5, none⟩ (.int .i64 x5)).setCell ⟨w.heap.size + 1, 6, none⟩ (.int .i64 y0)).setCell ⟨w.heap.size + 1, 7, none⟩ (.string y1)).setCell ⟨w.heap.size + 1, 8, none⟩ (.string y2)).setCell ⟨w.heap.size + 1, 9, none⟩ (.int .i64 y3)).setCell ⟨w.heap.size + 1, 10, none⟩ (.slice la s4.length lk)).setCell ⟨w.heap.size + 1, 11, none⟩ (.int .i64 y5)).cell? ⟨w.heap.size + 1 + 1, 3, none⟩ = some (.int .i64 0) := T1.cell 3
      have i3 := T1.free 3
      have h4 : ((((((((((((wc.setCell ⟨w.heap.size + 1, 0, none⟩ (.int .i64 x0)).setCell ⟨w.heap.size + 1, 1, none⟩ (.string x1)).setCell ⟨w.heap.size + 1, 2, none⟩ (.string x2)).setCell ⟨w.heap.size + 1, 3, none⟩ (.int .i64 x3)).setCell ⟨w.heap.size + 1, 4, none⟩ (.slice ma r4.length mk)).setCell ⟨w.heap.size + 1, 5, none⟩ (.int .i64 x5)).setCell ⟨w.heap.size + 1, 6, none⟩ (.int .i64 y0)).setCell ⟨w.heap.size + 1, 7, none⟩ (.string y1)).setCell ⟨w.heap.size + 1, 8, none⟩ (.string y2)).setCell ⟨w.heap.size + 1, 9, none⟩ (.int .i64 y3)).setCell ⟨w.heap.size + 1, 10, none⟩ (.slice la s4.length lk)).setCell ⟨w.heap.size + 1, 11, none⟩ (.int .i64 y5)).cell? ⟨w.heap.size + 1 + 1, 4, none⟩ = some (.int .i64 0) := T1.cell 4
      have i4 := T1.free 4
      have h5 : ((((((((((((wc.setCell ⟨w.heap.size + 1, 0, none⟩ (.int .i64 x0)).setCell ⟨w.heap.size + 1, 1, none⟩ (.string x1)).setCell ⟨w.heap.size + 1, 2, none⟩ (.string x2)).setCell ⟨w.heap.size + 1, 3, none⟩ (.int .i64 x3)).setCell ⟨w.heap.size + 1, 4, none⟩ (.slice ma r4.length mk)).setCell ⟨w.heap.size + 1, 5, none⟩ (.int .i64 x5)).setCell ⟨w.heap.size + 1, 6, none⟩ (.int .i64 y0)).setCell ⟨w.heap.size + 1, 7, none⟩ (.string y1)).setCell ⟨w.heap.size + 1, 8, none⟩ (.string y2)).setCell ⟨w.heap.size + 1, 9, none⟩ (.int .i64 y3)).setCell ⟨w.heap.size + 1, 10, none⟩ (.slice la s4.length lk)).setCell ⟨w.heap.size + 1, 11, none⟩ (.int .i64 y5)).cell? ⟨w.heap.size + 1 + 1, 5, none⟩ = some (.slice none 0 0) := T1.cell 5
      have i5 := T1.free 5
      have h6 : ((((((((((((wc.setCell ⟨w.heap.size + 1, 0, none⟩ (.int .i64 x0)).setCell ⟨w.heap.size + 1, 1, none⟩ (.string x1)).setCell ⟨w.heap.size + 1, 2, none⟩ (.string x2)).setCell ⟨w.heap.size + 1, 3, none⟩ (.int .i64 x3)).setCell ⟨w.heap.size + 1, 4, none⟩ (.slice ma r4.length mk)).setCell ⟨w.heap.size + 1, 5, none⟩ (.int .i64 x5)).setCell ⟨w.heap.size + 1, 6, none⟩ (.int .i64 y0)).setCell ⟨w.heap.size + 1, 7, none⟩ (.string y1)).setCell ⟨w.heap.size + 1, 8, none⟩ (.string y2)).setCell ⟨w.heap.size + 1, 9, none⟩ (.int .i64 y3)).setCell ⟨w.heap.size + 1, 10, none⟩ (.slice la s4.length lk)).setCell ⟨w.heap.size + 1, 11, none⟩ (.int .i64 y5)).cell? ⟨w.heap.size + 1 + 1, 6, none⟩ = some (.string ⟨#[]⟩) := T1.cell 6
      have i6 := T1.free 6
      have hh0 : wc.cell? ⟨w.heap.size + 1 + 1, 0, none⟩ = some (.int .i64 0) := D1.out.k.cell 0
      have ii0 := D1.out.k.free 0
      have hh1 : wc.cell? ⟨w.heap.size + 1 + 1, 1, none⟩ = some (.int .i64 0) := D1.out.k.cell 1
      have ii1 := D1.out.k.free 1
      have hh2 : wc.cell? ⟨w.heap.size + 1 + 1, 2, none⟩ = some (.int .i64 0) := D1.out.k.cell 2
      have ii2 := D1.out.k.free 2
      have hh3 : wc.cell? ⟨w.heap.size + 1 + 1, 3, none⟩ = some (.int .i64 0) := D1.out.k.cell 3
      have ii3 := D1.out.k.free 3
      have hh4 : wc.cell? ⟨w.heap.size + 1 + 1, 4, none⟩ = some (.int .i64 0) := D1.out.k.cell 4
      have ii4 := D1.out.k.free 4
      have hh5 : wc.cell? ⟨w.heap.size + 1 + 1, 5, none⟩ = some (.slice none 0 0) := D1.out.k.cell 5
      have ii5 := D1.out.k.free 5
      have hh6 : wc.cell? ⟨w.heap.size + 1 + 1, 6, none⟩ = some (.string ⟨#[]⟩) := D1.out.k.cell 6
      have ii6 := D1.out.k.free 6
      have T2 := putSeven T1 (.int .i64 0) (.int .i64 0) (.int .i64 0) (.int .i64 0) (.int .i64 0) (.slice none 0 0) (.string ⟨#[]⟩)
      have o2 : Only (w.heap.size + 1 + 1) ((((((((((((wc.setCell ⟨w.heap.size + 1, 0, none⟩ (.int .i64 x0)).setCell ⟨w.heap.size + 1, 1, none⟩ (.string x1)).setCell ⟨w.heap.size + 1, 2, none⟩ (.string x2)).setCell ⟨w.heap.size + 1, 3, none⟩ (.int .i64 x3)).setCell ⟨w.heap.size + 1, 4, none⟩ (.slice ma r4.length mk)).setCell ⟨w.heap.size + 1, 5, none⟩ (.int .i64 x5)).setCell ⟨w.heap.size + 1, 6, none⟩ (.int .i64 y0)).setCell ⟨w.heap.size + 1, 7, none⟩ (.string y1)).setCell ⟨w.heap.size + 1, 8, none⟩ (.string y2)).setCell ⟨w.heap.size + 1, 9, none⟩ (.int .i64 y3)).setCell ⟨w.heap.size + 1, 10, none⟩ (.slice la s4.length lk)).setCell ⟨w.heap.size + 1, 11, none⟩ (.int .i64 y5)) (((((((((((((((((((wc.setCell ⟨w.heap.size + 1, 0, none⟩ (.int .i64 x0)).setCell ⟨w.heap.size + 1, 1, none⟩ (.string x1)).setCell ⟨w.heap.size + 1, 2, none⟩ (.string x2)).setCell ⟨w.heap.size + 1, 3, none⟩ (.int .i64 x3)).setCell ⟨w.heap.size + 1, 4, none⟩ (.slice ma r4.length mk)).setCell ⟨w.heap.size + 1, 5, none⟩ (.int .i64 x5)).setCell ⟨w.heap.size + 1, 6, none⟩ (.int .i64 y0)).setCell ⟨w.heap.size + 1, 7, none⟩ (.string y1)).setCell ⟨w.heap.size + 1, 8, none⟩ (.string y2)).setCell ⟨w.heap.size + 1, 9, none⟩ (.int .i64 y3)).setCell ⟨w.heap.size + 1, 10, none⟩ (.slice la s4.length lk)).setCell ⟨w.heap.size + 1, 11, none⟩ (.int .i64 y5)).setCell ⟨w.heap.size + 1 + 1, 0, none⟩ (.int .i64 0)).setCell ⟨w.heap.size + 1 + 1, 1, none⟩ (.int .i64 0)).setCell ⟨w.heap.size + 1 + 1, 2, none⟩ (.int .i64 0)).setCell ⟨w.heap.size + 1 + 1, 3, none⟩ (.int .i64 0)).setCell ⟨w.heap.size + 1 + 1, 4, none⟩ (.int .i64 0)).setCell ⟨w.heap.size + 1 + 1, 5, none⟩ (.slice none 0 0)).setCell ⟨w.heap.size + 1 + 1, 6, none⟩ (.string ⟨#[]⟩)) := (((((((Only.setCell 0 (.int .i64 0) : Only (w.heap.size + 1 + 1) ((((((((((((wc.setCell ⟨w.heap.size + 1, 0, none⟩ (.int .i64 x0)).setCell ⟨w.heap.size + 1, 1, none⟩ (.string x1)).setCell ⟨w.heap.size + 1, 2, none⟩ (.string x2)).setCell ⟨w.heap.size + 1, 3, none⟩ (.int .i64 x3)).setCell ⟨w.heap.size + 1, 4, none⟩ (.slice ma r4.length mk)).setCell ⟨w.heap.size + 1, 5, none⟩ (.int .i64 x5)).setCell ⟨w.heap.size + 1, 6, none⟩ (.int .i64 y0)).setCell ⟨w.heap.size + 1, 7, none⟩ (.string y1)).setCell ⟨w.heap.size + 1, 8, none⟩ (.string y2)).setCell ⟨w.heap.size + 1, 9, none⟩ (.int .i64 y3)).setCell ⟨w.heap.size + 1, 10, none⟩ (.slice la s4.length lk)).setCell ⟨w.heap.size + 1, 11, none⟩ (.int .i64 y5)) _).trans (Only.setCell 1 (.int .i64 0))).trans (Only.setCell 2 (.int .i64 0))).trans (Only.setCell 3 (.int .i64 0))).trans (Only.setCell 4 (.int .i64 0))).trans (Only.setCell 5 (.slice none 0 0))).trans (Only.setCell 6 (.string ⟨#[]⟩)))
      have S2 := S1.only o2 (by omega)
      have j0 := S2.cell 0
      have j1 := S2.cell 1
      have j2 := S2.cell 2
      have j3 := S2.cell 3
      have j4 := S2.cell 4
      have j5 := S2.cell 5
      have j6 := S2.cell 6
      have j7 := S2.cell 7
      have j8 := S2.cell 8
      have j9 := S2.cell 9
      have j10 := S2.cell 10
      have j11 := S2.cell 11
      have l0_ := T2.cell 0
      have l1_ := T2.cell 1
      have l2_ := T2.cell 2
      have l3_ := T2.cell 3
      have l4_ := T2.cell 4
      have l5_ := T2.cell 5
      have l6_ := T2.cell 6
      have hw := D1.out.told (Y := (((((((((((((((((((wc.setCell ⟨w.heap.size + 1, 0, none⟩ (.int .i64 x0)).setCell ⟨w.heap.size + 1, 1, none⟩ (.string x1)).setCell ⟨w.heap.size + 1, 2, none⟩ (.string x2)).setCell ⟨w.heap.size + 1, 3, none⟩ (.int .i64 x3)).setCell ⟨w.heap.size + 1, 4, none⟩ (.slice ma r4.length mk)).setCell ⟨w.heap.size + 1, 5, none⟩ (.int .i64 x5)).setCell ⟨w.heap.size + 1, 6, none⟩ (.int .i64 y0)).setCell ⟨w.heap.size + 1, 7, none⟩ (.string y1)).setCell ⟨w.heap.size + 1, 8, none⟩ (.string y2)).setCell ⟨w.heap.size + 1, 9, none⟩ (.int .i64 y3)).setCell ⟨w.heap.size + 1, 10, none⟩ (.slice la s4.length lk)).setCell ⟨w.heap.size + 1, 11, none⟩ (.int .i64 y5)).setCell ⟨w.heap.size + 1 + 1, 0, none⟩ (.int .i64 0)).setCell ⟨w.heap.size + 1 + 1, 1, none⟩ (.int .i64 0)).setCell ⟨w.heap.size + 1 + 1, 2, none⟩ (.int .i64 0)).setCell ⟨w.heap.size + 1 + 1, 3, none⟩ (.int .i64 0)).setCell ⟨w.heap.size + 1 + 1, 4, none⟩ (.int .i64 0)).setCell ⟨w.heap.size + 1 + 1, 5, none⟩ (.slice none 0 0)).setCell ⟨w.heap.size + 1 + 1, 6, none⟩ (.string ⟨#[]⟩))) (fun a h1 h2 h3 => (o2.block a (Nat.lt_of_lt_of_le h3 o1.size) h2).trans (o1.block a h3 h1))
      have hf := D1.out.far
      have hbl : Below w.heap.size w (((((((((((((((((((wc.setCell ⟨w.heap.size + 1, 0, none⟩ (.int .i64 x0)).setCell ⟨w.heap.size + 1, 1, none⟩ (.string x1)).setCell ⟨w.heap.size + 1, 2, none⟩ (.string x2)).setCell ⟨w.heap.size + 1, 3, none⟩ (.int .i64 x3)).setCell ⟨w.heap.size + 1, 4, none⟩ (.slice ma r4.length mk)).setCell ⟨w.heap.size + 1, 5, none⟩ (.int .i64 x5)).setCell ⟨w.heap.size + 1, 6, none⟩ (.int .i64 y0)).setCell ⟨w.heap.size + 1, 7, none⟩ (.string y1)).setCell ⟨w.heap.size + 1, 8, none⟩ (.string y2)).setCell ⟨w.heap.size + 1, 9, none⟩ (.int .i64 y3)).setCell ⟨w.heap.size + 1, 10, none⟩ (.slice la s4.length lk)).setCell ⟨w.heap.size + 1, 11, none⟩ (.int .i64 y5)).setCell ⟨w.heap.size + 1 + 1, 0, none⟩ (.int .i64 0)).setCell ⟨w.heap.size + 1 + 1, 1, none⟩ (.int .i64 0)).setCell ⟨w.heap.size + 1 + 1, 2, none⟩ (.int .i64 0)).setCell ⟨w.heap.size + 1 + 1, 3, none⟩ (.int .i64 0)).setCell ⟨w.heap.size + 1 + 1, 4, none⟩ (.int .i64 0)).setCell ⟨w.heap.size + 1 + 1, 5, none⟩ (.slice none 0 0)).setCell ⟨w.heap.size + 1 + 1, 6, none⟩ (.string ⟨#[]⟩)) := (D1.out.below.trans (only_under o1 (by omega) D1.out.below.size)).trans (only_under o2 (by omega) (Nat.le_trans D1.out.below.size o1.size))
      have E : Hid (Q (.returned (.tuple #[.agg #[.int .i64 x0, .string x1, .string x2, .int .i64 x3, .slice ma r4.length mk, .int .i64 x5, .int .i64 y0, .string y1, .string y2, .int .i64 y3, .slice la s4.length lk, .int .i64 y5], .agg #[.int .i64 0, .int .i64 0, .int .i64 0, .int .i64 0, .int .i64 0, .slice none 0 0, .string ⟨#[]⟩], .bool false])) (((((((((((((((((((wc.setCell ⟨w.heap.size + 1, 0, none⟩ (.int .i64 x0)).setCell ⟨w.heap.size + 1, 1, none⟩ (.string x1)).setCell ⟨w.heap.size + 1, 2, none⟩ (.string x2)).setCell ⟨w.heap.size + 1, 3, none⟩ (.int .i64 x3)).setCell ⟨w.heap.size + 1, 4, none⟩ (.slice ma r4.length mk)).setCell ⟨w.heap.size + 1, 5, none⟩ (.int .i64 x5)).setCell ⟨w.heap.size + 1, 6, none⟩ (.int .i64 y0)).setCell ⟨w.heap.size + 1, 7, none⟩ (.string y1)).setCell ⟨w.heap.size + 1, 8, none⟩ (.string y2)).setCell ⟨w.heap.size + 1, 9, none⟩ (.int .i64 y3)).setCell ⟨w.heap.size + 1, 10, none⟩ (.slice la s4.length lk)).setCell ⟨w.heap.size + 1, 11, none⟩ (.int .i64 y5)).setCell ⟨w.heap.size + 1 + 1, 0, none⟩ (.int .i64 0)).setCell ⟨w.heap.size + 1 + 1, 1, none⟩ (.int .i64 0)).setCell ⟨w.heap.size + 1 + 1, 2, none⟩ (.int .i64 0)).setCell ⟨w.heap.size + 1 + 1, 3, none⟩ (.int .i64 0)).setCell ⟨w.heap.size + 1 + 1, 4, none⟩ (.int .i64 0)).setCell ⟨w.heap.size + 1 + 1, 5, none⟩ (.slice none 0 0)).setCell ⟨w.heap.size + 1 + 1, 6, none⟩ (.string ⟨#[]⟩))) := Lib.hid (by
        rw [HQ.out]
        exact ⟨x3, 0, 0, 0, 0, 0, ⟨#[]⟩, false, _, _, f, g, .inr ⟨rfl, hno, rfl, rfl, rfl, rfl, rfl, rfl, rfl⟩, rfl, D1.out.dup, hw.1, hw.2, hbl⟩)
      clear S1 T1 T2 S2 o1 o2 hw hbl hno
      go_wp2_with fail
      try simp only [Exit.inBlock, Exit.then]
      exact bodyPost_ret (v := .tuple #[.agg #[.int .i64 x0, .string x1, .string x2, .int .i64 x3, .slice ma r4.length mk, .int .i64 x5, .int .i64 y0, .string y1, .string y2, .int .i64 y3, .slice la s4.length lk, .int .i64 y5], .agg #[.int .i64 0, .int .i64 0, .int .i64 0, .int .i64 0, .int .i64 0, .slice none 0 0, .string ⟨#[]⟩], .bool false]) (by simp [results, Tryz.results16, go_sem, j0, j1, j2, j3, j4, j5, j6, j7, j8, j9, j10, j11, l0_, l1_, l2_, l3_, l4_, l5_, l6_]) rfl E.out
    | true =>
      have hyes : SealP x0 x1 x2 x3 r4 x5 y0 y1 y2 y3 s4 y5 fr dst body := HB.out.1 rfl
      obtain ⟨hx0, hx3⟩ : (0 ≤ x0 ∧ x0 ≤ 1000000000) ∧ (0 ≤ x3 ∧ x3 ≤ 12) := by
        rcases hyes.1.1 with h9 | h9
        · exact absurd (.inl h9) hyes.2.1
        · exact ⟨⟨by have := h9.1; omega, by have := h9.1; omega⟩, h9.2.2.2.1⟩
      have h5 := hyes.2.2.2.2
      obtain ⟨n, hn⟩ : ∃ n : Nat, x3 + 1 = n := ⟨(x3 + 1).toNat, by omega⟩
      have hw9 : IntKind.i64.wrap (x3 + 1) = (n : Int) := by rw [IntKind.wrap_i64]; omega
      obtain ⟨m, hm⟩ : ∃ m : Int, x0 % 8 = m := ⟨_, rfl⟩
      have hm8 : x0.tmod 8 = m := by rw [Int.tmod_eq_emod_of_nonneg hx0.1]; exact hm
      have HM := Lib.hid hm
      have HNN := Lib.hid hn
      have HY := Lib.hid hyes
      have n1 : n ≤ 13 := by omega
      clear hm hyes hx0 hn
      have c3 : wc.cell? ⟨w.heap.size, 3, none⟩ = some (.int .i64 x3) := D1.out.s.cell 3
      have q3 : wc.cell? ⟨G, 3, none⟩ = some (.int .i64 x3) := D1.out.o.cell 3
      have z3 := D1.out.o.free 3
      have D2 := Lib.hid (D1.out.count (.int .i64 (n : Nat)))
      go_upto_region 5 with fail
      clear c3 q3 z3 D1
      generalize wc.setCell ⟨G, 3, none⟩ (.int .i64 (n : Nat)) = W1 at *
      have c1 : W1.cell? ⟨w.heap.size, 1, none⟩ = some (.string x1) := D2.out.s.cell 1
      have q3 : W1.cell? ⟨G, 3, none⟩ = some (.int .i64 (n : Nat)) := D2.out.o.cell 3
      have KL := Lib.hid (specLock_yes x1 n body (by omega) (by omega) (by omega) W1)
      obtain ⟨lt, LT⟩ : ∃ t, Hid (lockP x1 n body = t) := ⟨_, Lib.hid rfl⟩
      rw [LT.out] at KL
      go_wp2_with fail
      refine KL.out.mono ?_
      rintro e W2 ⟨rfl, hb⟩
      have D3 := Lib.hid (D2.out.next hb)
      clear hb KL c1 q3 D2
      go_upto_region 6 with fail
      have s0 : W2.cell? ⟨w.heap.size, 0, none⟩ = some (.int .i64 x0) := D3.out.s.cell 0
      have e0 : W2.cell? ⟨G, 0, none⟩ = some (.int .i64 x0) := D3.out.o.cell 0
      have e1 : W2.cell? ⟨G, 1, none⟩ = some (.string x1) := D3.out.o.cell 1
      have e2 : W2.cell? ⟨G, 2, none⟩ = some (.string x2) := D3.out.o.cell 2
      have e3 : W2.cell? ⟨G, 3, none⟩ = some (.int .i64 (n : Nat)) := D3.out.o.cell 3
      have e4 : W2.cell? ⟨G, 4, none⟩ = some (.slice ma r4.length mk) := D3.out.o.cell 4
      have e5 : W2.cell? ⟨G, 5, none⟩ = some (.int .i64 x5) := D3.out.o.cell 5
      have e6 : W2.cell? ⟨G, 6, none⟩ = some (.int .i64 y0) := D3.out.o.cell 6
      have e7 : W2.cell? ⟨G, 7, none⟩ = some (.string y1) := D3.out.o.cell 7
      have e8 : W2.cell? ⟨G, 8, none⟩ = some (.string y2) := D3.out.o.cell 8
      have e9 : W2.cell? ⟨G, 9, none⟩ = some (.int .i64 y3) := D3.out.o.cell 9
      have e10 : W2.cell? ⟨G, 10, none⟩ = some (.slice la s4.length lk) := D3.out.o.cell 10
      have e11 : W2.cell? ⟨G, 11, none⟩ = some (.int .i64 y5) := D3.out.o.cell 11
      have d0 : W2.cell? ⟨w.heap.size + 1, 0, none⟩ = some (.int .i64 0) := D3.out.r.cell 0
      have d1 : W2.cell? ⟨w.heap.size + 1, 1, none⟩ = some (.string ⟨#[]⟩) := D3.out.r.cell 1
      have d2 : W2.cell? ⟨w.heap.size + 1, 2, none⟩ = some (.string ⟨#[]⟩) := D3.out.r.cell 2
      have d3 : W2.cell? ⟨w.heap.size + 1, 3, none⟩ = some (.int .i64 0) := D3.out.r.cell 3
      have d4 : W2.cell? ⟨w.heap.size + 1, 4, none⟩ = some (.slice none 0 0) := D3.out.r.cell 4
      have d5 : W2.cell? ⟨w.heap.size + 1, 5, none⟩ = some (.int .i64 0) := D3.out.r.cell 5
      have d6 : W2.cell? ⟨w.heap.size + 1, 6, none⟩ = some (.int .i64 0) := D3.out.r.cell 6
      have d7 : W2.cell? ⟨w.heap.size + 1, 7, none⟩ = some (.string ⟨#[]⟩) := D3.out.r.cell 7
      have d8 : W2.cell? ⟨w.heap.size + 1, 8, none⟩ = some (.string ⟨#[]⟩) := D3.out.r.cell 8
      have d9 : W2.cell? ⟨w.heap.size + 1, 9, none⟩ = some (.int .i64 0) := D3.out.r.cell 9
      have d10 : W2.cell? ⟨w.heap.size + 1, 10, none⟩ = some (.slice none 0 0) := D3.out.r.cell 10
      have d11 : W2.cell? ⟨w.heap.size + 1, 11, none⟩ = some (.int .i64 0) := D3.out.r.cell 11
      have g0 := D3.out.r.free 0
      have g1 := D3.out.r.free 1
      have g2 := D3.out.r.free 2
      have g3 := D3.out.r.free 3
      have g4 := D3.out.r.free 4
      have g5 := D3.out.r.free 5
      have g6 := D3.out.r.free 6
      have g7 := D3.out.r.free 7
      have g8 := D3.out.r.free 8
      have g9 := D3.out.r.free 9
      have g10 := D3.out.r.free 10
      have g11 := D3.out.r.free 11
      have S1 := putBoth D3.out.r (.int .i64 x0) (.string x1) (.string x2) (.int .i64 (n : Nat)) (.slice ma r4.length mk) (.int .i64 x5) (.int .i64 y0) (.string y1) (.string y2) (.int .i64 y3) (.slice la s4.length lk) (.int .i64 y5)
      have o1 : Only (w.heap.size + 1) W2 ((((((((((((W2.setCell ⟨w.heap.size + 1, 0, none⟩ (.int .i64 x0)).setCell ⟨w.heap.size + 1, 1, none⟩ (.string x1)).setCell ⟨w.heap.size + 1, 2, none⟩ (.string x2)).setCell ⟨w.heap.size + 1, 3, none⟩ (.int .i64 (n : Nat))).setCell ⟨w.heap.size + 1, 4, none⟩ (.slice ma r4.length mk)).setCell ⟨w.heap.size + 1, 5, none⟩ (.int .i64 x5)).setCell ⟨w.heap.size + 1, 6, none⟩ (.int .i64 y0)).setCell ⟨w.heap.size + 1, 7, none⟩ (.string y1)).setCell ⟨w.heap.size + 1, 8, none⟩ (.string y2)).setCell ⟨w.heap.size + 1, 9, none⟩ (.int .i64 y3)).setCell ⟨w.heap.size + 1, 10, none⟩ (.slice la s4.length lk)).setCell ⟨w.heap.size + 1, 11, none⟩ (.int .i64 y5)) := (putMain_only W2 (w.heap.size + 1) _ _ _ _ _ _).trans (putLame_only _ (w.heap.size + 1) _ _ _ _ _ _)
      have T1 := D3.out.k.only o1 (by omega)
      have h0 : ((((((((((((W2.setCell ⟨w.heap.size + 1, 0, none⟩ (.int .i64 x0)).setCell ⟨w.heap.size + 1, 1, none⟩ (.string x1)).setCell ⟨w.heap.size + 1, 2, none⟩ (.string x2)).setCell ⟨w.heap.size + 1, 3, none⟩ (.int .i64 (n : Nat))).setCell ⟨w.heap.size + 1, 4, none⟩ (.slice ma r4.length mk)).setCell ⟨w.heap.size + 1, 5, none⟩ (.int .i64 x5)).setCell ⟨w.heap.size + 1, 6, none⟩ (.int .i64 y0)).setCell ⟨w.heap.size + 1, 7, none⟩ (.string y1)).setCell ⟨w.heap.size + 1, 8, none⟩ (.string y2)).setCell ⟨w.heap.size + 1, 9, none⟩ (.int .i64 y3)).setCell ⟨w.heap.size + 1, 10, none⟩ (.slice la s4.length lk)).setCell ⟨w.heap.size + 1, 11, none⟩ (.int .i64 y5)).cell? ⟨w.heap.size + 1 + 1, 0, none⟩ = some (.int .i64 0) := T1.cell 0
      have i0 := T1.free 0
      have h1 : ((((((((((((W2.setCell ⟨w.heap.size + 1, 0, none⟩ (.int .i64 x0)).setCell ⟨w.heap.size + 1, 1, none⟩ (.string x1)).setCell ⟨w.heap.size + 1, 2, none⟩ (.string x2)).setCell ⟨w.heap.size + 1, 3, none⟩ (.int .i64 (n : Nat))).setCell ⟨w.heap.size + 1, 4, none⟩ (.slice ma r4.length mk)).setCell ⟨w.heap.size + 1, 5, none⟩ (.int .i64 x5)).setCell ⟨w.heap.size + 1, 6, none⟩ (.int .i64 y0)).setCell ⟨w.heap.size + 1, 7, none⟩ (.string y1)).setCell ⟨w.heap.size + 1, 8, none⟩ (.string y2)).setCell ⟨w.heap.size + 1, 9, none⟩ (.int .i64 y3)).setCell ⟨w.heap.size + 1, 10, none⟩ (.slice la s4.length lk)).setCell ⟨w.heap.size + 1, 11, none⟩ (.int .i64 y5)).cell? ⟨w.heap.size + 1 + 1, 1, none⟩ = some (.int .i64 0) := T1.cell 1
      have i1 := T1.free 1
      have h2 : ((((((((((((W2.setCell ⟨w.heap.size + 1, 0, none⟩ (.int .i64 x0)).setCell ⟨w.heap.size + 1, 1, none⟩ (.string x1)).setCell ⟨w.heap.size + 1, 2, none⟩ (.string x2)).setCell ⟨w.heap.size + 1, 3, none⟩ (.int .i64 (n : Nat))).setCell ⟨w.heap.size + 1, 4, none⟩ (.slice ma r4.length mk)).setCell ⟨w.heap.size + 1, 5, none⟩ (.int .i64 x5)).setCell ⟨w.heap.size + 1, 6, none⟩ (.int .i64 y0)).setCell ⟨w.heap.size + 1, 7, none⟩ (.string y1)).setCell ⟨w.heap.size + 1, 8, none⟩ (.string y2)).setCell ⟨w.heap.size + 1, 9, none⟩ (.int .i64 y3)).setCell ⟨w.heap.size + 1, 10, none⟩ (.slice la s4.length lk)).setCell ⟨w.heap.size + 1, 11, none⟩ (.int .i64 y5)).cell? ⟨w.heap.size + 1 + 1, 2, none⟩ = some (.int .i64 0) := T1.cell 2
      have i2 := T1.free 2
      have h3 : ((((((((((((W2.setCell ⟨w.heap.size + 1, 0, none⟩ (.int .i64 x0)).setCell ⟨w.heap.size + 1, 1, none⟩ (.string x1)).setCell ⟨w.heap.size + 1, 2, none⟩ (.string x2)).setCell ⟨w.heap.size + 1, 3, none⟩ (.int .i64 (n : Nat))).setCell ⟨w.heap.size + 1, 4, none⟩ (.slice ma r4.length mk)).setCell ⟨w.heap.size + 1, 5, none⟩ (.int .i64 x5)).setCell ⟨w.heap.size + 1, 6, none⟩ (.int .i64 y0)).setCell ⟨w.heap.size + 1, 7, none⟩ (.string y1)).setCell ⟨w.heap.size + 1, 8, none⟩ (.string y2)).setCell ⟨w.heap.size + 1, 9, none⟩ (.int .i64 y3)).setCell ⟨w.heap.size + 1, 10, none⟩ (.slice la s4.length lk)).setCell ⟨w.heap.size + 1, 11, none⟩ (.int .i64 y5)).cell? ⟨w.heap.size + 1 + 1, 3, none⟩ = some (.int .i64 0) := T1.cell 3
      have i3 := T1.free 3
      have h4 : ((((((((((((W2.setCell ⟨w.heap.size + 1, 0, none⟩ (.int .i64 x0)).setCell ⟨w.heap.size + 1, 1, none⟩ (.string x1)).setCell ⟨w.heap.size + 1, 2, none⟩ (.string x2)).setCell ⟨w.heap.size + 1, 3, none⟩ (.int .i64 (n : Nat))).setCell ⟨w.heap.size + 1, 4, none⟩ (.slice ma r4.length mk)).setCell ⟨w.heap.size + 1, 5, none⟩ (.int .i64 x5)).setCell ⟨w.heap.size + 1, 6, none⟩ (.int .i64 y0)).setCell ⟨w.heap.size + 1, 7, none⟩ (.string y1)).setCell ⟨w.heap.size + 1, 8, none⟩ (.string y2)).setCell ⟨w.heap.size + 1, 9, none⟩ (.int .i64 y3)).setCell ⟨w.heap.size + 1, 10, none⟩ (.slice la s4.length lk)).setCell ⟨w.heap.size + 1, 11, none⟩ (.int .i64 y5)).cell? ⟨w.heap.size + 1 + 1, 4, none⟩ = some (.int .i64 0) := T1.cell 4
      have i4 := T1.free 4
      have h5 : ((((((((((((W2.setCell ⟨w.heap.size + 1, 0, none⟩ (.int .i64 x0)).setCell ⟨w.heap.size + 1, 1, none⟩ (.string x1)).setCell ⟨w.heap.size + 1, 2, none⟩ (.string x2)).setCell ⟨w.heap.size + 1, 3, none⟩ (.int .i64 (n : Nat))).setCell ⟨w.heap.size + 1, 4, none⟩ (.slice ma r4.length mk)).setCell ⟨w.heap.size + 1, 5, none⟩ (.int .i64 x5)).setCell ⟨w.heap.size + 1, 6, none⟩ (.int .i64 y0)).setCell ⟨w.heap.size + 1, 7, none⟩ (.string y1)).setCell ⟨w.heap.size + 1, 8, none⟩ (.string y2)).setCell ⟨w.heap.size + 1, 9, none⟩ (.int .i64 y3)).setCell ⟨w.heap.size + 1, 10, none⟩ (.slice la s4.length lk)).setCell ⟨w.heap.size + 1, 11, none⟩ (.int .i64 y5)).cell? ⟨w.heap.size + 1 + 1, 5, none⟩ = some (.slice none 0 0) := T1.cell 5
      have i5 := T1.free 5
      have h6 : ((((((((((((W2.setCell ⟨w.heap.size + 1, 0, none⟩ (.int .i64 x0)).setCell ⟨w.heap.size + 1, 1, none⟩ (.string x1)).setCell ⟨w.heap.size + 1, 2, none⟩ (.string x2)).setCell ⟨w.heap.size + 1, 3, none⟩ (.int .i64 (n : Nat))).setCell ⟨w.heap.size + 1, 4, none⟩ (.slice ma r4.length mk)).setCell ⟨w.heap.size + 1, 5, none⟩ (.int .i64 x5)).setCell ⟨w.heap.size + 1, 6, none⟩ (.int .i64 y0)).setCell ⟨w.heap.size + 1, 7, none⟩ (.string y1)).setCell ⟨w.heap.size + 1, 8, none⟩ (.string y2)).setCell ⟨w.heap.size + 1, 9, none⟩ (.int .i64 y3)).setCell ⟨w.heap.size + 1, 10, none⟩ (.slice la s4.length lk)).setCell ⟨w.heap.size + 1, 11, none⟩ (.int .i64 y5)).cell? ⟨w.heap.size + 1 + 1, 6, none⟩ = some (.string ⟨#[]⟩) := T1.cell 6
      have i6 := T1.free 6
      have hh0 : W2.cell? ⟨w.heap.size + 1 + 1, 0, none⟩ = some (.int .i64 0) := D3.out.k.cell 0
      have ii0 := D3.out.k.free 0
      have hh1 : W2.cell? ⟨w.heap.size + 1 + 1, 1, none⟩ = some (.int .i64 0) := D3.out.k.cell 1
      have ii1 := D3.out.k.free 1
      have hh2 : W2.cell? ⟨w.heap.size + 1 + 1, 2, none⟩ = some (.int .i64 0) := D3.out.k.cell 2
      have ii2 := D3.out.k.free 2
      have hh3 : W2.cell? ⟨w.heap.size + 1 + 1, 3, none⟩ = some (.int .i64 0) := D3.out.k.cell 3
      have ii3 := D3.out.k.free 3
      have hh4 : W2.cell? ⟨w.heap.size + 1 + 1, 4, none⟩ = some (.int .i64 0) := D3.out.k.cell 4
      have ii4 := D3.out.k.free 4
      have hh5 : W2.cell? ⟨w.heap.size + 1 + 1, 5, none⟩ = some (.slice none 0 0) := D3.out.k.cell 5
      have ii5 := D3.out.k.free 5
      have hh6 : W2.cell? ⟨w.heap.size + 1 + 1, 6, none⟩ = some (.string ⟨#[]⟩) := D3.out.k.cell 6
      have ii6 := D3.out.k.free 6
      have T2 := putSeven T1 (.int .i64 3) (.int .i64 m) (.int .i64 fr) (.int .i64 dst) (.int .i64 (n : Nat)) (.slice none 0 0) (.string lt)
      have o2 : Only (w.heap.size + 1 + 1) ((((((((((((W2.setCell ⟨w.heap.size + 1, 0, none⟩ (.int .i64 x0)).setCell ⟨w.heap.size + 1, 1, none⟩ (.string x1)).setCell ⟨w.heap.size + 1, 2, none⟩ (.string x2)).setCell ⟨w.heap.size + 1, 3, none⟩ (.int .i64 (n : Nat))).setCell ⟨w.heap.size + 1, 4, none⟩ (.slice ma r4.length mk)).setCell ⟨w.heap.size + 1, 5, none⟩ (.int .i64 x5)).setCell ⟨w.heap.size + 1, 6, none⟩ (.int .i64 y0)).setCell ⟨w.heap.size + 1, 7, none⟩ (.string y1)).setCell ⟨w.heap.size + 1, 8, none⟩ (.string y2)).setCell ⟨w.heap.size + 1, 9, none⟩ (.int .i64 y3)).setCell ⟨w.heap.size + 1, 10, none⟩ (.slice la s4.length lk)).setCell ⟨w.heap.size + 1, 11, none⟩ (.int .i64 y5)) (((((((((((((((((((W2.setCell ⟨w.heap.size + 1, 0, none⟩ (.int .i64 x0)).setCell ⟨w.heap.size + 1, 1, none⟩ (.string x1)).setCell ⟨w.heap.size + 1, 2, none⟩ (.string x2)).setCell ⟨w.heap.size + 1, 3, none⟩ (.int .i64 (n : Nat))).setCell ⟨w.heap.size + 1, 4, none⟩ (.slice ma r4.length mk)).setCell ⟨w.heap.size + 1, 5, none⟩ (.int .i64 x5)).setCell ⟨w.heap.size + 1, 6, none⟩ (.int .i64 y0)).setCell ⟨w.heap.size + 1, 7, none⟩ (.string y1)).setCell ⟨w.heap.size + 1, 8, none⟩ (.string y2)).setCell ⟨w.heap.size + 1, 9, none⟩ (.int .i64 y3)).setCell ⟨w.heap.size + 1, 10, none⟩ (.slice la s4.length lk)).setCell ⟨w.heap.size + 1, 11, none⟩ (.int .i64 y5)).setCell ⟨w.heap.size + 1 + 1, 0, none⟩ (.int .i64 3)).setCell ⟨w.heap.size + 1 + 1, 1, none⟩ (.int .i64 m)).setCell ⟨w.heap.size + 1 + 1, 2, none⟩ (.int .i64 fr)).setCell ⟨w.heap.size + 1 + 1, 3, none⟩ (.int .i64 dst)).setCell ⟨w.heap.size + 1 + 1, 4, none⟩ (.int .i64 (n : Nat))).setCell ⟨w.heap.size + 1 + 1, 5, none⟩ (.slice none 0 0)).setCell ⟨w.heap.size + 1 + 1, 6, none⟩ (.string lt)) := (((((((Only.setCell 0 (.int .i64 3) : Only (w.heap.size + 1 + 1) ((((((((((((W2.setCell ⟨w.heap.size + 1, 0, none⟩ (.int .i64 x0)).setCell ⟨w.heap.size + 1, 1, none⟩ (.string x1)).setCell ⟨w.heap.size + 1, 2, none⟩ (.string x2)).setCell ⟨w.heap.size + 1, 3, none⟩ (.int .i64 (n : Nat))).setCell ⟨w.heap.size + 1, 4, none⟩ (.slice ma r4.length mk)).setCell ⟨w.heap.size + 1, 5, none⟩ (.int .i64 x5)).setCell ⟨w.heap.size + 1, 6, none⟩ (.int .i64 y0)).setCell ⟨w.heap.size + 1, 7, none⟩ (.string y1)).setCell ⟨w.heap.size + 1, 8, none⟩ (.string y2)).setCell ⟨w.heap.size + 1, 9, none⟩ (.int .i64 y3)).setCell ⟨w.heap.size + 1, 10, none⟩ (.slice la s4.length lk)).setCell ⟨w.heap.size + 1, 11, none⟩ (.int .i64 y5)) _).trans (Only.setCell 1 (.int .i64 m))).trans (Only.setCell 2 (.int .i64 fr))).trans (Only.setCell 3 (.int .i64 dst))).trans (Only.setCell 4 (.int .i64 (n : Nat)))).trans (Only.setCell 5 (.slice none 0 0))).trans (Only.setCell 6 (.string lt)))
      have S2 := S1.only o2 (by omega)
      have j0 := S2.cell 0
      have j1 := S2.cell 1
      have j2 := S2.cell 2
      have j3 := S2.cell 3
      have j4 := S2.cell 4
      have j5 := S2.cell 5
      have j6 := S2.cell 6
      have j7 := S2.cell 7
      have j8 := S2.cell 8
      have j9 := S2.cell 9
      have j10 := S2.cell 10
      have j11 := S2.cell 11
      have l0_ := T2.cell 0
      have l1_ := T2.cell 1
      have l2_ := T2.cell 2
      have l3_ := T2.cell 3
      have l4_ := T2.cell 4
      have l5_ := T2.cell 5
      have l6_ := T2.cell 6
      have hw := D3.out.told (Y := (((((((((((((((((((W2.setCell ⟨w.heap.size + 1, 0, none⟩ (.int .i64 x0)).setCell ⟨w.heap.size + 1, 1, none⟩ (.string x1)).setCell ⟨w.heap.size + 1, 2, none⟩ (.string x2)).setCell ⟨w.heap.size + 1, 3, none⟩ (.int .i64 (n : Nat))).setCell ⟨w.heap.size + 1, 4, none⟩ (.slice ma r4.length mk)).setCell ⟨w.heap.size + 1, 5, none⟩ (.int .i64 x5)).setCell ⟨w.heap.size + 1, 6, none⟩ (.int .i64 y0)).setCell ⟨w.heap.size + 1, 7, none⟩ (.string y1)).setCell ⟨w.heap.size + 1, 8, none⟩ (.string y2)).setCell ⟨w.heap.size + 1, 9, none⟩ (.int .i64 y3)).setCell ⟨w.heap.size + 1, 10, none⟩ (.slice la s4.length lk)).setCell ⟨w.heap.size + 1, 11, none⟩ (.int .i64 y5)).setCell ⟨w.heap.size + 1 + 1, 0, none⟩ (.int .i64 3)).setCell ⟨w.heap.size + 1 + 1, 1, none⟩ (.int .i64 m)).setCell ⟨w.heap.size + 1 + 1, 2, none⟩ (.int .i64 fr)).setCell ⟨w.heap.size + 1 + 1, 3, none⟩ (.int .i64 dst)).setCell ⟨w.heap.size + 1 + 1, 4, none⟩ (.int .i64 (n : Nat))).setCell ⟨w.heap.size + 1 + 1, 5, none⟩ (.slice none 0 0)).setCell ⟨w.heap.size + 1 + 1, 6, none⟩ (.string lt))) (fun a h1 h2 h3 => (o2.block a (Nat.lt_of_lt_of_le h3 o1.size) h2).trans (o1.block a h3 h1))
      have hf := D3.out.far
      have hbl : Below w.heap.size w (((((((((((((((((((W2.setCell ⟨w.heap.size + 1, 0, none⟩ (.int .i64 x0)).setCell ⟨w.heap.size + 1, 1, none⟩ (.string x1)).setCell ⟨w.heap.size + 1, 2, none⟩ (.string x2)).setCell ⟨w.heap.size + 1, 3, none⟩ (.int .i64 (n : Nat))).setCell ⟨w.heap.size + 1, 4, none⟩ (.slice ma r4.length mk)).setCell ⟨w.heap.size + 1, 5, none⟩ (.int .i64 x5)).setCell ⟨w.heap.size + 1, 6, none⟩ (.int .i64 y0)).setCell ⟨w.heap.size + 1, 7, none⟩ (.string y1)).setCell ⟨w.heap.size + 1, 8, none⟩ (.string y2)).setCell ⟨w.heap.size + 1, 9, none⟩ (.int .i64 y3)).setCell ⟨w.heap.size + 1, 10, none⟩ (.slice la s4.length lk)).setCell ⟨w.heap.size + 1, 11, none⟩ (.int .i64 y5)).setCell ⟨w.heap.size + 1 + 1, 0, none⟩ (.int .i64 3)).setCell ⟨w.heap.size + 1 + 1, 1, none⟩ (.int .i64 m)).setCell ⟨w.heap.size + 1 + 1, 2, none⟩ (.int .i64 fr)).setCell ⟨w.heap.size + 1 + 1, 3, none⟩ (.int .i64 dst)).setCell ⟨w.heap.size + 1 + 1, 4, none⟩ (.int .i64 (n : Nat))).setCell ⟨w.heap.size + 1 + 1, 5, none⟩ (.slice none 0 0)).setCell ⟨w.heap.size + 1 + 1, 6, none⟩ (.string lt)) := (D3.out.below.trans (only_under o1 (by omega) D3.out.below.size)).trans (only_under o2 (by omega) (Nat.le_trans D3.out.below.size o1.size))
      have E : Hid (Q (.returned (.tuple #[.agg #[.int .i64 x0, .string x1, .string x2, .int .i64 (n : Nat), .slice ma r4.length mk, .int .i64 x5, .int .i64 y0, .string y1, .string y2, .int .i64 y3, .slice la s4.length lk, .int .i64 y5], .agg #[.int .i64 3, .int .i64 m, .int .i64 fr, .int .i64 dst, .int .i64 (n : Nat), .slice none 0 0, .string lt], .bool true])) (((((((((((((((((((W2.setCell ⟨w.heap.size + 1, 0, none⟩ (.int .i64 x0)).setCell ⟨w.heap.size + 1, 1, none⟩ (.string x1)).setCell ⟨w.heap.size + 1, 2, none⟩ (.string x2)).setCell ⟨w.heap.size + 1, 3, none⟩ (.int .i64 (n : Nat))).setCell ⟨w.heap.size + 1, 4, none⟩ (.slice ma r4.length mk)).setCell ⟨w.heap.size + 1, 5, none⟩ (.int .i64 x5)).setCell ⟨w.heap.size + 1, 6, none⟩ (.int .i64 y0)).setCell ⟨w.heap.size + 1, 7, none⟩ (.string y1)).setCell ⟨w.heap.size + 1, 8, none⟩ (.string y2)).setCell ⟨w.heap.size + 1, 9, none⟩ (.int .i64 y3)).setCell ⟨w.heap.size + 1, 10, none⟩ (.slice la s4.length lk)).setCell ⟨w.heap.size + 1, 11, none⟩ (.int .i64 y5)).setCell ⟨w.heap.size + 1 + 1, 0, none⟩ (.int .i64 3)).setCell ⟨w.heap.size + 1 + 1, 1, none⟩ (.int .i64 m)).setCell ⟨w.heap.size + 1 + 1, 2, none⟩ (.int .i64 fr)).setCell ⟨w.heap.size + 1 + 1, 3, none⟩ (.int .i64 dst)).setCell ⟨w.heap.size + 1 + 1, 4, none⟩ (.int .i64 (n : Nat))).setCell ⟨w.heap.size + 1 + 1, 5, none⟩ (.slice none 0 0)).setCell ⟨w.heap.size + 1 + 1, 6, none⟩ (.string lt)).drew) := Lib.hid (by
        rw [HQ.out]
        exact ⟨(n : Nat), 3, m, fr, dst, (n : Nat), lt, true, _, _, f, g, .inl ⟨rfl, HY.out, HNN.out.symm, rfl, HM.out.symm, rfl, rfl, HNN.out.symm, by rw [HNN.out, Int.toNat_natCast, LT.out]⟩, rfl, D3.out.dup, own_drew hw.1, own_drew hw.2, hbl.drew⟩)
      clear S1 T1 T2 S2 o1 o2 hw hbl
      go_region
      all_goals
        go_wp2_with fail
        try simp only [Exit.inBlock, Exit.then]
        exact bodyPost_ret (v := .tuple #[.agg #[.int .i64 x0, .string x1, .string x2, .int .i64 (n : Nat), .slice ma r4.length mk, .int .i64 x5, .int .i64 y0, .string y1, .string y2, .int .i64 y3, .slice la s4.length lk, .int .i64 y5], .agg #[.int .i64 3, .int .i64 m, .int .i64 fr, .int .i64 dst, .int .i64 (n : Nat), .slice none 0 0, .string lt], .bool true]) (by simp [results, Tryz.results16, go_sem, j0, j1, j2, j3, j4, j5, j6, j7, j8, j9, j10, j11, l0_, l1_, l2_, l3_, l4_, l5_, l6_]) rfl E.out

end Go.Proofs.YtoaifgblbfdncaaGreatDoor
