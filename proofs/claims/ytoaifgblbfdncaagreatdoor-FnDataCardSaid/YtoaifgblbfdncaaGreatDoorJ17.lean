/-
  The given SealData.
  What SealData tells, of whatever row of no acks.
  The given OpenText.
  What OpenText tells at every argument, in plain words; the given one.
  The given NoteSeen.
  The given opening of a packet by one set of keys.
  The given PacketOk.
-/
import Derived.Test.YtoaifgblbfdncaaGreatDoorJ08
import Derived.Test.YtoaifgblbfdncaaGreatDoorJ16
import Derived.Test.YtoaifgblbfdncaaGreatDoorJ06
import Derived.Test.YtoaifgblbfdncaaGreatDoorJ04
import Derived.Deep.DeepCutAuto
import Derived.Test.YtoaifgblbfdncaaGreatDoorJ05
import Derived.Test.YtoaifgblbfdncaaGreatDoorJ02
namespace Go.Proofs.YtoaifgblbfdncaaGreatDoor
open Go.RowKit

abbrev SPkT : TypeId := 38
/-- A text may be sealed. -/
def SealP (x0 : Int) (x1 x2 : ByteArray) (x3 : Int) (r4 : List Int) (x5 : Int) (y0 : Int) (y1 y2 : ByteArray) (y3 : Int) (s4 : List Int) (y5 : Int) (fr dst : Int) (body : ByteArray) : Prop := SlotsP x0 x1 x2 x3 r4 x5 y0 y1 y2 y3 s4 y5 ∧ ¬ (NoneP x0 x1 x2 x3 r4 x5 ∨ x3 = 12) ∧ (1 ≤ fr ∧ fr ≤ 99) ∧ (1 ≤ dst ∧ dst ≤ 99) ∧ body.size ≤ 104
/-- What SealData tells. -/
def SealEnd (x0 : Int) (x1 x2 : ByteArray) (x3 : Int) (r4 : List Int) (x5 : Int) (y0 : Int) (y1 y2 : ByteArray) (y3 : Int) (s4 : List Int) (y5 : Int) (fr dst : Int) (body : ByteArray) (w : World) (e : Ending) (w' : World) : Prop :=
  ∃ (c k0 k1 k2 k3 k4 : Int) (k6 : ByteArray) (ok : Bool) (v4 u4 : Value) (f g : List Nat),
    ((ok = true ∧ SealP x0 x1 x2 x3 r4 x5 y0 y1 y2 y3 s4 y5 fr dst body ∧ c = x3 + 1 ∧ k0 = 3 ∧ k1 = x0 % 8 ∧ k2 = fr ∧ k3 = dst ∧ k4 = x3 + 1 ∧ k6 = lockP x1 (x3 + 1).toNat body) ∨
     (ok = false ∧ ¬ SealP x0 x1 x2 x3 r4 x5 y0 y1 y2 y3 s4 y5 fr dst body ∧ c = x3 ∧ k0 = 0 ∧ k1 = 0 ∧ k2 = 0 ∧ k3 = 0 ∧ k4 = 0 ∧ k6 = ⟨#[]⟩)) ∧
    e = .returned (.tuple #[.agg #[.int .i64 x0, .string x1, .string x2, .int .i64 c, v4, .int .i64 x5, .int .i64 y0, .string y1, .string y2, .int .i64 y3, u4, .int .i64 y5], .agg #[.int .i64 k0, .int .i64 k1, .int .i64 k2, .int .i64 k3, .int .i64 k4, .slice none 0 0, .string k6], .bool ok]) ∧ (f ++ g).Nodup ∧ layIntS.own w' w.heap.size f [v4] r4 ∧ layIntS.own w' w.heap.size g [u4] s4 ∧ Below w.heap.size w w'
/-- The slots, both results and the copy in their variables. -/
structure SDV (w : World) (G : Nat) (s o : Array Value) (f g : List Nat) (v u : Value) (r4 s4 : List Int) (X : World) : Prop where
  s : VarA w.heap.size SlotsT s X
  r : VarA (w.heap.size + 1) SlotsT #[.int .i64 0, .string ⟨#[]⟩, .string ⟨#[]⟩, .int .i64 0, .slice none 0 0, .int .i64 0, .int .i64 0, .string ⟨#[]⟩, .string ⟨#[]⟩, .int .i64 0, .slice none 0 0, .int .i64 0] X
  k : VarA (w.heap.size + 1 + 1) SPkT #[.int .i64 0, .int .i64 0, .int .i64 0, .int .i64 0, .int .i64 0, .slice none 0 0, .string ⟨#[]⟩] X
  o : VarA G SlotsT o X
  far : w.heap.size + 1 + 1 + 1 ≤ G
  rowM : layIntS.own X (w.heap.size + 1 + 1 + 1) f [v] r4
  rowL : layIntS.own X (w.heap.size + 1 + 1 + 1) g [u] s4
  dup : (f ++ g).Nodup
  off : ∀ a ∈ f ++ g, a ≠ G
  below : Below w.heap.size w X
section
variable {w X Y : World} {G : Nat} {s o : Array Value} {f g : List Nat} {v u : Value} {r4 s4 : List Int}
theorem SDV.next (h : SDV w G s o f g v u r4 s4 X) (hb : Below X.heap.size X Y) : SDV w G s o f g v u r4 s4 Y := ⟨h.s.next hb, h.r.next hb, h.k.next hb, h.o.next hb, h.far, layIntS.next h.rowM hb, layIntS.next h.rowL hb, h.dup, h.off, h.below.trans (hb.mono h.below.size)⟩
theorem only_under {lo q : Nat} {X Y : World} (h : Only q X Y) (hq : lo ≤ q) (hl : lo ≤ X.heap.size) : Below lo X Y := ⟨h.os, h.tape, h.output, h.size, fun k hk => h.block k (by omega) (by omega)⟩
theorem putSeven {T : TypeId} {q0 q1 q2 q3 q4 q5 q6 : Value} (h : VarA G T #[q0, q1, q2, q3, q4, q5, q6] X) (u0 u1 u2 u3 u4 u5 u6 : Value) : VarA G T #[u0, u1, u2, u3, u4, u5, u6] (((((((X.setCell ⟨G, 0, none⟩ (u0)).setCell ⟨G, 1, none⟩ (u1)).setCell ⟨G, 2, none⟩ (u2)).setCell ⟨G, 3, none⟩ (u3)).setCell ⟨G, 4, none⟩ (u4)).setCell ⟨G, 5, none⟩ (u5)).setCell ⟨G, 6, none⟩ (u6)) := by
  have h0 : VarA G T #[u0, q1, q2, q3, q4, q5, q6] (X.setCell ⟨G, 0, none⟩ (u0)) := h.set 0 u0
  have h1 : VarA G T #[u0, u1, q2, q3, q4, q5, q6] ((X.setCell ⟨G, 0, none⟩ (u0)).setCell ⟨G, 1, none⟩ (u1)) := h0.set 1 u1
  have h2 : VarA G T #[u0, u1, u2, q3, q4, q5, q6] (((X.setCell ⟨G, 0, none⟩ (u0)).setCell ⟨G, 1, none⟩ (u1)).setCell ⟨G, 2, none⟩ (u2)) := h1.set 2 u2
  have h3 : VarA G T #[u0, u1, u2, u3, q4, q5, q6] ((((X.setCell ⟨G, 0, none⟩ (u0)).setCell ⟨G, 1, none⟩ (u1)).setCell ⟨G, 2, none⟩ (u2)).setCell ⟨G, 3, none⟩ (u3)) := h2.set 3 u3
  have h4 : VarA G T #[u0, u1, u2, u3, u4, q5, q6] (((((X.setCell ⟨G, 0, none⟩ (u0)).setCell ⟨G, 1, none⟩ (u1)).setCell ⟨G, 2, none⟩ (u2)).setCell ⟨G, 3, none⟩ (u3)).setCell ⟨G, 4, none⟩ (u4)) := h3.set 4 u4
  have h5 : VarA G T #[u0, u1, u2, u3, u4, u5, q6] ((((((X.setCell ⟨G, 0, none⟩ (u0)).setCell ⟨G, 1, none⟩ (u1)).setCell ⟨G, 2, none⟩ (u2)).setCell ⟨G, 3, none⟩ (u3)).setCell ⟨G, 4, none⟩ (u4)).setCell ⟨G, 5, none⟩ (u5)) := h4.set 5 u5
  exact h5.set 6 u6
/-- Both results are written. -/
theorem SDV.told (h : SDV w G s o f g v u r4 s4 X) (ho : ∀ a, a ≠ w.heap.size + 1 → a ≠ w.heap.size + 1 + 1 → a < X.heap.size → Y.heap[a]? = X.heap[a]?) : layIntS.own Y w.heap.size f [v] r4 ∧ layIntS.own Y w.heap.size g [u] s4 :=
  ⟨layIntS.lower (layIntS.keep h.rowM (fun a ha => ho a (by have := (layIntS.blocks h.rowM a ha).1; omega) (by have := (layIntS.blocks h.rowM a ha).1; omega) (layIntS.blocks h.rowM a ha).2)) (by omega), layIntS.lower (layIntS.keep h.rowL (fun a ha => ho a (by have := (layIntS.blocks h.rowL a ha).1; omega) (by have := (layIntS.blocks h.rowL a ha).1; omega) (layIntS.blocks h.rowL a ha).2)) (by omega)⟩
end

end Go.Proofs.YtoaifgblbfdncaaGreatDoor
namespace Go.Proofs.YtoaifgblbfdncaaGreatDoor
open Go.RowKit

/-- What is told of a packet. -/
def SealIs (x0 : Int) (x1 x2 : ByteArray) (x3 : Int) (r4 : List Int) (x5 : Int) (y0 : Int) (y1 y2 : ByteArray) (y3 : Int) (s4 : List Int) (y5 : Int) (fr dst : Int) (body : ByteArray) (c k0 k1 k2 k3 k4 : Int) (k6 : ByteArray) (ok : Bool) : Prop :=
  (ok = true ∧ SealP x0 x1 x2 x3 r4 x5 y0 y1 y2 y3 s4 y5 fr dst body ∧ c = x3 + 1 ∧ k0 = 3 ∧ k1 = x0 % 8 ∧ k2 = fr ∧ k3 = dst ∧ k4 = x3 + 1 ∧ k6 = lockP x1 (x3 + 1).toNat body) ∨
  (ok = false ∧ ¬ SealP x0 x1 x2 x3 r4 x5 y0 y1 y2 y3 s4 y5 fr dst body ∧ c = x3 ∧ k0 = 0 ∧ k1 = 0 ∧ k2 = 0 ∧ k3 = 0 ∧ k4 = 0 ∧ k6 = ⟨#[]⟩)
/-- Slots, a packet without acks and whether are handed back. -/
def SealMade (x0 : Int) (x1 x2 : ByteArray) (c : Int) (r4 : List Int) (x5 : Int) (y0 : Int) (y1 y2 : ByteArray) (y3 : Int) (s4 : List Int) (y5 : Int) (k0 k1 k2 k3 k4 : Int) (k6 : ByteArray) (ok : Bool) (w : World) (e : Ending) (w' : World) : Prop :=
  ∃ (v4 u4 va : Value) (f g h : List Nat), e = .returned (.tuple #[.agg #[.int .i64 x0, .string x1, .string x2, .int .i64 c, v4, .int .i64 x5, .int .i64 y0, .string y1, .string y2, .int .i64 y3, u4, .int .i64 y5], .agg #[.int .i64 k0, .int .i64 k1, .int .i64 k2, .int .i64 k3, .int .i64 k4, va, .string k6], .bool ok]) ∧ ((f ++ g) ++ h).Nodup ∧ layIntS.own w' w.heap.size f [v4] r4 ∧ layIntS.own w' w.heap.size g [u4] s4 ∧ layIntS.own w' w.heap.size h [va] [] ∧ Below w.heap.size w w'
theorem seal_made {x0 : Int} {x1 x2 : ByteArray} {x3 : Int} {r4 : List Int} {x5 : Int} {y0 : Int} {y1 y2 : ByteArray} {y3 : Int} {s4 : List Int} {y5 : Int} {fr dst : Int} {body : ByteArray} {c k0 k1 k2 k3 k4 : Int} {k6 : ByteArray} {ok : Bool} {w : World} {e : Ending} {w' : World} (hi : SealIs x0 x1 x2 x3 r4 x5 y0 y1 y2 y3 s4 y5 fr dst body c k0 k1 k2 k3 k4 k6 ok) (h : SealEnd x0 x1 x2 x3 r4 x5 y0 y1 y2 y3 s4 y5 fr dst body w e w') : SealMade x0 x1 x2 c r4 x5 y0 y1 y2 y3 s4 y5 k0 k1 k2 k3 k4 k6 ok w e w' := by
  obtain ⟨c', a0, a1, a2, a3, a4, a6, ok', v4, u4, f, g, hc, rfl, hd, h1, h2, hb⟩ := h
  have hsame : c' = c ∧ a0 = k0 ∧ a1 = k1 ∧ a2 = k2 ∧ a3 = k3 ∧ a4 = k4 ∧ a6 = k6 ∧ ok' = ok := by
    rcases hc with ⟨rfl, p, rfl, rfl, rfl, rfl, rfl, rfl, rfl⟩ | ⟨rfl, p, rfl, rfl, rfl, rfl, rfl, rfl, rfl⟩ <;> rcases hi with ⟨rfl, q, rfl, rfl, rfl, rfl, rfl, rfl, rfl⟩ | ⟨rfl, q, rfl, rfl, rfl, rfl, rfl, rfl, rfl⟩
    · exact ⟨rfl, rfl, rfl, rfl, rfl, rfl, rfl, rfl⟩
    · exact absurd p q
    · exact absurd q p
    · exact ⟨rfl, rfl, rfl, rfl, rfl, rfl, rfl, rfl⟩
  obtain ⟨rfl, rfl, rfl, rfl, rfl, rfl, rfl, rfl⟩ := hsame
  exact ⟨v4, u4, _, f, g, [], rfl, by rw [List.append_nil]; exact hd, h1, h2, none_own _ _, hb⟩

end Go.Proofs.YtoaifgblbfdncaaGreatDoor
namespace Go.Proofs.YtoaifgblbfdncaaGreatDoor
open Go.RowKit

end Go.Proofs.YtoaifgblbfdncaaGreatDoor
namespace Go.Proofs.YtoaifgblbfdncaaGreatDoor
open Go.RowKit

/-- Whether a text and a number can be those of a locked one. -/
def OpenIn (num : Int) (text : ByteArray) : Prop := (16 ≤ text.size ∧ text.size ≤ 8016) ∧ (0 ≤ num ∧ num ≤ 1000000000)
/-- What OpenText tells. -/
def OpenIs (key : ByteArray) (num : Int) (text t : ByteArray) (ok : Bool) : Prop :=
  (¬ OpenIn num text ∧ t = ⟨#[]⟩ ∧ ok = false) ∨
  (OpenIn num text ∧ ok = ((tagP key num.toNat (text.extract 0 (text.size - 16))).toList == (text.extract (text.size - 16) text.size).toList) ∧ t = if ok = true then openP key num.toNat (text.extract 0 (text.size - 16)) else ⟨#[]⟩)
theorem open_is (key : ByteArray) (num : Int) (text : ByteArray) : ∃ t ok, OpenIs key num text t ok := by
  by_cases h : OpenIn num text
  · exact ⟨_, _, .inr ⟨h, rfl, rfl⟩⟩
  · exact ⟨_, _, .inl ⟨h, rfl, rfl⟩⟩
end Go.Proofs.YtoaifgblbfdncaaGreatDoor
namespace Go.Proofs.YtoaifgblbfdncaaGreatDoor
open Go.RowKit

theorem flatIntN : Flat Lay.int := ⟨fun _ _ _ _ h => ⟨rfl, h⟩, fun _ _ _ _ _ h => h.1, fun _ _ _ _ h => h⟩
end Go.Proofs.YtoaifgblbfdncaaGreatDoor
namespace Go.Proofs.YtoaifgblbfdncaaGreatDoor
open Go.RowKit

abbrev OPkT : TypeId := 38
/-- A set of keys opens a packet. -/
def OpensP (x2 : ByteArray) (r4 : List Int) (num : Int) (body : ByteArray) (r5 : List Int) (t : ByteArray) (ok : Bool) : Prop :=
  (ok = true ∧ FreshP r4 num ∧ OpenIs x2 num body t true ∧ NoteIs r4 num r5) ∨ (ok = false ∧ ¬ (FreshP r4 num ∧ ∃ t, OpenIs x2 num body t true) ∧ r5 = r4 ∧ t = ⟨#[]⟩)
theorem open_one {key : ByteArray} {num : Int} {text t1 t2 : ByteArray} {b1 b2 : Bool} (h : OpenIs key num text t1 b1) (k : OpenIs key num text t2 b2) : t1 = t2 ∧ b1 = b2 := by
  rcases h with ⟨h1, rfl, rfl⟩ | ⟨h1, rfl, rfl⟩
  · rcases k with ⟨_, rfl, rfl⟩ | ⟨k1, _⟩
    · exact ⟨rfl, rfl⟩
    · exact absurd k1 h1
  · rcases k with ⟨k1, _⟩ | ⟨_, rfl, rfl⟩
    · exact absurd h1 k1
    · exact ⟨rfl, rfl⟩
/-- The slot, the packet and the result in their variables. -/
structure OSV (w : World) (s p : Array Value) (X : World) : Prop where
  s : VarA w.heap.size SlotT s X
  p : VarA (w.heap.size + 1) OPkT p X
  r : VarA (w.heap.size + 1 + 1) SlotT #[.int .i64 0, .string ⟨#[]⟩, .string ⟨#[]⟩, .int .i64 0, .slice none 0 0, .int .i64 0] X
  below : Below w.heap.size w X
theorem OSV.next {w X Y : World} {s p : Array Value} (h : OSV w s p X) (hb : Below X.heap.size X Y) : OSV w s p Y := ⟨h.s.next hb, h.p.next hb, h.r.next hb, h.below.trans (hb.mono h.below.size)⟩
theorem OSV.new {w : World} {s p : Array Value} : OSV w s p (((w.alloc (.cells s SlotT)).alloc (.cells p OPkT)).alloc (.cells #[.int .i64 0, .string ⟨#[]⟩, .string ⟨#[]⟩, .int .i64 0, .slice none 0 0, .int .i64 0] SlotT)) := by
  have h2 := VarA.new (w.alloc (.cells s SlotT)) OPkT p
  have h3 := VarA.new ((w.alloc (.cells s SlotT)).alloc (.cells p OPkT)) SlotT #[.int .i64 0, .string ⟨#[]⟩, .string ⟨#[]⟩, .int .i64 0, .slice none 0 0, .int .i64 0]
  rw [show (w.alloc (.cells s SlotT)).heap.size = w.heap.size + 1 by simp] at h2
  rw [show ((w.alloc (.cells s SlotT)).alloc (.cells p OPkT)).heap.size = w.heap.size + 1 + 1 by simp] at h3
  exact ⟨((VarA.new w SlotT s).alloc _).alloc _, h2.alloc _, h3, (((Below.refl w.heap.size w).alloc (Nat.le_refl _) _).alloc (by simp) _).alloc (by simp; omega) _⟩

end Go.Proofs.YtoaifgblbfdncaaGreatDoor
namespace Go.Proofs.YtoaifgblbfdncaaGreatDoor
open Go.RowKit

abbrev PkT : TypeId := 38
/-- A right packet. -/
def PkOkP (op key fr dst num : Int) (acks : List Int) (body : ByteArray) : Prop :=
  (1 ≤ op ∧ op ≤ 3) ∧ (0 ≤ key ∧ key ≤ 7) ∧ (1 ≤ fr ∧ fr ≤ 99) ∧ (1 ≤ dst ∧ dst ≤ 99) ∧ (0 ≤ num ∧ num ≤ 1000000000) ∧ acks.length ≤ 4 ∧ body.size ≤ 120 ∧ (∀ x ∈ acks, (1 ≤ x ∧ x ≤ 1000000000) ∧ op ≠ 3) ∧ (op ≠ 2 ∨ (body = ⟨#[]⟩ ∧ num = 0))
def PkTold (op key fr dst num : Int) (acks : List Int) (body : ByteArray) (e : Ending) : Prop := (PkOkP op key fr dst num acks body ∧ e = .returned (.bool true)) ∨ (¬ PkOkP op key fr dst num acks body ∧ e = .returned (.bool false))

set_option maxRecDepth 100000 in
set_option maxHeartbeats 3200000 in
theorem specPacketOk_any (op key fr dst num : Int) (v : Value) (acks : List Int) (body : ByteArray) (hl : acks.length ≤ 100000000) (hb : body.size ≤ 100000000) (w : World) (h : layIntS.rd w [v] acks) :
    Calls Tryz.prog 13 #[.agg #[.int .i64 op, .int .i64 key, .int .i64 fr, .int .i64 dst, .int .i64 num, v, .string body]] w fun e w' => PkTold op key fr dst num acks body e ∧ Below w.heap.size w w' := by
  obtain ⟨ao, cp, rfl⟩ := rows_form h
  have HR := Lib.hid h
  have A0 := Lib.hid (VarA.new w PkT #[.int .i64 op, .int .i64 key, .int .i64 fr, .int .i64 dst, .int .i64 num, .slice ao acks.length cp, .string body])
  have B0 := Lib.hid ((Below.refl w.heap.size w).alloc (Nat.le_refl _) (.cells #[.int .i64 op, .int .i64 key, .int .i64 fr, .int .i64 dst, .int .i64 num, .slice ao acks.length cp, .string body] PkT))
  clear h
  go_enter Tryz.func13, Tryz.ntmps13
  go_upto_region 1 with fail
  generalize w.alloc (.cells #[.int .i64 op, .int .i64 key, .int .i64 fr, .int .i64 dst, .int .i64 num, .slice ao acks.length cp, .string body] PkT) = Y at *
  have c0 : Y.cell? ⟨w.heap.size, 0, none⟩ = some (.int .i64 op) := A0.out.cell 0
  have c1 : Y.cell? ⟨w.heap.size, 1, none⟩ = some (.int .i64 key) := A0.out.cell 1
  have c2 : Y.cell? ⟨w.heap.size, 2, none⟩ = some (.int .i64 fr) := A0.out.cell 2
  have c3 : Y.cell? ⟨w.heap.size, 3, none⟩ = some (.int .i64 dst) := A0.out.cell 3
  have c4 : Y.cell? ⟨w.heap.size, 4, none⟩ = some (.int .i64 num) := A0.out.cell 4
  have c5 : Y.cell? ⟨w.heap.size, 5, none⟩ = some (.slice ao acks.length cp) := A0.out.cell 5
  have c6 : Y.cell? ⟨w.heap.size, 6, none⟩ = some (.string body) := A0.out.cell 6
  by_cases hop : 1 ≤ op ∧ op ≤ 3
  · have K := Lib.hid (inRange_yes op 1 3 hop.1 hop.2)
    go_wp2_with fail
    refine (K.out _).mono ?_
    rintro e Z0 ⟨rfl, hw⟩
    rw [hw]
    clear hw K
    clear Z0
    by_cases hkey : 0 ≤ key ∧ key ≤ 7
    · have K := Lib.hid (inRange_yes key 0 7 hkey.1 hkey.2)
      go_wp2_with fail
      refine (K.out _).mono ?_
      rintro e Z1 ⟨rfl, hw⟩
      rw [hw]
      clear hw K
      clear Z1
      by_cases hfr : 1 ≤ fr ∧ fr ≤ 99
      · have K := Lib.hid (inRange_yes fr 1 99 hfr.1 hfr.2)
        go_wp2_with fail
        refine (K.out _).mono ?_
        rintro e Z2 ⟨rfl, hw⟩
        rw [hw]
        clear hw K
        clear Z2
        by_cases hdst : 1 ≤ dst ∧ dst ≤ 99
        · have K := Lib.hid (inRange_yes dst 1 99 hdst.1 hdst.2)
          go_wp2_with fail
          refine (K.out _).mono ?_
          rintro e Z3 ⟨rfl, hw⟩
          rw [hw]
          clear hw K
          clear Z3
          by_cases hnum : 0 ≤ num ∧ num ≤ 1000000000
          · have K := Lib.hid (inRange_yes num 0 1000000000 hnum.1 hnum.2)
            go_wp2_with fail
            refine (K.out _).mono ?_
            rintro e Z4 ⟨rfl, hw⟩
            rw [hw]
            clear hw K
            clear Z4
            by_cases hac : acks.length ≤ 4
            · have hac' : ¬ ((4 : Int) < (acks.length : Int)) := by omega
              by_cases hbo : body.size ≤ 120
              · have hbo' : ¬ ((120 : Int) < (body.size : Int)) := by omega
                go_wp2_with fail
                go_loop [3] (fun c => ∃ j : Nat, j ≤ acks.length ∧ c = .int .i64 j ∧ ∀ i, (hi : i < acks.length) → i < j → (1 ≤ acks[i] ∧ acks[i] ≤ 1000000000) ∧ op ≠ 3) (fun c => acks.length - (intOf c).toNat)
                case atStart => exact ⟨0, Nat.zero_le _, rfl, fun i _ h => absurd h (by omega)⟩
                case round =>
                  obtain ⟨j, hj, rfl, hall⟩ := hrel
                  have HA := Lib.hid hall
                  clear hall
                  by_cases hlt : j < acks.length
                  · have hlt' : (j : Int) < (acks.length : Int) := by omega
                    obtain ⟨g, off, cap, hv, hg, hcell⟩ := ints_get (layIntS.below HR.out B0.out) j hlt
                    simp only [Value.slice.injEq] at hv
                    obtain ⟨rfl, -, rfl⟩ := hv
                    have HX : Hid (¬ ((1 ≤ acks[j] ∧ acks[j] ≤ 1000000000) ∧ op ≠ 3) → ¬ PkOkP op key fr dst num acks body) := fun h hk => h (hk.2.2.2.2.2.2.2.1 _ (List.getElem_mem hlt))
                    have HNX : Hid (((1 ≤ acks[j] ∧ acks[j] ≤ 1000000000) ∧ op ≠ 3) → ∀ i, (hi : i < acks.length) → i < j + 1 → (1 ≤ acks[i] ∧ acks[i] ≤ 1000000000) ∧ op ≠ 3) := fun hx i hi h => by
                      rcases Nat.lt_or_ge i j with h2 | h2
                      · exact HA.out i hi h2
                      · have : i = j := by omega
                        subst this
                        exact hx
                    generalize acks[j] = x at hcell HX HNX
                    by_cases hx : 1 ≤ x ∧ x ≤ 1000000000
                    · have K := Lib.hid (inRange_yes x 1 1000000000 hx.1 hx.2)
                      by_cases h3 : op = 3
                      · have HN := Lib.hid (HX.out (fun h => h.2 h3))
                        have h3' : (op == 3) = true := by rw [beq_iff_eq]; exact h3
                        clear h3
                        go_wp2_with fail
                        refine (K.out _).mono ?_
                        rintro e Z ⟨rfl, hw⟩
                        rw [hw]
                        clear hw
                        go_wp2_with fail
                        go_ret
                        exact ⟨.inr ⟨HN.out, rfl⟩, B0.out⟩
                      · have h3' : (op == 3) = false := by rw [beq_eq_false_iff_ne]; exact h3
                        have HJ := Lib.hid (HNX.out ⟨hx, h3⟩)
                        clear h3
                        go_wp2_with fail
                        refine (K.out _).mono ?_
                        rintro e Z ⟨rfl, hw⟩
                        rw [hw]
                        clear hw
                        go_wp2_with fail
                        go_round
                        case rel => exact ⟨j + 1, by omega, by go_num, HJ.out⟩
                        case measure => simp [intOf]; omega
                    · have K := Lib.hid (inRange_no x 1 1000000000 (by omega))
                      have HN := Lib.hid (HX.out (fun h => hx h.1))
                      go_wp2_with fail
                      refine (K.out _).mono ?_
                      rintro e Z ⟨rfl, hw⟩
                      rw [hw]
                      clear hw
                      go_wp2_with fail
                      go_ret
                      exact ⟨.inr ⟨HN.out, rfl⟩, B0.out⟩
                  · have hlt' : ¬ ((j : Int) < (acks.length : Int)) := by omega
                    have HALL : Hid (∀ x ∈ acks, (1 ≤ x ∧ x ≤ 1000000000) ∧ op ≠ 3) := fun x hx => by
                      obtain ⟨i, hi, rfl⟩ := List.getElem_of_mem hx
                      exact HA.out i hi (by omega)
                    by_cases h2 : op = 2
                    · have h2' : (op != 2) = false := by rw [h2]; rfl
                      by_cases hbe : body = ⟨#[]⟩
                      · subst hbe
                        by_cases hnz : num = 0
                        · have HY : Hid (PkOkP op key fr dst num acks ⟨#[]⟩) := ⟨hop, hkey, hfr, hdst, hnum, hac, hbo, HALL.out, .inr ⟨rfl, hnz⟩⟩
                          have hnz' : (num == 0) = true := by rw [beq_iff_eq]; exact hnz
                          clear h2 hnz
                          go_wp2_with fail
                          go_ret
                          exact ⟨.inl ⟨HY.out, rfl⟩, B0.out⟩
                        · have HN : Hid (¬ PkOkP op key fr dst num acks ⟨#[]⟩) := fun h => by
                            rcases h.2.2.2.2.2.2.2.2 with h4 | h4
                            · exact h4 h2
                            · exact hnz h4.2
                          have hnz' : (num == 0) = false := by rw [beq_eq_false_iff_ne]; exact hnz
                          clear h2 hnz
                          go_wp2_with fail
                          go_ret
                          exact ⟨.inr ⟨HN.out, rfl⟩, B0.out⟩
                      · have HN : Hid (¬ PkOkP op key fr dst num acks body) := fun h => by
                          rcases h.2.2.2.2.2.2.2.2 with h4 | h4
                          · exact h4 h2
                          · exact hbe h4.1
                        have hbt : ¬ (body.toList = []) := fun e => hbe (by rw [ByteArray.toList_eq] at e; exact ByteArray.ext (Array.ext' e))
                        clear h2
                        go_wp2_with fail
                        go_ret
                        exact ⟨.inr ⟨HN.out, rfl⟩, B0.out⟩
                    · have h2' : (op != 2) = true := by rw [bne_iff_ne]; exact h2
                      have HY : Hid (PkOkP op key fr dst num acks body) := ⟨hop, hkey, hfr, hdst, hnum, hac, hbo, HALL.out, .inl h2⟩
                      clear h2
                      go_wp2_with fail
                      go_ret
                      exact ⟨.inl ⟨HY.out, rfl⟩, B0.out⟩
              · have hbo' : (120 : Int) < (body.size : Int) := by omega
                have HN : Hid (¬ PkOkP op key fr dst num acks body) := fun h => hbo h.2.2.2.2.2.2.1
                go_wp2_with fail
                go_ret
                exact ⟨.inr ⟨HN.out, rfl⟩, B0.out⟩
            · have hac' : (4 : Int) < (acks.length : Int) := by omega
              have HN : Hid (¬ PkOkP op key fr dst num acks body) := fun h => hac h.2.2.2.2.2.1
              go_wp2_with fail
              go_ret
              exact ⟨.inr ⟨HN.out, rfl⟩, B0.out⟩
          · have K := Lib.hid (inRange_no num 0 1000000000 (by omega))
            have HN : Hid (¬ PkOkP op key fr dst num acks body) := fun h => hnum h.2.2.2.2.1
            go_wp2_with fail
            refine (K.out _).mono ?_
            rintro e Z ⟨rfl, hw⟩
            rw [hw]
            clear hw K
            go_wp2_with fail
            go_ret
            exact ⟨.inr ⟨HN.out, rfl⟩, B0.out⟩
        · have K := Lib.hid (inRange_no dst 1 99 (by omega))
          have HN : Hid (¬ PkOkP op key fr dst num acks body) := fun h => hdst h.2.2.2.1
          go_wp2_with fail
          refine (K.out _).mono ?_
          rintro e Z ⟨rfl, hw⟩
          rw [hw]
          clear hw K
          go_wp2_with fail
          go_ret
          exact ⟨.inr ⟨HN.out, rfl⟩, B0.out⟩
      · have K := Lib.hid (inRange_no fr 1 99 (by omega))
        have HN : Hid (¬ PkOkP op key fr dst num acks body) := fun h => hfr h.2.2.1
        go_wp2_with fail
        refine (K.out _).mono ?_
        rintro e Z ⟨rfl, hw⟩
        rw [hw]
        clear hw K
        go_wp2_with fail
        go_ret
        exact ⟨.inr ⟨HN.out, rfl⟩, B0.out⟩
    · have K := Lib.hid (inRange_no key 0 7 (by omega))
      have HN : Hid (¬ PkOkP op key fr dst num acks body) := fun h => hkey h.2.1
      go_wp2_with fail
      refine (K.out _).mono ?_
      rintro e Z ⟨rfl, hw⟩
      rw [hw]
      clear hw K
      go_wp2_with fail
      go_ret
      exact ⟨.inr ⟨HN.out, rfl⟩, B0.out⟩
  · have K := Lib.hid (inRange_no op 1 3 (by omega))
    have HN : Hid (¬ PkOkP op key fr dst num acks body) := fun h => hop h.1
    go_wp2_with fail
    refine (K.out _).mono ?_
    rintro e Z ⟨rfl, hw⟩
    rw [hw]
    clear hw K
    go_wp2_with fail
    go_ret
    exact ⟨.inr ⟨HN.out, rfl⟩, B0.out⟩

end Go.Proofs.YtoaifgblbfdncaaGreatDoor
