/-
  The given masks, and what opens a locked text.
  The given LockText.
  A row of ints of the call's own stays where an order is drawn.
  The given SealData.
  What SealData tells, of whatever row of no acks.
  The given OpenText.
  What OpenText tells at every argument, in plain words; the given one.
  The given NoteSeen.
  The given opening of a packet by one set of keys.
  The given PacketOk.
  Slots that are drawn stay right, in plain words; no program is spoken of here.
  The front and the back of two texts; no program is spoken of here.
  The front and the back of two texts, beside masks; no program is spoken of here.
-/
import Derived.Test.YtoaifgblbfdncaaDoorJ11
import Derived.Test.YtoaifgblbfdncaaDoorJ12
import Derived.Test.YtoaifgblbfdncaaDoorJ05
import Derived.Test.YtoaifgblbfdncaaDoorJ07
import Derived.Deep.DeepCutAuto
import Derived.Test.YtoaifgblbfdncaaDoorJ06
import Derived.Test.YtoaifgblbfdncaaDoorJ02
import Derived.Test.YtoaifgblbfdncaaDoorRows
namespace Go.Proofs.YtoaifgblbfdncaaDoor
open Go.RowKit

end Go.Proofs.YtoaifgblbfdncaaDoor
namespace Go.Proofs.YtoaifgblbfdncaaDoor
open Go.RowKit

end Go.Proofs.YtoaifgblbfdncaaDoor
namespace Go.Proofs.YtoaifgblbfdncaaDoor
open Go.RowKit

theorem own_drew {Y : World} {f : List Nat} {b : Nat} {c : List Value} {r : List Int} (h : layIntS.own Y b f c r) : layIntS.own Y.drew b f c r := layIntS.keep h (fun _ _ => rfl)

end Go.Proofs.YtoaifgblbfdncaaDoor
namespace Go.Proofs.YtoaifgblbfdncaaDoor
open Go.RowKit

abbrev SPkT : TypeId := 35
/-- A text may be sealed. -/
def SealP (x0 : Int) (x1 x2 : ByteArray) (x3 : Int) (r4 : List Int) (x5 : Int) (y0 : Int) (y1 y2 : ByteArray) (y3 : Int) (s4 : List Int) (y5 : Int) (fr dst : Int) (body : ByteArray) : Prop := SlotsP x0 x1 x2 x3 r4 x5 y0 y1 y2 y3 s4 y5 ∧ ¬ (NoneP x0 x1 x2 x3 r4 x5 ∨ x3 = 12) ∧ (1 ≤ fr ∧ fr ≤ 99) ∧ (1 ≤ dst ∧ dst ≤ 99) ∧ body.size ≤ 104
/-- What SealData tells. -/
def SealEnd (x0 : Int) (x1 x2 : ByteArray) (x3 : Int) (r4 : List Int) (x5 : Int) (y0 : Int) (y1 y2 : ByteArray) (y3 : Int) (s4 : List Int) (y5 : Int) (fr dst : Int) (body : ByteArray) (w : World) (e : Ending) (w' : World) : Prop :=
  ∃ (c k0 k1 k2 k3 k4 : Int) (k6 : ByteArray) (ok : Bool) (v4 u4 : Value) (f g : List Nat),
    ((ok = true ∧ SealP x0 x1 x2 x3 r4 x5 y0 y1 y2 y3 s4 y5 fr dst body ∧ c = x3 + 1 ∧ k0 = 3 ∧ k1 = x0 % 8 ∧ k2 = fr ∧ k3 = dst ∧ k4 = x3 + 1 ∧ k6 = lockP x1 (x3 + 1).toNat body) ∨
     (ok = false ∧ ¬ SealP x0 x1 x2 x3 r4 x5 y0 y1 y2 y3 s4 y5 fr dst body ∧ c = x3 ∧ k0 = 0 ∧ k1 = 0 ∧ k2 = 0 ∧ k3 = 0 ∧ k4 = 0 ∧ k6 = ⟨#[]⟩)) ∧
    e = .returned (.tuple #[.agg #[.int .i64 x0, .string x1, .string x2, .int .i64 c, v4, .int .i64 x5, .int .i64 y0, .string y1, .string y2, .int .i64 y3, u4, .int .i64 y5], .agg #[.int .i64 k0, .int .i64 k1, .int .i64 k2, .int .i64 k3, .int .i64 k4, .slice none 0 0, .string k6], .bool ok]) ∧ (f ++ g).Nodup ∧ layIntS.own w' w.heap.size f [v4] r4 ∧ layIntS.own w' w.heap.size g [u4] s4 ∧ Below w.heap.size w w'
/-- The slots, both results and the copy in their variables. -/
structure SDV (w : World) (G : Nat) (s o : Array Value) (f g : List Nat) (v u : Value) (r4 s4 : List Int) (X : World) : Prop where
  s : VarA w.heap.size SlotsT s X
  r : VarA (w.heap.size + 1) SlotsT #[.int .i64 0, .string ⟨#[]⟩, .string ⟨#[]⟩, .int .i64 0, .slice none 0 0, .int .i64 0, .int .i64 0, .string ⟨#[]⟩, .string ⟨#[]⟩, .int .i64 0, .slice none 0 0, .int .i64 0] X
  k : VarA (w.heap.size + 1 + 1) SPkT #[.int .i64 0, .int .i64 0, .int .i64 0, .int .i64 0, .int .i64 0, .slice none 0 0, .string ⟨#[]⟩] X
  o : VarA G SlotsT o X
  far : w.heap.size + 1 + 1 + 1 ≤ G
  rowM : layIntS.own X (w.heap.size + 1 + 1 + 1) f [v] r4
  rowL : layIntS.own X (w.heap.size + 1 + 1 + 1) g [u] s4
  dup : (f ++ g).Nodup
  off : ∀ a ∈ f ++ g, a ≠ G
  below : Below w.heap.size w X
section
variable {w X Y : World} {G : Nat} {s o : Array Value} {f g : List Nat} {v u : Value} {r4 s4 : List Int}
theorem SDV.next (h : SDV w G s o f g v u r4 s4 X) (hb : Below X.heap.size X Y) : SDV w G s o f g v u r4 s4 Y := ⟨h.s.next hb, h.r.next hb, h.k.next hb, h.o.next hb, h.far, layIntS.next h.rowM hb, layIntS.next h.rowL hb, h.dup, h.off, h.below.trans (hb.mono h.below.size)⟩
theorem SDV.count {o0 o1 o2 o3 o4 o5 o6 o7 o8 o9 o10 o11 : Value} (h : SDV w G s #[o0, o1, o2, o3, o4, o5, o6, o7, o8, o9, o10, o11] f g v u r4 s4 X) (c : Value) : SDV w G s #[o0, o1, o2, c, o4, o5, o6, o7, o8, o9, o10, o11] f g v u r4 s4 (X.setCell ⟨G, 3, none⟩ c) := by
  have hf := h.far
  have ho : Only G X (X.setCell ⟨G, 3, none⟩ c) := Only.setCell 3 c
  exact ⟨h.s.off 3 _ (by omega), h.r.off 3 _ (by omega), h.k.off 3 _ (by omega), h.o.set 3 _, h.far, layIntS.keep h.rowM (fun a ha => ho.block a (layIntS.blocks h.rowM a ha).2 (h.off a (List.mem_append_left _ ha))), layIntS.keep h.rowL (fun a ha => ho.block a (layIntS.blocks h.rowL a ha).2 (h.off a (List.mem_append_right _ ha))), h.dup, h.off, h.below.setCell (p := ⟨G, 3, none⟩) (by show w.heap.size ≤ G; omega) _⟩
theorem only_under {lo q : Nat} {X Y : World} (h : Only q X Y) (hq : lo ≤ q) (hl : lo ≤ X.heap.size) : Below lo X Y := ⟨h.os, h.tape, h.output, h.size, fun k hk => h.block k (by omega) (by omega)⟩
theorem putSeven {T : TypeId} {q0 q1 q2 q3 q4 q5 q6 : Value} (h : VarA G T #[q0, q1, q2, q3, q4, q5, q6] X) (u0 u1 u2 u3 u4 u5 u6 : Value) : VarA G T #[u0, u1, u2, u3, u4, u5, u6] (((((((X.setCell ⟨G, 0, none⟩ (u0)).setCell ⟨G, 1, none⟩ (u1)).setCell ⟨G, 2, none⟩ (u2)).setCell ⟨G, 3, none⟩ (u3)).setCell ⟨G, 4, none⟩ (u4)).setCell ⟨G, 5, none⟩ (u5)).setCell ⟨G, 6, none⟩ (u6)) := by
  have h0 : VarA G T #[u0, q1, q2, q3, q4, q5, q6] (X.setCell ⟨G, 0, none⟩ (u0)) := h.set 0 u0
  have h1 : VarA G T #[u0, u1, q2, q3, q4, q5, q6] ((X.setCell ⟨G, 0, none⟩ (u0)).setCell ⟨G, 1, none⟩ (u1)) := h0.set 1 u1
  have h2 : VarA G T #[u0, u1, u2, q3, q4, q5, q6] (((X.setCell ⟨G, 0, none⟩ (u0)).setCell ⟨G, 1, none⟩ (u1)).setCell ⟨G, 2, none⟩ (u2)) := h1.set 2 u2
  have h3 : VarA G T #[u0, u1, u2, u3, q4, q5, q6] ((((X.setCell ⟨G, 0, none⟩ (u0)).setCell ⟨G, 1, none⟩ (u1)).setCell ⟨G, 2, none⟩ (u2)).setCell ⟨G, 3, none⟩ (u3)) := h2.set 3 u3
  have h4 : VarA G T #[u0, u1, u2, u3, u4, q5, q6] (((((X.setCell ⟨G, 0, none⟩ (u0)).setCell ⟨G, 1, none⟩ (u1)).setCell ⟨G, 2, none⟩ (u2)).setCell ⟨G, 3, none⟩ (u3)).setCell ⟨G, 4, none⟩ (u4)) := h3.set 4 u4
  have h5 : VarA G T #[u0, u1, u2, u3, u4, u5, q6] ((((((X.setCell ⟨G, 0, none⟩ (u0)).setCell ⟨G, 1, none⟩ (u1)).setCell ⟨G, 2, none⟩ (u2)).setCell ⟨G, 3, none⟩ (u3)).setCell ⟨G, 4, none⟩ (u4)).setCell ⟨G, 5, none⟩ (u5)) := h4.set 5 u5
  exact h5.set 6 u6
/-- Both results are written. -/
theorem SDV.told (h : SDV w G s o f g v u r4 s4 X) (ho : ∀ a, a ≠ w.heap.size + 1 → a ≠ w.heap.size + 1 + 1 → a < X.heap.size → Y.heap[a]? = X.heap[a]?) : layIntS.own Y w.heap.size f [v] r4 ∧ layIntS.own Y w.heap.size g [u] s4 :=
  ⟨layIntS.lower (layIntS.keep h.rowM (fun a ha => ho a (by have := (layIntS.blocks h.rowM a ha).1; omega) (by have := (layIntS.blocks h.rowM a ha).1; omega) (layIntS.blocks h.rowM a ha).2)) (by omega), layIntS.lower (layIntS.keep h.rowL (fun a ha => ho a (by have := (layIntS.blocks h.rowL a ha).1; omega) (by have := (layIntS.blocks h.rowL a ha).1; omega) (layIntS.blocks h.rowL a ha).2)) (by omega)⟩
end

end Go.Proofs.YtoaifgblbfdncaaDoor
namespace Go.Proofs.YtoaifgblbfdncaaDoor
open Go.RowKit

/-- What is told of a packet. -/
def SealIs (x0 : Int) (x1 x2 : ByteArray) (x3 : Int) (r4 : List Int) (x5 : Int) (y0 : Int) (y1 y2 : ByteArray) (y3 : Int) (s4 : List Int) (y5 : Int) (fr dst : Int) (body : ByteArray) (c k0 k1 k2 k3 k4 : Int) (k6 : ByteArray) (ok : Bool) : Prop :=
  (ok = true ∧ SealP x0 x1 x2 x3 r4 x5 y0 y1 y2 y3 s4 y5 fr dst body ∧ c = x3 + 1 ∧ k0 = 3 ∧ k1 = x0 % 8 ∧ k2 = fr ∧ k3 = dst ∧ k4 = x3 + 1 ∧ k6 = lockP x1 (x3 + 1).toNat body) ∨
  (ok = false ∧ ¬ SealP x0 x1 x2 x3 r4 x5 y0 y1 y2 y3 s4 y5 fr dst body ∧ c = x3 ∧ k0 = 0 ∧ k1 = 0 ∧ k2 = 0 ∧ k3 = 0 ∧ k4 = 0 ∧ k6 = ⟨#[]⟩)
theorem seal_is (x0 : Int) (x1 x2 : ByteArray) (x3 : Int) (r4 : List Int) (x5 : Int) (y0 : Int) (y1 y2 : ByteArray) (y3 : Int) (s4 : List Int) (y5 : Int) (fr dst : Int) (body : ByteArray) : ∃ c k0 k1 k2 k3 k4 k6 ok, SealIs x0 x1 x2 x3 r4 x5 y0 y1 y2 y3 s4 y5 fr dst body c k0 k1 k2 k3 k4 k6 ok := by
  by_cases h : SealP x0 x1 x2 x3 r4 x5 y0 y1 y2 y3 s4 y5 fr dst body
  · exact ⟨_, _, _, _, _, _, _, _, .inl ⟨rfl, h, rfl, rfl, rfl, rfl, rfl, rfl, rfl⟩⟩
  · exact ⟨_, _, _, _, _, _, _, _, .inr ⟨rfl, h, rfl, rfl, rfl, rfl, rfl, rfl, rfl⟩⟩
/-- Slots, a packet without acks and whether are handed back. -/
def SealMade (x0 : Int) (x1 x2 : ByteArray) (c : Int) (r4 : List Int) (x5 : Int) (y0 : Int) (y1 y2 : ByteArray) (y3 : Int) (s4 : List Int) (y5 : Int) (k0 k1 k2 k3 k4 : Int) (k6 : ByteArray) (ok : Bool) (w : World) (e : Ending) (w' : World) : Prop :=
  ∃ (v4 u4 va : Value) (f g h : List Nat), e = .returned (.tuple #[.agg #[.int .i64 x0, .string x1, .string x2, .int .i64 c, v4, .int .i64 x5, .int .i64 y0, .string y1, .string y2, .int .i64 y3, u4, .int .i64 y5], .agg #[.int .i64 k0, .int .i64 k1, .int .i64 k2, .int .i64 k3, .int .i64 k4, va, .string k6], .bool ok]) ∧ ((f ++ g) ++ h).Nodup ∧ layIntS.own w' w.heap.size f [v4] r4 ∧ layIntS.own w' w.heap.size g [u4] s4 ∧ layIntS.own w' w.heap.size h [va] [] ∧ Below w.heap.size w w'
theorem seal_made {x0 : Int} {x1 x2 : ByteArray} {x3 : Int} {r4 : List Int} {x5 : Int} {y0 : Int} {y1 y2 : ByteArray} {y3 : Int} {s4 : List Int} {y5 : Int} {fr dst : Int} {body : ByteArray} {c k0 k1 k2 k3 k4 : Int} {k6 : ByteArray} {ok : Bool} {w : World} {e : Ending} {w' : World} (hi : SealIs x0 x1 x2 x3 r4 x5 y0 y1 y2 y3 s4 y5 fr dst body c k0 k1 k2 k3 k4 k6 ok) (h : SealEnd x0 x1 x2 x3 r4 x5 y0 y1 y2 y3 s4 y5 fr dst body w e w') : SealMade x0 x1 x2 c r4 x5 y0 y1 y2 y3 s4 y5 k0 k1 k2 k3 k4 k6 ok w e w' := by
  obtain ⟨c', a0, a1, a2, a3, a4, a6, ok', v4, u4, f, g, hc, rfl, hd, h1, h2, hb⟩ := h
  have hsame : c' = c ∧ a0 = k0 ∧ a1 = k1 ∧ a2 = k2 ∧ a3 = k3 ∧ a4 = k4 ∧ a6 = k6 ∧ ok' = ok := by
    rcases hc with ⟨rfl, p, rfl, rfl, rfl, rfl, rfl, rfl, rfl⟩ | ⟨rfl, p, rfl, rfl, rfl, rfl, rfl, rfl, rfl⟩ <;> rcases hi with ⟨rfl, q, rfl, rfl, rfl, rfl, rfl, rfl, rfl⟩ | ⟨rfl, q, rfl, rfl, rfl, rfl, rfl, rfl, rfl⟩
    · exact ⟨rfl, rfl, rfl, rfl, rfl, rfl, rfl, rfl⟩
    · exact absurd p q
    · exact absurd q p
    · exact ⟨rfl, rfl, rfl, rfl, rfl, rfl, rfl, rfl⟩
  obtain ⟨rfl, rfl, rfl, rfl, rfl, rfl, rfl, rfl⟩ := hsame
  exact ⟨v4, u4, _, f, g, [], rfl, by rw [List.append_nil]; exact hd, h1, h2, none_own _ _, hb⟩

end Go.Proofs.YtoaifgblbfdncaaDoor
namespace Go.Proofs.YtoaifgblbfdncaaDoor
open Go.RowKit

end Go.Proofs.YtoaifgblbfdncaaDoor
namespace Go.Proofs.YtoaifgblbfdncaaDoor
open Go.RowKit

/-- Whether a text and a number can be those of a locked one. -/
def OpenIn (num : Int) (text : ByteArray) : Prop := (16 ≤ text.size ∧ text.size ≤ 8016) ∧ (0 ≤ num ∧ num ≤ 1000000000)
/-- What OpenText tells. -/
def OpenIs (key : ByteArray) (num : Int) (text t : ByteArray) (ok : Bool) : Prop :=
  (¬ OpenIn num text ∧ t = ⟨#[]⟩ ∧ ok = false) ∨
  (OpenIn num text ∧ ok = ((tagP key num.toNat (text.extract 0 (text.size - 16))).toList == (text.extract (text.size - 16) text.size).toList) ∧ t = if ok = true then openP key num.toNat (text.extract 0 (text.size - 16)) else ⟨#[]⟩)
theorem open_is (key : ByteArray) (num : Int) (text : ByteArray) : ∃ t ok, OpenIs key num text t ok := by
  by_cases h : OpenIn num text
  · exact ⟨_, _, .inr ⟨h, rfl, rfl⟩⟩
  · exact ⟨_, _, .inl ⟨h, rfl, rfl⟩⟩
theorem open_in {key : ByteArray} {num : Int} {text t : ByteArray} (h : OpenIs key num text t true) : OpenIn num text := by
  rcases h with ⟨-, -, h⟩ | ⟨h, -⟩
  · cases h
  · exact h
end Go.Proofs.YtoaifgblbfdncaaDoor
namespace Go.Proofs.YtoaifgblbfdncaaDoor
open Go.RowKit

theorem flatIntN : Flat Lay.int := ⟨fun _ _ _ _ h => ⟨rfl, h⟩, fun _ _ _ _ _ h => h.1, fun _ _ _ _ h => h⟩
theorem note_len {xs r : List Int} {n : Int} (h : NoteIs xs n r) : r.length ≤ xs.length + 6 := by
  have h1 := h
  rcases h with ⟨hf, _⟩ | ⟨_, rfl⟩
  · have := (note_right hf h1).1.1
    omega
  · omega
theorem put_len (n : Int) (xs : List Int) : (xs.filter (fun x => decide (n < x))).length + (xs.filter (fun x => decide (x < n))).length ≤ xs.length := by
  induction xs with
  | nil => simp
  | cons x l ih =>
    rw [List.filter_cons, List.filter_cons]
    by_cases a : n < x
    · have b : ¬ (x < n) := by omega
      simp only [a, b, decide_true, decide_false, if_true, List.length_cons, Bool.false_eq_true, if_false]
      omega
    · by_cases b : x < n
      · simp only [a, b, decide_true, decide_false, if_true, List.length_cons, Bool.false_eq_true, if_false]
        omega
      · simp only [a, b, decide_false, List.length_cons, Bool.false_eq_true, if_false]
        omega
/-- A row of ints, to be read, at a place that is known. -/
theorem ints_own_at {w : World} {b : Nat} {f : List Nat} {g n c : Nat} {xs : List Int} (h : layIntS.own w b f [.slice (some ⟨g, 0, none⟩) n c] xs) {j : Nat} (hj : j < xs.length) : w.cell? ⟨g, j, none⟩ = some (.int .i64 xs[j]) := by
  have := ints_at (layIntS.read h) hj rfl
  rwa [Nat.zero_add] at this

end Go.Proofs.YtoaifgblbfdncaaDoor
namespace Go.Proofs.YtoaifgblbfdncaaDoor
open Go.RowKit

abbrev OPkT : TypeId := 35
/-- A set of keys opens a packet. -/
def OpensP (x2 : ByteArray) (r4 : List Int) (num : Int) (body : ByteArray) (r5 : List Int) (t : ByteArray) (ok : Bool) : Prop :=
  (ok = true ∧ FreshP r4 num ∧ OpenIs x2 num body t true ∧ NoteIs r4 num r5) ∨ (ok = false ∧ ¬ (FreshP r4 num ∧ ∃ t, OpenIs x2 num body t true) ∧ r5 = r4 ∧ t = ⟨#[]⟩)
theorem opens_is (x2 : ByteArray) (r4 : List Int) (num : Int) (body : ByteArray) : ∃ r5 t ok, OpensP x2 r4 num body r5 t ok := by
  by_cases h : FreshP r4 num ∧ ∃ t, OpenIs x2 num body t true
  · obtain ⟨h1, t, h2⟩ := h
    obtain ⟨r, hr⟩ := note_is r4 num
    exact ⟨r, t, true, .inl ⟨rfl, h1, h2, hr⟩⟩
  · exact ⟨r4, _, false, .inr ⟨rfl, h, rfl, rfl⟩⟩
theorem open_one {key : ByteArray} {num : Int} {text t1 t2 : ByteArray} {b1 b2 : Bool} (h : OpenIs key num text t1 b1) (k : OpenIs key num text t2 b2) : t1 = t2 ∧ b1 = b2 := by
  rcases h with ⟨h1, rfl, rfl⟩ | ⟨h1, rfl, rfl⟩
  · rcases k with ⟨_, rfl, rfl⟩ | ⟨k1, _⟩
    · exact ⟨rfl, rfl⟩
    · exact absurd k1 h1
  · rcases k with ⟨k1, _⟩ | ⟨_, rfl, rfl⟩
    · exact absurd h1 k1
    · exact ⟨rfl, rfl⟩
/-- The slot, the packet and the result in their variables. -/
structure OSV (w : World) (s p : Array Value) (X : World) : Prop where
  s : VarA w.heap.size SlotT s X
  p : VarA (w.heap.size + 1) OPkT p X
  r : VarA (w.heap.size + 1 + 1) SlotT #[.int .i64 0, .string ⟨#[]⟩, .string ⟨#[]⟩, .int .i64 0, .slice none 0 0, .int .i64 0] X
  below : Below w.heap.size w X
theorem OSV.next {w X Y : World} {s p : Array Value} (h : OSV w s p X) (hb : Below X.heap.size X Y) : OSV w s p Y := ⟨h.s.next hb, h.p.next hb, h.r.next hb, h.below.trans (hb.mono h.below.size)⟩
theorem OSV.seen {w X : World} {x0 x1 x2 x3 x4 x5 : Value} {p : Array Value} (h : OSV w #[x0, x1, x2, x3, x4, x5] p X) (v : Value) : OSV w #[x0, x1, x2, x3, v, x5] p (X.setCell ⟨w.heap.size, 4, none⟩ v) := ⟨h.s.set 4 _, h.p.off 4 _ (by omega), h.r.off 4 _ (by omega), h.below.setCell (p := ⟨w.heap.size, 4, none⟩) (Nat.le_refl _) _⟩
theorem OSV.new {w : World} {s p : Array Value} : OSV w s p (((w.alloc (.cells s SlotT)).alloc (.cells p OPkT)).alloc (.cells #[.int .i64 0, .string ⟨#[]⟩, .string ⟨#[]⟩, .int .i64 0, .slice none 0 0, .int .i64 0] SlotT)) := by
  have h2 := VarA.new (w.alloc (.cells s SlotT)) OPkT p
  have h3 := VarA.new ((w.alloc (.cells s SlotT)).alloc (.cells p OPkT)) SlotT #[.int .i64 0, .string ⟨#[]⟩, .string ⟨#[]⟩, .int .i64 0, .slice none 0 0, .int .i64 0]
  rw [show (w.alloc (.cells s SlotT)).heap.size = w.heap.size + 1 by simp] at h2
  rw [show ((w.alloc (.cells s SlotT)).alloc (.cells p OPkT)).heap.size = w.heap.size + 1 + 1 by simp] at h3
  exact ⟨((VarA.new w SlotT s).alloc _).alloc _, h2.alloc _, h3, (((Below.refl w.heap.size w).alloc (Nat.le_refl _) _).alloc (by simp) _).alloc (by simp; omega) _⟩

/-- What is told of a packet that is opened by one set of keys. -/
def SlotOpened (x0 : Int) (x1 x2 : ByteArray) (x3 : Int) (v4 : Value) (x5 : Int) (r5 : List Int) (t : ByteArray) (ok : Bool) (w : World) (e : Ending) (w' : World) : Prop := ∃ v5, e = .returned (.tuple #[.agg #[.int .i64 x0, .string x1, .string x2, .int .i64 x3, v5, .int .i64 x5], .string t, .bool ok]) ∧ ((ok = false ∧ v5 = v4) ∨ (ok = true ∧ ∃ f, f.Nodup ∧ layIntS.own w' w.heap.size f [v5] r5)) ∧ Below w.heap.size w w'
end Go.Proofs.YtoaifgblbfdncaaDoor
namespace Go.Proofs.YtoaifgblbfdncaaDoor
open Go.RowKit

abbrev PkT : TypeId := 35
/-- A right packet. -/
def PkOkP (op key fr dst num : Int) (acks : List Int) (body : ByteArray) : Prop :=
  (1 ≤ op ∧ op ≤ 3) ∧ (0 ≤ key ∧ key ≤ 7) ∧ (1 ≤ fr ∧ fr ≤ 99) ∧ (1 ≤ dst ∧ dst ≤ 99) ∧ (0 ≤ num ∧ num ≤ 1000000000) ∧ acks.length ≤ 4 ∧ body.size ≤ 120 ∧ (∀ x ∈ acks, (1 ≤ x ∧ x ≤ 1000000000) ∧ op ≠ 3) ∧ (op ≠ 2 ∨ (body = ⟨#[]⟩ ∧ num = 0))
def PkTold (op key fr dst num : Int) (acks : List Int) (body : ByteArray) (e : Ending) : Prop := (PkOkP op key fr dst num acks body ∧ e = .returned (.bool true)) ∨ (¬ PkOkP op key fr dst num acks body ∧ e = .returned (.bool false))

end Go.Proofs.YtoaifgblbfdncaaDoor
namespace Go.Proofs.YtoaifgblbfdncaaDoor

/-- Right slots, the main ones keys, of an epoch at most m. -/
structure Good12 (m : Int) (x0 : Int) (x1 x2 : ByteArray) (x3 : Int) (r4 : List Int) (x5 : Int) (y0 : Int) (y1 y2 : ByteArray) (y3 : Int) (s4 : List Int) (y5 : Int) : Prop where
  p : SlotsP x0 x1 x2 x3 r4 x5 y0 y1 y2 y3 s4 y5
  k : KeysP x0 x1 x2 x3 r4 x5
  le : x0 ≤ m
section
variable {m x0 : Int} {x1 x2 : ByteArray} {x3 : Int} {r4 : List Int} {x5 y0 : Int} {y1 y2 : ByteArray} {y3 : Int} {s4 : List Int} {y5 : Int}
theorem keys_some (h : KeysP x0 x1 x2 x3 r4 x5) : ¬ NoneP x0 x1 x2 x3 r4 x5 := fun k => by
  have h1 := h.1.1
  have h2 := k.1
  omega
theorem slot_few (h : SlotP x0 x1 x2 x3 r4 x5) : x1.size ≤ 32 ∧ x2.size ≤ 32 ∧ r4.length ≤ 6 := by
  rcases h with h | h
  · exact ⟨by have := h.2.1; omega, by have := h.2.2.1; omega, by have := h.2.2.2.2.1; omega⟩
  · exact ⟨by have := h.2.1; omega, by have := h.2.2.1; omega, h.2.2.2.2.1.1⟩
theorem none_zero : NoneP 0 ⟨#[]⟩ ⟨#[]⟩ 0 [] 0 := ⟨rfl, rfl, rfl, rfl, rfl, rfl⟩
theorem none_seen : SeenP [] := ⟨by simp, (fun x h => by cases h), trivial, (fun x h => by cases h)⟩
theorem Good12.mono {n : Int} (h : Good12 m x0 x1 x2 x3 r4 x5 y0 y1 y2 y3 s4 y5) (hn : m ≤ n) : Good12 n x0 x1 x2 x3 r4 x5 y0 y1 y2 y3 s4 y5 := ⟨h.p, h.k, Int.le_trans h.le hn⟩
/-- The first keys. -/
theorem good_first {a b : ByteArray} (ha : a.size = 32) (hb : b.size = 32) : Good12 1 1 a b 0 [] 0 0 ⟨#[]⟩ ⟨#[]⟩ 0 [] 0 := by
  have hk : KeysP 1 a b 0 [] 0 := ⟨⟨by omega, by omega⟩, ha, hb, ⟨by omega, by omega⟩, none_seen, ⟨by omega, by omega⟩⟩
  exact ⟨⟨.inr hk, .inl none_zero, .inl none_zero⟩, hk, by omega⟩
/-- New keys. -/
theorem good_install {send op : ByteArray} {now u : Int} (h : Good12 m x0 x1 x2 x3 r4 x5 y0 y1 y2 y3 s4 y5) (hi : InstallP x0 x1 x2 x3 r4 x5 y0 y1 y2 y3 s4 y5 send op now) (hu : UntilIs x0 x1 x2 x3 r4 x5 now u) :
    u = now + 10 ∧ Good12 (m + 1) (x0 + 1) send op 0 [] 0 x0 x1 x2 x3 r4 u := by
  obtain rfl : u = now + 10 := by
    rcases hu with hu | hu
    · exact absurd hu.1 (keys_some h.k)
    · exact hu.2
  have h1 := h.k.1
  have h2 := hi.2.2.2.2
  have h3 := hi.2.2.2.1
  have h4 := h.le
  have hk : KeysP (x0 + 1) send op 0 [] 0 := ⟨⟨by omega, by omega⟩, hi.2.1, hi.2.2.1, ⟨by omega, by omega⟩, none_seen, ⟨by omega, by omega⟩⟩
  have hl : KeysP x0 x1 x2 x3 r4 (now + 10) := ⟨h.k.1, h.k.2.1, h.k.2.2.1, h.k.2.2.2.1, h.k.2.2.2.2.1, ⟨by omega, by omega⟩⟩
  exact ⟨rfl, ⟨.inr hk, .inr hl, .inr (by omega)⟩, hk, by omega⟩
/-- A number is noted. -/
theorem good_note {n : Int} {r : List Int} (h : Good12 m x0 x1 x2 x3 r4 x5 y0 y1 y2 y3 s4 y5) (hn : NoteIs r4 n r) : Good12 m x0 x1 x2 x3 r x5 y0 y1 y2 y3 s4 y5 := by
  have hs : SeenP r := by
    by_cases hf : FreshP r4 n
    · exact (note_right hf hn).1
    · rcases hn with hn | hn
      · exact absurd hn.1 hf
      · rw [hn.2]; exact h.k.2.2.2.2.1
  have hk : KeysP x0 x1 x2 x3 r x5 := ⟨h.k.1, h.k.2.1, h.k.2.2.1, h.k.2.2.2.1, hs, h.k.2.2.2.2.2⟩
  refine ⟨⟨.inr hk, h.p.2.1, ?_⟩, hk, h.le⟩
  exact h.p.2.2
/-- What was lame is gone. -/
theorem good_tidy (h : Good12 m x0 x1 x2 x3 r4 x5 y0 y1 y2 y3 s4 y5) : Good12 m x0 x1 x2 x3 r4 x5 0 ⟨#[]⟩ ⟨#[]⟩ 0 [] 0 := ⟨⟨.inr h.k, .inl none_zero, .inl none_zero⟩, h.k, h.le⟩
/-- One more was sent. -/
theorem good_seal (h : Good12 m x0 x1 x2 x3 r4 x5 y0 y1 y2 y3 s4 y5) (hs : ¬ (NoneP x0 x1 x2 x3 r4 x5 ∨ x3 = 12)) : Good12 m x0 x1 x2 (x3 + 1) r4 x5 y0 y1 y2 y3 s4 y5 := by
  have h3 := h.k.2.2.2.1
  have h4 : ¬ x3 = 12 := fun e => hs (.inr e)
  have hk : KeysP x0 x1 x2 (x3 + 1) r4 x5 := ⟨h.k.1, h.k.2.1, h.k.2.2.1, ⟨by omega, by omega⟩, h.k.2.2.2.2.1, h.k.2.2.2.2.2⟩
  exact ⟨⟨.inr hk, h.p.2.1, h.p.2.2⟩, hk, h.le⟩
end

end Go.Proofs.YtoaifgblbfdncaaDoor
namespace Go.Proofs.YtoaifgblbfdncaaDoor

theorem front_two (a b : ByteArray) : (a ++ b).extract 0 a.size = a := by
  apply ByteArray.ext
  apply Array.ext'
  simp
  exact List.take_of_length_le (by simp)
theorem back_two (a b : ByteArray) : (a ++ b).extract a.size (a ++ b).size = b := by
  apply ByteArray.ext
  apply Array.ext'
  rw [ByteArray.data_extract, Array.toList_extract, List.extract_eq_take_drop, ByteArray.size_append]
  simp
  exact List.take_of_length_le (by simp)

end Go.Proofs.YtoaifgblbfdncaaDoor
namespace Go.Proofs.YtoaifgblbfdncaaDoor

end Go.Proofs.YtoaifgblbfdncaaDoor
