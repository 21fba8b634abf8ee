/-
  Small laws of no program: rows of texts that the call itself made.
  The given mark of a number, as a text.
  An element of a row taken out, where only new blocks are made; marks that are texts; measured rows.
  Rows of ints beside rows of structs: marked and measured by the same words.
  Slot as it lies; the laws' own functions over it and over rows of it.
  Rows and variables of different types lie apart; no program is spoken of here.
  Two slots in one struct as they lie; the laws' own functions over it.
-/
import Derived.Test.YtpfkokjbpfaafaeDoorJ01
import Derived.Test.YtpfkokjbpfaafaeDoorRows
import Derived.Test.YtpfkokjbpfaafaeDoorJ03
import Derived.BigQuiet
import Derived.Deep.QuietTactic
import Derived.Deep.RegionHeld3
import Derived.Test.YtpfkokjbpfaafaeDoorJ05
import Derived.Deep.DeepCutAuto
namespace Go.Proofs.YtpfkokjbpfaafaeDoor
open Go.RowKit

def strs (ls : List (List UInt8)) : List Value := ls.map fun l => Value.string ⟨l.toArray⟩

/-- The slice value v is nil or the call's own (from block 'base' on), and holds these texts. -/
def OwnS (w : World) (base : Nat) (e : TypeId) (v : Value) (ls : List (List UInt8)) : Prop := w.ownsRow base e 1 v ls.length (strs ls)

theorem OwnS.nil (w : World) (base : Nat) (e : TypeId) : OwnS w base e (.slice none 0 0) [] := World.ownsRow_nil _ _ _ _
theorem OwnS.lit (w : World) (base : Nat) (e : TypeId) (hb : base ≤ w.heap.size) : OwnS (w.alloc (.cells #[] e)) base e (.slice (some ⟨w.heap.size, 0, none⟩) 0 0) [] :=
  World.ownsRow_lit w #[] 0 hb (by decide) rfl
theorem OwnS.alloc {w : World} {base : Nat} {e : TypeId} {v : Value} {ls : List (List UInt8)} (h : OwnS w base e v ls) (o : Obj) : OwnS (w.alloc o) base e v ls := World.ownsRow.alloc h o
theorem OwnS.drewN {w : World} {base : Nat} {e : TypeId} {v : Value} {ls : List (List UInt8)} (h : OwnS w base e v ls) (n : Nat) : OwnS (w.drewN n) base e v ls := h
theorem OwnS.lower {w : World} {base base' : Nat} {e : TypeId} {v : Value} {ls : List (List UInt8)} (h : OwnS w base e v ls) (hb : base' ≤ base) : OwnS w base' e v ls := by
  refine ⟨h.1, ?_⟩
  rcases h.2 with h | ⟨g, cap, cur, h1, h2, h3⟩
  · exact .inl h
  · exact .inr ⟨g, cap, cur, h1, by omega, h3⟩

theorem OwnS.below {w w' : World} {base : Nat} {e : TypeId} {v : Value} {ls : List (List UInt8)} (h : OwnS w base e v ls) (hb : Below w.heap.size w w') : OwnS w' base e v ls := by
  refine ⟨h.1, ?_⟩
  rcases h.2 with h | ⟨g, cap, cur, h1, h2, h3, h4⟩
  · exact .inl h
  · exact .inr ⟨g, cap, cur, h1, h2, by rw [hb.block g (lt_of_block h3)]; exact h3, h4⟩

/-- The shape of an owned row of texts, and its cells. -/
theorem OwnS.form {w : World} {base : Nat} {e : TypeId} {v : Value} {ls : List (List UInt8)} (h : OwnS w base e v ls) : ∃ ao cap, v = .slice ao ls.length cap ∧
    (0 < ls.length → ∃ g, ao = some ⟨g, 0, none⟩ ∧ base ≤ g ∧ g < w.heap.size ∧ ∀ j, j < ls.length → w.cell? ⟨g, j, none⟩ = some (.string ⟨(ls.getD j []).toArray⟩) ∧ w.frozen? ⟨g, j, none⟩ = false) := by
  have h' : w.ownsRow base e 1 v ls.length (strs ls) := h
  rcases h'.2 with ⟨rfl, h0⟩ | ⟨g, cap, cur, rfl, hb, hh, _, _, _, _⟩
  · exact ⟨none, 0, by rw [h0], fun hp => by omega⟩
  · refine ⟨_, cap, rfl, fun _ => ⟨g, rfl, hb, lt_of_block hh, fun j hj => ⟨?_, h'.frozenAt j⟩⟩⟩
    rw [h'.cellAt j (by omega)]
    simp [strs, hj]

/-- One text of the row is written over. -/
theorem OwnS.stored {w : World} {base : Nat} {e : TypeId} {g n cap : Nat} {ls : List (List UInt8)} (hn : n = ls.length) (h : OwnS w base e (.slice (some ⟨g, 0, none⟩) n cap) ls) (j : Nat) (t : List UInt8) :
    OwnS (w.setCell ⟨g, j, none⟩ (.string ⟨t.toArray⟩)) base e (.slice (some ⟨g, 0, none⟩) n cap) (ls.set j t) := by
  subst hn
  have h' : w.ownsRow base e 1 (.slice (some ⟨g, 0, none⟩) ls.length cap) ls.length (strs ls) := h
  have h2 := (h'.stored j (.string ⟨t.toArray⟩)).1
  unfold OwnS
  have e1 : strs (ls.set j t) = (strs ls).set j (.string ⟨t.toArray⟩) := by simp [strs]
  rw [e1, List.length_set]
  exact h2

/-- 'out = append(out, t)': out a row of texts of the call's own. -/
theorem wpList_pushS {P : Program} (w : World) {ops : Array Oper} {rest : List Oper} {o : Oper} {a : Act} {Q : Exit → Act → World → Prop} (hgd : o.guard = none) (s x : Operand) (t : TypeId)
    (ho : o.op = .call { callee := .builtin .append, args := #[s, x], argTypes := #[t, t] })
    (base : Nat) (e : TypeId) (i : TypeInfo) (ht : P.underlying t = some (.slice e)) (hi : P.info? e = some i) (hz : i.zero = some (.string ByteArray.empty))
    (hsize : i.size = 1) (hby : i.bytes = 16) (v : Value) (ls : List (List UInt8)) (hs : a.eval s = v) (hown : OwnS w base e v ls)
    (l : List UInt8) (z : ByteArray) (hx : a.eval x = .slice (some ⟨w.heap.size, 0, none⟩) 1 1) (hzl : z = ⟨l.toArray⟩)
    (hlen : ls.length ≤ 1000000000) (hbase : base ≤ w.heap.size)
    (h : ∀ v' w', OwnS w' base e v' (ls ++ [l]) → Below base w w' → wpList P ops Q rest (a.put o.dst v') w') :
    wpList P ops Q (o :: rest) a (w.alloc (.cells #[.string z] e)) := by
  subst hzl
  refine wpList_append_own (w.alloc (.cells #[.string ⟨l.toArray⟩] e)) hgd s x t ho base e i (.string ByteArray.empty) 1 16 ht hi hz hsize hby rfl (by decide) v ls.length (strs ls) hs (World.ownsRow.alloc hown _) ⟨w.heap.size, 0, none⟩ 1 1 [.string ⟨l.toArray⟩] hx rfl
    (by intro j u hj; match j, hj with | 0, hj => simp at hj; subst hj; simp [Addr.add]) (by intro u hu; simp at hu; subst hu; rfl) (by unfold maxLen; omega) (by omega) (by simp; omega) ?_
  intro v' w' h1 h2 _
  refine h v' w' ?_ ?_
  · have e1 : (ls ++ [l]).length = ls.length + 1 := by simp
    have e2 : strs (ls ++ [l]) = strs ls ++ [.string ⟨l.toArray⟩] := by simp [strs]
    unfold OwnS
    rw [e1, e2]
    exact h1
  · exact ((Below.refl base w).alloc hbase _).grown h2 (by simp; omega) (fun k hk => (World.ownsRow.lt hown k hk).1)

end Go.Proofs.YtpfkokjbpfaafaeDoor
namespace Go.Proofs.YtpfkokjbpfaafaeDoor
open Go.RowKit

theorem ret_int {k : IntKind} {a b : Int} (h : a = b) : Ending.returned (.int k a) = .returned (.int k b) := by rw [h]

/-- The mark of a number. -/
def mark (k : Nat) : List UInt8 := 109 :: digs k

end Go.Proofs.YtpfkokjbpfaafaeDoor
namespace Go.Proofs.YtpfkokjbpfaafaeDoor
open Go.RowKit

theorem Zip.next {α : Type} {e : TypeId} {A : Lay α} {w w' : World} {b g cap : Nat} {f1 f2 f3 : List Nat} {u1 c u3 : List Value} {X : List α} {x : α} {Y : List α} (h : Zip e A w b g cap f1 f2 f3 u1 c u3 X x Y) (hb : Below w.heap.size w w') : Zip e A w' b g cap f1 f2 f3 u1 c u3 X x Y :=
  ⟨ownsRow_keep h.row (hb.block g h.lt.2), ownAll_keep A h.left (fun i hi => hb.block i (ownAll_blocks A h.left i hi).2), A.next h.mid hb, ownAll_keep A h.right (fun i hi => hb.block i (ownAll_blocks A h.right i hi).2), h.dup⟩
/-- What is left, or -1. -/
def SzEnd (P : Prop) (left : Int) (e : Ending) : Prop := ∃ r : Int, e = .returned (.int .i64 r) ∧ (r = -1 ∨ (0 ≤ r ∧ r ≤ left ∧ P))

end Go.Proofs.YtpfkokjbpfaafaeDoor
namespace Go.Proofs.YtpfkokjbpfaafaeDoor
open Go.RowKit

theorem markI_up : ∀ (xs : List Int) (k : Int), (layIntS.mark k xs).1 = upI k xs.length
  | [], k => rfl
  | x :: xs, k => by
    have h := markI_up xs (k + 1)
    show k :: (layIntS.mark (k + 1) xs).1 = _
    rw [h]
    unfold upI
    rw [List.length_cons, List.range_succ_eq_map, List.map_cons, List.map_map]
    simp only [Int.natCast_zero, Int.add_zero, List.cons.injEq, true_and]
    refine List.map_congr_left (fun j _ => ?_)
    simp only [Function.comp_apply, Nat.succ_eq_add_one, Int.natCast_add, Int.natCast_one]
    omega
def FitsInt (xs : List Int) : Prop := xs.length ≤ 1048576
def RoomInt (xs : List Int) : Prop := xs.length ≤ 9223372036854775807
end Go.Proofs.YtpfkokjbpfaafaeDoor
namespace Go.Proofs.YtpfkokjbpfaafaeDoor
open Go.RowKit

abbrev SlotD := Int × ByteArray × ByteArray × Int × (List Int) × Int
abbrev SlotT : TypeId := 26
def laySlot : Lay SlotD := Lay.pair Lay.int (Lay.pair Lay.str (Lay.pair Lay.str (Lay.pair Lay.int (Lay.pair layIntS Lay.int))))
def laySlotS : Lay (List SlotD) := .rows SlotT laySlot

theorem laySlot_rd {w : World} {cs : List Value} {x : SlotD} : laySlot.rd w cs x ↔ ∃ v4, cs = [.int .i64 x.1, .string x.2.1, .string x.2.2.1, .int .i64 x.2.2.2.1, v4, .int .i64 x.2.2.2.2.2] ∧ layIntS.rd w [v4] x.2.2.2.2.1 := by
  constructor
  · rintro ⟨c100, d100, rfl, rfl, ⟨c101, d101, rfl, rfl, ⟨c102, d102, rfl, rfl, ⟨c103, d103, rfl, rfl, ⟨c105, d105, rfl, ⟨v104, rfl, h104⟩, rfl⟩⟩⟩⟩⟩
    exact ⟨v104, rfl, ⟨v104, rfl, h104⟩⟩
  · rintro ⟨v4, rfl, H4⟩
    exact ⟨[_], [_, _, _, _, _], rfl, rfl, ⟨[_], [_, _, _, _], rfl, rfl, ⟨[_], [_, _, _], rfl, rfl, ⟨[_], [_, _], rfl, rfl, ⟨[_], [_], rfl, H4, rfl⟩⟩⟩⟩⟩

theorem laySlot_own {w : World} {b : Nat} {f : List Nat} {cs : List Value} {x : SlotD} : laySlot.own w b f cs x ↔ ∃ v4 f4, cs = [.int .i64 x.1, .string x.2.1, .string x.2.2.1, .int .i64 x.2.2.2.1, v4, .int .i64 x.2.2.2.2.2] ∧ f = f4 ∧ layIntS.own w b f4 [v4] x.2.2.2.2.1 := by
  constructor
  · rintro ⟨f100, g100, c100, d100, rfl, rfl, ⟨rfl, rfl⟩, ⟨f101, g101, c101, d101, rfl, rfl, ⟨rfl, rfl⟩, ⟨f102, g102, c102, d102, rfl, rfl, ⟨rfl, rfl⟩, ⟨f103, g103, c103, d103, rfl, rfl, ⟨rfl, rfl⟩, ⟨f105, g105, c105, d105, rfl, rfl, ⟨v104, rfl, h104⟩, ⟨rfl, rfl⟩⟩⟩⟩⟩⟩
    exact ⟨v104, _, rfl, by simp, ⟨v104, rfl, h104⟩⟩
  · rintro ⟨v4, f4, rfl, hf, H4⟩
    have hf2 : f = ([] ++ ([] ++ ([] ++ ([] ++ (f4 ++ []))))) := by simp [hf]
    rw [hf2]
    exact ⟨[], ([] ++ ([] ++ ([] ++ (f4 ++ [])))), [_], [_, _, _, _, _], rfl, rfl, ⟨rfl, rfl⟩, ⟨[], ([] ++ ([] ++ (f4 ++ []))), [_], [_, _, _, _], rfl, rfl, ⟨rfl, rfl⟩, ⟨[], ([] ++ (f4 ++ [])), [_], [_, _, _], rfl, rfl, ⟨rfl, rfl⟩, ⟨[], (f4 ++ []), [_], [_, _], rfl, rfl, ⟨rfl, rfl⟩, ⟨f4, [], [_], [_], rfl, rfl, H4, ⟨rfl, rfl⟩⟩⟩⟩⟩⟩

def FitsSlot (x1 x2 : ByteArray) (r4 : List Int) : Prop := x1.size ≤ 1048576 ∧ x2.size ≤ 1048576 ∧ FitsInt r4
end Go.Proofs.YtpfkokjbpfaafaeDoor
namespace Go.Proofs.YtpfkokjbpfaafaeDoor
open Go.RowKit

/-- A flat row and a variable of another type lie apart. -/
theorem row_off {α : Type} {A : Lay α} (hf : Flat A) {e T : TypeId} {X : World} {b G : Nat} {f : List Nat} {v : Value} {xs : List α} {cs : Array Value} (h : (Lay.rows e A).own X b f [v] xs) (hv : VarA G T cs X) (hT : T ≠ e) : G ∉ f := by
  obtain ⟨us, ho, _, rfl⟩ := flat_inv hf h
  intro hm
  rcases ho.2 with ⟨rfl, _⟩ | ⟨g', cap, cur, rfl, _, hb, _⟩
  · simp [blk, Value.ownBlock] at hm
  · have : G = g' := by simpa [blk, Value.ownBlock] using hm
    subst this
    rw [hv.row] at hb
    injection hb with hb
    injection hb with _ hb
    exact hT hb
theorem rows_off {α β : Type} {A : Lay α} {B : Lay β} (hf : Flat A) (hf' : Flat B) {e e' : TypeId} {X : World} {b b' : Nat} {f f' : List Nat} {v v' : Value} {xs : List α} {ys : List β} (h : (Lay.rows e A).own X b f [v] xs) (h' : (Lay.rows e' B).own X b' f' [v'] ys) (he : e ≠ e') : ∀ g ∈ f, g ∉ f' := by
  obtain ⟨us, ho, _, rfl⟩ := flat_inv hf h
  obtain ⟨us', ho', _, rfl⟩ := flat_inv hf' h'
  intro g hg hg'
  rcases ho.2 with ⟨rfl, _⟩ | ⟨g1, cap, cur, rfl, _, hb, _⟩
  · simp [blk, Value.ownBlock] at hg
  · rcases ho'.2 with ⟨rfl, _⟩ | ⟨g2, cap2, cur2, rfl, _, hb2, _⟩
    · simp [blk, Value.ownBlock] at hg'
    · have e1 : g = g1 := by simpa [blk, Value.ownBlock] using hg
      have e2 : g = g2 := by simpa [blk, Value.ownBlock] using hg'
      subst e1
      subst e2
      rw [hb] at hb2
      injection hb2 with hb2
      injection hb2 with _ hb2
      exact he hb2

theorem VarA.next' {r : Nat} {t : TypeId} {cs : Array Value} {X Y : World} {b : Nat} (h : VarA r t cs X) (hb : Below b X Y) (hr : r < b) : VarA r t cs Y := ⟨(hb.block r hr).trans h.row⟩

end Go.Proofs.YtpfkokjbpfaafaeDoor
namespace Go.Proofs.YtpfkokjbpfaafaeDoor
open Go.RowKit

abbrev SlotsD := SlotD × SlotD
abbrev SlotsT : TypeId := 28
def laySlots : Lay SlotsD := Lay.pair laySlot laySlot
theorem laySlots_rd {w : World} {cs : List Value} {x : SlotsD} : laySlots.rd w cs x ↔ ∃ v4 u4, cs = [.int .i64 x.1.1, .string x.1.2.1, .string x.1.2.2.1, .int .i64 x.1.2.2.2.1, v4, .int .i64 x.1.2.2.2.2.2, .int .i64 x.2.1, .string x.2.2.1, .string x.2.2.2.1, .int .i64 x.2.2.2.2.1, u4, .int .i64 x.2.2.2.2.2.2] ∧ layIntS.rd w [v4] x.1.2.2.2.2.1 ∧ layIntS.rd w [u4] x.2.2.2.2.2.1 := by
  constructor
  · rintro ⟨c, d, rfl, h1, h2⟩
    obtain ⟨v4, rfl, h3⟩ := laySlot_rd.1 h1
    obtain ⟨u4, rfl, h4⟩ := laySlot_rd.1 h2
    exact ⟨v4, u4, rfl, h3, h4⟩
  · rintro ⟨v4, u4, rfl, h3, h4⟩
    exact ⟨[_, _, _, _, _, _], [_, _, _, _, _, _], rfl, laySlot_rd.2 ⟨v4, rfl, h3⟩, laySlot_rd.2 ⟨u4, rfl, h4⟩⟩
theorem putMain {X : World} {G : Nat} {T : TypeId} {q0 q1 q2 q3 q4 q5 q6 q7 q8 q9 q10 q11 : Value} (h : VarA G T #[q0, q1, q2, q3, q4, q5, q6, q7, q8, q9, q10, q11] X) (u0 u1 u2 u3 u4 u5 : Value) : VarA G T #[u0, u1, u2, u3, u4, u5, q6, q7, q8, q9, q10, q11] ((((((X.setCell ⟨G, 0, none⟩ (u0)).setCell ⟨G, 1, none⟩ (u1)).setCell ⟨G, 2, none⟩ (u2)).setCell ⟨G, 3, none⟩ (u3)).setCell ⟨G, 4, none⟩ (u4)).setCell ⟨G, 5, none⟩ (u5)) := by
  have h0 := h.set 0 u0
  have h1 := h0.set 1 u1
  have h2 := h1.set 2 u2
  have h3 := h2.set 3 u3
  have h4 := h3.set 4 u4
  have h5 := h4.set 5 u5
  exact h5
theorem putMain_below {base : Nat} {w X : World} {G : Nat} (h : Below base w X) (hG : base ≤ G) (u0 u1 u2 u3 u4 u5 : Value) : Below base w ((((((X.setCell ⟨G, 0, none⟩ (u0)).setCell ⟨G, 1, none⟩ (u1)).setCell ⟨G, 2, none⟩ (u2)).setCell ⟨G, 3, none⟩ (u3)).setCell ⟨G, 4, none⟩ (u4)).setCell ⟨G, 5, none⟩ (u5)) := (((((h.setCell (p := ⟨G, 0, none⟩) hG _).setCell (p := ⟨G, 1, none⟩) hG _).setCell (p := ⟨G, 2, none⟩) hG _).setCell (p := ⟨G, 3, none⟩) hG _).setCell (p := ⟨G, 4, none⟩) hG _).setCell (p := ⟨G, 5, none⟩) hG _
theorem putMain_only (X : World) (G : Nat) (u0 u1 u2 u3 u4 u5 : Value) : Only G X ((((((X.setCell ⟨G, 0, none⟩ (u0)).setCell ⟨G, 1, none⟩ (u1)).setCell ⟨G, 2, none⟩ (u2)).setCell ⟨G, 3, none⟩ (u3)).setCell ⟨G, 4, none⟩ (u4)).setCell ⟨G, 5, none⟩ (u5)) := ((((((Only.refl G X).trans (Only.setCell 0 _)).trans (Only.setCell 1 _)).trans (Only.setCell 2 _)).trans (Only.setCell 3 _)).trans (Only.setCell 4 _)).trans (Only.setCell 5 _)
theorem putLame {X : World} {G : Nat} {T : TypeId} {q0 q1 q2 q3 q4 q5 q6 q7 q8 q9 q10 q11 : Value} (h : VarA G T #[q0, q1, q2, q3, q4, q5, q6, q7, q8, q9, q10, q11] X) (u0 u1 u2 u3 u4 u5 : Value) : VarA G T #[q0, q1, q2, q3, q4, q5, u0, u1, u2, u3, u4, u5] ((((((X.setCell ⟨G, 6, none⟩ (u0)).setCell ⟨G, 7, none⟩ (u1)).setCell ⟨G, 8, none⟩ (u2)).setCell ⟨G, 9, none⟩ (u3)).setCell ⟨G, 10, none⟩ (u4)).setCell ⟨G, 11, none⟩ (u5)) := by
  have h0 := h.set 6 u0
  have h1 := h0.set 7 u1
  have h2 := h1.set 8 u2
  have h3 := h2.set 9 u3
  have h4 := h3.set 10 u4
  have h5 := h4.set 11 u5
  exact h5
theorem putLame_below {base : Nat} {w X : World} {G : Nat} (h : Below base w X) (hG : base ≤ G) (u0 u1 u2 u3 u4 u5 : Value) : Below base w ((((((X.setCell ⟨G, 6, none⟩ (u0)).setCell ⟨G, 7, none⟩ (u1)).setCell ⟨G, 8, none⟩ (u2)).setCell ⟨G, 9, none⟩ (u3)).setCell ⟨G, 10, none⟩ (u4)).setCell ⟨G, 11, none⟩ (u5)) := (((((h.setCell (p := ⟨G, 6, none⟩) hG _).setCell (p := ⟨G, 7, none⟩) hG _).setCell (p := ⟨G, 8, none⟩) hG _).setCell (p := ⟨G, 9, none⟩) hG _).setCell (p := ⟨G, 10, none⟩) hG _).setCell (p := ⟨G, 11, none⟩) hG _
theorem putLame_only (X : World) (G : Nat) (u0 u1 u2 u3 u4 u5 : Value) : Only G X ((((((X.setCell ⟨G, 6, none⟩ (u0)).setCell ⟨G, 7, none⟩ (u1)).setCell ⟨G, 8, none⟩ (u2)).setCell ⟨G, 9, none⟩ (u3)).setCell ⟨G, 10, none⟩ (u4)).setCell ⟨G, 11, none⟩ (u5)) := ((((((Only.refl G X).trans (Only.setCell 6 _)).trans (Only.setCell 7 _)).trans (Only.setCell 8 _)).trans (Only.setCell 9 _)).trans (Only.setCell 10 _)).trans (Only.setCell 11 _)
theorem putBoth {X : World} {G : Nat} {T : TypeId} {q0 q1 q2 q3 q4 q5 q6 q7 q8 q9 q10 q11 : Value} (h : VarA G T #[q0, q1, q2, q3, q4, q5, q6, q7, q8, q9, q10, q11] X) (u0 u1 u2 u3 u4 u5 u6 u7 u8 u9 u10 u11 : Value) : VarA G T #[u0, u1, u2, u3, u4, u5, u6, u7, u8, u9, u10, u11] ((((((((((((X.setCell ⟨G, 0, none⟩ (u0)).setCell ⟨G, 1, none⟩ (u1)).setCell ⟨G, 2, none⟩ (u2)).setCell ⟨G, 3, none⟩ (u3)).setCell ⟨G, 4, none⟩ (u4)).setCell ⟨G, 5, none⟩ (u5)).setCell ⟨G, 6, none⟩ (u6)).setCell ⟨G, 7, none⟩ (u7)).setCell ⟨G, 8, none⟩ (u8)).setCell ⟨G, 9, none⟩ (u9)).setCell ⟨G, 10, none⟩ (u10)).setCell ⟨G, 11, none⟩ (u11)) := by
  exact putLame (putMain h u0 u1 u2 u3 u4 u5) u6 u7 u8 u9 u10 u11
theorem putBoth_below {base : Nat} {w X : World} {G : Nat} (h : Below base w X) (hG : base ≤ G) (u0 u1 u2 u3 u4 u5 u6 u7 u8 u9 u10 u11 : Value) : Below base w ((((((((((((X.setCell ⟨G, 0, none⟩ (u0)).setCell ⟨G, 1, none⟩ (u1)).setCell ⟨G, 2, none⟩ (u2)).setCell ⟨G, 3, none⟩ (u3)).setCell ⟨G, 4, none⟩ (u4)).setCell ⟨G, 5, none⟩ (u5)).setCell ⟨G, 6, none⟩ (u6)).setCell ⟨G, 7, none⟩ (u7)).setCell ⟨G, 8, none⟩ (u8)).setCell ⟨G, 9, none⟩ (u9)).setCell ⟨G, 10, none⟩ (u10)).setCell ⟨G, 11, none⟩ (u11)) := (((((((((((h.setCell (p := ⟨G, 0, none⟩) hG _).setCell (p := ⟨G, 1, none⟩) hG _).setCell (p := ⟨G, 2, none⟩) hG _).setCell (p := ⟨G, 3, none⟩) hG _).setCell (p := ⟨G, 4, none⟩) hG _).setCell (p := ⟨G, 5, none⟩) hG _).setCell (p := ⟨G, 6, none⟩) hG _).setCell (p := ⟨G, 7, none⟩) hG _).setCell (p := ⟨G, 8, none⟩) hG _).setCell (p := ⟨G, 9, none⟩) hG _).setCell (p := ⟨G, 10, none⟩) hG _).setCell (p := ⟨G, 11, none⟩) hG _
/-- A row of ints lies apart from blocks below it. -/
theorem ints_low {X Y : World} {lo b : Nat} {f : List Nat} {v : Value} {xs : List Int} (h : layIntS.own X lo f [v] xs) (hb : Below b X Y) (ho : ∀ g ∈ f, g < b) : layIntS.own Y lo f [v] xs := layIntS.keep h (fun g hg => hb.block g (ho g hg))
/-- Two slots are marked. -/
def SlotsMarked (k : Int) (b : Nat) (f g : List Nat) (v4 u4 : Value) (r4 s4 : List Int) (w : World) (e : Ending) (w' : World) : Prop := e = .returned (.int .i64 (k + 1 * (r4.length : Int) + 1 * (s4.length : Int))) ∧ layIntS.own w' b f [v4] (layIntS.mark k r4).1 ∧ layIntS.own w' b g [u4] (layIntS.mark (k + 1 * (r4.length : Int)) s4).1 ∧ Chg (f ++ g) w w'
def SlotsHeld (k : Int) (r4 s4 : List Int) (w : World) (e : Ending) (w' : World) : Prop := e = .returned (.int .i64 (k + 1 * (r4.length : Int) + 1 * (s4.length : Int))) ∧ Below w.heap.size w w'
/-- Two slots laid anew, of the call's own. -/
def SlotsMade (x0 : Int) (x1 x2 : ByteArray) (x3 : Int) (r4 : List Int) (x5 : Int) (y0 : Int) (y1 y2 : ByteArray) (y3 : Int) (s4 : List Int) (y5 : Int) (w : World) (e : Ending) (w' : World) : Prop := ∃ v4 u4 f g, e = .returned (.agg #[.int .i64 x0, .string x1, .string x2, .int .i64 x3, v4, .int .i64 x5, .int .i64 y0, .string y1, .string y2, .int .i64 y3, u4, .int .i64 y5]) ∧ (f ++ g).Nodup ∧ layIntS.own w' w.heap.size f [v4] r4 ∧ layIntS.own w' w.heap.size g [u4] s4 ∧ Below w.heap.size w w'
end Go.Proofs.YtpfkokjbpfaafaeDoor
