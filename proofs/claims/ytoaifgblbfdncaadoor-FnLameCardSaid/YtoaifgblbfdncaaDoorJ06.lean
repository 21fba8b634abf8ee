/-
  Rows of ints beside rows of structs: marked and measured by the same words.
  Slot as it lies; the laws' own functions over it and over rows of it.
  Rows and variables of different types lie apart; no program is spoken of here.
  Two slots in one struct as they lie; the laws' own functions over it.
  The given copies of slots.
  Numbers that are taken once, in plain words; no program is spoken of here.
-/
import Derived.Test.YtoaifgblbfdncaaDoorJ05
import Derived.Test.YtoaifgblbfdncaaDoorRows
import Derived.Deep.RegionHeld3
import Derived.BigQuiet
import Derived.Deep.QuietTactic
import Derived.Deep.DeepCutAuto
namespace Go.Proofs.YtoaifgblbfdncaaDoor
open Go.RowKit

theorem markI_up : ∀ (xs : List Int) (k : Int), (layIntS.mark k xs).1 = upI k xs.length
  | [], k => rfl
  | x :: xs, k => by
    have h := markI_up xs (k + 1)
    show k :: (layIntS.mark (k + 1) xs).1 = _
    rw [h]
    unfold upI
    rw [List.length_cons, List.range_succ_eq_map, List.map_cons, List.map_map]
    simp only [Int.natCast_zero, Int.add_zero, List.cons.injEq, true_and]
    refine List.map_congr_left (fun j _ => ?_)
    simp only [Function.comp_apply, Nat.succ_eq_add_one, Int.natCast_add, Int.natCast_one]
    omega
def FitsInt (xs : List Int) : Prop := xs.length ≤ 1048576
def RoomInt (xs : List Int) : Prop := xs.length ≤ 9223372036854775807
end Go.Proofs.YtoaifgblbfdncaaDoor
namespace Go.Proofs.YtoaifgblbfdncaaDoor
open Go.RowKit

abbrev SlotD := Int × ByteArray × ByteArray × Int × (List Int) × Int
abbrev SlotT : TypeId := 29
def laySlot : Lay SlotD := Lay.pair Lay.int (Lay.pair Lay.str (Lay.pair Lay.str (Lay.pair Lay.int (Lay.pair layIntS Lay.int))))
def laySlotS : Lay (List SlotD) := .rows SlotT laySlot

theorem laySlot_rd {w : World} {cs : List Value} {x : SlotD} : laySlot.rd w cs x ↔ ∃ v4, cs = [.int .i64 x.1, .string x.2.1, .string x.2.2.1, .int .i64 x.2.2.2.1, v4, .int .i64 x.2.2.2.2.2] ∧ layIntS.rd w [v4] x.2.2.2.2.1 := by
  constructor
  · rintro ⟨c100, d100, rfl, rfl, ⟨c101, d101, rfl, rfl, ⟨c102, d102, rfl, rfl, ⟨c103, d103, rfl, rfl, ⟨c105, d105, rfl, ⟨v104, rfl, h104⟩, rfl⟩⟩⟩⟩⟩
    exact ⟨v104, rfl, ⟨v104, rfl, h104⟩⟩
  · rintro ⟨v4, rfl, H4⟩
    exact ⟨[_], [_, _, _, _, _], rfl, rfl, ⟨[_], [_, _, _, _], rfl, rfl, ⟨[_], [_, _, _], rfl, rfl, ⟨[_], [_, _], rfl, rfl, ⟨[_], [_], rfl, H4, rfl⟩⟩⟩⟩⟩

theorem laySlot_own {w : World} {b : Nat} {f : List Nat} {cs : List Value} {x : SlotD} : laySlot.own w b f cs x ↔ ∃ v4 f4, cs = [.int .i64 x.1, .string x.2.1, .string x.2.2.1, .int .i64 x.2.2.2.1, v4, .int .i64 x.2.2.2.2.2] ∧ f = f4 ∧ layIntS.own w b f4 [v4] x.2.2.2.2.1 := by
  constructor
  · rintro ⟨f100, g100, c100, d100, rfl, rfl, ⟨rfl, rfl⟩, ⟨f101, g101, c101, d101, rfl, rfl, ⟨rfl, rfl⟩, ⟨f102, g102, c102, d102, rfl, rfl, ⟨rfl, rfl⟩, ⟨f103, g103, c103, d103, rfl, rfl, ⟨rfl, rfl⟩, ⟨f105, g105, c105, d105, rfl, rfl, ⟨v104, rfl, h104⟩, ⟨rfl, rfl⟩⟩⟩⟩⟩⟩
    exact ⟨v104, _, rfl, by simp, ⟨v104, rfl, h104⟩⟩
  · rintro ⟨v4, f4, rfl, hf, H4⟩
    have hf2 : f = ([] ++ ([] ++ ([] ++ ([] ++ (f4 ++ []))))) := by simp [hf]
    rw [hf2]
    exact ⟨[], ([] ++ ([] ++ ([] ++ (f4 ++ [])))), [_], [_, _, _, _, _], rfl, rfl, ⟨rfl, rfl⟩, ⟨[], ([] ++ ([] ++ (f4 ++ []))), [_], [_, _, _, _], rfl, rfl, ⟨rfl, rfl⟩, ⟨[], ([] ++ (f4 ++ [])), [_], [_, _, _], rfl, rfl, ⟨rfl, rfl⟩, ⟨[], (f4 ++ []), [_], [_, _], rfl, rfl, ⟨rfl, rfl⟩, ⟨f4, [], [_], [_], rfl, rfl, H4, ⟨rfl, rfl⟩⟩⟩⟩⟩⟩

def FitsSlot (x1 x2 : ByteArray) (r4 : List Int) : Prop := x1.size ≤ 1048576 ∧ x2.size ≤ 1048576 ∧ FitsInt r4
end Go.Proofs.YtoaifgblbfdncaaDoor
namespace Go.Proofs.YtoaifgblbfdncaaDoor
open Go.RowKit

/-- A flat row and a variable of another type lie apart. -/
theorem row_off {α : Type} {A : Lay α} (hf : Flat A) {e T : TypeId} {X : World} {b G : Nat} {f : List Nat} {v : Value} {xs : List α} {cs : Array Value} (h : (Lay.rows e A).own X b f [v] xs) (hv : VarA G T cs X) (hT : T ≠ e) : G ∉ f := by
  obtain ⟨us, ho, _, rfl⟩ := flat_inv hf h
  intro hm
  rcases ho.2 with ⟨rfl, _⟩ | ⟨g', cap, cur, rfl, _, hb, _⟩
  · simp [blk, Value.ownBlock] at hm
  · have : G = g' := by simpa [blk, Value.ownBlock] using hm
    subst this
    rw [hv.row] at hb
    injection hb with hb
    injection hb with _ hb
    exact hT hb
theorem rows_off {α β : Type} {A : Lay α} {B : Lay β} (hf : Flat A) (hf' : Flat B) {e e' : TypeId} {X : World} {b b' : Nat} {f f' : List Nat} {v v' : Value} {xs : List α} {ys : List β} (h : (Lay.rows e A).own X b f [v] xs) (h' : (Lay.rows e' B).own X b' f' [v'] ys) (he : e ≠ e') : ∀ g ∈ f, g ∉ f' := by
  obtain ⟨us, ho, _, rfl⟩ := flat_inv hf h
  obtain ⟨us', ho', _, rfl⟩ := flat_inv hf' h'
  intro g hg hg'
  rcases ho.2 with ⟨rfl, _⟩ | ⟨g1, cap, cur, rfl, _, hb, _⟩
  · simp [blk, Value.ownBlock] at hg
  · rcases ho'.2 with ⟨rfl, _⟩ | ⟨g2, cap2, cur2, rfl, _, hb2, _⟩
    · simp [blk, Value.ownBlock] at hg'
    · have e1 : g = g1 := by simpa [blk, Value.ownBlock] using hg
      have e2 : g = g2 := by simpa [blk, Value.ownBlock] using hg'
      subst e1
      subst e2
      rw [hb] at hb2
      injection hb2 with hb2
      injection hb2 with _ hb2
      exact he hb2

theorem VarA.next' {r : Nat} {t : TypeId} {cs : Array Value} {X Y : World} {b : Nat} (h : VarA r t cs X) (hb : Below b X Y) (hr : r < b) : VarA r t cs Y := ⟨(hb.block r hr).trans h.row⟩

end Go.Proofs.YtoaifgblbfdncaaDoor
namespace Go.Proofs.YtoaifgblbfdncaaDoor
open Go.RowKit

abbrev SlotsD := SlotD × SlotD
abbrev SlotsT : TypeId := 31
def laySlots : Lay SlotsD := Lay.pair laySlot laySlot
theorem laySlots_rd {w : World} {cs : List Value} {x : SlotsD} : laySlots.rd w cs x ↔ ∃ v4 u4, cs = [.int .i64 x.1.1, .string x.1.2.1, .string x.1.2.2.1, .int .i64 x.1.2.2.2.1, v4, .int .i64 x.1.2.2.2.2.2, .int .i64 x.2.1, .string x.2.2.1, .string x.2.2.2.1, .int .i64 x.2.2.2.2.1, u4, .int .i64 x.2.2.2.2.2.2] ∧ layIntS.rd w [v4] x.1.2.2.2.2.1 ∧ layIntS.rd w [u4] x.2.2.2.2.2.1 := by
  constructor
  · rintro ⟨c, d, rfl, h1, h2⟩
    obtain ⟨v4, rfl, h3⟩ := laySlot_rd.1 h1
    obtain ⟨u4, rfl, h4⟩ := laySlot_rd.1 h2
    exact ⟨v4, u4, rfl, h3, h4⟩
  · rintro ⟨v4, u4, rfl, h3, h4⟩
    exact ⟨[_, _, _, _, _, _], [_, _, _, _, _, _], rfl, laySlot_rd.2 ⟨v4, rfl, h3⟩, laySlot_rd.2 ⟨u4, rfl, h4⟩⟩
theorem putMain {X : World} {G : Nat} {T : TypeId} {q0 q1 q2 q3 q4 q5 q6 q7 q8 q9 q10 q11 : Value} (h : VarA G T #[q0, q1, q2, q3, q4, q5, q6, q7, q8, q9, q10, q11] X) (u0 u1 u2 u3 u4 u5 : Value) : VarA G T #[u0, u1, u2, u3, u4, u5, q6, q7, q8, q9, q10, q11] ((((((X.setCell ⟨G, 0, none⟩ (u0)).setCell ⟨G, 1, none⟩ (u1)).setCell ⟨G, 2, none⟩ (u2)).setCell ⟨G, 3, none⟩ (u3)).setCell ⟨G, 4, none⟩ (u4)).setCell ⟨G, 5, none⟩ (u5)) := by
  have h0 := h.set 0 u0
  have h1 := h0.set 1 u1
  have h2 := h1.set 2 u2
  have h3 := h2.set 3 u3
  have h4 := h3.set 4 u4
  have h5 := h4.set 5 u5
  exact h5
theorem putMain_below {base : Nat} {w X : World} {G : Nat} (h : Below base w X) (hG : base ≤ G) (u0 u1 u2 u3 u4 u5 : Value) : Below base w ((((((X.setCell ⟨G, 0, none⟩ (u0)).setCell ⟨G, 1, none⟩ (u1)).setCell ⟨G, 2, none⟩ (u2)).setCell ⟨G, 3, none⟩ (u3)).setCell ⟨G, 4, none⟩ (u4)).setCell ⟨G, 5, none⟩ (u5)) := (((((h.setCell (p := ⟨G, 0, none⟩) hG _).setCell (p := ⟨G, 1, none⟩) hG _).setCell (p := ⟨G, 2, none⟩) hG _).setCell (p := ⟨G, 3, none⟩) hG _).setCell (p := ⟨G, 4, none⟩) hG _).setCell (p := ⟨G, 5, none⟩) hG _
theorem putMain_only (X : World) (G : Nat) (u0 u1 u2 u3 u4 u5 : Value) : Only G X ((((((X.setCell ⟨G, 0, none⟩ (u0)).setCell ⟨G, 1, none⟩ (u1)).setCell ⟨G, 2, none⟩ (u2)).setCell ⟨G, 3, none⟩ (u3)).setCell ⟨G, 4, none⟩ (u4)).setCell ⟨G, 5, none⟩ (u5)) := ((((((Only.refl G X).trans (Only.setCell 0 _)).trans (Only.setCell 1 _)).trans (Only.setCell 2 _)).trans (Only.setCell 3 _)).trans (Only.setCell 4 _)).trans (Only.setCell 5 _)
theorem putLame {X : World} {G : Nat} {T : TypeId} {q0 q1 q2 q3 q4 q5 q6 q7 q8 q9 q10 q11 : Value} (h : VarA G T #[q0, q1, q2, q3, q4, q5, q6, q7, q8, q9, q10, q11] X) (u0 u1 u2 u3 u4 u5 : Value) : VarA G T #[q0, q1, q2, q3, q4, q5, u0, u1, u2, u3, u4, u5] ((((((X.setCell ⟨G, 6, none⟩ (u0)).setCell ⟨G, 7, none⟩ (u1)).setCell ⟨G, 8, none⟩ (u2)).setCell ⟨G, 9, none⟩ (u3)).setCell ⟨G, 10, none⟩ (u4)).setCell ⟨G, 11, none⟩ (u5)) := by
  have h0 := h.set 6 u0
  have h1 := h0.set 7 u1
  have h2 := h1.set 8 u2
  have h3 := h2.set 9 u3
  have h4 := h3.set 10 u4
  have h5 := h4.set 11 u5
  exact h5
theorem putLame_below {base : Nat} {w X : World} {G : Nat} (h : Below base w X) (hG : base ≤ G) (u0 u1 u2 u3 u4 u5 : Value) : Below base w ((((((X.setCell ⟨G, 6, none⟩ (u0)).setCell ⟨G, 7, none⟩ (u1)).setCell ⟨G, 8, none⟩ (u2)).setCell ⟨G, 9, none⟩ (u3)).setCell ⟨G, 10, none⟩ (u4)).setCell ⟨G, 11, none⟩ (u5)) := (((((h.setCell (p := ⟨G, 6, none⟩) hG _).setCell (p := ⟨G, 7, none⟩) hG _).setCell (p := ⟨G, 8, none⟩) hG _).setCell (p := ⟨G, 9, none⟩) hG _).setCell (p := ⟨G, 10, none⟩) hG _).setCell (p := ⟨G, 11, none⟩) hG _
theorem putLame_only (X : World) (G : Nat) (u0 u1 u2 u3 u4 u5 : Value) : Only G X ((((((X.setCell ⟨G, 6, none⟩ (u0)).setCell ⟨G, 7, none⟩ (u1)).setCell ⟨G, 8, none⟩ (u2)).setCell ⟨G, 9, none⟩ (u3)).setCell ⟨G, 10, none⟩ (u4)).setCell ⟨G, 11, none⟩ (u5)) := ((((((Only.refl G X).trans (Only.setCell 6 _)).trans (Only.setCell 7 _)).trans (Only.setCell 8 _)).trans (Only.setCell 9 _)).trans (Only.setCell 10 _)).trans (Only.setCell 11 _)
theorem putBoth {X : World} {G : Nat} {T : TypeId} {q0 q1 q2 q3 q4 q5 q6 q7 q8 q9 q10 q11 : Value} (h : VarA G T #[q0, q1, q2, q3, q4, q5, q6, q7, q8, q9, q10, q11] X) (u0 u1 u2 u3 u4 u5 u6 u7 u8 u9 u10 u11 : Value) : VarA G T #[u0, u1, u2, u3, u4, u5, u6, u7, u8, u9, u10, u11] ((((((((((((X.setCell ⟨G, 0, none⟩ (u0)).setCell ⟨G, 1, none⟩ (u1)).setCell ⟨G, 2, none⟩ (u2)).setCell ⟨G, 3, none⟩ (u3)).setCell ⟨G, 4, none⟩ (u4)).setCell ⟨G, 5, none⟩ (u5)).setCell ⟨G, 6, none⟩ (u6)).setCell ⟨G, 7, none⟩ (u7)).setCell ⟨G, 8, none⟩ (u8)).setCell ⟨G, 9, none⟩ (u9)).setCell ⟨G, 10, none⟩ (u10)).setCell ⟨G, 11, none⟩ (u11)) := by
  exact putLame (putMain h u0 u1 u2 u3 u4 u5) u6 u7 u8 u9 u10 u11
theorem putBoth_below {base : Nat} {w X : World} {G : Nat} (h : Below base w X) (hG : base ≤ G) (u0 u1 u2 u3 u4 u5 u6 u7 u8 u9 u10 u11 : Value) : Below base w ((((((((((((X.setCell ⟨G, 0, none⟩ (u0)).setCell ⟨G, 1, none⟩ (u1)).setCell ⟨G, 2, none⟩ (u2)).setCell ⟨G, 3, none⟩ (u3)).setCell ⟨G, 4, none⟩ (u4)).setCell ⟨G, 5, none⟩ (u5)).setCell ⟨G, 6, none⟩ (u6)).setCell ⟨G, 7, none⟩ (u7)).setCell ⟨G, 8, none⟩ (u8)).setCell ⟨G, 9, none⟩ (u9)).setCell ⟨G, 10, none⟩ (u10)).setCell ⟨G, 11, none⟩ (u11)) := (((((((((((h.setCell (p := ⟨G, 0, none⟩) hG _).setCell (p := ⟨G, 1, none⟩) hG _).setCell (p := ⟨G, 2, none⟩) hG _).setCell (p := ⟨G, 3, none⟩) hG _).setCell (p := ⟨G, 4, none⟩) hG _).setCell (p := ⟨G, 5, none⟩) hG _).setCell (p := ⟨G, 6, none⟩) hG _).setCell (p := ⟨G, 7, none⟩) hG _).setCell (p := ⟨G, 8, none⟩) hG _).setCell (p := ⟨G, 9, none⟩) hG _).setCell (p := ⟨G, 10, none⟩) hG _).setCell (p := ⟨G, 11, none⟩) hG _
/-- A row of ints lies apart from blocks below it. -/
theorem ints_low {X Y : World} {lo b : Nat} {f : List Nat} {v : Value} {xs : List Int} (h : layIntS.own X lo f [v] xs) (hb : Below b X Y) (ho : ∀ g ∈ f, g < b) : layIntS.own Y lo f [v] xs := layIntS.keep h (fun g hg => hb.block g (ho g hg))
/-- Two slots are marked. -/
def SlotsMarked (k : Int) (b : Nat) (f g : List Nat) (v4 u4 : Value) (r4 s4 : List Int) (w : World) (e : Ending) (w' : World) : Prop := e = .returned (.int .i64 (k + 1 * (r4.length : Int) + 1 * (s4.length : Int))) ∧ layIntS.own w' b f [v4] (layIntS.mark k r4).1 ∧ layIntS.own w' b g [u4] (layIntS.mark (k + 1 * (r4.length : Int)) s4).1 ∧ Chg (f ++ g) w w'
def SlotsHeld (k : Int) (r4 s4 : List Int) (w : World) (e : Ending) (w' : World) : Prop := e = .returned (.int .i64 (k + 1 * (r4.length : Int) + 1 * (s4.length : Int))) ∧ Below w.heap.size w w'
/-- Two slots laid anew, of the call's own. -/
def SlotsMade (x0 : Int) (x1 x2 : ByteArray) (x3 : Int) (r4 : List Int) (x5 : Int) (y0 : Int) (y1 y2 : ByteArray) (y3 : Int) (s4 : List Int) (y5 : Int) (w : World) (e : Ending) (w' : World) : Prop := ∃ v4 u4 f g, e = .returned (.agg #[.int .i64 x0, .string x1, .string x2, .int .i64 x3, v4, .int .i64 x5, .int .i64 y0, .string y1, .string y2, .int .i64 y3, u4, .int .i64 y5]) ∧ (f ++ g).Nodup ∧ layIntS.own w' w.heap.size f [v4] r4 ∧ layIntS.own w' w.heap.size g [u4] s4 ∧ Below w.heap.size w w'
end Go.Proofs.YtoaifgblbfdncaaDoor
namespace Go.Proofs.YtoaifgblbfdncaaDoor
open Go.RowKit

theorem flatIntK : Flat Lay.int := ⟨fun _ _ _ _ h => ⟨rfl, h⟩, fun _ _ _ _ _ h => h.1, fun _ _ _ _ h => h⟩
theorem putSix {X : World} {G : Nat} {T : TypeId} {q0 q1 q2 q3 q4 q5 : Value} (h : VarA G T #[q0, q1, q2, q3, q4, q5] X) (u0 u1 u2 u3 u4 u5 : Value) : VarA G T #[u0, u1, u2, u3, u4, u5] ((((((X.setCell ⟨G, 0, none⟩ (u0)).setCell ⟨G, 1, none⟩ (u1)).setCell ⟨G, 2, none⟩ (u2)).setCell ⟨G, 3, none⟩ (u3)).setCell ⟨G, 4, none⟩ (u4)).setCell ⟨G, 5, none⟩ (u5)) := by
  have h0 := h.set 0 u0
  have h1 := h0.set 1 u1
  have h2 := h1.set 2 u2
  have h3 := h2.set 3 u3
  have h4 := h3.set 4 u4
  have h5 := h4.set 5 u5
  exact h5
/-- A slot of the call's own. -/
def SlotMade (x0 : Int) (x1 x2 : ByteArray) (x3 : Int) (r4 : List Int) (x5 : Int) (w : World) (e : Ending) (w' : World) : Prop := ∃ v4 f, e = .returned (.agg #[.int .i64 x0, .string x1, .string x2, .int .i64 x3, v4, .int .i64 x5]) ∧ f.Nodup ∧ layIntS.own w' w.heap.size f [v4] r4 ∧ Below w.heap.size w w'
end Go.Proofs.YtoaifgblbfdncaaDoor
namespace Go.Proofs.YtoaifgblbfdncaaDoor

/-- Descending numbers. -/
def DescZ : List Int → Prop
  | [] => True
  | [_] => True
  | x :: y :: l => y < x ∧ DescZ (y :: l)
/-- The first one, 0 without one. -/
def topZ : List Int → Int
  | [] => 0
  | x :: _ => x
/-- Right numbers that were seen. -/
def SeenP (seen : List Int) : Prop := seen.length ≤ 6 ∧ (∀ x ∈ seen, 1 ≤ x ∧ x ≤ 1000000000) ∧ DescZ seen ∧ ∀ x ∈ seen, topZ seen - 6 < x
/-- Whether a number is fresh. -/
def FreshP (seen : List Int) (n : Int) : Prop := SeenP seen ∧ (1 ≤ n ∧ n ≤ 1000000000) ∧ n ∉ seen ∧ topZ seen - 6 < n
/-- With a number in its place. -/
def putD (n : Int) (seen : List Int) : List Int := seen.filter (fun x => decide (n < x)) ++ [n] ++ seen.filter (fun x => decide (x < n))
/-- Without those that are not above the first less six. -/
def nearZ (l : List Int) : List Int := l.filter (fun x => decide (topZ l - 6 < x))
/-- What was seen behind a number. -/
def NoteIs (seen : List Int) (n : Int) (r : List Int) : Prop := (FreshP seen n ∧ r = nearZ (putD n seen)) ∨ (¬ FreshP seen n ∧ r = seen)
theorem note_is (seen : List Int) (n : Int) : ∃ r, NoteIs seen n r := by
  by_cases h : FreshP seen n
  · exact ⟨_, .inl ⟨h, rfl⟩⟩
  · exact ⟨_, .inr ⟨h, rfl⟩⟩
/-- Which numbers of a list are taken, from what was seen on. -/
def TakesIs : List Int → List Int → List Int → Prop
  | [], _, r => r = []
  | n :: l, seen, r => (FreshP seen n ∧ ∃ s t, NoteIs seen n s ∧ TakesIs l s t ∧ r = n :: t) ∨ (¬ FreshP seen n ∧ TakesIs l seen r)
theorem takes_is (l seen : List Int) : ∃ r, TakesIs l seen r := by
  induction l generalizing seen with
  | nil => exact ⟨[], rfl⟩
  | cons n l ih =>
    by_cases h : FreshP seen n
    · obtain ⟨s, hs⟩ := note_is seen n
      obtain ⟨t, ht⟩ := ih s
      exact ⟨_, .inl ⟨h, s, t, hs, ht, rfl⟩⟩
    · obtain ⟨r, hr⟩ := ih seen
      exact ⟨r, .inr ⟨h, hr⟩⟩
theorem desc_tail {x : Int} {l : List Int} (h : DescZ (x :: l)) : DescZ l := by
  cases l with
  | nil => trivial
  | cons y l => exact h.2
theorem desc_head {x : Int} {l : List Int} (h : DescZ (x :: l)) : ∀ y ∈ l, y < x := by
  induction l generalizing x with
  | nil => intro y hy; cases hy
  | cons z l ih =>
    intro y hy
    rcases List.mem_cons.1 hy with rfl | hy
    · exact h.1
    · have := ih h.2 y hy
      have := h.1
      omega
theorem desc_cons {x : Int} {l : List Int} (h : DescZ l) (hx : ∀ y ∈ l, y < x) : DescZ (x :: l) := by
  cases l with
  | nil => trivial
  | cons y l => exact ⟨hx y List.mem_cons_self, h⟩
theorem desc_filter {l : List Int} (p : Int → Bool) (h : DescZ l) : DescZ (l.filter p) := by
  induction l with
  | nil => trivial
  | cons x l ih =>
    rw [List.filter_cons]
    split
    · exact desc_cons (ih (desc_tail h)) (fun y hy => desc_head h y (List.mem_filter.1 hy).1)
    · exact ih (desc_tail h)
theorem desc_append {a b : List Int} (ha : DescZ a) (hb : DescZ b) (h : ∀ x ∈ a, ∀ y ∈ b, y < x) : DescZ (a ++ b) := by
  induction a with
  | nil => exact hb
  | cons x a ih =>
    refine desc_cons (ih (desc_tail ha) (fun y hy => h y (List.mem_cons_of_mem _ hy))) (fun y hy => ?_)
    rcases List.mem_append.1 hy with hy | hy
    · exact desc_head ha y hy
    · exact h x List.mem_cons_self y hy
theorem put_desc {seen : List Int} (n : Int) (h : DescZ seen) : DescZ (putD n seen) := by
  refine desc_append (desc_append (desc_filter _ h) trivial ?_) (desc_filter _ h) ?_
  · intro x hx y hy
    rw [List.mem_singleton.1 hy]
    exact of_decide_eq_true (List.mem_filter.1 hx).2
  · intro x hx y hy
    have hy2 : y < n := of_decide_eq_true (List.mem_filter.1 hy).2
    rcases List.mem_append.1 hx with hx | hx
    · have : n < x := of_decide_eq_true (List.mem_filter.1 hx).2
      omega
    · rw [List.mem_singleton.1 hx]
      exact hy2
theorem put_mem {seen : List Int} {n x : Int} : x ∈ putD n seen ↔ x = n ∨ x ∈ seen ∧ x ≠ n := by
  unfold putD
  simp only [List.mem_append, List.mem_filter, List.mem_singleton, decide_eq_true_eq]
  constructor
  · rintro ((⟨h1, h2⟩ | h) | ⟨h1, h2⟩)
    · exact .inr ⟨h1, by omega⟩
    · exact .inl h
    · exact .inr ⟨h1, by omega⟩
  · rintro (h | ⟨h1, h2⟩)
    · exact .inl (.inr h)
    · rcases Int.lt_or_gt_of_ne h2 with h | h
      · exact .inr ⟨h1, h⟩
      · exact .inl (.inl ⟨h1, h⟩)
/-- Descending numbers above m are at most so many. -/
theorem desc_len {l : List Int} {m : Int} (h : DescZ l) (hm : ∀ x ∈ l, m < x) : (l.length : Int) ≤ max 0 (topZ l - m) := by
  induction l with
  | nil => exact Int.le_max_left _ _
  | cons x l ih =>
    have h1 := ih (desc_tail h) (fun y hy => hm y (List.mem_cons_of_mem _ hy))
    have h2 := hm x List.mem_cons_self
    show ((l.length + 1 : Nat) : Int) ≤ max 0 (x - m)
    cases l with
    | nil => simp; omega
    | cons y l =>
      have h3 := h.1
      have h4 := hm y (List.mem_cons_of_mem _ List.mem_cons_self)
      have h5 : topZ (y :: l) = y := rfl
      rw [h5] at h1
      omega
theorem top_mem {l : List Int} (h : l ≠ []) : topZ l ∈ l := by
  cases l with
  | nil => exact absurd rfl h
  | cons x l => exact List.mem_cons_self
theorem top_most {l : List Int} (h : DescZ l) : ∀ x ∈ l, x ≤ topZ l := by
  cases l with
  | nil => intro x hx; cases hx
  | cons y l =>
    intro x hx
    rcases List.mem_cons.1 hx with rfl | hx
    · exact Int.le_refl _
    · have := desc_head h x hx
      show x ≤ y
      omega
theorem near_top {l : List Int} (h : l ≠ []) : topZ (nearZ l) = topZ l := by
  cases l with
  | nil => exact absurd rfl h
  | cons x l =>
    have e : decide (topZ (x :: l) - 6 < x) = true := decide_eq_true (by show x - 6 < x; omega)
    unfold nearZ
    rw [List.filter_cons, if_pos e]
    rfl
theorem put_ne (n : Int) (seen : List Int) : putD n seen ≠ [] := by
  unfold putD
  simp
/-- What is noted stays right, has the number, and does not take it again. -/
theorem note_right {seen r : List Int} {n : Int} (hf : FreshP seen n) (h : NoteIs seen n r) : SeenP r ∧ n ∈ r ∧ ¬ FreshP r n := by
  rcases h with ⟨-, rfl⟩ | ⟨h, -⟩
  · have hd := put_desc n hf.1.2.2.1
    have hne := put_ne n seen
    have ht := near_top hne
    have hd2 : DescZ (nearZ (putD n seen)) := desc_filter _ hd
    have hall : ∀ x ∈ nearZ (putD n seen), topZ (nearZ (putD n seen)) - 6 < x := fun x hx => by rw [ht]; exact of_decide_eq_true (List.mem_filter.1 hx).2
    have hl := desc_len hd2 hall
    have hnm : n ∈ nearZ (putD n seen) := by
      refine List.mem_filter.2 ⟨put_mem.2 (.inl rfl), decide_eq_true ?_⟩
      have h1 := put_mem.1 (top_mem hne)
      have h2 := hf.2.2.2
      rcases h1 with h1 | ⟨h1, -⟩
      · omega
      · have := top_most hf.1.2.2.1 _ h1
        omega
    refine ⟨⟨by omega, fun x hx => ?_, hd2, hall⟩, hnm, fun h => h.2.2.1 hnm⟩
    rcases put_mem.1 (List.mem_filter.1 hx).1 with rfl | ⟨h1, -⟩
    · exact hf.2.1
    · exact hf.1.2.1 x h1
  · exact absurd hf h
theorem seen_none : SeenP [] := ⟨by simp, by simp, trivial, by simp⟩

end Go.Proofs.YtoaifgblbfdncaaDoor
