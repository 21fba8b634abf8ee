/-
  How much a row of ints measures, by the laws' own function.
  Small laws of no program: rows of texts that the call itself made.
  The given mark of a number, as a text.
  An element of a row taken out, where only new blocks are made; marks that are texts; measured rows.
  Rows of ints beside rows of structs: marked and measured by the same words.
-/
import Derived.Test.YtoaifgblbfdncabDoorJ04
import Derived.Test.YtoaifgblbfdncabDoorJ01
import Derived.Test.YtoaifgblbfdncabDoorRows
import Derived.Test.YtoaifgblbfdncabDoorJ02
import Derived.BigQuiet
import Derived.Deep.QuietTactic
import Derived.Deep.RegionHeld3
namespace Go.Proofs.YtoaifgblbfdncabDoor
open Go.RowKit

set_option maxRecDepth 100000 in
set_option maxHeartbeats 400000 in
theorem szIntS_any (a : Option Addr) (len cap : Nat) (left : Int) (h0 : 0 ≤ left) (h1 : left ≤ 1048576) (hl : len ≤ 9223372036854775807) (w : World) :
    Calls Tryd.prog 44 #[.slice a len cap, .int .i64 left] w fun e w' => e = .returned (.int .i64 (if left < len then -1 else left - (len : Int))) ∧ w' = w := by
  by_cases h : left < (len : Int)
  · have h1 : left - (len : Int) < 0 := by omega
    rw [if_pos h]
    go_enter Tryd.func44, Tryd.ntmps44
    go_wp2
    go_ret
    exact ⟨rfl, rfl⟩
  · have h1 : ¬ (left - (len : Int) < 0) := by omega
    rw [if_neg h]
    go_enter Tryd.func44, Tryd.ntmps44
    go_wp2
    go_ret
    exact ⟨rfl, rfl⟩

end Go.Proofs.YtoaifgblbfdncabDoor
namespace Go.Proofs.YtoaifgblbfdncabDoor
open Go.RowKit

def strs (ls : List (List UInt8)) : List Value := ls.map fun l => Value.string ⟨l.toArray⟩

/-- The slice value v is nil or the call's own (from block 'base' on), and holds these texts. -/
def OwnS (w : World) (base : Nat) (e : TypeId) (v : Value) (ls : List (List UInt8)) : Prop := w.ownsRow base e 1 v ls.length (strs ls)

theorem OwnS.nil (w : World) (base : Nat) (e : TypeId) : OwnS w base e (.slice none 0 0) [] := World.ownsRow_nil _ _ _ _
theorem OwnS.lit (w : World) (base : Nat) (e : TypeId) (hb : base ≤ w.heap.size) : OwnS (w.alloc (.cells #[] e)) base e (.slice (some ⟨w.heap.size, 0, none⟩) 0 0) [] :=
  World.ownsRow_lit w #[] 0 hb (by decide) rfl
theorem OwnS.alloc {w : World} {base : Nat} {e : TypeId} {v : Value} {ls : List (List UInt8)} (h : OwnS w base e v ls) (o : Obj) : OwnS (w.alloc o) base e v ls := World.ownsRow.alloc h o
theorem OwnS.drewN {w : World} {base : Nat} {e : TypeId} {v : Value} {ls : List (List UInt8)} (h : OwnS w base e v ls) (n : Nat) : OwnS (w.drewN n) base e v ls := h
theorem OwnS.lower {w : World} {base base' : Nat} {e : TypeId} {v : Value} {ls : List (List UInt8)} (h : OwnS w base e v ls) (hb : base' ≤ base) : OwnS w base' e v ls := by
  refine ⟨h.1, ?_⟩
  rcases h.2 with h | ⟨g, cap, cur, h1, h2, h3⟩
  · exact .inl h
  · exact .inr ⟨g, cap, cur, h1, by omega, h3⟩

theorem OwnS.below {w w' : World} {base : Nat} {e : TypeId} {v : Value} {ls : List (List UInt8)} (h : OwnS w base e v ls) (hb : Below w.heap.size w w') : OwnS w' base e v ls := by
  refine ⟨h.1, ?_⟩
  rcases h.2 with h | ⟨g, cap, cur, h1, h2, h3, h4⟩
  · exact .inl h
  · exact .inr ⟨g, cap, cur, h1, h2, by rw [hb.block g (lt_of_block h3)]; exact h3, h4⟩

/-- The shape of an owned row of texts, and its cells. -/
theorem OwnS.form {w : World} {base : Nat} {e : TypeId} {v : Value} {ls : List (List UInt8)} (h : OwnS w base e v ls) : ∃ ao cap, v = .slice ao ls.length cap ∧
    (0 < ls.length → ∃ g, ao = some ⟨g, 0, none⟩ ∧ base ≤ g ∧ g < w.heap.size ∧ ∀ j, j < ls.length → w.cell? ⟨g, j, none⟩ = some (.string ⟨(ls.getD j []).toArray⟩) ∧ w.frozen? ⟨g, j, none⟩ = false) := by
  have h' : w.ownsRow base e 1 v ls.length (strs ls) := h
  rcases h'.2 with ⟨rfl, h0⟩ | ⟨g, cap, cur, rfl, hb, hh, _, _, _, _⟩
  · exact ⟨none, 0, by rw [h0], fun hp => by omega⟩
  · refine ⟨_, cap, rfl, fun _ => ⟨g, rfl, hb, lt_of_block hh, fun j hj => ⟨?_, h'.frozenAt j⟩⟩⟩
    rw [h'.cellAt j (by omega)]
    simp [strs, hj]

/-- One text of the row is written over. -/
theorem OwnS.stored {w : World} {base : Nat} {e : TypeId} {g n cap : Nat} {ls : List (List UInt8)} (hn : n = ls.length) (h : OwnS w base e (.slice (some ⟨g, 0, none⟩) n cap) ls) (j : Nat) (t : List UInt8) :
    OwnS (w.setCell ⟨g, j, none⟩ (.string ⟨t.toArray⟩)) base e (.slice (some ⟨g, 0, none⟩) n cap) (ls.set j t) := by
  subst hn
  have h' : w.ownsRow base e 1 (.slice (some ⟨g, 0, none⟩) ls.length cap) ls.length (strs ls) := h
  have h2 := (h'.stored j (.string ⟨t.toArray⟩)).1
  unfold OwnS
  have e1 : strs (ls.set j t) = (strs ls).set j (.string ⟨t.toArray⟩) := by simp [strs]
  rw [e1, List.length_set]
  exact h2

end Go.Proofs.YtoaifgblbfdncabDoor
namespace Go.Proofs.YtoaifgblbfdncabDoor
open Go.RowKit

theorem ret_int {k : IntKind} {a b : Int} (h : a = b) : Ending.returned (.int k a) = .returned (.int k b) := by rw [h]

/-- The mark of a number. -/
def mark (k : Nat) : List UInt8 := 109 :: digs k

end Go.Proofs.YtoaifgblbfdncabDoor
namespace Go.Proofs.YtoaifgblbfdncabDoor
open Go.RowKit

theorem Zip.next {α : Type} {e : TypeId} {A : Lay α} {w w' : World} {b g cap : Nat} {f1 f2 f3 : List Nat} {u1 c u3 : List Value} {X : List α} {x : α} {Y : List α} (h : Zip e A w b g cap f1 f2 f3 u1 c u3 X x Y) (hb : Below w.heap.size w w') : Zip e A w' b g cap f1 f2 f3 u1 c u3 X x Y :=
  ⟨ownsRow_keep h.row (hb.block g h.lt.2), ownAll_keep A h.left (fun i hi => hb.block i (ownAll_blocks A h.left i hi).2), A.next h.mid hb, ownAll_keep A h.right (fun i hi => hb.block i (ownAll_blocks A h.right i hi).2), h.dup⟩
/-- What is left, or -1. -/
def SzEnd (P : Prop) (left : Int) (e : Ending) : Prop := ∃ r : Int, e = .returned (.int .i64 r) ∧ (r = -1 ∨ (0 ≤ r ∧ r ≤ left ∧ P))

end Go.Proofs.YtoaifgblbfdncabDoor
namespace Go.Proofs.YtoaifgblbfdncabDoor
open Go.RowKit

theorem markI_up : ∀ (xs : List Int) (k : Int), (layIntS.mark k xs).1 = upI k xs.length
  | [], k => rfl
  | x :: xs, k => by
    have h := markI_up xs (k + 1)
    show k :: (layIntS.mark (k + 1) xs).1 = _
    rw [h]
    unfold upI
    rw [List.length_cons, List.range_succ_eq_map, List.map_cons, List.map_map]
    simp only [Int.natCast_zero, Int.add_zero, List.cons.injEq, true_and]
    refine List.map_congr_left (fun j _ => ?_)
    simp only [Function.comp_apply, Nat.succ_eq_add_one, Int.natCast_add, Int.natCast_one]
    omega
theorem markIntL_any (v : Value) (xs : List Int) (b : Nat) (fp : List Nat) (k : Int) (hk0 : 1 ≤ k) (hk1 : k ≤ 500000000) (hl : xs.length ≤ 10000000) (w : World) (hd : fp.Nodup) (ho : layIntS.own w b fp [v] xs) :
    Calls Tryd.prog 42 #[v, .int .i64 k] w fun e w' => e = .returned (.int .i64 (k + 1 * (xs.length : Int))) ∧ layIntS.own w' b fp [v] (layIntS.mark k xs).1 ∧ Chg fp w w' := by
  refine (markIntS_any v xs b fp k (by omega) (by omega) (by omega) w hd ho).mono ?_
  rintro e w' ⟨rfl, h1, h2⟩
  exact ⟨by rw [Int.one_mul], by rw [markI_up]; exact h1, h2⟩
theorem heldIntL_any (v : Value) (xs : List Int) (k : Int) (hk0 : 1 ≤ k) (hk1 : k ≤ 500000000) (hl : xs.length ≤ 10000000) (w : World) (hr : layIntS.rd w [v] (layIntS.mark k xs).1) :
    Calls Tryd.prog 43 #[v, .int .i64 k] w fun e w' => e = .returned (.int .i64 (k + 1 * (xs.length : Int))) ∧ Below w.heap.size w w' := by
  rw [markI_up] at hr
  refine (heldIntS_any v xs.length k (by omega) (by omega) (by omega) w hr).mono ?_
  rintro e w' ⟨rfl, rfl⟩
  exact ⟨by rw [Int.one_mul], Below.refl _ _⟩
def FitsInt (xs : List Int) : Prop := xs.length ≤ 1048576
def RoomInt (xs : List Int) : Prop := xs.length ≤ 9223372036854775807
theorem szIntL_any (v : Value) (xs : List Int) (left : Int) (h0 : 0 ≤ left) (h1 : left ≤ 1048576) (hR : RoomInt xs) (w : World) (h : layIntS.rd w [v] xs) :
    Calls Tryd.prog 44 #[v, .int .i64 left] w fun e w' => SzEnd (FitsInt xs) left e ∧ Below w.heap.size w w' := by
  obtain ⟨ao, cp, rfl⟩ := rows_form h
  unfold RoomInt at hR
  refine (szIntS_any ao xs.length cp left h0 h1 (by omega) w).mono ?_
  rintro e w' ⟨rfl, rfl⟩
  refine ⟨⟨_, rfl, ?_⟩, Below.refl _ _⟩
  by_cases h2 : left < (xs.length : Int)
  · rw [if_pos h2]
    exact .inl rfl
  · rw [if_neg h2]
    exact .inr ⟨by omega, by omega, by show xs.length ≤ _; omega⟩

end Go.Proofs.YtoaifgblbfdncabDoor
