/-
  Slots that are drawn stay right, in plain words; no program is spoken of here.
  The front and the back of two texts; no program is spoken of here.
  The front and the back of two texts, beside masks; no program is spoken of here.
  Data that is opened, in plain words: by the main keys, by the lame ones, or not.
  The given NextKeys.
-/
import Derived.Test.YtoaifgblbfdncaaGreatDoorJ06
import Derived.Test.YtoaifgblbfdncaaGreatDoorRows
import Derived.Test.YtoaifgblbfdncaaGreatDoorJ16
import Derived.Test.YtoaifgblbfdncaaGreatDoorJ17
import Derived.Test.YtoaifgblbfdncaaGreatDoorJ15
namespace Go.Proofs.YtoaifgblbfdncaaGreatDoor

/-- Right slots, the main ones keys, of an epoch at most m. -/
structure Good12 (m : Int) (x0 : Int) (x1 x2 : ByteArray) (x3 : Int) (r4 : List Int) (x5 : Int) (y0 : Int) (y1 y2 : ByteArray) (y3 : Int) (s4 : List Int) (y5 : Int) : Prop where
  p : SlotsP x0 x1 x2 x3 r4 x5 y0 y1 y2 y3 s4 y5
  k : KeysP x0 x1 x2 x3 r4 x5
  le : x0 ≤ m
section
variable {m x0 : Int} {x1 x2 : ByteArray} {x3 : Int} {r4 : List Int} {x5 y0 : Int} {y1 y2 : ByteArray} {y3 : Int} {s4 : List Int} {y5 : Int}
theorem keys_some (h : KeysP x0 x1 x2 x3 r4 x5) : ¬ NoneP x0 x1 x2 x3 r4 x5 := fun k => by
  have h1 := h.1.1
  have h2 := k.1
  omega
theorem none_zero : NoneP 0 ⟨#[]⟩ ⟨#[]⟩ 0 [] 0 := ⟨rfl, rfl, rfl, rfl, rfl, rfl⟩
theorem none_seen : SeenP [] := ⟨by simp, (fun x h => by cases h), trivial, (fun x h => by cases h)⟩
theorem Good12.mono {n : Int} (h : Good12 m x0 x1 x2 x3 r4 x5 y0 y1 y2 y3 s4 y5) (hn : m ≤ n) : Good12 n x0 x1 x2 x3 r4 x5 y0 y1 y2 y3 s4 y5 := ⟨h.p, h.k, Int.le_trans h.le hn⟩
end

end Go.Proofs.YtoaifgblbfdncaaGreatDoor
namespace Go.Proofs.YtoaifgblbfdncaaGreatDoor

theorem front_two (a b : ByteArray) : (a ++ b).extract 0 a.size = a := by
  apply ByteArray.ext
  apply Array.ext'
  simp
  exact List.take_of_length_le (by simp)
theorem back_two (a b : ByteArray) : (a ++ b).extract a.size (a ++ b).size = b := by
  apply ByteArray.ext
  apply Array.ext'
  rw [ByteArray.data_extract, Array.toList_extract, List.extract_eq_take_drop, ByteArray.size_append]
  simp
  exact List.take_of_length_le (by simp)

end Go.Proofs.YtoaifgblbfdncaaGreatDoor
namespace Go.Proofs.YtoaifgblbfdncaaGreatDoor

end Go.Proofs.YtoaifgblbfdncaaGreatDoor
namespace Go.Proofs.YtoaifgblbfdncaaGreatDoor
open Go.RowKit

/-- The main keys are asked. -/
def MainP (x0 : Int) (x1 x2 : ByteArray) (x3 : Int) (r4 : List Int) (x5 : Int) (y0 : Int) (y1 y2 : ByteArray) (y3 : Int) (s4 : List Int) (y5 : Int) (op key fr dst num : Int) (acks : List Int) (body : ByteArray) : Prop :=
  SlotsP x0 x1 x2 x3 r4 x5 y0 y1 y2 y3 s4 y5 ∧ PkOkP op key fr dst num acks body ∧ op = 3 ∧ ¬ NoneP x0 x1 x2 x3 r4 x5 ∧ x0 % 8 = key
/-- The lame ones are asked. -/
def LameP (x0 : Int) (x1 x2 : ByteArray) (x3 : Int) (r4 : List Int) (x5 : Int) (y0 : Int) (y1 y2 : ByteArray) (y3 : Int) (s4 : List Int) (y5 : Int) (op key fr dst num : Int) (acks : List Int) (body : ByteArray) (now : Int) : Prop :=
  SlotsP x0 x1 x2 x3 r4 x5 y0 y1 y2 y3 s4 y5 ∧ PkOkP op key fr dst num acks body ∧ op = 3 ∧ ¬ (¬ NoneP x0 x1 x2 x3 r4 x5 ∧ x0 % 8 = key) ∧ ¬ NoneP y0 y1 y2 y3 s4 y5 ∧ now < y5 ∧ y0 % 8 = key
/-- What OpenData tells: the numbers seen of both, the text, and whether. -/
def OpenD (x0 : Int) (x1 x2 : ByteArray) (x3 : Int) (r4 : List Int) (x5 : Int) (y0 : Int) (y1 y2 : ByteArray) (y3 : Int) (s4 : List Int) (y5 : Int) (op key fr dst num : Int) (acks : List Int) (body : ByteArray) (now : Int) (r5 s5 : List Int) (t : ByteArray) (ok : Bool) : Prop :=
  (MainP x0 x1 x2 x3 r4 x5 y0 y1 y2 y3 s4 y5 op key fr dst num acks body ∧ OpensP x2 r4 num body r5 t ok ∧ s5 = s4) ∨
  (LameP x0 x1 x2 x3 r4 x5 y0 y1 y2 y3 s4 y5 op key fr dst num acks body now ∧ OpensP y2 s4 num body s5 t ok ∧ r5 = r4) ∨
  (¬ MainP x0 x1 x2 x3 r4 x5 y0 y1 y2 y3 s4 y5 op key fr dst num acks body ∧ ¬ LameP x0 x1 x2 x3 r4 x5 y0 y1 y2 y3 s4 y5 op key fr dst num acks body now ∧ r5 = r4 ∧ s5 = s4 ∧ t = ⟨#[]⟩ ∧ ok = false)
/-- Slots and a text are handed back. -/
def OpenEnd (x0 : Int) (x1 x2 : ByteArray) (x3 : Int) (x5 : Int) (y0 : Int) (y1 y2 : ByteArray) (y3 : Int) (y5 : Int) (r5 s5 : List Int) (t : ByteArray) (ok : Bool) (w : World) (e : Ending) (w' : World) : Prop :=
  ∃ (v u : Value) (f g : List Nat), e = .returned (.tuple #[.agg #[.int .i64 x0, .string x1, .string x2, .int .i64 x3, v, .int .i64 x5, .int .i64 y0, .string y1, .string y2, .int .i64 y3, u, .int .i64 y5], .string t, .bool ok]) ∧ (f ++ g).Nodup ∧ layIntS.own w' w.heap.size f [v] r5 ∧ layIntS.own w' w.heap.size g [u] s5 ∧ Below w.heap.size w w'
/-- What was locked is opened. -/
theorem lock_opens (key : ByteArray) (n : Int) (s : ByteArray) (h0 : 0 ≤ n) (h1 : n ≤ 1000000000) (hs : s.size ≤ 8000) : OpenIs key n (lockP key n.toNat s) s true := by
  have hz := lockP_size key n.toNat s
  have hx : (lockP key n.toNat s).extract 0 ((lockP key n.toNat s).size - 16) = lockX key n.toNat s := by
    rw [hz, Nat.add_sub_cancel]
    unfold lockP
    rw [← lockX_size key n.toNat s]
    exact front_two _ _
  have hr : (lockP key n.toNat s).extract ((lockP key n.toNat s).size - 16) (lockP key n.toNat s).size = tagP key n.toNat (lockX key n.toNat s) := by
    rw [hz, Nat.add_sub_cancel, ← hz]
    have h := back_two (lockX key n.toNat s) (tagP key n.toNat (lockX key n.toNat s))
    rw [lockX_size] at h
    exact h
  refine .inr ⟨⟨⟨by omega, by omega⟩, h0, h1⟩, ?_, ?_⟩
  · rw [hx, hr]
    simp
  · rw [if_pos rfl, hx, openP_lock]

end Go.Proofs.YtoaifgblbfdncaaGreatDoor
namespace Go.Proofs.YtoaifgblbfdncaaGreatDoor
open Go.RowKit

end Go.Proofs.YtoaifgblbfdncaaGreatDoor
