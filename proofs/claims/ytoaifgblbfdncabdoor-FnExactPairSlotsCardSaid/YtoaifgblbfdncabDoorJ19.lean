/-
  The given sums under a key.
  The given NextKeys.
  Slots that are drawn stay right, in plain words; no program is spoken of here.
  A row of ints of the call's own stays where an order is drawn.
-/
import Derived.Test.YtoaifgblbfdncabDoorJ18
import Derived.Test.YtoaifgblbfdncabDoorJ08
import Derived.Test.YtoaifgblbfdncabDoorJ04
namespace Go.Proofs.YtoaifgblbfdncabDoor
open Go.RowKit

theorem OwnB.set {w : World} {base g cap n : Nat} {e : TypeId} {xs : List UInt8} (h : OwnB w base e (.slice (some ⟨g, 0, none⟩) n cap) xs) (hn : xs.length = n) (j : Nat) (x : UInt8) :
    OwnB (w.setCell ⟨g, j, none⟩ (.int .u8 (x.toNat : Int))) base e (.slice (some ⟨g, 0, none⟩) n cap) (xs.set j x) := by
  subst hn
  have h' : w.ownsRow base e 1 (.slice (some ⟨g, 0, none⟩) xs.length cap) xs.length (Lib.byteCells xs) := h
  have := (h'.stored j (.int .u8 (x.toNat : Int))).1
  unfold OwnB
  rw [List.length_set]
  have e1 : Lib.byteCells (xs.set j x) = (Lib.byteCells xs).set j (.int .u8 (x.toNat : Int)) := by unfold Lib.byteCells; rw [List.map_set]
  rw [e1]
  exact this
theorem OwnB.free {w : World} {base g cap n : Nat} {e : TypeId} {xs : List UInt8} (h : OwnB w base e (.slice (some ⟨g, 0, none⟩) n cap) xs) (hn : xs.length = n) (j : Nat) : w.frozen? ⟨g, j, none⟩ = false := by
  subst hn
  exact World.ownsRow.frozenAt (base := base) (e := e) (size := 1) (xs := Lib.byteCells xs) (n := xs.length) (cap := cap) h j
theorem OwnB.at {w : World} {base g cap n : Nat} {e : TypeId} {xs : List UInt8} (h : OwnB w base e (.slice (some ⟨g, 0, none⟩) n cap) xs) (hn : xs.length = n) (j : Nat) (hj : j < n) : w.cell? ⟨g, j, none⟩ = some (.int .u8 ((xs.getD j 0).toNat : Nat)) := by
  subst hn
  obtain ⟨ao, c, hv, hh⟩ := h.form
  obtain ⟨g', hg', _, hc⟩ := hh (by omega)
  simp only [Value.slice.injEq] at hv
  obtain ⟨h1, _, _⟩ := hv
  rw [hg'] at h1
  simp only [Option.some.injEq, Addr.mk.injEq, and_true] at h1
  subst h1
  exact hc j hj
theorem specDigP_any (s : ByteArray) (hs : s.size ≤ 500000000) (w : World) :
    Calls Tryd.prog 14 #[.string s] w fun e w' => e = .returned (.string (digP s)) ∧ Below w.heap.size w w' := specDigestOf_any s hs w
end Go.Proofs.YtoaifgblbfdncabDoor
namespace Go.Proofs.YtoaifgblbfdncabDoor
open Go.RowKit

end Go.Proofs.YtoaifgblbfdncabDoor
namespace Go.Proofs.YtoaifgblbfdncabDoor

/-- Right slots, the main ones keys, of an epoch at most m. -/
structure Good12 (m : Int) (x0 : Int) (x1 x2 : ByteArray) (x3 : Int) (r4 : List Int) (x5 : Int) (y0 : Int) (y1 y2 : ByteArray) (y3 : Int) (s4 : List Int) (y5 : Int) : Prop where
  p : SlotsP x0 x1 x2 x3 r4 x5 y0 y1 y2 y3 s4 y5
  k : KeysP x0 x1 x2 x3 r4 x5
  le : x0 ≤ m
section
variable {m x0 : Int} {x1 x2 : ByteArray} {x3 : Int} {r4 : List Int} {x5 y0 : Int} {y1 y2 : ByteArray} {y3 : Int} {s4 : List Int} {y5 : Int}
theorem none_zero : NoneP 0 ⟨#[]⟩ ⟨#[]⟩ 0 [] 0 := ⟨rfl, rfl, rfl, rfl, rfl, rfl⟩
theorem Good12.mono {n : Int} (h : Good12 m x0 x1 x2 x3 r4 x5 y0 y1 y2 y3 s4 y5) (hn : m ≤ n) : Good12 n x0 x1 x2 x3 r4 x5 y0 y1 y2 y3 s4 y5 := ⟨h.p, h.k, Int.le_trans h.le hn⟩
end

end Go.Proofs.YtoaifgblbfdncabDoor
namespace Go.Proofs.YtoaifgblbfdncabDoor
open Go.RowKit

theorem own_drew {Y : World} {f : List Nat} {b : Nat} {c : List Value} {r : List Int} (h : layIntS.own Y b f c r) : layIntS.own Y.drew b f c r := layIntS.keep h (fun _ _ => rfl)

end Go.Proofs.YtoaifgblbfdncabDoor
