/-
  Variables of two cells; no program is spoken of here.
  The given functions of prefixes.
  The given InPrefix where the prefix or the address is not right, and by what it answers.
  The given ReadPrefix.
-/
import Derived.Test.YtmgdhlodifkematDoorJ04
import Derived.Test.YtmgdhlodifkematDoorJ23
import Derived.Test.YtmgdhlodifkematDoorJ19
import Derived.Deep.RegionHeld3
import Derived.BigQuiet
import Derived.Deep.QuietTactic
namespace Go.Proofs.YtmgdhlodifkematDoor
open Go.RowKit

/-- A variable of two cells in a block of its own. -/
structure VarP (r : Nat) (t : TypeId) (a b : Value) (X : World) : Prop where
  row : X.heap[r]? = some (.cells #[a, b] t (0, 0))
theorem VarP.next {r : Nat} {t : TypeId} {a b : Value} {X Y : World} (h : VarP r t a b X) (hb : Below X.heap.size X Y) : VarP r t a b Y := ⟨by rw [hb.block r (lt_of_block h.row)]; exact h.row⟩
theorem VarP.drew {r : Nat} {t : TypeId} {a b : Value} {X : World} (h : VarP r t a b X) : VarP r t a b X.drew := ⟨h.row⟩
theorem VarP.c0 {r : Nat} {t : TypeId} {a b : Value} {X : World} (h : VarP r t a b X) : X.cell? ⟨r, 0, none⟩ = some a := by rw [cell_of_row X r 0 _ t (0, 0) h.row]; rfl
theorem VarP.c1 {r : Nat} {t : TypeId} {a b : Value} {X : World} (h : VarP r t a b X) : X.cell? ⟨r, 1, none⟩ = some b := by rw [cell_of_row X r 1 _ t (0, 0) h.row]; rfl
theorem VarP.free {r : Nat} {t : TypeId} {a b : Value} {X : World} (h : VarP r t a b X) (j : Nat) : X.frozen? ⟨r, j, none⟩ = false := frozen_of_row X r j _ t h.row
theorem VarP.set2 {r : Nat} {t : TypeId} {a b : Value} {X : World} (h : VarP r t a b X) (a' b' : Value) : VarP r t a' b' ((X.setCell ⟨r, 0, none⟩ a').setCell ⟨r, 1, none⟩ b') :=
  ⟨by have h1 := h.row; simp [World.setCell, Array.getElem?_modify, h1]⟩
theorem Only.set2 (w : World) (r : Nat) (v0 v1 : Value) : Only r w ((w.setCell ⟨r, 0, none⟩ v0).setCell ⟨r, 1, none⟩ v1) := (Only.setCell 0 v0).trans (Only.setCell 1 v1)
theorem VarP.set0 {r : Nat} {t : TypeId} {a b : Value} {X : World} (h : VarP r t a b X) (a' : Value) : VarP r t a' b (X.setCell ⟨r, 0, none⟩ a') := ⟨by have h1 := h.row; simp [World.setCell, Array.getElem?_modify, h1]⟩
theorem VarP.set1 {r : Nat} {t : TypeId} {a b : Value} {X : World} (h : VarP r t a b X) (b' : Value) : VarP r t a b' (X.setCell ⟨r, 1, none⟩ b') := ⟨by have h1 := h.row; simp [World.setCell, Array.getElem?_modify, h1]⟩
theorem VarP.only {r q : Nat} {t : TypeId} {a b : Value} {X Y : World} (h : VarP r t a b X) (ho : Only q X Y) (hr : r ≠ q) : VarP r t a b Y := ⟨by rw [ho.block r (lt_of_block h.row) hr]; exact h.row⟩
theorem VarP.new (w : World) (t : TypeId) (a b : Value) : VarP w.heap.size t a b (w.alloc (.cells #[a, b] t)) := ⟨heap_alloc_new w _⟩

/-- A variable of two cells that the call itself has made, and nothing below it is changed. -/
structure PV (w : World) (t : TypeId) (a b : Value) (X : World) : Prop where
  v : VarP w.heap.size t a b X
  below : Below w.heap.size w X
theorem PV.next {w : World} {t : TypeId} {a b : Value} {X Y : World} (h : PV w t a b X) (hb : Below X.heap.size X Y) : PV w t a b Y := ⟨h.v.next hb, h.below.trans (hb.mono h.below.size)⟩
theorem PV.drew {w : World} {t : TypeId} {a b : Value} {X : World} (h : PV w t a b X) : PV w t a b X.drew := ⟨h.v.drew, h.below.drew⟩
theorem PV.two {w : World} {t : TypeId} {a b : Value} {X : World} (h : PV w t a b X) : X.cell? ⟨w.heap.size, 0, none⟩ = some a ∧ X.cell? ⟨w.heap.size, 1, none⟩ = some b ∧ PV w t a b X := ⟨h.v.c0, h.v.c1, h⟩
theorem PV.new (w : World) (t : TypeId) (a b : Value) : PV w t a b (w.alloc (.cells #[a, b] t)) := ⟨VarP.new w t a b, (Below.refl _ _).alloc (Nat.le_refl _) _⟩
theorem PV.set2 {w : World} {t : TypeId} {a b : Value} {X : World} (h : PV w t a b X) (a' b' : Value) : PV w t a' b' ((X.setCell ⟨w.heap.size, 0, none⟩ a').setCell ⟨w.heap.size, 1, none⟩ b') :=
  ⟨h.v.set2 a' b', h.below.trans ((Only.set2 X w.heap.size a' b').below (Nat.le_refl _) h.below.size)⟩

end Go.Proofs.YtmgdhlodifkematDoor
namespace Go.Proofs.YtmgdhlodifkematDoor
open Go.RowKit

/-- Whether a prefix is right. -/
def PrefOk (a n : Int) : Prop := (0 ≤ a ∧ a ≤ 4294967295) ∧ (0 ≤ n ∧ n ≤ 32) ∧ a.toNat % sizeP n.toNat = 0
theorem prefOk_nat (a n : Nat) (ha : a ≤ 4294967295) (hn : n ≤ 32) (h : a % sizeP n = 0) : PrefOk a n := ⟨⟨by omega, by omega⟩, ⟨by omega, by omega⟩, h⟩
theorem PrefOk.nats {a n : Int} (h : PrefOk a n) : ∃ b m : Nat, a = b ∧ n = m ∧ b ≤ 4294967295 ∧ m ≤ 32 ∧ b % sizeP m = 0 := by
  obtain ⟨⟨h0, h1⟩, ⟨h2, h3⟩, h4⟩ := h
  exact ⟨a.toNat, n.toNat, by omega, by omega, by omega, by omega, h4⟩
/-- Whether an address is in a prefix. -/
def InPref (a n x : Int) : Prop := PrefOk a n ∧ (0 ≤ x ∧ x ≤ 4294967295) ∧ (firstP x.toNat n.toNat : Int) = a

end Go.Proofs.YtmgdhlodifkematDoor
namespace Go.Proofs.YtmgdhlodifkematDoor
open Go.RowKit

end Go.Proofs.YtmgdhlodifkematDoor
namespace Go.Proofs.YtmgdhlodifkematDoor
open Go.RowKit

/-- How reading a prefix ends. -/
def PrefEnd (s : ByteArray) (e : Ending) : Prop :=
  (∃ a n : Nat, PrefOk a n ∧ s.data.toList = prefL a n ∧ e = .returned (.tuple #[.agg #[.int .i64 (a : Nat), .int .i64 (n : Nat)], .bool true])) ∨ ((∀ a n : Nat, PrefOk a n → s.data.toList ≠ prefL a n) ∧ e = .returned (.tuple #[.agg #[.int .i64 0, .int .i64 0], .bool false]))
/-- A text's number, or none. -/
theorem specReadDec_all (p : List UInt8) : ∃ (n : Nat) (b : Bool), n ≤ 1000000000 ∧ (∀ w, Calls Tryd.prog 10 #[.string ⟨p.toArray⟩] w fun e w' => e = .returned (.tuple #[.int .i64 n, .bool b]) ∧ Below w.heap.size w w') ∧
    ((b = true ∧ Lib.decDigits n = p) ∨ (b = false ∧ n = 0 ∧ ∀ m, m ≤ 1000000000 → Lib.decDigits m ≠ p)) := by
  by_cases h : ∃ m, m ≤ 1000000000 ∧ Lib.decDigits m = p
  · obtain ⟨m, hm, hp⟩ := h
    exact ⟨m, true, hm, fun w => specReadDec_yes m hm _ (by rw [hp]) w, .inl ⟨rfl, hp⟩⟩
  · exact ⟨0, false, by omega, fun w => specReadDec_no _ (fun m hm e => h ⟨m, hm, e.symm⟩) w, .inr ⟨rfl, rfl, fun m hm e => h ⟨m, hm, e⟩⟩⟩
theorem cutAt_len (x : UInt8) : ∀ (l cur : List UInt8), ∀ p ∈ cutAt x cur l, p.length ≤ cur.length + l.length
  | [], cur, p, h => by simp [cutAt] at h; subst h; simp
  | b :: l, cur, p, h => by
    rw [cutAt_cons] at h
    split at h
    · rcases List.mem_cons.1 h with rfl | h
      · omega
      · have := cutAt_len x l [] p h
        simp at this ⊢
        omega
    · have := cutAt_len x l (cur ++ [b]) p h
      simp at this ⊢
      omega
theorem two_of (ps : List (List UInt8)) (h : ps.length = 2) : ∃ p q, ps = [p, q] := by
  match ps, h with
  | [p, q], _ => exact ⟨p, q, rfl⟩
theorem pref_cut (l p q : List UInt8) (hc : cutAt 47 [] l = [p, q]) (a n : Nat) (e : l = prefL a n) : addrL a = p ∧ Lib.decDigits n = q := by
  rw [e, cut_pref] at hc
  simpa using hc
theorem pref_join (l p q : List UInt8) (hc : cutAt 47 [] l = [p, q]) (a n : Nat) (h1 : addrL a = p) (h2 : Lib.decDigits n = q) : l = prefL a n := by
  have h := joinAt_cut 47 l []
  rw [hc, ← h1, ← h2] at h
  exact h.symm

end Go.Proofs.YtmgdhlodifkematDoor
