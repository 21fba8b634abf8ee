/-
  Variables of two cells; no program is spoken of here.
  The program's key made ready.
  The program's NextKeys.
-/
import Derived.Test.YtpfkokjbpfaafavDoorJ04
import Derived.Test.YtpfkokjbpfaafavDoorJ05
import Derived.Test.YtpfkokjbpfaafavDoorJ20
import Derived.Lib.Repeat
import Derived.Test.YtpfkokjbpfaafavDoorJ12
namespace Go.Proofs.YtpfkokjbpfaafavDoor
open Go.RowKit

/-- A variable of two cells in a block of its own. -/
structure VarP (r : Nat) (t : TypeId) (a b : Value) (X : World) : Prop where
  row : X.heap[r]? = some (.cells #[a, b] t (0, 0))
theorem VarP.next {r : Nat} {t : TypeId} {a b : Value} {X Y : World} (h : VarP r t a b X) (hb : Below X.heap.size X Y) : VarP r t a b Y := ⟨by rw [hb.block r (lt_of_block h.row)]; exact h.row⟩
theorem VarP.drew {r : Nat} {t : TypeId} {a b : Value} {X : World} (h : VarP r t a b X) : VarP r t a b X.drew := ⟨h.row⟩
theorem VarP.c0 {r : Nat} {t : TypeId} {a b : Value} {X : World} (h : VarP r t a b X) : X.cell? ⟨r, 0, none⟩ = some a := by rw [cell_of_row X r 0 _ t (0, 0) h.row]; rfl
theorem VarP.c1 {r : Nat} {t : TypeId} {a b : Value} {X : World} (h : VarP r t a b X) : X.cell? ⟨r, 1, none⟩ = some b := by rw [cell_of_row X r 1 _ t (0, 0) h.row]; rfl
theorem VarP.free {r : Nat} {t : TypeId} {a b : Value} {X : World} (h : VarP r t a b X) (j : Nat) : X.frozen? ⟨r, j, none⟩ = false := frozen_of_row X r j _ t h.row
theorem VarP.set2 {r : Nat} {t : TypeId} {a b : Value} {X : World} (h : VarP r t a b X) (a' b' : Value) : VarP r t a' b' ((X.setCell ⟨r, 0, none⟩ a').setCell ⟨r, 1, none⟩ b') :=
  ⟨by have h1 := h.row; simp [World.setCell, Array.getElem?_modify, h1]⟩
theorem Only.set2 (w : World) (r : Nat) (v0 v1 : Value) : Only r w ((w.setCell ⟨r, 0, none⟩ v0).setCell ⟨r, 1, none⟩ v1) := (Only.setCell 0 v0).trans (Only.setCell 1 v1)
theorem VarP.set0 {r : Nat} {t : TypeId} {a b : Value} {X : World} (h : VarP r t a b X) (a' : Value) : VarP r t a' b (X.setCell ⟨r, 0, none⟩ a') := ⟨by have h1 := h.row; simp [World.setCell, Array.getElem?_modify, h1]⟩
theorem VarP.set1 {r : Nat} {t : TypeId} {a b : Value} {X : World} (h : VarP r t a b X) (b' : Value) : VarP r t a b' (X.setCell ⟨r, 1, none⟩ b') := ⟨by have h1 := h.row; simp [World.setCell, Array.getElem?_modify, h1]⟩
theorem VarP.only {r q : Nat} {t : TypeId} {a b : Value} {X Y : World} (h : VarP r t a b X) (ho : Only q X Y) (hr : r ≠ q) : VarP r t a b Y := ⟨by rw [ho.block r (lt_of_block h.row) hr]; exact h.row⟩
theorem VarP.new (w : World) (t : TypeId) (a b : Value) : VarP w.heap.size t a b (w.alloc (.cells #[a, b] t)) := ⟨heap_alloc_new w _⟩

/-- A variable of two cells that the call itself has made, and nothing below it is changed. -/
structure PV (w : World) (t : TypeId) (a b : Value) (X : World) : Prop where
  v : VarP w.heap.size t a b X
  below : Below w.heap.size w X
theorem PV.next {w : World} {t : TypeId} {a b : Value} {X Y : World} (h : PV w t a b X) (hb : Below X.heap.size X Y) : PV w t a b Y := ⟨h.v.next hb, h.below.trans (hb.mono h.below.size)⟩
theorem PV.drew {w : World} {t : TypeId} {a b : Value} {X : World} (h : PV w t a b X) : PV w t a b X.drew := ⟨h.v.drew, h.below.drew⟩
theorem PV.two {w : World} {t : TypeId} {a b : Value} {X : World} (h : PV w t a b X) : X.cell? ⟨w.heap.size, 0, none⟩ = some a ∧ X.cell? ⟨w.heap.size, 1, none⟩ = some b ∧ PV w t a b X := ⟨h.v.c0, h.v.c1, h⟩
theorem PV.new (w : World) (t : TypeId) (a b : Value) : PV w t a b (w.alloc (.cells #[a, b] t)) := ⟨VarP.new w t a b, (Below.refl _ _).alloc (Nat.le_refl _) _⟩
theorem PV.set2 {w : World} {t : TypeId} {a b : Value} {X : World} (h : PV w t a b X) (a' b' : Value) : PV w t a' b' ((X.setCell ⟨w.heap.size, 0, none⟩ a').setCell ⟨w.heap.size, 1, none⟩ b') :=
  ⟨h.v.set2 a' b', h.below.trans ((Only.set2 X w.heap.size a' b').below (Nat.le_refl _) h.below.size)⟩

end Go.Proofs.YtpfkokjbpfaafavDoor
namespace Go.Proofs.YtpfkokjbpfaafavDoor
open Go.RowKit

theorem implDigP_any (s : ByteArray) (hs : s.size ≤ 500000000) (w : World) (hK : LaidK w) :
    Calls Tryd.prog 7 #[.string s] w fun e w' => e = .returned (.string (digP s)) ∧ Below w.heap.size w w' := implDigestOf_any s hs w hK
/-- One byte many times. -/
theorem repeat_any (b : UInt8) (n : Nat) (hn : n ≤ 1000) (w : World) :
    Calls Tryd.prog 22 #[.string ⟨#[b]⟩, .int .i64 (n : Nat)] w fun e w' => e = .returned (.string ⟨(List.replicate n b).toArray⟩) ∧ Below w.heap.size w w' := by
  have h := Tryd.strings_Repeat ⟨#[b]⟩ n w (by omega) (by show 1 * n ≤ _; omega)
  have e0 : Lib.repeatL [b] n = List.replicate n b := by
    have := Lib.repeatL_replicate b 1 n
    rw [Nat.mul_one] at this
    exact this
  rw [e0] at h
  exact h
theorem pad_eq (key k : ByteArray) (n : Nat) (x : UInt8) (hkey : keyP key = k) (hk : k.size ≤ 64) (hn : n = 64 - k.size) :
    (⟨(xorUp (k ++ (⟨(List.replicate n (0 : UInt8)).toArray⟩ : ByteArray)).data.toList (⟨(List.replicate 64 x).toArray⟩ : ByteArray).data.toList (k ++ (⟨(List.replicate n (0 : UInt8)).toArray⟩ : ByteArray)).size).toArray⟩ : ByteArray) = padP key x := by
  have hl : k.data.toList.length = k.size := by simp
  have e1 : (k ++ (⟨(List.replicate n (0 : UInt8)).toArray⟩ : ByteArray)).data.toList = k.data.toList ++ List.replicate (64 - k.data.toList.length) 0 := by
    rw [hl, ← hn]
    simp
  have e2 : (k ++ (⟨(List.replicate n (0 : UInt8)).toArray⟩ : ByteArray)).size = 64 := by
    rw [ByteArray.size_append]
    have : (⟨(List.replicate n (0 : UInt8)).toArray⟩ : ByteArray).size = n := by show (List.replicate n (0 : UInt8)).toArray.size = n; simp
    omega
  rw [e1, e2]
  show (⟨(xorUp _ (List.replicate 64 x) 64).toArray⟩ : ByteArray) = _
  rw [xorUp_pad _ _ (by omega)]
  unfold padP
  rw [hkey]

end Go.Proofs.YtpfkokjbpfaafavDoor
namespace Go.Proofs.YtpfkokjbpfaafavDoor
open Go.RowKit

set_option maxRecDepth 100000 in
set_option maxHeartbeats 800000 in
theorem implNextKeys_any (a b : ByteArray) (ha : a.size ≤ 400000000) (hb : b.size ≤ 400000000) (w : World) (ht : LaidK w) :
    Calls Tryd.prog 5 #[.string a, .string b] w fun e w' => e = .returned (.tuple #[.string (nextK a), .string (nextK b)]) ∧ Below w.heap.size w w' := by
  have e1 : (⟨#[107]⟩ : ByteArray).size = 1 := rfl
  have H1 := Lib.hid (implDigP_any (a ++ ⟨#[107]⟩) (by rw [ByteArray.size_append, e1]; omega))
  have H2 := Lib.hid (implDigP_any (b ++ ⟨#[107]⟩) (by rw [ByteArray.size_append, e1]; omega))
  have k1 : ¬ (9223372036854775807 < a.size + 1) := by omega
  have k2 : ¬ (9223372036854775807 < b.size + 1) := by omega
  have D1 : Hid (nextK a = digP (a ++ ⟨#[107]⟩)) := Lib.hid rfl
  have D2 : Hid (nextK b = digP (b ++ ⟨#[107]⟩)) := Lib.hid rfl
  rw [← D1.out] at H1
  rw [← D2.out] at H2
  have HT := Lib.hid ht
  clear e1 D1 D2 ht
  generalize nextK a = na at *
  generalize nextK b = nb at *
  go_enter Tryd.func5, Tryd.ntmps5
  go_wp2_with fail
  refine (H1.out _ HT.out).mono ?_
  rintro e w1 ⟨rfl, hb1⟩
  have B1 := Lib.hid hb1
  have HT1 := Lib.hid (HT.out.stays hb1 (Nat.le_refl _))
  clear hb1
  go_wp2_with fail
  refine (H2.out _ HT1.out).mono ?_
  rintro e w2 ⟨rfl, hb2⟩
  have B2 := Lib.hid (B1.out.trans (hb2.mono B1.out.size))
  clear hb2
  go_wp2_with fail
  go_ret2
  exact ⟨rfl, B2.out⟩

end Go.Proofs.YtpfkokjbpfaafavDoor
