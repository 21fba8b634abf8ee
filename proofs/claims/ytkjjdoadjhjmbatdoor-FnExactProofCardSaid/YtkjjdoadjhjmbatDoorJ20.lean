/-
  The given sums under a key.
  The given signatures: secrets, public numbers, challenges.
  Variables of two cells; no program is spoken of here.
-/
import Derived.Test.YtkjjdoadjhjmbatDoorJ19
import Derived.Test.YtkjjdoadjhjmbatDoorJ03
import Derived.Test.YtkjjdoadjhjmbatDoorJ05
import Derived.Test.YtkjjdoadjhjmbatDoorJ12
import Derived.Test.YtkjjdoadjhjmbatDoorJ04
import Derived.Test.YtkjjdoadjhjmbatDoorJ14
namespace Go.Proofs.YtkjjdoadjhjmbatDoor
open Go.RowKit

theorem OwnB.set {w : World} {base g cap n : Nat} {e : TypeId} {xs : List UInt8} (h : OwnB w base e (.slice (some ⟨g, 0, none⟩) n cap) xs) (hn : xs.length = n) (j : Nat) (x : UInt8) :
    OwnB (w.setCell ⟨g, j, none⟩ (.int .u8 (x.toNat : Int))) base e (.slice (some ⟨g, 0, none⟩) n cap) (xs.set j x) := by
  subst hn
  have h' : w.ownsRow base e 1 (.slice (some ⟨g, 0, none⟩) xs.length cap) xs.length (Lib.byteCells xs) := h
  have := (h'.stored j (.int .u8 (x.toNat : Int))).1
  unfold OwnB
  rw [List.length_set]
  have e1 : Lib.byteCells (xs.set j x) = (Lib.byteCells xs).set j (.int .u8 (x.toNat : Int)) := by unfold Lib.byteCells; rw [List.map_set]
  rw [e1]
  exact this
theorem OwnB.free {w : World} {base g cap n : Nat} {e : TypeId} {xs : List UInt8} (h : OwnB w base e (.slice (some ⟨g, 0, none⟩) n cap) xs) (hn : xs.length = n) (j : Nat) : w.frozen? ⟨g, j, none⟩ = false := by
  subst hn
  exact World.ownsRow.frozenAt (base := base) (e := e) (size := 1) (xs := Lib.byteCells xs) (n := xs.length) (cap := cap) h j
theorem OwnB.at {w : World} {base g cap n : Nat} {e : TypeId} {xs : List UInt8} (h : OwnB w base e (.slice (some ⟨g, 0, none⟩) n cap) xs) (hn : xs.length = n) (j : Nat) (hj : j < n) : w.cell? ⟨g, j, none⟩ = some (.int .u8 ((xs.getD j 0).toNat : Nat)) := by
  subst hn
  obtain ⟨ao, c, hv, hh⟩ := h.form
  obtain ⟨g', hg', _, hc⟩ := hh (by omega)
  simp only [Value.slice.injEq] at hv
  obtain ⟨h1, _, _⟩ := hv
  rw [hg'] at h1
  simp only [Option.some.injEq, Addr.mk.injEq, and_true] at h1
  subst h1
  exact hc j hj
theorem specDigP_any (s : ByteArray) (hs : s.size ≤ 500000000) (w : World) :
    Calls Tryd.prog 55 #[.string s] w fun e w' => e = .returned (.string (digP s)) ∧ Below w.heap.size w w' := specDigestOf_any s hs w
theorem xorB (x y : UInt8) : bits .xor .u8 (x.toNat : Int) (y.toNat : Int) = ((x ^^^ y).toNat : Int) := by
  have e : ∀ x y : Fin 256, bits .xor .u8 (x.val : Int) (y.val : Int) = ((x.val ^^^ y.val : Nat) : Int) := by
    intro x y
    unfold bits
    simp only
    rw [BitVec.toNat_xor]
    have ex : ∀ z : Fin 256, (BitVec.ofInt IntKind.u8.bits (z.val : Int)).toNat = z.val := fun z => by
      rw [BitVec.toNat_ofInt]
      show ((z.val : Int) % ((2 ^ 8 : Nat) : Int)).toNat = z.val
      have := z.isLt
      omega
    rw [ex x, ex y, IntKind.wrap_u8]
    have : x.val ^^^ y.val < 256 := Nat.xor_lt_two_pow (n := 8) x.isLt y.isLt
    omega
  have := e ⟨x.toNat, x.toNat_lt⟩ ⟨y.toNat, y.toNat_lt⟩
  rw [this]
  simp

end Go.Proofs.YtkjjdoadjhjmbatDoor
namespace Go.Proofs.YtkjjdoadjhjmbatDoor
open Go.RowKit

set_option maxRecDepth 100000 in
set_option maxHeartbeats 400000 in
theorem specHead_any (s : ByteArray) (hs : 4 ≤ s.size) (w : World) :
    Calls Tryd.prog 54 #[.string s] w fun e w' => e = .returned (.int .i64 (firstP s : Nat)) ∧ Below w.heap.size w w' := by
  have hz : (s.extract 0 4).size = 4 := by rw [ByteArray.size_extract]; omega
  have h1 := specReadNumber_yes (s.extract 0 4) hz
  have hF : fourBack (s.extract 0 4).data.toList = firstP s := rfl
  rw [hF] at h1
  obtain ⟨n, N⟩ : ∃ n, Hid (n = firstP s) := ⟨_, rfl⟩
  rw [← N.out] at h1 ⊢
  obtain ⟨f, hf⟩ : ∃ f, s.extract 0 4 = f := ⟨_, rfl⟩
  rw [hf] at h1
  have H1 := Lib.hid h1
  have hle : (4 : Int) ≤ (s.size : Int) := by omega
  clear h1 hF hz N
  go_enter Tryd.func54, Tryd.ntmps54
  go_wp2_with fail
  refine (H1.out _).mono ?_
  rintro e w1 ⟨rfl, hb1⟩
  have HB1 := Lib.hid hb1
  clear hb1
  go_wp2_with fail
  go_ret
  exact ⟨rfl, HB1.out⟩

set_option maxRecDepth 100000 in
set_option maxHeartbeats 400000 in
theorem specSecretOf_any (seed : ByteArray) (hs : seed.size ≤ 400000000) (w : World) :
    Calls Tryd.prog 30 #[.string seed] w fun e w' => e = .returned (.int .i64 (secretP seed : Nat)) ∧ Below w.heap.size w w' := by
  have z0 : (⟨#[115]⟩ : ByteArray).size = 1 := rfl
  have h1 := specDigP_any (seed ++ (⟨#[115]⟩ : ByteArray)) (by rw [ByteArray.size_append, z0]; omega)
  have h2 := specHead_any (digP (seed ++ (⟨#[115]⟩ : ByteArray))) (by rw [digP_size]; omega)
  have hl := firstP_lt (digP (seed ++ (⟨#[115]⟩ : ByteArray)))
  have hS : secretP seed = 1 + firstP (digP (seed ++ (⟨#[115]⟩ : ByteArray))) % 1073741788 := rfl
  obtain ⟨d, D⟩ : ∃ d, Hid (d = digP (seed ++ (⟨#[115]⟩ : ByteArray))) := ⟨_, rfl⟩
  rw [← D.out] at h1 h2 hl hS
  obtain ⟨n, N⟩ : ∃ n, Hid (n = firstP d) := ⟨_, rfl⟩
  rw [← N.out] at h2 hl hS
  have H1 := Lib.hid h1
  have H2 := Lib.hid h2
  obtain ⟨m, hm, hm2, hm3⟩ : ∃ m : Nat, (n : Int) % 1073741788 = (m : Int) ∧ (n : Int).tmod 1073741788 = (m : Int) ∧ m = n % 1073741788 := ⟨n % 1073741788, by omega, by rw [Int.tmod_eq_emod_of_nonneg (by omega)]; omega, rfl⟩
  have HS : Hid (((1 : Int) + (m : Int)) = ((secretP seed : Nat) : Int)) := by show _ = _; rw [hS]; omega
  have hml : m < 1073741788 := by omega
  have s1 : ¬ (9223372036854775807 < seed.size + 1) := by omega
  clear h1 h2 hS D N hm3 hl z0
  rw [← HS.out]
  go_enter Tryd.func30, Tryd.ntmps30
  go_wp2_with fail
  refine (H1.out _).mono ?_
  rintro e w1 ⟨rfl, hb1⟩
  have HB1 := Lib.hid hb1
  clear hb1
  go_wp2_with fail
  refine (H2.out _).mono ?_
  rintro e w2 ⟨rfl, hb2⟩
  have HB2 := Lib.hid (HB1.out.trans (hb2.mono HB1.out.size))
  clear hb2
  go_wp2_with fail
  go_ret
  exact ⟨rfl, HB2.out⟩

set_option maxRecDepth 100000 in
set_option maxHeartbeats 400000 in
theorem specPublicOf_yes (s : Nat) (h1 : 1 ≤ s) (h2 : s ≤ 1073741788) (w : World) :
    Calls Tryd.prog 60 #[.int .i64 s] w fun e w' => e = .returned (.int .i64 (publicP s : Nat)) ∧ w' = w := by
  have H0 := Lib.hid (inRange_yes (s : Int) 1 1073741788 (by omega) (by omega))
  have hp := specPowP_any 4 (s : Int)
  have e1 : powI 4 (s : Nat) = publicP s := powI_pow s (by omega)
  rw [e1] at hp
  have HP := Lib.hid hp
  generalize publicP s = p at HP
  clear hp e1
  go_enter Tryd.func60, Tryd.ntmps60
  go_wp2_with fail
  refine (H0.out _).mono ?_
  rintro e w1 ⟨rfl, rfl⟩
  go_wp2_with fail
  refine (HP.out _).mono ?_
  rintro e w2 ⟨rfl, rfl⟩
  go_wp2_with fail
  go_ret
  exact ⟨rfl, rfl⟩

set_option maxRecDepth 100000 in
set_option maxHeartbeats 400000 in
theorem specPublicOf_no (s : Int) (h : s < 1 ∨ 1073741788 < s) (w : World) :
    Calls Tryd.prog 60 #[.int .i64 s] w fun e w' => e = .returned (.int .i64 0) ∧ w' = w := by
  have H0 := Lib.hid (inRange_no s 1 1073741788 h)
  clear h
  go_enter Tryd.func60, Tryd.ntmps60
  go_wp2_with fail
  refine (H0.out _).mono ?_
  rintro e w1 ⟨rfl, rfl⟩
  go_wp2_with fail
  go_ret
  exact ⟨rfl, rfl⟩

set_option maxRecDepth 100000 in
set_option maxHeartbeats 400000 in
theorem specChallenge_yes (r p : Nat) (m : ByteArray) (hr : r < 4294967296) (hp : p < 4294967296) (hm : m.size ≤ 400000000) (w : World) :
    Calls Tryd.prog 59 #[.int .i64 r, .int .i64 p, .string m] w fun e w' => e = .returned (.int .i64 (chalP r p m : Nat)) ∧ Below w.heap.size w w' := by
  have H0 := Lib.hid (inRange_yes (r : Int) 0 4294967295 (by omega) (by omega))
  have H1 := Lib.hid (inRange_yes (p : Int) 0 4294967295 (by omega) (by omega))
  have h2 := specNumberText_yes r hr
  have h3 := specNumberText_yes p hp
  have z1 := numB_size r
  have z2 := numB_size p
  have h4 := specDigP_any (numB r ++ numB p ++ m) (by rw [ByteArray.size_append, ByteArray.size_append, z1, z2]; omega)
  have h5 := specHead_any (digP (numB r ++ numB p ++ m)) (by rw [digP_size]; omega)
  have hl := firstP_lt (digP (numB r ++ numB p ++ m))
  have hC : chalP r p m = firstP (digP (numB r ++ numB p ++ m)) % 1073741789 := rfl
  have e1 : (⟨(four r).toArray⟩ : ByteArray) = numB r := rfl
  have e2 : (⟨(four p).toArray⟩ : ByteArray) = numB p := rfl
  rw [e1] at h2
  rw [e2] at h3
  obtain ⟨a, A⟩ : ∃ d, Hid (d = numB r) := ⟨_, rfl⟩
  obtain ⟨b, B⟩ : ∃ d, Hid (d = numB p) := ⟨_, rfl⟩
  rw [← A.out] at h2 h4 h5 hl hC z1
  rw [← B.out] at h3 h4 h5 hl hC z2
  obtain ⟨d, D⟩ : ∃ d, Hid (d = digP (a ++ b ++ m)) := ⟨_, rfl⟩
  rw [← D.out] at h4 h5 hl hC
  obtain ⟨n, N⟩ : ∃ n, Hid (n = firstP d) := ⟨_, rfl⟩
  rw [← N.out] at h5 hl hC
  have H2 := Lib.hid h2
  have H3 := Lib.hid h3
  have H4 := Lib.hid h4
  have H5 := Lib.hid h5
  obtain ⟨c, hc1, hc2, hc3⟩ : ∃ c : Nat, (n : Int) % 1073741789 = (c : Int) ∧ (n : Int).tmod 1073741789 = (c : Int) ∧ c = n % 1073741789 := ⟨n % 1073741789, by omega, by rw [Int.tmod_eq_emod_of_nonneg (by omega)]; omega, rfl⟩
  rw [hC, ← hc3]
  have s1 : ¬ (9223372036854775807 < a.size + b.size) := by omega
  have s2 : ¬ (9223372036854775807 < a.size + b.size + m.size) := by omega
  clear h2 h3 h4 h5 hC e1 e2 A B D N hc3 hl z1 z2
  go_enter Tryd.func59, Tryd.ntmps59
  go_wp2_with fail
  refine (H0.out _).mono ?_
  rintro e w1 ⟨rfl, rfl⟩
  go_wp2_with fail
  refine (H1.out _).mono ?_
  rintro e w2 ⟨rfl, rfl⟩
  go_wp2_with fail
  refine (H2.out _).mono ?_
  rintro e w3 ⟨rfl, hb3⟩
  have HB3 := Lib.hid hb3
  clear hb3
  go_wp2_with fail
  refine (H3.out _).mono ?_
  rintro e w4 ⟨rfl, hb4⟩
  have HB4 := Lib.hid (HB3.out.trans (hb4.mono HB3.out.size))
  clear hb4
  go_wp2_with fail
  refine (H4.out _).mono ?_
  rintro e w5 ⟨rfl, hb5⟩
  have HB5 := Lib.hid (HB4.out.trans (hb5.mono HB4.out.size))
  clear hb5
  go_wp2_with fail
  refine (H5.out _).mono ?_
  rintro e w6 ⟨rfl, hb6⟩
  have HB6 := Lib.hid (HB5.out.trans (hb6.mono HB5.out.size))
  clear hb6
  go_wp2_with fail
  go_ret
  exact ⟨rfl, HB6.out⟩

set_option maxRecDepth 100000 in
set_option maxHeartbeats 400000 in
theorem specChallenge_no (r p : Int) (m : ByteArray) (h : (r < 0 ∨ 4294967295 < r) ∨ (p < 0 ∨ 4294967295 < p)) (w : World) :
    Calls Tryd.prog 59 #[.int .i64 r, .int .i64 p, .string m] w fun e w' => e = .returned (.int .i64 0) ∧ w' = w := by
  by_cases h1 : r < 0 ∨ 4294967295 < r
  · have H0 := Lib.hid (inRange_no r 0 4294967295 h1)
    clear h h1
    go_enter Tryd.func59, Tryd.ntmps59
    go_wp2_with fail
    refine (H0.out _).mono ?_
    rintro e w1 ⟨rfl, rfl⟩
    go_wp2_with fail
    go_ret
    exact ⟨rfl, rfl⟩
  · have H0 := Lib.hid (inRange_yes r 0 4294967295 (by omega) (by omega))
    have H1 := Lib.hid (inRange_no p 0 4294967295 (by omega))
    clear h h1
    go_enter Tryd.func59, Tryd.ntmps59
    go_wp2_with fail
    refine (H0.out _).mono ?_
    rintro e w1 ⟨rfl, rfl⟩
    go_wp2_with fail
    refine (H1.out _).mono ?_
    rintro e w2 ⟨rfl, rfl⟩
    go_wp2_with fail
    go_ret
    exact ⟨rfl, rfl⟩

end Go.Proofs.YtkjjdoadjhjmbatDoor
namespace Go.Proofs.YtkjjdoadjhjmbatDoor
open Go.RowKit

/-- A variable of two cells in a block of its own. -/
structure VarP (r : Nat) (t : TypeId) (a b : Value) (X : World) : Prop where
  row : X.heap[r]? = some (.cells #[a, b] t (0, 0))
theorem VarP.next {r : Nat} {t : TypeId} {a b : Value} {X Y : World} (h : VarP r t a b X) (hb : Below X.heap.size X Y) : VarP r t a b Y := ⟨by rw [hb.block r (lt_of_block h.row)]; exact h.row⟩
theorem VarP.drew {r : Nat} {t : TypeId} {a b : Value} {X : World} (h : VarP r t a b X) : VarP r t a b X.drew := ⟨h.row⟩
theorem VarP.c0 {r : Nat} {t : TypeId} {a b : Value} {X : World} (h : VarP r t a b X) : X.cell? ⟨r, 0, none⟩ = some a := by rw [cell_of_row X r 0 _ t (0, 0) h.row]; rfl
theorem VarP.c1 {r : Nat} {t : TypeId} {a b : Value} {X : World} (h : VarP r t a b X) : X.cell? ⟨r, 1, none⟩ = some b := by rw [cell_of_row X r 1 _ t (0, 0) h.row]; rfl
theorem VarP.free {r : Nat} {t : TypeId} {a b : Value} {X : World} (h : VarP r t a b X) (j : Nat) : X.frozen? ⟨r, j, none⟩ = false := frozen_of_row X r j _ t h.row
theorem VarP.set2 {r : Nat} {t : TypeId} {a b : Value} {X : World} (h : VarP r t a b X) (a' b' : Value) : VarP r t a' b' ((X.setCell ⟨r, 0, none⟩ a').setCell ⟨r, 1, none⟩ b') :=
  ⟨by have h1 := h.row; simp [World.setCell, Array.getElem?_modify, h1]⟩
theorem Only.set2 (w : World) (r : Nat) (v0 v1 : Value) : Only r w ((w.setCell ⟨r, 0, none⟩ v0).setCell ⟨r, 1, none⟩ v1) := (Only.setCell 0 v0).trans (Only.setCell 1 v1)
theorem VarP.set0 {r : Nat} {t : TypeId} {a b : Value} {X : World} (h : VarP r t a b X) (a' : Value) : VarP r t a' b (X.setCell ⟨r, 0, none⟩ a') := ⟨by have h1 := h.row; simp [World.setCell, Array.getElem?_modify, h1]⟩
theorem VarP.set1 {r : Nat} {t : TypeId} {a b : Value} {X : World} (h : VarP r t a b X) (b' : Value) : VarP r t a b' (X.setCell ⟨r, 1, none⟩ b') := ⟨by have h1 := h.row; simp [World.setCell, Array.getElem?_modify, h1]⟩
theorem VarP.only {r q : Nat} {t : TypeId} {a b : Value} {X Y : World} (h : VarP r t a b X) (ho : Only q X Y) (hr : r ≠ q) : VarP r t a b Y := ⟨by rw [ho.block r (lt_of_block h.row) hr]; exact h.row⟩
theorem VarP.new (w : World) (t : TypeId) (a b : Value) : VarP w.heap.size t a b (w.alloc (.cells #[a, b] t)) := ⟨heap_alloc_new w _⟩

/-- A variable of two cells that the call itself has made, and nothing below it is changed. -/
structure PV (w : World) (t : TypeId) (a b : Value) (X : World) : Prop where
  v : VarP w.heap.size t a b X
  below : Below w.heap.size w X
theorem PV.next {w : World} {t : TypeId} {a b : Value} {X Y : World} (h : PV w t a b X) (hb : Below X.heap.size X Y) : PV w t a b Y := ⟨h.v.next hb, h.below.trans (hb.mono h.below.size)⟩
theorem PV.drew {w : World} {t : TypeId} {a b : Value} {X : World} (h : PV w t a b X) : PV w t a b X.drew := ⟨h.v.drew, h.below.drew⟩
theorem PV.two {w : World} {t : TypeId} {a b : Value} {X : World} (h : PV w t a b X) : X.cell? ⟨w.heap.size, 0, none⟩ = some a ∧ X.cell? ⟨w.heap.size, 1, none⟩ = some b ∧ PV w t a b X := ⟨h.v.c0, h.v.c1, h⟩
theorem PV.new (w : World) (t : TypeId) (a b : Value) : PV w t a b (w.alloc (.cells #[a, b] t)) := ⟨VarP.new w t a b, (Below.refl _ _).alloc (Nat.le_refl _) _⟩
theorem PV.set2 {w : World} {t : TypeId} {a b : Value} {X : World} (h : PV w t a b X) (a' b' : Value) : PV w t a' b' ((X.setCell ⟨w.heap.size, 0, none⟩ a').setCell ⟨w.heap.size, 1, none⟩ b') :=
  ⟨h.v.set2 a' b', h.below.trans ((Only.set2 X w.heap.size a' b').below (Nat.le_refl _) h.below.size)⟩

end Go.Proofs.YtkjjdoadjhjmbatDoor
