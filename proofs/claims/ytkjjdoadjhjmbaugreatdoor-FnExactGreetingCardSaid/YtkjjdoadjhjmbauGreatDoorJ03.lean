/-
  Memory of which one block alone is written; a cursor over bytes that lies in such a block; no program is spoken of here.
  The program's products modulo the prime, and the given ones, by what they answer.
  The program's powers modulo the prime, and the given ones, by what they answer.
  Who is in the group, by the program: what it answers.
  What the law on powers asks, of numbers alone; no program is spoken of here.
  Plain mathematics of signatures: what is signed is found to be signed; two find the same shared number; no program is spoken of here.
-/
import Derived.Below
import Derived.WalkKit
import Derived.WalkSmall
import Derived.Laws.BitsLemmas
import Derived.Test.YtkjjdoadjhjmbauGreatDoorRows
import Derived.Test.YtkjjdoadjhjmbauGreatDoorJ02
import Derived.Deep.RegionHeld3
import Derived.BigQuiet
import Derived.Deep.QuietTactic
import Derived.Deep.LoopGhost
import Derived.Deep.DeepCutAuto
import Derived.Test.YtkjjdoadjhjmbauGreatDoorJ01
namespace Go.Proofs.YtkjjdoadjhjmbauGreatDoor
open Go.RowKit

/-- What an 'and' with a number that is not below 0 leaves lies in 0 .. that number. -/
theorem and_mask (x : Int) (m : Nat) (hm : m < 2 ^ 63) : 0 ≤ bits .and .i64 x (m : Int) ∧ bits .and .i64 x (m : Int) ≤ (m : Int) := by
  unfold bits
  simp only
  have hb : (BitVec.ofInt IntKind.i64.bits (m : Int)).toNat = m := by
    rw [BitVec.toNat_ofInt]
    show ((m : Int) % ((2 ^ 64 : Nat) : Int)).toNat = m
    omega
  have hle : (BitVec.ofInt IntKind.i64.bits x &&& BitVec.ofInt IntKind.i64.bits (m : Int)).toNat ≤ m := by
    rw [BitVec.toNat_and, hb]
    exact Nat.and_le_right
  generalize (BitVec.ofInt IntKind.i64.bits x &&& BitVec.ofInt IntKind.i64.bits (m : Int)).toNat = k at hle
  have hw : IntKind.i64.wrap (k : Int) = (k : Int) := by rw [IntKind.wrap_i64]; omega
  rw [hw]
  omega

/-- Block c alone may have been written; blocks may have been added. -/
structure Only (c : Nat) (w w' : World) : Prop where
  os : w'.os = w.os
  tape : w'.tape = w.tape
  output : w'.output = w.output
  size : w.heap.size ≤ w'.heap.size
  block : ∀ k, k < w.heap.size → k ≠ c → w'.heap[k]? = w.heap[k]?

theorem Only.refl (c : Nat) (w : World) : Only c w w := ⟨rfl, rfl, rfl, Nat.le_refl _, fun _ _ _ => rfl⟩
theorem Only.trans {c : Nat} {w w1 w2 : World} (h : Only c w w1) (k : Only c w1 w2) : Only c w w2 :=
  ⟨k.os.trans h.os, k.tape.trans h.tape, k.output.trans h.output, Nat.le_trans h.size k.size, fun i hi hc => (k.block i (Nat.lt_of_lt_of_le hi h.size) hc).trans (h.block i hi hc)⟩
theorem Only.of_below {c : Nat} {w w' : World} (h : Below w.heap.size w w') : Only c w w' := ⟨h.os, h.tape, h.output, h.size, fun k hk _ => h.block k hk⟩
theorem Only.below {c B : Nat} {w w' : World} (h : Only c w w') (hB : B ≤ c) (hs : B ≤ w.heap.size) : Below B w w' :=
  ⟨h.os, h.tape, h.output, h.size, fun k hk => h.block k (by omega) (by omega)⟩
theorem Only.cell {c : Nat} {w w' : World} (h : Only c w w') {p : Addr} (hp : p.block < w.heap.size) (hc : p.block ≠ c) : w'.cell? p = w.cell? p := World.cell?_of_block (w := w) (h.block p.block hp hc)
theorem Only.setCell {c : Nat} {w : World} (o : Nat) (v : Value) : Only c w (w.setCell ⟨c, o, none⟩ v) := by
  have h := Below.setCell (B := 0) (Below.refl 0 w) (p := ⟨c, o, none⟩) (Nat.zero_le _) v
  exact ⟨h.os, h.tape, h.output, h.size, fun k _ hc => Below.heap_setCell w _ v k hc⟩
theorem Only.drewN {c : Nat} {w w' : World} (h : Only c w w') (n : Nat) : Only c w (w'.drewN n) := by
  have hb := below_drewN (B := w'.heap.size) (Below.refl _ w') n
  exact h.trans (.of_below hb)

theorem set_off (w : World) (c o q : Nat) (v : Value) (h : o ≠ q) : (w.setCell ⟨c, o, none⟩ v).cell? ⟨c, q, none⟩ = w.cell? ⟨c, q, none⟩ :=
  World.cell?_setCell_other _ _ _ _ (fun e => h (congrArg Addr.off e))
theorem set_on (w : World) (c o : Nat) (u v : Value) (h : w.cell? ⟨c, o, none⟩ = some u) : (w.setCell ⟨c, o, none⟩ v).cell? ⟨c, o, none⟩ = some v :=
  World.cell?_setCell_same _ _ _ h

/-- A cursor in block c over 'len' bytes. -/
structure Cur (c : Nat) (a : Option Addr) (len cap : Nat) (w : World) : Prop where
  few : len ≤ 1048576
  c0 : w.cell? ⟨c, 0, none⟩ = some (.slice a len cap)
  c1 : ∃ i : Nat, i ≤ len ∧ w.cell? ⟨c, 1, none⟩ = some (.int .i64 i)
  c2 : ∃ h : Int, w.cell? ⟨c, 2, none⟩ = some (.int .i64 h)
  f1 : w.frozen? ⟨c, 1, none⟩ = false
  f2 : w.frozen? ⟨c, 2, none⟩ = false
  bytes : ∀ j, j < len → ∃ (b off : Nat) (x : Int), a = some ⟨b, off, none⟩ ∧ b < c ∧ w.cell? ⟨b, off + j, none⟩ = some (.int .u8 x) ∧ 0 ≤ x ∧ x ≤ 255

theorem cell_size {w : World} {p : Addr} {v : Value} (h : w.cell? p = some v) : p.block < w.heap.size := by
  rcases Nat.lt_or_ge p.block w.heap.size with h' | h'
  · exact h'
  · exfalso
    unfold World.cell? at h
    simp [Array.getElem?_eq_none h'] at h

/-- Behind a store into the cursor's two numbers it is one still. -/
theorem Cur.turn {c : Nat} {a : Option Addr} {len cap : Nat} {w w' : World} (h : Cur c a len cap w) (ho : Only c w w') (h0 : w'.cell? ⟨c, 0, none⟩ = some (.slice a len cap))
    (h1 : ∃ i : Nat, i ≤ len ∧ w'.cell? ⟨c, 1, none⟩ = some (.int .i64 i)) (h2 : ∃ h : Int, w'.cell? ⟨c, 2, none⟩ = some (.int .i64 h)) (f1 : w'.frozen? ⟨c, 1, none⟩ = false) (f2 : w'.frozen? ⟨c, 2, none⟩ = false) : Cur c a len cap w' := by
  refine ⟨h.few, h0, h1, h2, f1, f2, fun j hj => ?_⟩
  obtain ⟨b, off, x, ha, hb, hx, x0, x1⟩ := h.bytes j hj
  exact ⟨b, off, x, ha, hb, by rw [ho.cell (cell_size hx) (by show b ≠ c; omega)]; exact hx, x0, x1⟩

/-- What lies in blocks as they were reads as it did. -/
theorem Cur.kept {c : Nat} {a : Option Addr} {len cap : Nat} {B : Nat} {w w' : World} (h : Cur c a len cap w) (hb : Below B w w') (hs : c < B) : Cur c a len cap w' := by
  refine ⟨h.few, by rw [hb.cell (p := ⟨c, 0, none⟩) hs]; exact h.c0, ?_, ?_, by rw [hb.frozen (p := ⟨c, 1, none⟩) hs]; exact h.f1, by rw [hb.frozen (p := ⟨c, 2, none⟩) hs]; exact h.f2, fun j hj => ?_⟩
  · rw [hb.cell (p := ⟨c, 1, none⟩) hs]; exact h.c1
  · rw [hb.cell (p := ⟨c, 2, none⟩) hs]; exact h.c2
  · obtain ⟨b, off, x, ha, hbc, hx, x0, x1⟩ := h.bytes j hj
    exact ⟨b, off, x, ha, hbc, by rw [hb.cell (p := ⟨b, off + j, none⟩) (by show b < B; omega)]; exact hx, x0, x1⟩
theorem Cur.below {c : Nat} {a : Option Addr} {len cap : Nat} {w w' : World} (h : Cur c a len cap w) (hb : Below w.heap.size w w') : Cur c a len cap w' :=
  h.kept hb (cell_size (p := ⟨c, 0, none⟩) h.c0)
theorem Only.behind {c : Nat} {w w1 w2 : World} (h : Only c w w1) (k : Below w.heap.size w1 w2) : Only c w w2 :=
  ⟨k.os.trans h.os, k.tape.trans h.tape, k.output.trans h.output, Nat.le_trans h.size k.size, fun i hi hc => (k.block i hi).trans (h.block i hi hc)⟩

/-- Bytes that can be read, in blocks that are there. -/
structure Src (a : Option Addr) (len : Nat) (w : World) : Prop where
  few : len ≤ 1048576
  bytes : ∀ j, j < len → ∃ (b off : Nat) (x : Int), a = some ⟨b, off, none⟩ ∧ b < w.heap.size ∧ w.cell? ⟨b, off + j, none⟩ = some (.int .u8 x) ∧ 0 ≤ x ∧ x ≤ 255

theorem Src.below {a : Option Addr} {len : Nat} {w w' : World} (h : Src a len w) (hb : Below w.heap.size w w') : Src a len w' := by
  refine ⟨h.few, fun j hj => ?_⟩
  obtain ⟨b, off, x, ha, hs, hx, x0, x1⟩ := h.bytes j hj
  exact ⟨b, off, x, ha, Nat.lt_of_lt_of_le hs hb.size, by rw [hb.cell (p := ⟨b, off + j, none⟩) hs]; exact hx, x0, x1⟩

/-- How a draw of a number ends: it lies in 0 .. hi; the cursor is one still; no other block was written. -/
def DrewInt (hi : Int) (c : Nat) (a : Option Addr) (len cap : Nat) (w : World) (e : Ending) (w' : World) : Prop :=
  ∃ x : Int, 0 ≤ x ∧ x ≤ hi ∧ e = .returned (.int .i64 x) ∧ Cur c a len cap w' ∧ Only c w w'

end Go.Proofs.YtkjjdoadjhjmbauGreatDoor
namespace Go.Proofs.YtkjjdoadjhjmbauGreatDoor
open Go.RowKit

set_option maxRecDepth 100000 in
set_option maxHeartbeats 400000 in
theorem of_any (a : Int) (w : World) :
    Calls Tryz.prog 96 #[.agg #[.int .i64 2147483579], .int .i64 a] w fun e w' => e = .returned (.int .i64 (modP a : Nat)) ∧ Below w.heap.size w w' := by
  obtain ⟨r, hr, h1, h2, h3, h4⟩ := tmod_cases a
  by_cases hn : r < 0
  · have H := Lib.hid (h3 hn)
    clear h3 h4
    go_enter Tryz.func96, Tryz.ntmps96
    go_wp2
    go_ret
    exact ⟨by rw [← H.out]; rfl, (Below.refl _ _).alloc (Nat.le_refl _) _⟩
  · have H := Lib.hid (h4 hn)
    clear h3 h4
    go_enter Tryz.func96, Tryz.ntmps96
    go_wp2
    go_ret
    exact ⟨by rw [← H.out]; rfl, (Below.refl _ _).alloc (Nat.le_refl _) _⟩

set_option maxRecDepth 100000 in
set_option maxHeartbeats 400000 in
theorem specMod_any (a : Int) (w : World) :
    Calls Tryz.prog 59 #[.int .i64 a] w fun e w' => e = .returned (.int .i64 (modP a : Nat)) ∧ w' = w := by
  obtain ⟨r, hr, h1, h2, h3, h4⟩ := tmod_cases a
  by_cases hn : r < 0
  · have H := Lib.hid (h3 hn)
    clear h3 h4
    go_enter Tryz.func59, Tryz.ntmps59
    go_wp2
    go_ret
    exact ⟨by rw [← H.out]; rfl, rfl⟩
  · have H := Lib.hid (h4 hn)
    clear h3 h4
    go_enter Tryz.func59, Tryz.ntmps59
    go_wp2
    go_ret
    exact ⟨by rw [← H.out]; rfl, rfl⟩

/-- The same with a cell that is kept, and what was there ahead of 'w' too. -/
theorem of_keep (a : Int) (w W : World) (v : Value) (h : W.cell? ⟨w.heap.size, 0, none⟩ = some v ∧ Below w.heap.size w W) :
    Calls Tryz.prog 96 #[.agg #[.int .i64 2147483579], .int .i64 a] W fun e w' => e = .returned (.int .i64 (modP a : Nat)) ∧ w'.cell? ⟨w.heap.size, 0, none⟩ = some v ∧ Below w.heap.size w w' := by
  refine (of_any a W).mono fun e w' ⟨he, hb⟩ => ⟨he, ?_, h.2.trans (hb.mono h.2.size)⟩
  rw [hb.cell (p := ⟨w.heap.size, 0, none⟩) (cell_size (p := ⟨w.heap.size, 0, none⟩) h.1)]
  exact h.1
theorem held_drew {w W : World} {v : Value} (h : W.cell? ⟨w.heap.size, 0, none⟩ = some v ∧ Below w.heap.size w W) : W.drew.cell? ⟨w.heap.size, 0, none⟩ = some v ∧ Below w.heap.size w W.drew := ⟨h.1, h.2.drew⟩

set_option maxRecDepth 100000 in
set_option maxHeartbeats 400000 in
theorem product_any (a b : Int) (w : World) :
    Calls Tryz.prog 97 #[.agg #[.int .i64 2147483579], .int .i64 a, .int .i64 b] w fun e w' => e = .returned (.int .i64 (mulP a b : Nat)) ∧ Below w.heap.size w w' := by
  have hx : modP a < 2147483579 := modP_lt a
  have hy : modP b < 2147483579 := modP_lt b
  have H1 := Lib.hid (fun a => of_keep a w)
  obtain ⟨m, hm, hm1, HM⟩ : ∃ m : Nat, (modP a : Int) * (modP b : Int) = (m : Int) ∧ m < 9223372036854775807 ∧ Hid (m = modP a * modP b) := ⟨modP a * modP b, by rw [Int.natCast_mul], prod_lt _ _ hx hy, rfl⟩
  obtain ⟨r, hr, HR⟩ : ∃ r : Nat, (m : Int).tmod 2147483579 = (r : Int) ∧ Hid (r = mulP a b) := by
    refine ⟨m % 2147483579, by rw [Int.tmod_eq_emod_of_nonneg (by omega)]; omega, ?_⟩
    show m % 2147483579 = mulP a b
    rw [HM.out]
    rfl
  have hwm : IntKind.i64.wrap (m : Int) = (m : Int) := by rw [IntKind.wrap_i64]; omega
  rw [← HR.out]
  have h0 : (w.alloc (.cells #[.int .i64 2147483579] 117)).cell? ⟨w.heap.size, 0, none⟩ = some (.int .i64 2147483579) ∧ Below w.heap.size w (w.alloc (.cells #[.int .i64 2147483579] 117)) := ⟨by simp, (Below.refl _ _).alloc (Nat.le_refl _) _⟩
  go_enter Tryz.func97, Tryz.ntmps97
  go_wp2_with fail
  generalize w.alloc (.cells #[.int .i64 2147483579] 117) = W at h0
  obtain ⟨h1, h2⟩ := h0
  go_region_held3 (fun X => X.cell? ⟨w.heap.size, 0, none⟩ = some (.int .i64 2147483579) ∧ Below w.heap.size w X) (first | assumption | exact held_drew ⟨h1, h2⟩ | (exact ⟨by assumption, by assumption⟩)) (first | (go_at_call 96; refine (H1.out _ _ (.int .i64 2147483579) (by assumption)).mono ?_; rintro e w1 ⟨rfl, hc1, hb1⟩))
  all_goals
    go_wp2
    go_ret
    exact ⟨rfl, by assumption⟩

set_option maxRecDepth 100000 in
set_option maxHeartbeats 400000 in
theorem byPrime_any (w : World) :
    Calls Tryz.prog 87 #[] w fun e w' => e = .returned (.agg #[.int .i64 2147483579]) ∧ Below w.heap.size w w' := by
  go_enter Tryz.func87, Tryz.ntmps87
  go_wp2
  refine bodyPost_ret (v := .agg #[.int .i64 2147483579]) (by simp [results, Tryz.results87, go_sem]) rfl ⟨rfl, ?_⟩
  exact (Below.refl _ _).alloc (Nat.le_refl _) _

set_option maxRecDepth 100000 in
set_option maxHeartbeats 400000 in
theorem implMulP_any (a b : Int) (w : World) :
    Calls Tryz.prog 101 #[.int .i64 a, .int .i64 b] w fun e w' => e = .returned (.int .i64 (mulP a b : Nat)) ∧ Below w.heap.size w w' := by
  have H1 := Lib.hid byPrime_any
  have H2 := Lib.hid (product_any a b)
  go_enter Tryz.func101, Tryz.ntmps101
  go_wp2_with fail
  refine (H1.out _).mono ?_
  rintro e w1 ⟨rfl, hb1⟩
  go_wp2_with fail
  refine (H2.out _).mono ?_
  rintro e w2 ⟨rfl, hb2⟩
  go_wp2
  go_ret
  exact ⟨rfl, hb1.trans (hb2.mono hb1.size)⟩

set_option maxRecDepth 100000 in
set_option maxHeartbeats 400000 in
theorem specMulP_any (a b : Int) (w : World) :
    Calls Tryz.prog 46 #[.int .i64 a, .int .i64 b] w fun e w' => e = .returned (.int .i64 (mulP a b : Nat)) ∧ w' = w := by
  have hx : modP a < 2147483579 := modP_lt a
  have hy : modP b < 2147483579 := modP_lt b
  have H1 := Lib.hid (specMod_any a)
  have H2 := Lib.hid (specMod_any b)
  obtain ⟨m, hm, hm1, HM⟩ : ∃ m : Nat, (modP a : Int) * (modP b : Int) = (m : Int) ∧ m < 9223372036854775807 ∧ Hid (m = modP a * modP b) := ⟨modP a * modP b, by rw [Int.natCast_mul], prod_lt _ _ hx hy, rfl⟩
  obtain ⟨r, hr, HR⟩ : ∃ r : Nat, (m : Int) % 2147483579 = (r : Int) ∧ Hid (r = mulP a b) := by
    refine ⟨m % 2147483579, by omega, ?_⟩
    show m % 2147483579 = mulP a b
    rw [HM.out]
    rfl
  rw [← HR.out]
  go_enter Tryz.func46, Tryz.ntmps46
  go_wp2_with fail
  refine (H1.out _).mono ?_
  rintro e w1 ⟨rfl, rfl⟩
  go_wp2_with fail
  refine (H2.out _).mono ?_
  rintro e w2 ⟨rfl, rfl⟩
  go_wp2
  go_ret
  exact ⟨by rw [← hr]; rfl, rfl⟩

end Go.Proofs.YtkjjdoadjhjmbauGreatDoor
namespace Go.Proofs.YtkjjdoadjhjmbauGreatDoor
open Go.RowKit

theorem modP_mulP (a b : Int) : modP (mulP a b : Nat) = modP a * modP b % prime := by rw [modP_nat, Nat.mod_eq_of_lt (mulP_lt a b)]; rfl

set_option maxRecDepth 100000 in
set_option maxHeartbeats 800000 in
theorem power_any (b : Int) (e : Nat) (he : e ≤ 2147483579) (w : World) :
    Calls Tryz.prog 88 #[.agg #[.int .i64 2147483579], .int .i64 b, .int .i64 e] w fun x w' => x = .returned (.int .i64 (powP (modP b) e : Nat)) ∧ Below w.heap.size w w' := by
  have h0 : (w.alloc (.cells #[.int .i64 2147483579] 117)).cell? ⟨w.heap.size, 0, none⟩ = some (.int .i64 2147483579) ∧ Below w.heap.size w (w.alloc (.cells #[.int .i64 2147483579] 117)) := ⟨by simp, (Below.refl _ _).alloc (Nat.le_refl _) _⟩
  go_enter Tryz.func88, Tryz.ntmps88
  go_wp2_with fail
  generalize w.alloc (.cells #[.int .i64 2147483579] 117) = W at h0
  have H0 := Lib.hid h0
  clear h0
  go_loopw [2, 7, 8] (fun ev ov sv wr => ∃ (x o : Nat) (s : Int), x ≤ e ∧ o < prime ∧ o * powP (modP s) x % prime = powP (modP b) e ∧ ev = .int .i64 x ∧ ov = .int .i64 o ∧ sv = .int .i64 s ∧ wr.cell? ⟨w.heap.size, 0, none⟩ = some (.int .i64 2147483579) ∧ Below w.heap.size w wr) (fun ev _ _ _ => (intOf ev).toNat)
  case atStart =>
    exact ⟨e, 1, b, Nat.le_refl _, by decide, by rw [Nat.one_mul, Nat.mod_eq_of_lt (powP_lt _ _)], rfl, rfl, rfl, H0.out.1, H0.out.2⟩
  case round =>
    obtain ⟨x, o, s, hxe, ho, heq, rfl, rfl, rfl, hc, hb⟩ := hrel
    have HE := Lib.hid heq
    have HB := Lib.hid hb
    have HO := Lib.hid ho
    have hg : w.heap.size < wr.heap.size := cell_size (p := ⟨w.heap.size, 0, none⟩) hc
    clear heq hb ho
    by_cases hx : x = 0
    · subst hx
      have E0 : Hid (o = powP (modP b) e) := by
        show o = _
        have := HE.out
        rw [powP_zero, Nat.mul_one, Nat.mod_eq_of_lt HO.out] at this
        exact this
      go_wp2
      go_ret
      exact ⟨by rw [← E0.out]; rfl, HB.out⟩
    · have hx0 : 0 < (x : Int) := by omega
      have H2 := Lib.hid (product_any s s)
      by_cases hodd : x % 2 = 1
      · have hr : (x : Int).tmod 2 = 1 := by rw [Int.tmod_eq_emod_of_nonneg (by omega)]; omega
        have H1 := Lib.hid (product_any o s)
        go_wp2_with fail
        refine (H1.out _).mono ?_
        rintro e1 w1 ⟨rfl, hb1⟩
        have hc1 : w1.cell? ⟨w.heap.size, 0, none⟩ = some (.int .i64 2147483579) := by rw [hb1.cell (p := ⟨w.heap.size, 0, none⟩) hg]; exact hc
        have HB1 := Lib.hid (HB.out.trans (hb1.mono HB.out.size))
        have hg1 : w.heap.size < w1.heap.size := Nat.lt_of_lt_of_le hg hb1.size
        clear hb1
        go_wp2_with fail
        refine (H2.out _).mono ?_
        rintro e2 w2 ⟨rfl, hb2⟩
        have hc2 : w2.cell? ⟨w.heap.size, 0, none⟩ = some (.int .i64 2147483579) := by rw [hb2.cell (p := ⟨w.heap.size, 0, none⟩) hg1]; exact hc1
        have HB2 := Lib.hid (HB1.out.trans (hb2.mono HB1.out.size))
        clear hb2
        go_wp2
        go_roundw
        case rel =>
          refine ⟨x / 2, mulP o s, (mulP s s : Nat), by omega, mulP_lt _ _, ?_, by go_num, rfl, rfl, hc2, HB2.out⟩
          rw [modP_mulP, ← HE.out, ← pow_step_odd o (modP s) x hodd]
          unfold mulP
          rw [modP_nat, Nat.mod_eq_of_lt HO.out]
        case measure => simp [intOf]; omega
      · have hr : ¬ (x : Int).tmod 2 = 1 := by rw [Int.tmod_eq_emod_of_nonneg (by omega)]; omega
        go_wp2_with fail
        refine (H2.out _).mono ?_
        rintro e2 w2 ⟨rfl, hb2⟩
        have hc2 : w2.cell? ⟨w.heap.size, 0, none⟩ = some (.int .i64 2147483579) := by rw [hb2.cell (p := ⟨w.heap.size, 0, none⟩) hg]; exact hc
        have HB2 := Lib.hid (HB.out.trans (hb2.mono HB.out.size))
        clear hb2
        go_wp2
        go_roundw
        case rel =>
          refine ⟨x / 2, o, (mulP s s : Nat), by omega, HO.out, ?_, by go_num, rfl, rfl, hc2, HB2.out⟩
          rw [modP_mulP, ← HE.out, ← pow_step_even o (modP s) x (by omega)]
        case measure => simp [intOf]; omega

/-- b to the e modulo the prime; 0 when e is not in 0 .. Prime. -/
def powI (b e : Int) : Nat := if 0 ≤ e ∧ e ≤ 2147483579 then powP (modP b) e.toNat else 0

set_option maxRecDepth 100000 in
set_option maxHeartbeats 400000 in
theorem implPowP_any (b e : Int) (w : World) :
    Calls Tryz.prog 70 #[.int .i64 b, .int .i64 e] w fun x w' => x = .returned (.int .i64 (powI b e : Nat)) ∧ Below w.heap.size w w' := by
  by_cases h : 0 ≤ e ∧ e ≤ 2147483579
  · obtain ⟨n, rfl⟩ := Int.eq_ofNat_of_zero_le h.1
    have E : Hid (powI b n = powP (modP b) n) := by show powI b n = _; unfold powI; rw [if_pos h]; rfl
    have h1 : ¬ ((n : Int) < 0) := by omega
    have h2 : ¬ (2147483579 < (n : Int)) := by omega
    have H1 := Lib.hid byPrime_any
    have H2 := Lib.hid (power_any b n (by omega))
    rw [E.out]
    clear h
    go_enter Tryz.func70, Tryz.ntmps70
    go_wp2_with fail
    refine (H1.out _).mono ?_
    rintro e1 w1 ⟨rfl, hb1⟩
    go_wp2_with fail
    refine (H2.out _).mono ?_
    rintro e2 w2 ⟨rfl, hb2⟩
    go_wp2
    go_ret
    exact ⟨rfl, hb1.trans (hb2.mono hb1.size)⟩
  · have E : Hid (powI b e = 0) := by show powI b e = _; unfold powI; rw [if_neg h]
    rw [E.out]
    by_cases h1 : e < 0
    · clear h
      go_enter Tryz.func70, Tryz.ntmps70
      go_wp2
      go_ret
      exact ⟨rfl, Below.refl _ _⟩
    · have h2 : 2147483579 < e := by omega
      clear h
      go_enter Tryz.func70, Tryz.ntmps70
      go_wp2
      go_ret
      exact ⟨rfl, Below.refl _ _⟩

end Go.Proofs.YtkjjdoadjhjmbauGreatDoor
namespace Go.Proofs.YtkjjdoadjhjmbauGreatDoor
open Go.RowKit

/-- y in 2 .. Prime - 1, and its power by Order is 1. -/
def inGroupOf (y : Int) (p : Nat) : Bool := decide (2 ≤ y) && (decide (y < 2147483579) && ((p : Int) == 1))
def inGroup (y : Int) : Bool := inGroupOf y (powI y 1073741789)

theorem inGroup_low (y : Int) (p : Nat) (h : ¬ 2 ≤ y) : inGroupOf y p = false := by unfold inGroupOf; rw [decide_eq_false h]; rfl
theorem inGroup_high (y : Int) (p : Nat) (h : ¬ y < 2147483579) : inGroupOf y p = false := by unfold inGroupOf; rw [decide_eq_false h, Bool.false_and, Bool.and_false]
theorem inGroup_mid (y : Int) (p : Nat) (h1 : 2 ≤ y) (h2 : y < 2147483579) : inGroupOf y p = ((p : Int) == 1) := by unfold inGroupOf; rw [decide_eq_true h1, decide_eq_true h2, Bool.true_and, Bool.true_and]

set_option maxRecDepth 100000 in
set_option maxHeartbeats 400000 in
theorem implInGroup_any (y : Int) (w : World) :
    Calls Tryz.prog 72 #[.int .i64 y] w fun x w' => x = .returned (.bool (inGroup y)) ∧ Below w.heap.size w w' := by
  have H1 := Lib.hid (implPowP_any y 1073741789)
  unfold inGroup
  generalize powI y 1073741789 = n at H1 ⊢
  by_cases h1 : 2 ≤ y
  · by_cases h2 : y < 2147483579
    · have E := Lib.hid (inGroup_mid y n h1 h2)
      rw [E.out]
      clear E
      go_enter Tryz.func72, Tryz.ntmps72
      go_wp2_with fail
      refine (H1.out _).mono ?_
      rintro e1 w1 ⟨rfl, hb1⟩
      go_wp2
      go_ret
      exact ⟨rfl, hb1⟩
    · rw [inGroup_high y n h2]
      have h3 : decide (y < 2147483579) = false := decide_eq_false h2
      clear h2
      go_enter Tryz.func72, Tryz.ntmps72
      go_wp2
      go_ret
      exact ⟨rfl, Below.refl _ _⟩
  · rw [inGroup_low y n h1]
    go_enter Tryz.func72, Tryz.ntmps72
    go_wp2
    go_ret
    exact ⟨rfl, Below.refl _ _⟩

end Go.Proofs.YtkjjdoadjhjmbauGreatDoor
namespace Go.Proofs.YtkjjdoadjhjmbauGreatDoor

theorem powI_nat (b : Int) (n : Nat) (h : n ≤ 2147483579) : powI b n = powP (modP b) n := by
  unfold powI
  rw [if_pos ⟨by omega, by omega⟩]
  rfl
theorem powI_lt (b e : Int) : powI b e < prime := by
  unfold powI
  split
  · exact powP_lt _ _
  · decide
theorem modP_four : modP 4 = 4 := by decide
theorem modP_pow (b e : Nat) : modP (powP b e : Nat) = powP b e := by rw [modP_nat, Nat.mod_eq_of_lt (powP_lt _ _)]

/-- A power of a sum is a product of powers. -/
theorem pow_sum (a b : Nat) (h : a + b ≤ 2147483579) : mulP (powI 4 a : Nat) (powI 4 b : Nat) = powI 4 ((a : Int) + (b : Int)) := by
  rw [show (a : Int) + (b : Int) = ((a + b : Nat) : Int) by omega, powI_nat 4 a (by omega), powI_nat 4 b (by omega), powI_nat 4 (a + b) h, modP_four]
  unfold mulP
  rw [modP_pow, modP_pow, powP_add]
/-- A power of a product is a power of a power. -/
theorem pow_prod (x y : Nat) (hx : x ≤ 2147483579) (hy : y ≤ 2147483579) (h : x * y ≤ 2147483579) : powI (powI 4 x : Nat) y = powI 4 ((x * y : Nat) : Int) := by
  rw [powI_nat 4 x hx, powI_nat _ y hy, powI_nat 4 (x * y) h, modP_four, modP_pow, powP_mul]
theorem pow_order : powI 4 1073741789 = 1 := by
  have h := powI_nat 4 order (by decide)
  rw [modP_four, base_order] at h
  exact h
theorem pow_below : powI 5 (-1) = 0 := rfl

theorem powP_zero_base (e : Nat) (he : e ≠ 0) : powP 0 e = 0 := by
  unfold powP
  rw [Nat.zero_pow (by omega)]
  rfl
/-- A power of the base below Order, but the one of 0, is in the group. -/
theorem pow_in (a : Nat) (h0 : a ≠ 0) (h1 : a < 1073741789) : inGroup (powI 4 a : Nat) = true := by
  have hlt := powI_lt 4 a
  have e := powI_nat 4 a (by omega)
  rw [modP_four] at e
  have ho : powI (powI 4 a : Nat) 1073741789 = 1 := by
    have h := powI_nat (powI 4 a : Nat) order (by decide)
    rw [e, modP_pow, powP_mul, Nat.mul_comm, ← powP_mul, base_order, powP_one] at h
    rw [e]
    exact h
  have hne1 : powI 4 a ≠ 1 := by
    intro h
    rw [e] at h
    have := base_one a h
    unfold order at this
    omega
  have hne0 : powI 4 a ≠ 0 := by
    intro h
    rw [h] at ho
    have h2 := powI_nat 0 order (by decide)
    have h3 : modP 0 = 0 := by decide
    rw [h3, powP_zero_base order (by decide)] at h2
    have h4 : powI ((0 : Nat) : Int) 1073741789 = 0 := h2
    rw [h4] at ho
    omega
  unfold inGroup
  rw [ho, inGroup_mid _ 1 (by omega) (by unfold prime at hlt; omega)]
  rfl

/-- The product with -1 is what is left to the prime. -/
theorem mul_minus (m : Nat) (h : m < 2147483579) : ((mulP (-1) (m : Nat) : Nat) : Int) = ((2147483579 : Int) - (m : Int)) % 2147483579 := by
  have e1 : modP (-1) = 2147483578 := by decide
  have e2 : modP (m : Nat) = m := by rw [modP_nat]; exact Nat.mod_eq_of_lt h
  unfold mulP
  rw [e1, e2]
  unfold prime
  by_cases h0 : m = 0
  · subst h0; decide
  · have h3 : 2147483578 * m = 2147483579 * (m - 1) + (2147483579 - m) := by omega
    rw [h3, Nat.mul_add_mod, Nat.mod_eq_of_lt (by omega)]
    omega

end Go.Proofs.YtkjjdoadjhjmbauGreatDoor
namespace Go.Proofs.YtkjjdoadjhjmbauGreatDoor
open Go.RowKit

theorem orderV : order = 1073741789 := rfl
theorem primeV : prime = 2147483579 := rfl
/-- A number in four bytes. -/
def numB (n : Nat) : ByteArray := ⟨(four n).toArray⟩
theorem numB_size (n : Nat) : (numB n).size = 4 := rfl
/-- The number of the first four bytes. -/
def firstP (s : ByteArray) : Nat := fourBack (s.extract 0 4).data.toList
theorem firstP_lt (s : ByteArray) : firstP s < 4294967296 := fourBack_lt _
def secretP (seed : ByteArray) : Nat := 1 + firstP (digP (seed ++ ⟨#[115]⟩)) % 1073741788
theorem secretP_in (seed : ByteArray) : 1 ≤ secretP seed ∧ secretP seed ≤ 1073741788 := by unfold secretP; omega
def publicP (secret : Nat) : Nat := powP 4 secret
def chalP (r pub : Nat) (m : ByteArray) : Nat := firstP (digP (numB r ++ numB pub ++ m)) % 1073741789
theorem chalP_lt (r pub : Nat) (m : ByteArray) : chalP r pub m < 1073741789 := Nat.mod_lt _ (by omega)
def keyOfP (secret : Nat) (m : ByteArray) : Nat := secretP (numB secret ++ m)
def signE (secret : Nat) (m : ByteArray) : Nat := chalP (powP 4 (keyOfP secret m)) (publicP secret) m
def signS (secret : Nat) (m : ByteArray) : Nat := (keyOfP secret m + signE secret m * secret % 1073741789) % 1073741789
theorem signE_lt (secret : Nat) (m : ByteArray) : signE secret m < 1073741789 := chalP_lt _ _ _
theorem signS_lt (secret : Nat) (m : ByteArray) : signS secret m < 1073741789 := Nat.mod_lt _ (by omega)
/-- What a signature is held against. -/
def backP (pub E S : Nat) : Nat := powP 4 S * powP pub (1073741789 - E) % prime

/-- A power of Base by the exponent modulo Order. -/
theorem base_mod (x : Nat) : powP 4 (x % 1073741789) = powP 4 x := by
  have h : powP 4 (1073741789 * (x / 1073741789)) = 1 := by
    rw [← powP_mul, ← orderV, base_order, powP_one]
  have e : 1073741789 * (x / 1073741789) + x % 1073741789 = x := Nat.div_add_mod x 1073741789
  have h2 := powP_add 4 (1073741789 * (x / 1073741789)) (x % 1073741789)
  rw [e, h, Nat.one_mul, Nat.mod_eq_of_lt (powP_lt _ _)] at h2
  exact h2
theorem base_same (x y : Nat) (h : x % 1073741789 = y % 1073741789) : powP 4 x = powP 4 y := by rw [← base_mod x, ← base_mod y, h]
theorem back_exp (k e s : Nat) (he : e < 1073741789) : ((k + e * s % 1073741789) % 1073741789 + s * (1073741789 - e)) % 1073741789 = k % 1073741789 := by
  have h1 : s * (1073741789 - e) = s * 1073741789 - e * s := by rw [Nat.mul_sub, Nat.mul_comm s e]
  have h2 : e * s ≤ s * 1073741789 := by rw [Nat.mul_comm e s]; exact Nat.mul_le_mul_left s (by omega)
  rw [h1]
  generalize e * s = y at h2 ⊢
  generalize hz : s * 1073741789 = z at h2 ⊢
  omega
/-- What is signed is found to be signed. -/
theorem back_sign (secret : Nat) (m : ByteArray) : backP (publicP secret) (signE secret m) (signS secret m) = powP 4 (keyOfP secret m) := by
  unfold backP publicP
  rw [powP_mul, powP_add]
  exact base_same _ _ (back_exp _ _ _ (signE_lt secret m))
/-- Two find the same shared number. -/
theorem shared_same (a b : Nat) : powP (publicP b) a = powP (publicP a) b := by
  unfold publicP
  rw [powP_mul, powP_mul, Nat.mul_comm]
theorem prod_not (a b : Nat) (ha0 : a ≠ 0) (ha : a < 1073741789) (hb0 : b ≠ 0) (hb : b < 1073741789) : a * b % 1073741789 ≠ 0 := by
  intro h
  have hd : order ∣ a * b := Nat.dvd_of_mod_eq_zero h
  have hg : Nat.gcd order a = 1 := by
    rcases order_prime _ (Nat.gcd_dvd_left order a) with h1 | h1
    · exact h1
    · have h2 := Nat.gcd_dvd_right order a
      rw [h1] at h2
      have h3 := Nat.le_of_dvd (by omega) h2
      rw [orderV] at h3
      omega
  have hb2 : order ∣ b := Nat.Coprime.dvd_of_dvd_mul_left hg hd
  have h3 := Nat.le_of_dvd (by omega) hb2
  rw [orderV] at h3
  omega
theorem powI_pow (n : Nat) (h : n ≤ 2147483579) : powI 4 (n : Nat) = powP 4 n := by rw [powI_nat 4 n h, modP_four]
theorem public_in (a : Nat) (h0 : a ≠ 0) (h1 : a < 1073741789) : inGroup (publicP a : Nat) = true := by
  have h := pow_in a h0 h1
  rw [powI_pow a (by omega)] at h
  exact h
theorem shared_in (a b : Nat) (ha0 : a ≠ 0) (ha : a < 1073741789) (hb0 : b ≠ 0) (hb : b < 1073741789) : inGroup (powP (publicP b) a : Nat) = true := by
  unfold publicP
  rw [powP_mul, ← base_mod]
  exact public_in _ (by rw [Nat.mul_comm]; exact prod_not a b ha0 ha hb0 hb) (Nat.mod_lt _ (by omega))

end Go.Proofs.YtkjjdoadjhjmbauGreatDoor
