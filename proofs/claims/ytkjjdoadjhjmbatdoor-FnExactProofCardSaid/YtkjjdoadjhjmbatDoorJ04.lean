/-
  Plain mathematics of chapter 3's group: powers modulo a number, by squares; a power that is 1 only where it must be; no program is spoken of here.
  Memory of which one block alone is written; a cursor over bytes that lies in such a block; no program is spoken of here.
  The program's products modulo the prime, and the given ones, by what they answer.
-/
import Derived.WalkKit
import Derived.Below
import Derived.WalkSmall
import Derived.Laws.BitsLemmas
import Derived.Test.YtkjjdoadjhjmbatDoorRows
import Derived.Test.YtkjjdoadjhjmbatDoorJ03
import Derived.Deep.RegionHeld3
import Derived.BigQuiet
import Derived.Deep.QuietTactic
import Derived.Deep.LoopGhost
import Derived.Deep.DeepCutAuto
namespace Go.Proofs.YtkjjdoadjhjmbatDoor

def prime : Nat := 2147483579
def order : Nat := 1073741789

/-- b to the e, modulo the prime. -/
def powP (b e : Nat) : Nat := b ^ e % prime

theorem powP_lt (b e : Nat) : powP b e < prime := Nat.mod_lt _ (by decide)
theorem powP_mod (b e : Nat) : powP (b % prime) e = powP b e := by unfold powP; rw [← Nat.pow_mod]
theorem powP_add (b x y : Nat) : powP b x * powP b y % prime = powP b (x + y) := by unfold powP; rw [← Nat.mul_mod, ← Nat.pow_add]
theorem powP_mul (b x y : Nat) : powP (powP b x) y = powP b (x * y) := by
  show powP (b ^ x % prime) y = _
  rw [powP_mod]
  unfold powP
  rw [← Nat.pow_mul]
theorem powP_zero (b : Nat) : powP b 0 = 1 := by unfold powP prime; simp
theorem powP_one (y : Nat) : powP 1 y = 1 := by unfold powP prime; simp

/-- Powers by squares: what a loop has gathered, and what is left. -/
theorem pow_step_odd (o b e : Nat) (h : e % 2 = 1) : (o * b % prime) * powP (b * b % prime) (e / 2) % prime = o * powP b e % prime := by
  rw [powP_mod]
  unfold powP
  have e1 : b ^ e = b * (b * b) ^ (e / 2) := by
    have : e = 2 * (e / 2) + 1 := by omega
    conv => lhs; rw [this, Nat.pow_succ, Nat.pow_mul, Nat.pow_two]
    rw [Nat.mul_comm]
  rw [e1, ← Nat.mul_mod, Nat.mul_assoc, Nat.mul_mod_mod]
theorem pow_step_even (o b e : Nat) (h : e % 2 = 0) : o * powP (b * b % prime) (e / 2) % prime = o * powP b e % prime := by
  rw [powP_mod]
  unfold powP
  have e1 : b ^ e = (b * b) ^ (e / 2) := by
    have : e = 2 * (e / 2) := by omega
    conv => lhs; rw [this, Nat.pow_mul, Nat.pow_two]
  rw [e1]

/-- A power reckoned by squares, for closed facts. -/
def fastP : Nat → Nat → Nat → Nat → Nat
  | 0, o, _, _ => o
  | f + 1, o, b, e => if e = 0 then o else fastP f (if e % 2 = 1 then o * b % prime else o) (b * b % prime) (e / 2)
theorem fastP_is : ∀ (f o b e : Nat), e < 2 ^ f → o < prime → fastP f o b e = o * powP b e % prime
  | 0, o, b, e, h, ho => by
    have : e = 0 := by simpa using h
    subst this
    rw [powP_zero, Nat.mul_one, Nat.mod_eq_of_lt ho]
    rfl
  | f + 1, o, b, e, h, ho => by
    unfold fastP
    by_cases h0 : e = 0
    · subst h0
      rw [if_pos rfl, powP_zero, Nat.mul_one, Nat.mod_eq_of_lt ho]
    · rw [if_neg h0]
      have hlt : e / 2 < 2 ^ f := by rw [Nat.pow_succ] at h; omega
      by_cases h1 : e % 2 = 1
      · rw [if_pos h1, fastP_is f _ _ _ hlt (Nat.mod_lt _ (by decide)), pow_step_odd o b e h1]
      · rw [if_neg h1, fastP_is f _ _ _ hlt ho, pow_step_even o b e (by omega)]

theorem base_order : powP 4 order = 1 := by
  have h := fastP_is 31 1 4 order (by decide) (by decide)
  rw [Nat.one_mul, Nat.mod_eq_of_lt (powP_lt _ _)] at h
  rw [← h]
  decide +kernel

/-- Of two powers that are 1, the one of what divides both is 1. -/
theorem one_gcd (b x y : Nat) (hx : powP b x = 1) (hy : powP b y = 1) : powP b (Nat.gcd x y) = 1 := by
  induction x, y using Nat.gcd.induction with
  | H0 y => rw [Nat.gcd_zero_left]; exact hy
  | H1 x y hpos ih =>
    rw [Nat.gcd_rec]
    refine ih ?_ hx
    have e : y = x * (y / x) + y % x := (Nat.div_add_mod y x).symm
    rw [e, ← powP_add, ← powP_mul, hx, powP_one, Nat.one_mul, Nat.mod_eq_of_lt (powP_lt _ _)] at hy
    exact hy

/-- No number of lo .. lo + 2^k - 1, but 0 and 1, divides n. -/
def noDiv (n : Nat) : Nat → Nat → Bool
  | 0, lo => lo ≤ 1 || n % lo != 0
  | k + 1, lo => noDiv n k lo && noDiv n k (lo + 2 ^ k)
theorem noDiv_is (n : Nat) : ∀ (k lo : Nat), noDiv n k lo = true → ∀ d, lo ≤ d → d < lo + 2 ^ k → 2 ≤ d → n % d ≠ 0
  | 0, lo, h, d, h1, h2, h3 => by
    have : d = lo := by simp at h2; omega
    subst this
    simp [noDiv] at h
    omega
  | k + 1, lo, h, d, h1, h2, h3 => by
    simp only [noDiv, Bool.and_eq_true] at h
    rw [Nat.pow_succ] at h2
    by_cases hd : d < lo + 2 ^ k
    · exact noDiv_is n k lo h.1 d h1 hd h3
    · exact noDiv_is n k (lo + 2 ^ k) h.2 d (by omega) (by omega) h3

theorem order_noDiv : noDiv order 16 0 = true := by decide +kernel

theorem order_prime (d : Nat) (h : d ∣ order) : d = 1 ∨ d = order := by
  obtain ⟨c, hc⟩ := h
  have ho : order = 1073741789 := rfl
  have big : ∀ x y : Nat, order = x * y → x < 65536 → x = 1 := by
    intro x y e hx
    by_cases h2 : 2 ≤ x
    · exact absurd (show order % x = 0 by rw [e]; exact Nat.mul_mod_right x y) (noDiv_is order 16 0 order_noDiv x (Nat.zero_le _) (by omega) h2)
    · have : x ≠ 0 := fun e0 => by rw [e0, Nat.zero_mul] at e; rw [ho] at e; omega
      omega
  by_cases hd : d < 65536
  · exact .inl (big d c hc hd)
  · right
    have hcs : c < 65536 := by
      rcases Nat.lt_or_ge c 65536 with h | h
      · exact h
      · have := Nat.mul_le_mul (Nat.le_of_not_lt hd) h
        rw [ho] at hc
        omega
    have := big c d (by rw [hc, Nat.mul_comm]) hcs
    rw [this, Nat.mul_one] at hc
    exact hc.symm

/-- A power of the base is 1 just where Order divides its number. -/
theorem base_one (a : Nat) (h : powP 4 a = 1) : a % order = 0 := by
  have hg := one_gcd 4 a order h base_order
  rcases order_prime _ (Nat.gcd_dvd_right a order) with e | e
  · rw [e] at hg
    exact absurd hg (by decide)
  · have := Nat.gcd_dvd_left a order
    rw [e] at this
    exact Nat.mod_eq_zero_of_dvd this

/-- A number taken modulo the prime, not below 0. -/
def modP (a : Int) : Nat := (a % 2147483579).toNat
theorem modP_lt (a : Int) : modP a < prime := by unfold modP prime; omega
theorem modP_int (a : Int) : (modP a : Int) = a % 2147483579 := by unfold modP; omega
theorem modP_nat (n : Nat) : modP (n : Int) = n % prime := by unfold modP prime; omega
theorem modP_of (a : Int) : modP (modP a : Int) = modP a := by rw [modP_nat, Nat.mod_eq_of_lt (modP_lt a)]

/-- The product modulo the prime. -/
def mulP (a b : Int) : Nat := modP a * modP b % prime
theorem mulP_lt (a b : Int) : mulP a b < prime := Nat.mod_lt _ (by decide)
theorem prod_lt (x y : Nat) (hx : x < prime) (hy : y < prime) : x * y < 9223372036854775807 := by
  have h1 : x * y ≤ 2147483578 * 2147483578 := Nat.mul_le_mul (by unfold prime at hx; omega) (by unfold prime at hy; omega)
  omega

/-- What Go's remainder leaves, mended below 0, is the number modulo the prime. -/
theorem tmod_cases (a : Int) : ∃ r : Int, a.tmod 2147483579 = r ∧ -2147483579 < r ∧ r < 2147483579 ∧ (r < 0 → r + 2147483579 = (modP a : Int)) ∧ (¬ r < 0 → r = (modP a : Int)) := by
  refine ⟨_, rfl, ?_, ?_, ?_, ?_⟩
  · have := Int.lt_tmod_of_pos a (show (0 : Int) < 2147483579 by omega); omega
  · exact Int.tmod_lt_of_pos a (by omega)
  · intro h
    have e := Int.tmod_def a 2147483579
    rw [modP_int]
    have h2 := Int.lt_tmod_of_pos a (show (0 : Int) < 2147483579 by omega)
    generalize a.tdiv 2147483579 = q at e
    omega
  · intro h
    have e := Int.tmod_def a 2147483579
    rw [modP_int]
    have h2 := Int.tmod_lt_of_pos a (show (0 : Int) < 2147483579 by omega)
    generalize a.tdiv 2147483579 = q at e
    omega

end Go.Proofs.YtkjjdoadjhjmbatDoor
namespace Go.Proofs.YtkjjdoadjhjmbatDoor
open Go.RowKit

/-- What an 'and' with a number that is not below 0 leaves lies in 0 .. that number. -/
theorem and_mask (x : Int) (m : Nat) (hm : m < 2 ^ 63) : 0 ≤ bits .and .i64 x (m : Int) ∧ bits .and .i64 x (m : Int) ≤ (m : Int) := by
  unfold bits
  simp only
  have hb : (BitVec.ofInt IntKind.i64.bits (m : Int)).toNat = m := by
    rw [BitVec.toNat_ofInt]
    show ((m : Int) % ((2 ^ 64 : Nat) : Int)).toNat = m
    omega
  have hle : (BitVec.ofInt IntKind.i64.bits x &&& BitVec.ofInt IntKind.i64.bits (m : Int)).toNat ≤ m := by
    rw [BitVec.toNat_and, hb]
    exact Nat.and_le_right
  generalize (BitVec.ofInt IntKind.i64.bits x &&& BitVec.ofInt IntKind.i64.bits (m : Int)).toNat = k at hle
  have hw : IntKind.i64.wrap (k : Int) = (k : Int) := by rw [IntKind.wrap_i64]; omega
  rw [hw]
  omega

/-- Block c alone may have been written; blocks may have been added. -/
structure Only (c : Nat) (w w' : World) : Prop where
  os : w'.os = w.os
  tape : w'.tape = w.tape
  output : w'.output = w.output
  size : w.heap.size ≤ w'.heap.size
  block : ∀ k, k < w.heap.size → k ≠ c → w'.heap[k]? = w.heap[k]?

theorem Only.refl (c : Nat) (w : World) : Only c w w := ⟨rfl, rfl, rfl, Nat.le_refl _, fun _ _ _ => rfl⟩
theorem Only.trans {c : Nat} {w w1 w2 : World} (h : Only c w w1) (k : Only c w1 w2) : Only c w w2 :=
  ⟨k.os.trans h.os, k.tape.trans h.tape, k.output.trans h.output, Nat.le_trans h.size k.size, fun i hi hc => (k.block i (Nat.lt_of_lt_of_le hi h.size) hc).trans (h.block i hi hc)⟩
theorem Only.of_below {c : Nat} {w w' : World} (h : Below w.heap.size w w') : Only c w w' := ⟨h.os, h.tape, h.output, h.size, fun k hk _ => h.block k hk⟩
theorem Only.below {c B : Nat} {w w' : World} (h : Only c w w') (hB : B ≤ c) (hs : B ≤ w.heap.size) : Below B w w' :=
  ⟨h.os, h.tape, h.output, h.size, fun k hk => h.block k (by omega) (by omega)⟩
theorem Only.cell {c : Nat} {w w' : World} (h : Only c w w') {p : Addr} (hp : p.block < w.heap.size) (hc : p.block ≠ c) : w'.cell? p = w.cell? p := World.cell?_of_block (w := w) (h.block p.block hp hc)
theorem Only.setCell {c : Nat} {w : World} (o : Nat) (v : Value) : Only c w (w.setCell ⟨c, o, none⟩ v) := by
  have h := Below.setCell (B := 0) (Below.refl 0 w) (p := ⟨c, o, none⟩) (Nat.zero_le _) v
  exact ⟨h.os, h.tape, h.output, h.size, fun k _ hc => Below.heap_setCell w _ v k hc⟩
theorem Only.drewN {c : Nat} {w w' : World} (h : Only c w w') (n : Nat) : Only c w (w'.drewN n) := by
  have hb := below_drewN (B := w'.heap.size) (Below.refl _ w') n
  exact h.trans (.of_below hb)

theorem set_off (w : World) (c o q : Nat) (v : Value) (h : o ≠ q) : (w.setCell ⟨c, o, none⟩ v).cell? ⟨c, q, none⟩ = w.cell? ⟨c, q, none⟩ :=
  World.cell?_setCell_other _ _ _ _ (fun e => h (congrArg Addr.off e))
theorem set_on (w : World) (c o : Nat) (u v : Value) (h : w.cell? ⟨c, o, none⟩ = some u) : (w.setCell ⟨c, o, none⟩ v).cell? ⟨c, o, none⟩ = some v :=
  World.cell?_setCell_same _ _ _ h

/-- A cursor in block c over 'len' bytes. -/
structure Cur (c : Nat) (a : Option Addr) (len cap : Nat) (w : World) : Prop where
  few : len ≤ 1048576
  c0 : w.cell? ⟨c, 0, none⟩ = some (.slice a len cap)
  c1 : ∃ i : Nat, i ≤ len ∧ w.cell? ⟨c, 1, none⟩ = some (.int .i64 i)
  c2 : ∃ h : Int, w.cell? ⟨c, 2, none⟩ = some (.int .i64 h)
  f1 : w.frozen? ⟨c, 1, none⟩ = false
  f2 : w.frozen? ⟨c, 2, none⟩ = false
  bytes : ∀ j, j < len → ∃ (b off : Nat) (x : Int), a = some ⟨b, off, none⟩ ∧ b < c ∧ w.cell? ⟨b, off + j, none⟩ = some (.int .u8 x) ∧ 0 ≤ x ∧ x ≤ 255

theorem cell_size {w : World} {p : Addr} {v : Value} (h : w.cell? p = some v) : p.block < w.heap.size := by
  rcases Nat.lt_or_ge p.block w.heap.size with h' | h'
  · exact h'
  · exfalso
    unfold World.cell? at h
    simp [Array.getElem?_eq_none h'] at h

/-- Behind a store into the cursor's two numbers it is one still. -/
theorem Cur.turn {c : Nat} {a : Option Addr} {len cap : Nat} {w w' : World} (h : Cur c a len cap w) (ho : Only c w w') (h0 : w'.cell? ⟨c, 0, none⟩ = some (.slice a len cap))
    (h1 : ∃ i : Nat, i ≤ len ∧ w'.cell? ⟨c, 1, none⟩ = some (.int .i64 i)) (h2 : ∃ h : Int, w'.cell? ⟨c, 2, none⟩ = some (.int .i64 h)) (f1 : w'.frozen? ⟨c, 1, none⟩ = false) (f2 : w'.frozen? ⟨c, 2, none⟩ = false) : Cur c a len cap w' := by
  refine ⟨h.few, h0, h1, h2, f1, f2, fun j hj => ?_⟩
  obtain ⟨b, off, x, ha, hb, hx, x0, x1⟩ := h.bytes j hj
  exact ⟨b, off, x, ha, hb, by rw [ho.cell (cell_size hx) (by show b ≠ c; omega)]; exact hx, x0, x1⟩

/-- What lies in blocks as they were reads as it did. -/
theorem Cur.kept {c : Nat} {a : Option Addr} {len cap : Nat} {B : Nat} {w w' : World} (h : Cur c a len cap w) (hb : Below B w w') (hs : c < B) : Cur c a len cap w' := by
  refine ⟨h.few, by rw [hb.cell (p := ⟨c, 0, none⟩) hs]; exact h.c0, ?_, ?_, by rw [hb.frozen (p := ⟨c, 1, none⟩) hs]; exact h.f1, by rw [hb.frozen (p := ⟨c, 2, none⟩) hs]; exact h.f2, fun j hj => ?_⟩
  · rw [hb.cell (p := ⟨c, 1, none⟩) hs]; exact h.c1
  · rw [hb.cell (p := ⟨c, 2, none⟩) hs]; exact h.c2
  · obtain ⟨b, off, x, ha, hbc, hx, x0, x1⟩ := h.bytes j hj
    exact ⟨b, off, x, ha, hbc, by rw [hb.cell (p := ⟨b, off + j, none⟩) (by show b < B; omega)]; exact hx, x0, x1⟩
theorem Cur.below {c : Nat} {a : Option Addr} {len cap : Nat} {w w' : World} (h : Cur c a len cap w) (hb : Below w.heap.size w w') : Cur c a len cap w' :=
  h.kept hb (cell_size (p := ⟨c, 0, none⟩) h.c0)
theorem Only.behind {c : Nat} {w w1 w2 : World} (h : Only c w w1) (k : Below w.heap.size w1 w2) : Only c w w2 :=
  ⟨k.os.trans h.os, k.tape.trans h.tape, k.output.trans h.output, Nat.le_trans h.size k.size, fun i hi hc => (k.block i hi).trans (h.block i hi hc)⟩

/-- Bytes that can be read, in blocks that are there. -/
structure Src (a : Option Addr) (len : Nat) (w : World) : Prop where
  few : len ≤ 1048576
  bytes : ∀ j, j < len → ∃ (b off : Nat) (x : Int), a = some ⟨b, off, none⟩ ∧ b < w.heap.size ∧ w.cell? ⟨b, off + j, none⟩ = some (.int .u8 x) ∧ 0 ≤ x ∧ x ≤ 255

theorem Src.below {a : Option Addr} {len : Nat} {w w' : World} (h : Src a len w) (hb : Below w.heap.size w w') : Src a len w' := by
  refine ⟨h.few, fun j hj => ?_⟩
  obtain ⟨b, off, x, ha, hs, hx, x0, x1⟩ := h.bytes j hj
  exact ⟨b, off, x, ha, Nat.lt_of_lt_of_le hs hb.size, by rw [hb.cell (p := ⟨b, off + j, none⟩) hs]; exact hx, x0, x1⟩

/-- How a draw of a number ends: it lies in 0 .. hi; the cursor is one still; no other block was written. -/
def DrewInt (hi : Int) (c : Nat) (a : Option Addr) (len cap : Nat) (w : World) (e : Ending) (w' : World) : Prop :=
  ∃ x : Int, 0 ≤ x ∧ x ≤ hi ∧ e = .returned (.int .i64 x) ∧ Cur c a len cap w' ∧ Only c w w'

end Go.Proofs.YtkjjdoadjhjmbatDoor
namespace Go.Proofs.YtkjjdoadjhjmbatDoor
open Go.RowKit

set_option maxRecDepth 100000 in
set_option maxHeartbeats 400000 in
theorem of_any (a : Int) (w : World) :
    Calls Tryd.prog 66 #[.agg #[.int .i64 2147483579], .int .i64 a] w fun e w' => e = .returned (.int .i64 (modP a : Nat)) ∧ Below w.heap.size w w' := by
  obtain ⟨r, hr, h1, h2, h3, h4⟩ := tmod_cases a
  by_cases hn : r < 0
  · have H := Lib.hid (h3 hn)
    clear h3 h4
    go_enter Tryd.func66, Tryd.ntmps66
    go_wp2
    go_ret
    exact ⟨by rw [← H.out]; rfl, (Below.refl _ _).alloc (Nat.le_refl _) _⟩
  · have H := Lib.hid (h4 hn)
    clear h3 h4
    go_enter Tryd.func66, Tryd.ntmps66
    go_wp2
    go_ret
    exact ⟨by rw [← H.out]; rfl, (Below.refl _ _).alloc (Nat.le_refl _) _⟩

set_option maxRecDepth 100000 in
set_option maxHeartbeats 400000 in
theorem specMod_any (a : Int) (w : World) :
    Calls Tryd.prog 88 #[.int .i64 a] w fun e w' => e = .returned (.int .i64 (modP a : Nat)) ∧ w' = w := by
  obtain ⟨r, hr, h1, h2, h3, h4⟩ := tmod_cases a
  by_cases hn : r < 0
  · have H := Lib.hid (h3 hn)
    clear h3 h4
    go_enter Tryd.func88, Tryd.ntmps88
    go_wp2
    go_ret
    exact ⟨by rw [← H.out]; rfl, rfl⟩
  · have H := Lib.hid (h4 hn)
    clear h3 h4
    go_enter Tryd.func88, Tryd.ntmps88
    go_wp2
    go_ret
    exact ⟨by rw [← H.out]; rfl, rfl⟩

/-- The same with a cell that is kept, and what was there ahead of 'w' too. -/
theorem of_keep (a : Int) (w W : World) (v : Value) (h : W.cell? ⟨w.heap.size, 0, none⟩ = some v ∧ Below w.heap.size w W) :
    Calls Tryd.prog 66 #[.agg #[.int .i64 2147483579], .int .i64 a] W fun e w' => e = .returned (.int .i64 (modP a : Nat)) ∧ w'.cell? ⟨w.heap.size, 0, none⟩ = some v ∧ Below w.heap.size w w' := by
  refine (of_any a W).mono fun e w' ⟨he, hb⟩ => ⟨he, ?_, h.2.trans (hb.mono h.2.size)⟩
  rw [hb.cell (p := ⟨w.heap.size, 0, none⟩) (cell_size (p := ⟨w.heap.size, 0, none⟩) h.1)]
  exact h.1
theorem held_drew {w W : World} {v : Value} (h : W.cell? ⟨w.heap.size, 0, none⟩ = some v ∧ Below w.heap.size w W) : W.drew.cell? ⟨w.heap.size, 0, none⟩ = some v ∧ Below w.heap.size w W.drew := ⟨h.1, h.2.drew⟩

set_option maxRecDepth 100000 in
set_option maxHeartbeats 400000 in
theorem product_any (a b : Int) (w : World) :
    Calls Tryd.prog 67 #[.agg #[.int .i64 2147483579], .int .i64 a, .int .i64 b] w fun e w' => e = .returned (.int .i64 (mulP a b : Nat)) ∧ Below w.heap.size w w' := by
  have hx : modP a < 2147483579 := modP_lt a
  have hy : modP b < 2147483579 := modP_lt b
  have H1 := Lib.hid (fun a => of_keep a w)
  obtain ⟨m, hm, hm1, HM⟩ : ∃ m : Nat, (modP a : Int) * (modP b : Int) = (m : Int) ∧ m < 9223372036854775807 ∧ Hid (m = modP a * modP b) := ⟨modP a * modP b, by rw [Int.natCast_mul], prod_lt _ _ hx hy, rfl⟩
  obtain ⟨r, hr, HR⟩ : ∃ r : Nat, (m : Int).tmod 2147483579 = (r : Int) ∧ Hid (r = mulP a b) := by
    refine ⟨m % 2147483579, by rw [Int.tmod_eq_emod_of_nonneg (by omega)]; omega, ?_⟩
    show m % 2147483579 = mulP a b
    rw [HM.out]
    rfl
  have hwm : IntKind.i64.wrap (m : Int) = (m : Int) := by rw [IntKind.wrap_i64]; omega
  rw [← HR.out]
  have h0 : (w.alloc (.cells #[.int .i64 2147483579] 86)).cell? ⟨w.heap.size, 0, none⟩ = some (.int .i64 2147483579) ∧ Below w.heap.size w (w.alloc (.cells #[.int .i64 2147483579] 86)) := ⟨by simp, (Below.refl _ _).alloc (Nat.le_refl _) _⟩
  go_enter Tryd.func67, Tryd.ntmps67
  go_wp2_with fail
  generalize w.alloc (.cells #[.int .i64 2147483579] 86) = W at h0
  obtain ⟨h1, h2⟩ := h0
  go_region_held3 (fun X => X.cell? ⟨w.heap.size, 0, none⟩ = some (.int .i64 2147483579) ∧ Below w.heap.size w X) (first | assumption | exact held_drew ⟨h1, h2⟩ | (exact ⟨by assumption, by assumption⟩)) (first | (go_at_call 66; refine (H1.out _ _ (.int .i64 2147483579) (by assumption)).mono ?_; rintro e w1 ⟨rfl, hc1, hb1⟩))
  all_goals
    go_wp2
    go_ret
    exact ⟨rfl, by assumption⟩

set_option maxRecDepth 100000 in
set_option maxHeartbeats 400000 in
theorem byPrime_any (w : World) :
    Calls Tryd.prog 93 #[] w fun e w' => e = .returned (.agg #[.int .i64 2147483579]) ∧ Below w.heap.size w w' := by
  go_enter Tryd.func93, Tryd.ntmps93
  go_wp2
  refine bodyPost_ret (v := .agg #[.int .i64 2147483579]) (by simp [results, Tryd.results93, go_sem]) rfl ⟨rfl, ?_⟩
  exact (Below.refl _ _).alloc (Nat.le_refl _) _

end Go.Proofs.YtkjjdoadjhjmbatDoor
