/-
  The given words of digests: turned, read of a text.
  Memory of which one block alone is written; a cursor over bytes that lies in such a block; no program is spoken of here.
-/
import Derived.Test.YtoaifgblbfdncabGreatDoorRows
import Derived.Test.YtoaifgblbfdncabGreatDoorJ01
import Derived.Deep.RegionHeld3
import Derived.BigQuiet
import Derived.Deep.QuietTactic
import Derived.Deep.LoopGhost
import Derived.Deep.DeepCutAuto
import Derived.Below
import Derived.WalkKit
import Derived.WalkSmall
import Derived.Laws.BitsLemmas
namespace Go.Proofs.YtoaifgblbfdncabGreatDoor
open Go.RowKit

set_option maxRecDepth 100000 in
set_option maxHeartbeats 400000 in
theorem specRight_any (x low high : Nat) (hx : x < 4294967296) (h0 : 0 < low) (hlh : low * high = 4294967296) (w : World) :
    Calls Tryz.prog 120 #[.int .u32 x, .int .u32 low, .int .u32 high] w fun e w' => e = .returned (.int .u32 (right x low high : Nat)) ∧ Below w.heap.size w w' := by
  have hl0 : ¬ (low : Int) = 0 := by omega
  go_enter Tryz.func120, Tryz.ntmps120
  go_wp2
  go_quiet (fail)
  go_wp2
  go_ret
  refine ⟨congrArg (fun z => Ending.returned (.int .u32 z)) ?_, below_drewN (Below.refl _ _) _⟩
  obtain ⟨p1, p2, p3⟩ := right_parts x low high hx h0 hlh
  have p4 := right_lt x low high hx h0 hlh
  have e1 : (x : Int) / (low : Int) = ((x / low : Nat) : Int) := by rw [Int.natCast_ediv]
  have e2 : (x : Int) % (low : Int) * (high : Int) = ((x % low * high : Nat) : Int) := by rw [Int.natCast_mul, Int.natCast_emod]
  rw [e1, e2]
  unfold right at p4 ⊢
  generalize x / low = q at *
  generalize x % low * high = r at *
  omega

/-- A place behind another one, as a number of its own. -/
theorem place (k j n : Nat) (h : k + j < n) (hn : n ≤ 1099511627776) : ∃ m : Nat, (k : Int) + (j : Int) = (m : Int) ∧ IntKind.i64.wrap (m : Int) = (m : Int) ∧ (m : Int) < (n : Int) ∧ Hid (m = k + j) :=
  ⟨k + j, by omega, by rw [IntKind.wrap_i64]; omega, by omega, rfl⟩

theorem byte_getD (s : ByteArray) (k : Nat) (h : k < s.size) : s.data.toList.getD k 0 = s[k] := by
  rw [List.getD_eq_getElem?_getD, List.getElem?_eq_getElem (by simpa using h)]
  rfl

theorem word_mul (a b c d : Nat) (ha : a < 256) (hb : b < 256) (hc : c < 256) (hd : d < 256) :
    (((a : Int) % 4294967296 * 16777216 + (b : Int) % 4294967296 * 65536 + (c : Int) % 4294967296 * 256) % 4294967296 + (d : Int) % 4294967296) % 4294967296 = ((a * 16777216 + b * 65536 + c * 256 + d : Nat) : Int) := by
  omega

set_option maxRecDepth 100000 in
set_option maxHeartbeats 800000 in
theorem specWord_any (s : ByteArray) (k : Nat) (hk : k + 3 < s.size) (hs : s.size ≤ 1099511627776) (w : World) :
    Calls Tryz.prog 115 #[.string s, .int .i64 k] w fun e w' => e = .returned (.int .u32 (wordAt s.data.toList k : Nat)) ∧ Below w.heap.size w w' := by
  have h0 : (k : Int) < (s.size : Int) := by omega
  obtain ⟨k1, a1, b1, c1, K1⟩ := place k 1 s.size (by omega) hs
  obtain ⟨k2, a2, b2, c2, K2⟩ := place k 2 s.size (by omega) hs
  obtain ⟨k3, a3, b3, c3, K3⟩ := place k 3 s.size (by omega) hs
  have a1' : (k : Int) + 1 = (k1 : Int) := a1
  have a2' : (k : Int) + 2 = (k2 : Int) := a2
  have a3' : (k : Int) + 3 = (k3 : Int) := a3
  clear a1 a2 a3
  go_enter Tryz.func115, Tryz.ntmps115
  go_wp2
  go_quiet (fail)
  go_wp2
  go_ret
  refine ⟨congrArg (fun z => Ending.returned (.int .u32 z)) ?_, below_drewN (Below.refl _ _) _⟩
  have q0 := byte_getD s k (by omega)
  have q1 := byte_getD s k1 (by omega)
  have q2 := byte_getD s k2 (by omega)
  have q3 := byte_getD s k3 (by omega)
  unfold wordAt fourNum
  rw [← K1.out, ← K2.out, ← K3.out, q0, q1, q2, q3]
  exact word_mul _ _ _ _ (UInt8.toNat_lt _) (UInt8.toNat_lt _) (UInt8.toNat_lt _) (UInt8.toNat_lt _)

set_option maxRecDepth 100000 in
set_option maxHeartbeats 800000 in
theorem specS_any (x a b c : Nat) (last : Bool) (hx : x < 4294967296) (ha : Halves a) (hb : Halves b) (hc : Halves c) (w : World) :
    Calls Tryz.prog 116 #[.int .u32 x, .int .u32 a, .int .u32 b, .int .u32 c, .bool last] w fun e w' => e = .returned (.int .u32 (sgm x a b c last : Nat)) ∧ Below w.heap.size w w' := by
  obtain ⟨qa, fa, ga, QA⟩ := ha.part
  obtain ⟨qb, fb, gb, QB⟩ := hb.part
  obtain ⟨qc, fc, gc, QC⟩ := hc.part
  have H1 := Lib.hid (specRight_any x a (qa * 2) hx ha.1 (by rw [QA.out]; exact ha.2.2))
  have H2 := Lib.hid (specRight_any x b (qb * 2) hx hb.1 (by rw [QB.out]; exact hb.2.2))
  have H3 := Lib.hid (specRight_any x c (qc * 2) hx hc.1 (by rw [QC.out]; exact hc.2.2))
  have e1 : sgm x a b c last = right x a (qa * 2) ^^^ right x b (qb * 2) ^^^ (if last then x / c else right x c (qc * 2)) := by rw [QA.out, QB.out, QC.out]; rfl
  have l1 := right_lt x a (qa * 2) hx ha.1 (by rw [QA.out]; exact ha.2.2)
  have l2 := right_lt x b (qb * 2) hx hb.1 (by rw [QB.out]; exact hb.2.2)
  have l3 := right_lt x c (qc * 2) hx hc.1 (by rw [QC.out]; exact hc.2.2)
  rw [e1]
  have a0 : ¬ (a : Int) = 0 := by have := ha.1; omega
  have b0 : ¬ (b : Int) = 0 := by have := hb.1; omega
  have c0 : ¬ (c : Int) = 0 := by have := hc.1; omega
  generalize right x a (qa * 2) = ra at *
  generalize right x b (qb * 2) = rb at *
  generalize right x c (qc * 2) = rc at *
  obtain ⟨xc, hxc, lxc, XC⟩ : ∃ q : Nat, (x : Int) / (c : Int) = (q : Int) ∧ q < 4294967296 ∧ Hid (q = x / c) := ⟨x / c, by rw [Int.natCast_ediv], Nat.lt_of_le_of_lt (Nat.div_le_self _ _) hx, rfl⟩
  rw [← XC.out]
  have lx1 : ra ^^^ rb < 4294967296 := Nat.xor_lt_two_pow (n := 32) l1 l2
  have x1 := xor_u32 ra rb l1 l2
  have x2 := xor_u32 (ra ^^^ rb) rc lx1 l3
  have x3 := xor_u32 (ra ^^^ rb) xc lx1 lxc
  have w1 : ((qa * 2 : Nat) : Int) = (qa : Int) * 2 := by omega
  have w2 : ((qb * 2 : Nat) : Int) = (qb : Int) * 2 := by omega
  have w3 : ((qc * 2 : Nat) : Int) = (qc : Int) * 2 := by omega
  rw [w1] at H1
  rw [w2] at H2
  rw [w3] at H3
  clear w1 w2 w3 e1 ha hb hc
  go_enter Tryz.func116, Tryz.ntmps116
  go_wp2_with fail
  refine (H1.out _).mono ?_
  rintro e w4 ⟨rfl, hb4⟩
  go_wp2_with fail
  refine (H2.out _).mono ?_
  rintro e w5 ⟨rfl, hb5⟩
  have HB5 := Lib.hid (hb4.trans (hb5.mono hb4.size))
  clear hb4 hb5
  cases last with
  | true =>
    go_wp2_with fail
    go_ret
    exact ⟨rfl, HB5.out⟩
  | false =>
    go_wp2_with fail
    refine (H3.out _).mono ?_
    rintro e w6 ⟨rfl, hb6⟩
    go_wp2_with fail
    go_ret
    exact ⟨rfl, HB5.out.trans (hb6.mono HB5.out.size)⟩

end Go.Proofs.YtoaifgblbfdncabGreatDoor
namespace Go.Proofs.YtoaifgblbfdncabGreatDoor
open Go.RowKit

/-- Block c alone may have been written; blocks may have been added. -/
structure Only (c : Nat) (w w' : World) : Prop where
  os : w'.os = w.os
  tape : w'.tape = w.tape
  output : w'.output = w.output
  size : w.heap.size ≤ w'.heap.size
  block : ∀ k, k < w.heap.size → k ≠ c → w'.heap[k]? = w.heap[k]?

theorem Only.refl (c : Nat) (w : World) : Only c w w := ⟨rfl, rfl, rfl, Nat.le_refl _, fun _ _ _ => rfl⟩
theorem Only.trans {c : Nat} {w w1 w2 : World} (h : Only c w w1) (k : Only c w1 w2) : Only c w w2 :=
  ⟨k.os.trans h.os, k.tape.trans h.tape, k.output.trans h.output, Nat.le_trans h.size k.size, fun i hi hc => (k.block i (Nat.lt_of_lt_of_le hi h.size) hc).trans (h.block i hi hc)⟩
theorem Only.of_below {c : Nat} {w w' : World} (h : Below w.heap.size w w') : Only c w w' := ⟨h.os, h.tape, h.output, h.size, fun k hk _ => h.block k hk⟩
theorem Only.below {c B : Nat} {w w' : World} (h : Only c w w') (hB : B ≤ c) (hs : B ≤ w.heap.size) : Below B w w' :=
  ⟨h.os, h.tape, h.output, h.size, fun k hk => h.block k (by omega) (by omega)⟩
theorem Only.cell {c : Nat} {w w' : World} (h : Only c w w') {p : Addr} (hp : p.block < w.heap.size) (hc : p.block ≠ c) : w'.cell? p = w.cell? p := World.cell?_of_block (w := w) (h.block p.block hp hc)
theorem Only.setCell {c : Nat} {w : World} (o : Nat) (v : Value) : Only c w (w.setCell ⟨c, o, none⟩ v) := by
  have h := Below.setCell (B := 0) (Below.refl 0 w) (p := ⟨c, o, none⟩) (Nat.zero_le _) v
  exact ⟨h.os, h.tape, h.output, h.size, fun k _ hc => Below.heap_setCell w _ v k hc⟩
theorem Only.drewN {c : Nat} {w w' : World} (h : Only c w w') (n : Nat) : Only c w (w'.drewN n) := by
  have hb := below_drewN (B := w'.heap.size) (Below.refl _ w') n
  exact h.trans (.of_below hb)

theorem set_off (w : World) (c o q : Nat) (v : Value) (h : o ≠ q) : (w.setCell ⟨c, o, none⟩ v).cell? ⟨c, q, none⟩ = w.cell? ⟨c, q, none⟩ :=
  World.cell?_setCell_other _ _ _ _ (fun e => h (congrArg Addr.off e))
theorem set_on (w : World) (c o : Nat) (u v : Value) (h : w.cell? ⟨c, o, none⟩ = some u) : (w.setCell ⟨c, o, none⟩ v).cell? ⟨c, o, none⟩ = some v :=
  World.cell?_setCell_same _ _ _ h

/-- A cursor in block c over 'len' bytes. -/
structure Cur (c : Nat) (a : Option Addr) (len cap : Nat) (w : World) : Prop where
  few : len ≤ 1048576
  c0 : w.cell? ⟨c, 0, none⟩ = some (.slice a len cap)
  c1 : ∃ i : Nat, i ≤ len ∧ w.cell? ⟨c, 1, none⟩ = some (.int .i64 i)
  c2 : ∃ h : Int, w.cell? ⟨c, 2, none⟩ = some (.int .i64 h)
  f1 : w.frozen? ⟨c, 1, none⟩ = false
  f2 : w.frozen? ⟨c, 2, none⟩ = false
  bytes : ∀ j, j < len → ∃ (b off : Nat) (x : Int), a = some ⟨b, off, none⟩ ∧ b < c ∧ w.cell? ⟨b, off + j, none⟩ = some (.int .u8 x) ∧ 0 ≤ x ∧ x ≤ 255

theorem cell_size {w : World} {p : Addr} {v : Value} (h : w.cell? p = some v) : p.block < w.heap.size := by
  rcases Nat.lt_or_ge p.block w.heap.size with h' | h'
  · exact h'
  · exfalso
    unfold World.cell? at h
    simp [Array.getElem?_eq_none h'] at h

/-- Behind a store into the cursor's two numbers it is one still. -/
theorem Cur.turn {c : Nat} {a : Option Addr} {len cap : Nat} {w w' : World} (h : Cur c a len cap w) (ho : Only c w w') (h0 : w'.cell? ⟨c, 0, none⟩ = some (.slice a len cap))
    (h1 : ∃ i : Nat, i ≤ len ∧ w'.cell? ⟨c, 1, none⟩ = some (.int .i64 i)) (h2 : ∃ h : Int, w'.cell? ⟨c, 2, none⟩ = some (.int .i64 h)) (f1 : w'.frozen? ⟨c, 1, none⟩ = false) (f2 : w'.frozen? ⟨c, 2, none⟩ = false) : Cur c a len cap w' := by
  refine ⟨h.few, h0, h1, h2, f1, f2, fun j hj => ?_⟩
  obtain ⟨b, off, x, ha, hb, hx, x0, x1⟩ := h.bytes j hj
  exact ⟨b, off, x, ha, hb, by rw [ho.cell (cell_size hx) (by show b ≠ c; omega)]; exact hx, x0, x1⟩

/-- What lies in blocks as they were reads as it did. -/
theorem Cur.kept {c : Nat} {a : Option Addr} {len cap : Nat} {B : Nat} {w w' : World} (h : Cur c a len cap w) (hb : Below B w w') (hs : c < B) : Cur c a len cap w' := by
  refine ⟨h.few, by rw [hb.cell (p := ⟨c, 0, none⟩) hs]; exact h.c0, ?_, ?_, by rw [hb.frozen (p := ⟨c, 1, none⟩) hs]; exact h.f1, by rw [hb.frozen (p := ⟨c, 2, none⟩) hs]; exact h.f2, fun j hj => ?_⟩
  · rw [hb.cell (p := ⟨c, 1, none⟩) hs]; exact h.c1
  · rw [hb.cell (p := ⟨c, 2, none⟩) hs]; exact h.c2
  · obtain ⟨b, off, x, ha, hbc, hx, x0, x1⟩ := h.bytes j hj
    exact ⟨b, off, x, ha, hbc, by rw [hb.cell (p := ⟨b, off + j, none⟩) (by show b < B; omega)]; exact hx, x0, x1⟩
theorem Cur.below {c : Nat} {a : Option Addr} {len cap : Nat} {w w' : World} (h : Cur c a len cap w) (hb : Below w.heap.size w w') : Cur c a len cap w' :=
  h.kept hb (cell_size (p := ⟨c, 0, none⟩) h.c0)
theorem Only.behind {c : Nat} {w w1 w2 : World} (h : Only c w w1) (k : Below w.heap.size w1 w2) : Only c w w2 :=
  ⟨k.os.trans h.os, k.tape.trans h.tape, k.output.trans h.output, Nat.le_trans h.size k.size, fun i hi hc => (k.block i hi).trans (h.block i hi hc)⟩

/-- Bytes that can be read, in blocks that are there. -/
structure Src (a : Option Addr) (len : Nat) (w : World) : Prop where
  few : len ≤ 1048576
  bytes : ∀ j, j < len → ∃ (b off : Nat) (x : Int), a = some ⟨b, off, none⟩ ∧ b < w.heap.size ∧ w.cell? ⟨b, off + j, none⟩ = some (.int .u8 x) ∧ 0 ≤ x ∧ x ≤ 255

theorem Src.below {a : Option Addr} {len : Nat} {w w' : World} (h : Src a len w) (hb : Below w.heap.size w w') : Src a len w' := by
  refine ⟨h.few, fun j hj => ?_⟩
  obtain ⟨b, off, x, ha, hs, hx, x0, x1⟩ := h.bytes j hj
  exact ⟨b, off, x, ha, Nat.lt_of_lt_of_le hs hb.size, by rw [hb.cell (p := ⟨b, off + j, none⟩) hs]; exact hx, x0, x1⟩

end Go.Proofs.YtoaifgblbfdncabGreatDoor
