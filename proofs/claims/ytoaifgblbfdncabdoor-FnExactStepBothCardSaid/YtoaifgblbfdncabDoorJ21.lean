/-
  The given words of digests: turned, read of a text.
-/
import Derived.Test.YtoaifgblbfdncabDoorRows
import Derived.Test.YtoaifgblbfdncabDoorJ01
import Derived.Test.YtoaifgblbfdncabDoorJ20
import Derived.Deep.RegionHeld3
import Derived.BigQuiet
import Derived.Deep.QuietTactic
import Derived.Deep.LoopGhost
import Derived.Deep.DeepCutAuto
namespace Go.Proofs.YtoaifgblbfdncabDoor
open Go.RowKit

set_option maxRecDepth 100000 in
set_option maxHeartbeats 400000 in
theorem specRight_any (x low high : Nat) (hx : x < 4294967296) (h0 : 0 < low) (hlh : low * high = 4294967296) (w : World) :
    Calls Tryd.prog 75 #[.int .u32 x, .int .u32 low, .int .u32 high] w fun e w' => e = .returned (.int .u32 (right x low high : Nat)) ∧ Below w.heap.size w w' := by
  have hl0 : ¬ (low : Int) = 0 := by omega
  go_enter Tryd.func75, Tryd.ntmps75
  go_wp2
  go_quiet (fail)
  go_wp2
  go_ret
  refine ⟨congrArg (fun z => Ending.returned (.int .u32 z)) ?_, below_drewN (Below.refl _ _) _⟩
  obtain ⟨p1, p2, p3⟩ := right_parts x low high hx h0 hlh
  have p4 := right_lt x low high hx h0 hlh
  have e1 : (x : Int) / (low : Int) = ((x / low : Nat) : Int) := by rw [Int.natCast_ediv]
  have e2 : (x : Int) % (low : Int) * (high : Int) = ((x % low * high : Nat) : Int) := by rw [Int.natCast_mul, Int.natCast_emod]
  rw [e1, e2]
  unfold right at p4 ⊢
  generalize x / low = q at *
  generalize x % low * high = r at *
  omega

/-- A place behind another one, as a number of its own. -/
theorem place (k j n : Nat) (h : k + j < n) (hn : n ≤ 1099511627776) : ∃ m : Nat, (k : Int) + (j : Int) = (m : Int) ∧ IntKind.i64.wrap (m : Int) = (m : Int) ∧ (m : Int) < (n : Int) ∧ Hid (m = k + j) :=
  ⟨k + j, by omega, by rw [IntKind.wrap_i64]; omega, by omega, rfl⟩

theorem byte_getD (s : ByteArray) (k : Nat) (h : k < s.size) : s.data.toList.getD k 0 = s[k] := by
  rw [List.getD_eq_getElem?_getD, List.getElem?_eq_getElem (by simpa using h)]
  rfl

theorem word_mul (a b c d : Nat) (ha : a < 256) (hb : b < 256) (hc : c < 256) (hd : d < 256) :
    (((a : Int) % 4294967296 * 16777216 + (b : Int) % 4294967296 * 65536 + (c : Int) % 4294967296 * 256) % 4294967296 + (d : Int) % 4294967296) % 4294967296 = ((a * 16777216 + b * 65536 + c * 256 + d : Nat) : Int) := by
  omega

set_option maxRecDepth 100000 in
set_option maxHeartbeats 800000 in
theorem specWord_any (s : ByteArray) (k : Nat) (hk : k + 3 < s.size) (hs : s.size ≤ 1099511627776) (w : World) :
    Calls Tryd.prog 64 #[.string s, .int .i64 k] w fun e w' => e = .returned (.int .u32 (wordAt s.data.toList k : Nat)) ∧ Below w.heap.size w w' := by
  have h0 : (k : Int) < (s.size : Int) := by omega
  obtain ⟨k1, a1, b1, c1, K1⟩ := place k 1 s.size (by omega) hs
  obtain ⟨k2, a2, b2, c2, K2⟩ := place k 2 s.size (by omega) hs
  obtain ⟨k3, a3, b3, c3, K3⟩ := place k 3 s.size (by omega) hs
  have a1' : (k : Int) + 1 = (k1 : Int) := a1
  have a2' : (k : Int) + 2 = (k2 : Int) := a2
  have a3' : (k : Int) + 3 = (k3 : Int) := a3
  clear a1 a2 a3
  go_enter Tryd.func64, Tryd.ntmps64
  go_wp2
  go_quiet (fail)
  go_wp2
  go_ret
  refine ⟨congrArg (fun z => Ending.returned (.int .u32 z)) ?_, below_drewN (Below.refl _ _) _⟩
  have q0 := byte_getD s k (by omega)
  have q1 := byte_getD s k1 (by omega)
  have q2 := byte_getD s k2 (by omega)
  have q3 := byte_getD s k3 (by omega)
  unfold wordAt fourNum
  rw [← K1.out, ← K2.out, ← K3.out, q0, q1, q2, q3]
  exact word_mul _ _ _ _ (UInt8.toNat_lt _) (UInt8.toNat_lt _) (UInt8.toNat_lt _) (UInt8.toNat_lt _)

set_option maxRecDepth 100000 in
set_option maxHeartbeats 800000 in
theorem specS_any (x a b c : Nat) (last : Bool) (hx : x < 4294967296) (ha : Halves a) (hb : Halves b) (hc : Halves c) (w : World) :
    Calls Tryd.prog 65 #[.int .u32 x, .int .u32 a, .int .u32 b, .int .u32 c, .bool last] w fun e w' => e = .returned (.int .u32 (sgm x a b c last : Nat)) ∧ Below w.heap.size w w' := by
  obtain ⟨qa, fa, ga, QA⟩ := ha.part
  obtain ⟨qb, fb, gb, QB⟩ := hb.part
  obtain ⟨qc, fc, gc, QC⟩ := hc.part
  have H1 := Lib.hid (specRight_any x a (qa * 2) hx ha.1 (by rw [QA.out]; exact ha.2.2))
  have H2 := Lib.hid (specRight_any x b (qb * 2) hx hb.1 (by rw [QB.out]; exact hb.2.2))
  have H3 := Lib.hid (specRight_any x c (qc * 2) hx hc.1 (by rw [QC.out]; exact hc.2.2))
  have e1 : sgm x a b c last = right x a (qa * 2) ^^^ right x b (qb * 2) ^^^ (if last then x / c else right x c (qc * 2)) := by rw [QA.out, QB.out, QC.out]; rfl
  have l1 := right_lt x a (qa * 2) hx ha.1 (by rw [QA.out]; exact ha.2.2)
  have l2 := right_lt x b (qb * 2) hx hb.1 (by rw [QB.out]; exact hb.2.2)
  have l3 := right_lt x c (qc * 2) hx hc.1 (by rw [QC.out]; exact hc.2.2)
  rw [e1]
  have a0 : ¬ (a : Int) = 0 := by have := ha.1; omega
  have b0 : ¬ (b : Int) = 0 := by have := hb.1; omega
  have c0 : ¬ (c : Int) = 0 := by have := hc.1; omega
  generalize right x a (qa * 2) = ra at *
  generalize right x b (qb * 2) = rb at *
  generalize right x c (qc * 2) = rc at *
  obtain ⟨xc, hxc, lxc, XC⟩ : ∃ q : Nat, (x : Int) / (c : Int) = (q : Int) ∧ q < 4294967296 ∧ Hid (q = x / c) := ⟨x / c, by rw [Int.natCast_ediv], Nat.lt_of_le_of_lt (Nat.div_le_self _ _) hx, rfl⟩
  rw [← XC.out]
  have lx1 : ra ^^^ rb < 4294967296 := Nat.xor_lt_two_pow (n := 32) l1 l2
  have x1 := xor_u32 ra rb l1 l2
  have x2 := xor_u32 (ra ^^^ rb) rc lx1 l3
  have x3 := xor_u32 (ra ^^^ rb) xc lx1 lxc
  have w1 : ((qa * 2 : Nat) : Int) = (qa : Int) * 2 := by omega
  have w2 : ((qb * 2 : Nat) : Int) = (qb : Int) * 2 := by omega
  have w3 : ((qc * 2 : Nat) : Int) = (qc : Int) * 2 := by omega
  rw [w1] at H1
  rw [w2] at H2
  rw [w3] at H3
  clear w1 w2 w3 e1 ha hb hc
  go_enter Tryd.func65, Tryd.ntmps65
  go_wp2_with fail
  refine (H1.out _).mono ?_
  rintro e w4 ⟨rfl, hb4⟩
  go_wp2_with fail
  refine (H2.out _).mono ?_
  rintro e w5 ⟨rfl, hb5⟩
  have HB5 := Lib.hid (hb4.trans (hb5.mono hb4.size))
  clear hb4 hb5
  cases last with
  | true =>
    go_wp2_with fail
    go_ret
    exact ⟨rfl, HB5.out⟩
  | false =>
    go_wp2_with fail
    refine (H3.out _).mono ?_
    rintro e w6 ⟨rfl, hb6⟩
    go_wp2_with fail
    go_ret
    exact ⟨rfl, HB5.out.trans (hb6.mono HB5.out.size)⟩

end Go.Proofs.YtoaifgblbfdncabDoor
