/-
  Memory of which one block alone is written; a cursor over bytes that lies in such a block; no program is spoken of here.
  A byte that is drawn: it lies in 0 .. 255, the cursor stays one, and no other block is written.
  A number below another one, and a choice, drawn.
  A cursor laid over bytes.
-/
import Derived.Below
import Derived.WalkKit
import Derived.WalkSmall
import Derived.Laws.BitsLemmas
import Derived.Test.YtmgdhlodifkemadDoorRows
import Derived.Test.YtmgdhlodifkemadDoorJ01
import Derived.Deep.QuietTactic
namespace Go.Proofs.YtmgdhlodifkemadDoor
open Go.RowKit

/-- What an 'and' with a number that is not below 0 leaves lies in 0 .. that number. -/
theorem and_mask (x : Int) (m : Nat) (hm : m < 2 ^ 63) : 0 ≤ bits .and .i64 x (m : Int) ∧ bits .and .i64 x (m : Int) ≤ (m : Int) := by
  unfold bits
  simp only
  have hb : (BitVec.ofInt IntKind.i64.bits (m : Int)).toNat = m := by
    rw [BitVec.toNat_ofInt]
    show ((m : Int) % ((2 ^ 64 : Nat) : Int)).toNat = m
    omega
  have hle : (BitVec.ofInt IntKind.i64.bits x &&& BitVec.ofInt IntKind.i64.bits (m : Int)).toNat ≤ m := by
    rw [BitVec.toNat_and, hb]
    exact Nat.and_le_right
  generalize (BitVec.ofInt IntKind.i64.bits x &&& BitVec.ofInt IntKind.i64.bits (m : Int)).toNat = k at hle
  have hw : IntKind.i64.wrap (k : Int) = (k : Int) := by rw [IntKind.wrap_i64]; omega
  rw [hw]
  omega

/-- Block c alone may have been written; blocks may have been added. -/
structure Only (c : Nat) (w w' : World) : Prop where
  os : w'.os = w.os
  tape : w'.tape = w.tape
  output : w'.output = w.output
  size : w.heap.size ≤ w'.heap.size
  block : ∀ k, k < w.heap.size → k ≠ c → w'.heap[k]? = w.heap[k]?

theorem Only.refl (c : Nat) (w : World) : Only c w w := ⟨rfl, rfl, rfl, Nat.le_refl _, fun _ _ _ => rfl⟩
theorem Only.trans {c : Nat} {w w1 w2 : World} (h : Only c w w1) (k : Only c w1 w2) : Only c w w2 :=
  ⟨k.os.trans h.os, k.tape.trans h.tape, k.output.trans h.output, Nat.le_trans h.size k.size, fun i hi hc => (k.block i (Nat.lt_of_lt_of_le hi h.size) hc).trans (h.block i hi hc)⟩
theorem Only.of_below {c : Nat} {w w' : World} (h : Below w.heap.size w w') : Only c w w' := ⟨h.os, h.tape, h.output, h.size, fun k hk _ => h.block k hk⟩
theorem Only.below {c B : Nat} {w w' : World} (h : Only c w w') (hB : B ≤ c) (hs : B ≤ w.heap.size) : Below B w w' :=
  ⟨h.os, h.tape, h.output, h.size, fun k hk => h.block k (by omega) (by omega)⟩
theorem Only.cell {c : Nat} {w w' : World} (h : Only c w w') {p : Addr} (hp : p.block < w.heap.size) (hc : p.block ≠ c) : w'.cell? p = w.cell? p := World.cell?_of_block (w := w) (h.block p.block hp hc)
theorem Only.setCell {c : Nat} {w : World} (o : Nat) (v : Value) : Only c w (w.setCell ⟨c, o, none⟩ v) := by
  have h := Below.setCell (B := 0) (Below.refl 0 w) (p := ⟨c, o, none⟩) (Nat.zero_le _) v
  exact ⟨h.os, h.tape, h.output, h.size, fun k _ hc => Below.heap_setCell w _ v k hc⟩
theorem Only.drewN {c : Nat} {w w' : World} (h : Only c w w') (n : Nat) : Only c w (w'.drewN n) := by
  have hb := below_drewN (B := w'.heap.size) (Below.refl _ w') n
  exact h.trans (.of_below hb)

theorem set_off (w : World) (c o q : Nat) (v : Value) (h : o ≠ q) : (w.setCell ⟨c, o, none⟩ v).cell? ⟨c, q, none⟩ = w.cell? ⟨c, q, none⟩ :=
  World.cell?_setCell_other _ _ _ _ (fun e => h (congrArg Addr.off e))
theorem set_on (w : World) (c o : Nat) (u v : Value) (h : w.cell? ⟨c, o, none⟩ = some u) : (w.setCell ⟨c, o, none⟩ v).cell? ⟨c, o, none⟩ = some v :=
  World.cell?_setCell_same _ _ _ h

/-- A cursor in block c over 'len' bytes. -/
structure Cur (c : Nat) (a : Option Addr) (len cap : Nat) (w : World) : Prop where
  few : len ≤ 1048576
  c0 : w.cell? ⟨c, 0, none⟩ = some (.slice a len cap)
  c1 : ∃ i : Nat, i ≤ len ∧ w.cell? ⟨c, 1, none⟩ = some (.int .i64 i)
  c2 : ∃ h : Int, w.cell? ⟨c, 2, none⟩ = some (.int .i64 h)
  f1 : w.frozen? ⟨c, 1, none⟩ = false
  f2 : w.frozen? ⟨c, 2, none⟩ = false
  bytes : ∀ j, j < len → ∃ (b off : Nat) (x : Int), a = some ⟨b, off, none⟩ ∧ b < c ∧ w.cell? ⟨b, off + j, none⟩ = some (.int .u8 x) ∧ 0 ≤ x ∧ x ≤ 255

theorem cell_size {w : World} {p : Addr} {v : Value} (h : w.cell? p = some v) : p.block < w.heap.size := by
  rcases Nat.lt_or_ge p.block w.heap.size with h' | h'
  · exact h'
  · exfalso
    unfold World.cell? at h
    simp [Array.getElem?_eq_none h'] at h

/-- Behind a store into the cursor's two numbers it is one still. -/
theorem Cur.turn {c : Nat} {a : Option Addr} {len cap : Nat} {w w' : World} (h : Cur c a len cap w) (ho : Only c w w') (h0 : w'.cell? ⟨c, 0, none⟩ = some (.slice a len cap))
    (h1 : ∃ i : Nat, i ≤ len ∧ w'.cell? ⟨c, 1, none⟩ = some (.int .i64 i)) (h2 : ∃ h : Int, w'.cell? ⟨c, 2, none⟩ = some (.int .i64 h)) (f1 : w'.frozen? ⟨c, 1, none⟩ = false) (f2 : w'.frozen? ⟨c, 2, none⟩ = false) : Cur c a len cap w' := by
  refine ⟨h.few, h0, h1, h2, f1, f2, fun j hj => ?_⟩
  obtain ⟨b, off, x, ha, hb, hx, x0, x1⟩ := h.bytes j hj
  exact ⟨b, off, x, ha, hb, by rw [ho.cell (cell_size hx) (by show b ≠ c; omega)]; exact hx, x0, x1⟩

/-- What lies in blocks as they were reads as it did. -/
theorem Cur.kept {c : Nat} {a : Option Addr} {len cap : Nat} {B : Nat} {w w' : World} (h : Cur c a len cap w) (hb : Below B w w') (hs : c < B) : Cur c a len cap w' := by
  refine ⟨h.few, by rw [hb.cell (p := ⟨c, 0, none⟩) hs]; exact h.c0, ?_, ?_, by rw [hb.frozen (p := ⟨c, 1, none⟩) hs]; exact h.f1, by rw [hb.frozen (p := ⟨c, 2, none⟩) hs]; exact h.f2, fun j hj => ?_⟩
  · rw [hb.cell (p := ⟨c, 1, none⟩) hs]; exact h.c1
  · rw [hb.cell (p := ⟨c, 2, none⟩) hs]; exact h.c2
  · obtain ⟨b, off, x, ha, hbc, hx, x0, x1⟩ := h.bytes j hj
    exact ⟨b, off, x, ha, hbc, by rw [hb.cell (p := ⟨b, off + j, none⟩) (by show b < B; omega)]; exact hx, x0, x1⟩
theorem Cur.below {c : Nat} {a : Option Addr} {len cap : Nat} {w w' : World} (h : Cur c a len cap w) (hb : Below w.heap.size w w') : Cur c a len cap w' :=
  h.kept hb (cell_size (p := ⟨c, 0, none⟩) h.c0)
theorem Only.behind {c : Nat} {w w1 w2 : World} (h : Only c w w1) (k : Below w.heap.size w1 w2) : Only c w w2 :=
  ⟨k.os.trans h.os, k.tape.trans h.tape, k.output.trans h.output, Nat.le_trans h.size k.size, fun i hi hc => (k.block i hi).trans (h.block i hi hc)⟩

/-- Bytes that can be read, in blocks that are there. -/
structure Src (a : Option Addr) (len : Nat) (w : World) : Prop where
  few : len ≤ 1048576
  bytes : ∀ j, j < len → ∃ (b off : Nat) (x : Int), a = some ⟨b, off, none⟩ ∧ b < w.heap.size ∧ w.cell? ⟨b, off + j, none⟩ = some (.int .u8 x) ∧ 0 ≤ x ∧ x ≤ 255

theorem Src.below {a : Option Addr} {len : Nat} {w w' : World} (h : Src a len w) (hb : Below w.heap.size w w') : Src a len w' := by
  refine ⟨h.few, fun j hj => ?_⟩
  obtain ⟨b, off, x, ha, hs, hx, x0, x1⟩ := h.bytes j hj
  exact ⟨b, off, x, ha, Nat.lt_of_lt_of_le hs hb.size, by rw [hb.cell (p := ⟨b, off + j, none⟩) hs]; exact hx, x0, x1⟩

/-- How a draw of a number ends: it lies in 0 .. hi; the cursor is one still; no other block was written. -/
def DrewInt (hi : Int) (c : Nat) (a : Option Addr) (len cap : Nat) (w : World) (e : Ending) (w' : World) : Prop :=
  ∃ x : Int, 0 ≤ x ∧ x ≤ hi ∧ e = .returned (.int .i64 x) ∧ Cur c a len cap w' ∧ Only c w w'

end Go.Proofs.YtmgdhlodifkemadDoor
namespace Go.Proofs.YtmgdhlodifkemadDoor
open Go.RowKit

set_option maxRecDepth 100000 in
theorem byte_out (c len cap i : Nat) (a : Option Addr) (h : Int) (w : World) (hi : ¬ i < len)
    (c0 : w.cell? ⟨c, 0, none⟩ = some (.slice a len cap)) (c1 : w.cell? ⟨c, 1, none⟩ = some (.int .i64 i)) (c2 : w.cell? ⟨c, 2, none⟩ = some (.int .i64 h))
    (f2 : w.frozen? ⟨c, 2, none⟩ = false) :
    Calls Tryd.prog 43 #[.pointer (some ⟨c, 0, none⟩)] w fun e w' => ∃ x h' : Int, ∃ n m : Nat, 0 ≤ x ∧ x ≤ 255 ∧ e = .returned (.int .i64 x) ∧ w' = ((w.setCell ⟨c, 2, none⟩ (.int .i64 h')).drewN n).drewN m := by
  go_enter Tryd.func43, Tryd.ntmps43
  go_wp2
  go_quiet (fail)
  go_wp2
  go_quiet (fail)
  go_wp2
  go_ret
  exact ⟨_, _, _, _, (and_mask _ 255 (by decide)).1, (and_mask _ 255 (by decide)).2, rfl, rfl⟩

set_option maxRecDepth 100000 in
theorem byte_in (c len cap i b off : Nat) (h z : Int) (w : World) (hi : i < len) (hlen : len ≤ 1048576) (hbc : b < c) (_ : 0 ≤ z) (_ : z ≤ 255)
    (c0 : w.cell? ⟨c, 0, none⟩ = some (.slice (some ⟨b, off, none⟩) len cap)) (c1 : w.cell? ⟨c, 1, none⟩ = some (.int .i64 i)) (c2 : w.cell? ⟨c, 2, none⟩ = some (.int .i64 h))
    (hz : w.cell? ⟨b, off + i, none⟩ = some (.int .u8 z)) (f1 : w.frozen? ⟨c, 1, none⟩ = false) (f2 : w.frozen? ⟨c, 2, none⟩ = false) :
    Calls Tryd.prog 43 #[.pointer (some ⟨c, 0, none⟩)] w fun e w' => ∃ x h' : Int, ∃ n : Nat, 0 ≤ x ∧ x ≤ 255 ∧ e = .returned (.int .i64 x) ∧ w' = ((w.setCell ⟨c, 2, none⟩ (.int .i64 h')).drewN n).setCell ⟨c, 1, none⟩ (.int .i64 ((i : Int) + 1)) := by
  have hne : b ≠ c := by omega
  go_enter Tryd.func43, Tryd.ntmps43
  go_wp2
  go_quiet (fail)
  go_wp2
  go_quiet (fail)
  go_wp2
  go_quiet (fail)
  go_wp2
  go_ret
  exact ⟨_, _, _, (and_mask _ 255 (by decide)).1, (and_mask _ 255 (by decide)).2, rfl, rfl⟩

theorem byte_any {c : Nat} {a : Option Addr} {len cap : Nat} (w : World) (H : Cur c a len cap w) :
    Calls Tryd.prog 43 #[.pointer (some ⟨c, 0, none⟩)] w (DrewInt 255 c a len cap w) := by
  obtain ⟨i, hi, c1⟩ := H.c1
  obtain ⟨h, c2⟩ := H.c2
  have c0 := H.c0
  have f1 := H.f1
  have f2 := H.f2
  rcases Nat.lt_or_ge i len with hlt | hge
  · obtain ⟨b, off, z, rfl, hbc, hz, hz0, hz1⟩ := H.bytes i hlt
    refine (byte_in c len cap i b off h z w hlt H.few hbc hz0 hz1 c0 c1 c2 hz f1 f2).mono ?_
    rintro e w' ⟨x, h', n, x0, x1, rfl, rfl⟩
    have ho : Only c w (((w.setCell ⟨c, 2, none⟩ (.int .i64 h')).drewN n).setCell ⟨c, 1, none⟩ (.int .i64 ((i : Int) + 1))) := ((Only.setCell 2 _).drewN n).trans (.setCell 1 _)
    refine ⟨x, x0, x1, rfl, H.turn ho ?_ ⟨i + 1, hlt, ?_⟩ ⟨h', ?_⟩ ?_ ?_, ho⟩
    · rw [set_off _ _ _ _ _ (by decide), World.cell?_drewN, set_off _ _ _ _ _ (by decide)]
      exact c0
    · exact set_on _ _ _ (.int .i64 i) _ (by rw [World.cell?_drewN, set_off _ _ _ _ _ (by decide)]; exact c1)
    · rw [set_off _ _ _ _ _ (by decide), World.cell?_drewN, set_on _ _ _ _ _ c2]
    · simp [f1]
    · simp [f2]
  · refine (byte_out c len cap i a h w (by omega) c0 c1 c2 f2).mono ?_
    rintro e w' ⟨x, h', n, m, x0, x1, rfl, rfl⟩
    have ho : Only c w (((w.setCell ⟨c, 2, none⟩ (.int .i64 h')).drewN n).drewN m) := ((Only.setCell 2 _).drewN n).drewN m
    refine ⟨x, x0, x1, rfl, H.turn ho ?_ ⟨i, hi, ?_⟩ ⟨h', ?_⟩ ?_ ?_, ho⟩
    · rw [World.cell?_drewN, World.cell?_drewN, set_off _ _ _ _ _ (by decide)]
      exact c0
    · rw [World.cell?_drewN, World.cell?_drewN, set_off _ _ _ _ _ (by decide)]
      exact c1
    · rw [World.cell?_drewN, World.cell?_drewN, set_on _ _ _ _ _ c2]
    · simp [f1]
    · simp [f2]

end Go.Proofs.YtmgdhlodifkemadDoor
namespace Go.Proofs.YtmgdhlodifkemadDoor
open Go.RowKit

set_option maxRecDepth 100000 in
set_option maxHeartbeats 400000 in
theorem below_few {c : Nat} {a : Option Addr} {len cap : Nat} (n : Int) (h0 : 0 < n) (h1 : n ≤ 256) (w : World) (H : Cur c a len cap w) :
    Calls Tryd.prog 44 #[.pointer (some ⟨c, 0, none⟩), .int .i64 n] w (DrewInt (n - 1) c a len cap w) := by
  have HC := Lib.hid H
  clear H
  go_enter Tryd.func44, Tryd.ntmps44
  go_wp2_with fail
  refine (byte_any _ HC.out).mono ?_
  rintro e w1 ⟨x, x0, x1, rfl, hc, ho⟩
  have HC1 := Lib.hid hc
  have HO := Lib.hid ho
  clear hc ho
  go_wp2
  go_ret
  exact ⟨_, Int.emod_nonneg _ (by omega), by have := Int.emod_lt_of_pos x h0; omega, rfl, HC1.out, HO.out⟩

set_option maxRecDepth 100000 in
set_option maxHeartbeats 400000 in
theorem below_many {c : Nat} {a : Option Addr} {len cap : Nat} (n : Int) (h0 : 256 < n) (h1 : n ≤ 9223372036854775807) (w : World) (H : Cur c a len cap w) :
    Calls Tryd.prog 44 #[.pointer (some ⟨c, 0, none⟩), .int .i64 n] w (DrewInt (n - 1) c a len cap w) := by
  have HC := Lib.hid H
  clear H
  go_enter Tryd.func44, Tryd.ntmps44
  go_wp2_with fail
  refine (byte_any _ HC.out).mono ?_
  rintro e w1 ⟨x, x0, x1, rfl, hc, ho⟩
  have HC1 := Lib.hid hc
  have HO1 := Lib.hid ho
  clear hc ho
  go_wp2_with fail
  refine (byte_any _ HC1.out).mono ?_
  rintro e w2 ⟨y, y0, y1, rfl, hc, ho⟩
  have HC2 := Lib.hid hc
  have HO2 := Lib.hid ho
  clear hc ho
  go_wp2_with fail
  refine (byte_any _ HC2.out).mono ?_
  rintro e w3 ⟨z, z0, z1, rfl, hc, ho⟩
  have HC3 := Lib.hid hc
  have HO3 := Lib.hid ho
  clear hc ho
  go_wp2_with fail
  refine (byte_any _ HC3.out).mono ?_
  rintro e w4 ⟨u, u0, u1, rfl, hc, ho⟩
  have HC4 := Lib.hid hc
  have HO4 := Lib.hid ho
  clear hc ho
  go_wp2
  go_ret
  refine ⟨_, ?_, ?_, rfl, HC4.out, ((HO1.out.trans HO2.out).trans HO3.out).trans HO4.out⟩
  · exact Int.emod_nonneg _ (by omega)
  · have := Int.emod_lt_of_pos (x * 16777216 + y * 65536 + z * 256 + u) (show 0 < n by omega)
    omega

theorem below_any {c : Nat} {a : Option Addr} {len cap : Nat} (n : Int) (h0 : 0 < n) (h1 : n ≤ 9223372036854775807) (w : World) (H : Cur c a len cap w) :
    Calls Tryd.prog 44 #[.pointer (some ⟨c, 0, none⟩), .int .i64 n] w (DrewInt (n - 1) c a len cap w) := by
  rcases Int.lt_or_le 256 n with h | h
  · exact below_many n h h1 w H
  · exact below_few n h0 h w H

set_option maxRecDepth 100000 in
theorem once_any {c : Nat} {a : Option Addr} {len cap : Nat} (n : Int) (h0 : 0 < n) (h1 : n ≤ 9223372036854775807) (w : World) (H : Cur c a len cap w) :
    Calls Tryd.prog 37 #[.pointer (some ⟨c, 0, none⟩), .int .i64 n] w fun e w' => ∃ b : Bool, e = .returned (.bool b) ∧ Cur c a len cap w' ∧ Only c w w' := by
  have HC := Lib.hid H
  clear H
  go_enter Tryd.func37, Tryd.ntmps37
  go_wp2_with fail
  refine (below_any n h0 h1 _ HC.out).mono ?_
  rintro e w1 ⟨x, -, -, rfl, hc, ho⟩
  have HC1 := Lib.hid hc
  have HO1 := Lib.hid ho
  clear hc ho
  go_wp2_with fail
  go_ret
  exact ⟨_, rfl, HC1.out, HO1.out⟩

end Go.Proofs.YtmgdhlodifkemadDoor
namespace Go.Proofs.YtmgdhlodifkemadDoor
open Go.RowKit

/-- How a cursor's making ends. -/
def DrewCur (a : Option Addr) (len cap : Nat) (w : World) (e : Ending) (w' : World) : Prop :=
  ∃ c : Nat, e = .returned (.pointer (some ⟨c, 0, none⟩)) ∧ w.heap.size ≤ c ∧ Cur c a len cap w' ∧ Below w.heap.size w w'

theorem drewCur_alloc (a : Option Addr) (len cap : Nat) (z : Int) (t : TypeId) (w : World) (H : Src a len w) :
    DrewCur a len cap w (.returned (.pointer (some ⟨w.heap.size, 0, none⟩))) (w.alloc (.cells #[.slice a len cap, .int .i64 0, .int .i64 z] t)) := by
  refine ⟨w.heap.size, rfl, Nat.le_refl _, ⟨H.few, by simp, ⟨0, Nat.zero_le _, by simp⟩, ⟨z, by simp⟩, by simp, by simp, fun j hj => ?_⟩, (Below.refl _ _).alloc (Nat.le_refl _) _⟩
  obtain ⟨b, off, x, ha, hs, hx, x0, x1⟩ := H.bytes j hj
  have hb := (Below.refl w.heap.size w).alloc (Nat.le_refl _) (.cells #[.slice a len cap, .int .i64 0, .int .i64 z] t)
  exact ⟨b, off, x, ha, hs, by rw [hb.cell (p := ⟨b, off + j, none⟩) hs]; exact hx, x0, x1⟩

set_option maxRecDepth 100000 in
set_option maxHeartbeats 800000 in
theorem new_any (a : Option Addr) (len cap : Nat) (w : World) (H : Src a len w) :
    Calls Tryd.prog 26 #[.slice a len cap] w (DrewCur a len cap w) := by
  have hlen := H.few
  have HS := Lib.hid H
  clear H
  go_enter Tryd.func26, Tryd.ntmps26
  go_wp2
  go_loopw [3, 4] (fun h i wr => ∃ k : Nat, ∃ z : Int, k ≤ len ∧ i = .int .i64 k ∧ h = .int .i64 z ∧ wr = w) (fun _ i _ => len - (intOf i).toNat)
  case atStart => exact ⟨0, _, Nat.zero_le _, rfl, rfl, rfl⟩
  case round =>
    obtain ⟨k, z, hk, rfl, rfl, rfl⟩ := hrel
    by_cases hlt : k < len
    · obtain ⟨b, off, x, rfl, hb, hx, x0, x1⟩ := HS.out.bytes k hlt
      have hlt2 : (k : Int) < (len : Int) := by omega
      by_cases h4 : (k : Int) < 4000
      · go_wp2
        go_roundw
        case rel => exact ⟨k + 1, _, by omega, by go_num, rfl, trivial⟩
        case measure => simp [intOf]; omega
      · go_wp2
        go_ret
        exact drewCur_alloc _ _ _ _ _ _ HS.out
    · go_wp2
      go_ret
      exact drewCur_alloc _ _ _ _ _ _ HS.out

end Go.Proofs.YtmgdhlodifkemadDoor
