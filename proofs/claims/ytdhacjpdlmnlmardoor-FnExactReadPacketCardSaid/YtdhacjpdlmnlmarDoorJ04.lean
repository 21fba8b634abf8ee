/-
  Packets as bytes, and read back; no program is spoken of here.
  Memory of which one block alone is written; a cursor over bytes that lies in such a block; no program is spoken of here.
-/
import Derived.Test.YtdhacjpdlmnlmarDoorJ03
import Derived.Below
import Derived.WalkKit
import Derived.WalkSmall
import Derived.Laws.BitsLemmas
namespace Go.Proofs.YtdhacjpdlmnlmarDoor

/-- The number that bytes begin with, and the rest. -/
def readV (t : List UInt8) : Option (Nat × List UInt8) :=
  match low 5 t with
  | none => none
  | some k => if val (t.take (k + 1)) ≤ 1000000000 ∧ (k = 0 ∨ (t.getD k 0).toNat ≠ 0) then some (val (t.take (k + 1)), t.drop (k + 1)) else none
theorem readV_var (n : Nat) (h : n ≤ 1000000000) (r : List UInt8) : readV (var n ++ r) = some (n, r) := by
  obtain ⟨k, h1, h2, h3, h4⟩ := var_read n h r
  unfold readV
  rw [h1]
  simp only []
  rw [h3, if_pos ⟨h, h4⟩, h2, List.drop_left']
  rfl
theorem readV_some {t : List UInt8} {n : Nat} {r : List UInt8} (h : readV t = some (n, r)) : n ≤ 1000000000 ∧ t = var n ++ r := by
  unfold readV at h
  cases hk : low 5 t with
  | none => rw [hk] at h; cases h
  | some k =>
    rw [hk] at h
    simp only [] at h
    split at h
    · next hc =>
      simp only [Option.some.injEq, Prod.mk.injEq] at h
      obtain ⟨rfl, rfl⟩ := h
      refine ⟨hc.1, ?_⟩
      rw [(short_iff 5 t k hk).2 hc.2, List.take_append_drop]
    · cases h
/-- Several numbers, one behind another. -/
def readVs : Nat → List UInt8 → Option (List Nat × List UInt8)
  | 0, t => some ([], t)
  | n + 1, t => match readV t with
    | none => none
    | some (x, r) => match readVs n r with
      | none => none
      | some (xs, q) => some (x :: xs, q)
theorem readVs_of : ∀ (xs : List Nat) (r : List UInt8), (∀ x ∈ xs, x ≤ 1000000000) → readVs xs.length (xs.flatMap var ++ r) = some (xs, r)
  | [], r, _ => rfl
  | x :: xs, r, h => by
    have h1 := readV_var x (h x (by simp)) (xs.flatMap var ++ r)
    have h2 := readVs_of xs r (fun y hy => h y (by simp [hy]))
    show (match readV ((var x ++ xs.flatMap var) ++ r) with | none => none | some (x, r) => match readVs xs.length r with | none => none | some (xs, q) => some (x :: xs, q)) = _
    rw [List.append_assoc, h1]
    simp only []
    rw [h2]
theorem readVs_some : ∀ (n : Nat) (t : List UInt8) (xs : List Nat) (r : List UInt8), readVs n t = some (xs, r) → xs.length = n ∧ t = xs.flatMap var ++ r ∧ ∀ x ∈ xs, x ≤ 1000000000
  | 0, t, xs, r, h => by
    simp only [readVs, Option.some.injEq, Prod.mk.injEq] at h
    obtain ⟨rfl, rfl⟩ := h
    exact ⟨rfl, rfl, by simp⟩
  | n + 1, t, xs, r, h => by
    unfold readVs at h
    cases hv : readV t with
    | none => rw [hv] at h; cases h
    | some q =>
      obtain ⟨x, r1⟩ := q
      rw [hv] at h
      simp only [] at h
      cases hw : readVs n r1 with
      | none => rw [hw] at h; cases h
      | some q2 =>
        obtain ⟨ys, r2⟩ := q2
        rw [hw] at h
        simp only [Option.some.injEq, Prod.mk.injEq] at h
        obtain ⟨rfl, rfl⟩ := h
        obtain ⟨k1, k2⟩ := readV_some hv
        obtain ⟨m1, m2, m3⟩ := readVs_some n r1 ys r2 hw
        refine ⟨by simp [m1], ?_, fun y hy => ?_⟩
        · rw [k2, m2, List.flatMap_cons, List.append_assoc]
        · rcases List.mem_cons.1 hy with rfl | hy
          · exact k1
          · exact m3 y hy

/-- A packet in plain words: Op, Key, From, To, Num, Acks, Body. -/
structure Pk where
  op : Nat
  key : Nat
  src : Nat
  dst : Nat
  num : Nat
  acks : List Nat
  body : List UInt8
/-- The bytes of a packet ahead of its sum. -/
def pkB (p : Pk) : List UInt8 := UInt8.ofNat (8 * p.op + p.key) :: UInt8.ofNat p.src :: UInt8.ofNat p.dst :: (var p.num ++ (var p.acks.length ++ (p.acks.flatMap var ++ p.body)))
/-- A packet whose fields have room in their bytes. -/
structure PkFits (p : Pk) : Prop where
  op : p.op ≤ 31
  key : p.key ≤ 7
  src : p.src ≤ 255
  dst : p.dst ≤ 255
  num : p.num ≤ 1000000000
  many : p.acks.length ≤ 1000000000
  acks : ∀ x ∈ p.acks, x ≤ 1000000000
/-- What bytes say, as a packet. -/
def readPk (t : List UInt8) : Option Pk :=
  match t with
  | a :: b :: c :: r => match readV r with
    | none => none
    | some (n, r1) => match readV r1 with
      | none => none
      | some (m, r2) => match readVs m r2 with
        | none => none
        | some (xs, body) => some ⟨a.toNat / 8, a.toNat % 8, b.toNat, c.toNat, n, xs, body⟩
  | _ => none
theorem readPk_of (p : Pk) (h : PkFits p) : readPk (pkB p) = some p := by
  have h1 := readV_var p.num h.num (var p.acks.length ++ (p.acks.flatMap var ++ p.body))
  have h2 := readV_var p.acks.length h.many (p.acks.flatMap var ++ p.body)
  have h3 := readVs_of p.acks p.body h.acks
  have hop := h.op
  have hke := h.key
  have hs := h.src
  have hd := h.dst
  unfold readPk pkB
  simp only []
  rw [h1]
  simp only []
  rw [h2]
  simp only []
  rw [h3]
  have e1 : (UInt8.ofNat (8 * p.op + p.key)).toNat = 8 * p.op + p.key := by rw [UInt8.toNat_ofNat']; omega
  have e2 : (UInt8.ofNat p.src).toNat = p.src := by rw [UInt8.toNat_ofNat']; omega
  have e3 : (UInt8.ofNat p.dst).toNat = p.dst := by rw [UInt8.toNat_ofNat']; omega
  simp only [e1, e2, e3]
  have e4 : (8 * p.op + p.key) / 8 = p.op := by omega
  have e5 : (8 * p.op + p.key) % 8 = p.key := by omega
  rw [e4, e5]
theorem readPk_some {t : List UInt8} {p : Pk} (h : readPk t = some p) : t = pkB p ∧ PkFits p := by
  unfold readPk at h
  match t, h with
  | a :: b :: c :: r, h =>
    simp only [] at h
    cases h1 : readV r with
    | none => rw [h1] at h; cases h
    | some q1 =>
      obtain ⟨n, r1⟩ := q1
      rw [h1] at h
      simp only [] at h
      cases h2 : readV r1 with
      | none => rw [h2] at h; cases h
      | some q2 =>
        obtain ⟨m, r2⟩ := q2
        rw [h2] at h
        simp only [] at h
        cases h3 : readVs m r2 with
        | none => rw [h3] at h; cases h
        | some q3 =>
          obtain ⟨xs, body⟩ := q3
          rw [h3] at h
          simp only [Option.some.injEq] at h
          subst h
          obtain ⟨k1, k2⟩ := readV_some h1
          obtain ⟨k3, k4⟩ := readV_some h2
          obtain ⟨k5, k6, k7⟩ := readVs_some m r2 xs body h3
          have ha := a.toNat_lt
          have hb := b.toNat_lt
          have hc := c.toNat_lt
          refine ⟨?_, ⟨by show a.toNat / 8 ≤ 31; omega, by show a.toNat % 8 ≤ 7; omega, by show b.toNat ≤ 255; omega, by show c.toNat ≤ 255; omega, k1, by show xs.length ≤ _; omega, k7⟩⟩
          unfold pkB
          simp only []
          have e1 : 8 * (a.toNat / 8) + a.toNat % 8 = a.toNat := by omega
          rw [e1, ofNat_self, ofNat_self, ofNat_self, k2, k4, k6, k5]
/-- Two packets have the same bytes only where they are the same. -/
theorem pkB_inj {p q : Pk} (hp : PkFits p) (hq : PkFits q) (h : pkB p = pkB q) : p = q := by
  have h1 := readPk_of p hp
  rw [h, readPk_of q hq] at h1
  exact (Option.some.inj h1).symm

end Go.Proofs.YtdhacjpdlmnlmarDoor
namespace Go.Proofs.YtdhacjpdlmnlmarDoor
open Go.RowKit

/-- What an 'and' with a number that is not below 0 leaves lies in 0 .. that number. -/
theorem and_mask (x : Int) (m : Nat) (hm : m < 2 ^ 63) : 0 ≤ bits .and .i64 x (m : Int) ∧ bits .and .i64 x (m : Int) ≤ (m : Int) := by
  unfold bits
  simp only
  have hb : (BitVec.ofInt IntKind.i64.bits (m : Int)).toNat = m := by
    rw [BitVec.toNat_ofInt]
    show ((m : Int) % ((2 ^ 64 : Nat) : Int)).toNat = m
    omega
  have hle : (BitVec.ofInt IntKind.i64.bits x &&& BitVec.ofInt IntKind.i64.bits (m : Int)).toNat ≤ m := by
    rw [BitVec.toNat_and, hb]
    exact Nat.and_le_right
  generalize (BitVec.ofInt IntKind.i64.bits x &&& BitVec.ofInt IntKind.i64.bits (m : Int)).toNat = k at hle
  have hw : IntKind.i64.wrap (k : Int) = (k : Int) := by rw [IntKind.wrap_i64]; omega
  rw [hw]
  omega

/-- Block c alone may have been written; blocks may have been added. -/
structure Only (c : Nat) (w w' : World) : Prop where
  os : w'.os = w.os
  tape : w'.tape = w.tape
  output : w'.output = w.output
  size : w.heap.size ≤ w'.heap.size
  block : ∀ k, k < w.heap.size → k ≠ c → w'.heap[k]? = w.heap[k]?

theorem Only.refl (c : Nat) (w : World) : Only c w w := ⟨rfl, rfl, rfl, Nat.le_refl _, fun _ _ _ => rfl⟩
theorem Only.trans {c : Nat} {w w1 w2 : World} (h : Only c w w1) (k : Only c w1 w2) : Only c w w2 :=
  ⟨k.os.trans h.os, k.tape.trans h.tape, k.output.trans h.output, Nat.le_trans h.size k.size, fun i hi hc => (k.block i (Nat.lt_of_lt_of_le hi h.size) hc).trans (h.block i hi hc)⟩
theorem Only.of_below {c : Nat} {w w' : World} (h : Below w.heap.size w w') : Only c w w' := ⟨h.os, h.tape, h.output, h.size, fun k hk _ => h.block k hk⟩
theorem Only.below {c B : Nat} {w w' : World} (h : Only c w w') (hB : B ≤ c) (hs : B ≤ w.heap.size) : Below B w w' :=
  ⟨h.os, h.tape, h.output, h.size, fun k hk => h.block k (by omega) (by omega)⟩
theorem Only.cell {c : Nat} {w w' : World} (h : Only c w w') {p : Addr} (hp : p.block < w.heap.size) (hc : p.block ≠ c) : w'.cell? p = w.cell? p := World.cell?_of_block (w := w) (h.block p.block hp hc)
theorem Only.setCell {c : Nat} {w : World} (o : Nat) (v : Value) : Only c w (w.setCell ⟨c, o, none⟩ v) := by
  have h := Below.setCell (B := 0) (Below.refl 0 w) (p := ⟨c, o, none⟩) (Nat.zero_le _) v
  exact ⟨h.os, h.tape, h.output, h.size, fun k _ hc => Below.heap_setCell w _ v k hc⟩
theorem Only.drewN {c : Nat} {w w' : World} (h : Only c w w') (n : Nat) : Only c w (w'.drewN n) := by
  have hb := below_drewN (B := w'.heap.size) (Below.refl _ w') n
  exact h.trans (.of_below hb)

theorem set_off (w : World) (c o q : Nat) (v : Value) (h : o ≠ q) : (w.setCell ⟨c, o, none⟩ v).cell? ⟨c, q, none⟩ = w.cell? ⟨c, q, none⟩ :=
  World.cell?_setCell_other _ _ _ _ (fun e => h (congrArg Addr.off e))
theorem set_on (w : World) (c o : Nat) (u v : Value) (h : w.cell? ⟨c, o, none⟩ = some u) : (w.setCell ⟨c, o, none⟩ v).cell? ⟨c, o, none⟩ = some v :=
  World.cell?_setCell_same _ _ _ h

/-- A cursor in block c over 'len' bytes. -/
structure Cur (c : Nat) (a : Option Addr) (len cap : Nat) (w : World) : Prop where
  few : len ≤ 1048576
  c0 : w.cell? ⟨c, 0, none⟩ = some (.slice a len cap)
  c1 : ∃ i : Nat, i ≤ len ∧ w.cell? ⟨c, 1, none⟩ = some (.int .i64 i)
  c2 : ∃ h : Int, w.cell? ⟨c, 2, none⟩ = some (.int .i64 h)
  f1 : w.frozen? ⟨c, 1, none⟩ = false
  f2 : w.frozen? ⟨c, 2, none⟩ = false
  bytes : ∀ j, j < len → ∃ (b off : Nat) (x : Int), a = some ⟨b, off, none⟩ ∧ b < c ∧ w.cell? ⟨b, off + j, none⟩ = some (.int .u8 x) ∧ 0 ≤ x ∧ x ≤ 255

theorem cell_size {w : World} {p : Addr} {v : Value} (h : w.cell? p = some v) : p.block < w.heap.size := by
  rcases Nat.lt_or_ge p.block w.heap.size with h' | h'
  · exact h'
  · exfalso
    unfold World.cell? at h
    simp [Array.getElem?_eq_none h'] at h

/-- Behind a store into the cursor's two numbers it is one still. -/
theorem Cur.turn {c : Nat} {a : Option Addr} {len cap : Nat} {w w' : World} (h : Cur c a len cap w) (ho : Only c w w') (h0 : w'.cell? ⟨c, 0, none⟩ = some (.slice a len cap))
    (h1 : ∃ i : Nat, i ≤ len ∧ w'.cell? ⟨c, 1, none⟩ = some (.int .i64 i)) (h2 : ∃ h : Int, w'.cell? ⟨c, 2, none⟩ = some (.int .i64 h)) (f1 : w'.frozen? ⟨c, 1, none⟩ = false) (f2 : w'.frozen? ⟨c, 2, none⟩ = false) : Cur c a len cap w' := by
  refine ⟨h.few, h0, h1, h2, f1, f2, fun j hj => ?_⟩
  obtain ⟨b, off, x, ha, hb, hx, x0, x1⟩ := h.bytes j hj
  exact ⟨b, off, x, ha, hb, by rw [ho.cell (cell_size hx) (by show b ≠ c; omega)]; exact hx, x0, x1⟩

/-- What lies in blocks as they were reads as it did. -/
theorem Cur.kept {c : Nat} {a : Option Addr} {len cap : Nat} {B : Nat} {w w' : World} (h : Cur c a len cap w) (hb : Below B w w') (hs : c < B) : Cur c a len cap w' := by
  refine ⟨h.few, by rw [hb.cell (p := ⟨c, 0, none⟩) hs]; exact h.c0, ?_, ?_, by rw [hb.frozen (p := ⟨c, 1, none⟩) hs]; exact h.f1, by rw [hb.frozen (p := ⟨c, 2, none⟩) hs]; exact h.f2, fun j hj => ?_⟩
  · rw [hb.cell (p := ⟨c, 1, none⟩) hs]; exact h.c1
  · rw [hb.cell (p := ⟨c, 2, none⟩) hs]; exact h.c2
  · obtain ⟨b, off, x, ha, hbc, hx, x0, x1⟩ := h.bytes j hj
    exact ⟨b, off, x, ha, hbc, by rw [hb.cell (p := ⟨b, off + j, none⟩) (by show b < B; omega)]; exact hx, x0, x1⟩
theorem Cur.below {c : Nat} {a : Option Addr} {len cap : Nat} {w w' : World} (h : Cur c a len cap w) (hb : Below w.heap.size w w') : Cur c a len cap w' :=
  h.kept hb (cell_size (p := ⟨c, 0, none⟩) h.c0)
theorem Only.behind {c : Nat} {w w1 w2 : World} (h : Only c w w1) (k : Below w.heap.size w1 w2) : Only c w w2 :=
  ⟨k.os.trans h.os, k.tape.trans h.tape, k.output.trans h.output, Nat.le_trans h.size k.size, fun i hi hc => (k.block i hi).trans (h.block i hi hc)⟩

/-- Bytes that can be read, in blocks that are there. -/
structure Src (a : Option Addr) (len : Nat) (w : World) : Prop where
  few : len ≤ 1048576
  bytes : ∀ j, j < len → ∃ (b off : Nat) (x : Int), a = some ⟨b, off, none⟩ ∧ b < w.heap.size ∧ w.cell? ⟨b, off + j, none⟩ = some (.int .u8 x) ∧ 0 ≤ x ∧ x ≤ 255

theorem Src.below {a : Option Addr} {len : Nat} {w w' : World} (h : Src a len w) (hb : Below w.heap.size w w') : Src a len w' := by
  refine ⟨h.few, fun j hj => ?_⟩
  obtain ⟨b, off, x, ha, hs, hx, x0, x1⟩ := h.bytes j hj
  exact ⟨b, off, x, ha, Nat.lt_of_lt_of_le hs hb.size, by rw [hb.cell (p := ⟨b, off + j, none⟩) hs]; exact hx, x0, x1⟩

/-- How a draw of a number ends: it lies in 0 .. hi; the cursor is one still; no other block was written. -/
def DrewInt (hi : Int) (c : Nat) (a : Option Addr) (len cap : Nat) (w : World) (e : Ending) (w' : World) : Prop :=
  ∃ x : Int, 0 ≤ x ∧ x ≤ hi ∧ e = .returned (.int .i64 x) ∧ Cur c a len cap w' ∧ Only c w w'

end Go.Proofs.YtdhacjpdlmnlmarDoor
