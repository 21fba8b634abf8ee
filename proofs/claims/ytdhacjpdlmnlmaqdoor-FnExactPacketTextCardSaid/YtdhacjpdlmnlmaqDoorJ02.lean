/-
  The program's VarText: the number's text and true in the range, nothing and false outside of it.
  The library's contract of a builder's WriteString laid at this translation: one application.
  A builder stays what it is where only new blocks are made; no program is spoken of here.
  Memory of which one block alone is written; a cursor over bytes that lies in such a block; no program is spoken of here.
-/
import Derived.Test.YtdhacjpdlmnlmaqDoorJ01
import Derived.Shelf.Strings.BuilderF
import Derived.Test.YtdhacjpdlmnlmaqDoorProg
import Derived.Below
import Derived.WalkKit
import Derived.WalkSmall
import Derived.Laws.BitsLemmas
namespace Go.Proofs.YtdhacjpdlmnlmaqDoor
open Go.RowKit

set_option maxRecDepth 100000 in
set_option maxHeartbeats 400000 in
theorem implVarText_yes (n : Nat) (hn : n ≤ 1000000000) (w : World) :
    Calls Tryd.prog 26 #[.int .i64 n] w fun e w' => e = .returned (.tuple #[.string ⟨(var n).toArray⟩, .bool true]) ∧ Below w.heap.size w w' := by
  obtain ⟨i0, hi, hz0, hz1, hz2⟩ := info_parts infoByte
  have h0 : ¬ (n : Int) < 0 := by omega
  have h1 : ¬ 1000000000 < (n : Int) := by omega
  go_enter Tryd.func26, Tryd.ntmps26
  go_wp2
  go_loopw [0, 4] (fun t v wr => ∃ (m : Nat) (xs : List UInt8), m ≤ n ∧ t = .int .i64 m ∧ xs ++ var m = var n ∧ OwnB wr w.heap.size 5 v xs ∧ Below w.heap.size w wr) (fun t _ _ => (intOf t).toNat)
  case atStart => exact ⟨n, [], Nat.le_refl _, rfl, rfl, OwnB.nil _ _ _, Below.refl _ _⟩
  case round =>
    obtain ⟨m, xs, hm, rfl, hx, hown, hnx⟩ := hrel
    have hsz := hnx.size
    have hlen : xs.length + (var m).length ≤ 1000000001 := by
      have h1 := var_length n
      rw [← hx, List.length_append] at h1
      omega
    have HX := Lib.hid hx
    clear hx
    by_cases hlt : 127 < m
    · obtain ⟨b, hb, hg⟩ : ∃ b : UInt8, ((m : Int) % 128 + 128) = b.toNat ∧ var m = b :: var (m / 128) := ⟨_, by rw [byte_of _ (by omega)]; omega, var_great m hlt⟩
      have HG := Lib.hid hg
      have HB := Lib.hid hb
      clear hg hb
      go_wp2_with (at_builtin; refine wpList_push _ rfl _ _ 37 rfl w.heap.size 5 i0 Tryd.underlying37 hi hz0 hz1 hz2 _ xs rfl hown b _ rfl HB.out (by omega) hsz ?_)
      intro v' w1 hown1 hnx1
      have hnx2 := hnx.trans hnx1
      clear hown hnx hnx1 hsz
      go_wp2
      go_roundw
      case rel => exact ⟨m / 128, xs ++ [b], by omega, by go_num, by rw [← HX.out, HG.out, List.append_assoc]; rfl, hown1, hnx2⟩
      case measure => simp [intOf]; omega
    · obtain ⟨b, hb, hs⟩ : ∃ b : UInt8, (m : Int) = b.toNat ∧ var m = [b] := ⟨_, by rw [byte_of _ (by omega)], var_small m (by omega)⟩
      have HS := Lib.hid hs
      have HB := Lib.hid hb
      clear hs hb
      go_wp2_with (at_builtin; refine wpList_push _ rfl _ _ 37 rfl w.heap.size 5 i0 Tryd.underlying37 hi hz0 hz1 hz2 _ xs rfl hown b _ rfl HB.out (by omega) hsz ?_)
      intro v' w1 hown1 hnx1
      have hcv := run_string_own (P := Tryd.prog) w1 37 9 5 Tryd.underlying37 Tryd.underlying5 Tryd.underlying9 _ hown1
      go_wp2
      go_ret2
      exact ⟨ret_str2 (by rw [← HX.out, HS.out]), hnx.trans hnx1⟩

set_option maxRecDepth 100000 in
set_option maxHeartbeats 400000 in
theorem implVarText_no (n : Int) (hn : n < 0 ∨ 1000000000 < n) (w : World) :
    Calls Tryd.prog 26 #[.int .i64 n] w fun e w' => e = .returned (.tuple #[.string ⟨#[]⟩, .bool false]) ∧ Below w.heap.size w w' := by
  rcases hn with h | h
  · go_enter Tryd.func26, Tryd.ntmps26
    go_wp2
    go_ret2
    exact ⟨rfl, Below.refl _ _⟩
  · have h0 : ¬ n < 0 := by omega
    go_enter Tryd.func26, Tryd.ntmps26
    go_wp2
    go_ret2
    exact ⟨rfl, Below.refl _ _⟩

end Go.Proofs.YtdhacjpdlmnlmaqDoor
namespace Go.Proofs.YtdhacjpdlmnlmaqDoor
open Go.Shelf Go.RowKit

def laysW_ren : Go.Shelf.Ren := ⟨fun | 166 => 27 | 240 => 32 | 276 => 34 | n => n, fun | 0 => 0 | 3 => 3 | 4 => 4 | 9 => 9 | 20 => 20 | 37 => 37 | 70 => 45 | 72 => 47 | 75 => 50 | 164 => 60 | 5 => 5 | 80 => 53 | n => n, fun | n => n⟩
theorem laysW : Go.Proofs.Lays.n166 Tryd.prog laysW_ren := {
  mixed := by kernel_rfl
  f166 := Tryd.func27.trans (congrArg some (by kernel_rfl))
  f240 := Tryd.func32.trans (congrArg some (by kernel_rfl))
  f276 := Tryd.func34.trans (congrArg some (by kernel_rfl))
  t0 := Tryd.underlying0
  a0 := Tryd.isAgg0
  z0 := Tryd.sizeOf0
  v0 := Tryd.zeroValue0
  t3 := Tryd.underlying3
  a3 := Tryd.isAgg3
  z3 := Tryd.sizeOf3
  v3 := Tryd.zeroValue3
  t4 := Tryd.underlying4
  a4 := Tryd.isAgg4
  z4 := Tryd.sizeOf4
  v4 := Tryd.zeroValue4
  t9 := Tryd.underlying9
  a9 := Tryd.isAgg9
  z9 := Tryd.sizeOf9
  v9 := Tryd.zeroValue9
  t20 := Tryd.underlying20
  a20 := Tryd.isAgg20
  z20 := Tryd.sizeOf20
  v20 := Tryd.zeroValue20
  t37 := Tryd.underlying37
  a37 := Tryd.isAgg37
  z37 := Tryd.sizeOf37
  v37 := Tryd.zeroValue37
  t70 := Tryd.underlying45
  a70 := Tryd.isAgg45
  z70 := Tryd.sizeOf45
  v70 := Tryd.zeroValue45
  t72 := Tryd.underlying47
  a72 := Tryd.isAgg47
  z72 := Tryd.sizeOf47
  v72 := Tryd.zeroValue47
  t75 := Tryd.underlying50
  a75 := Tryd.isAgg50
  z75 := Tryd.sizeOf50
  v75 := Tryd.zeroValue50
  t164 := Tryd.underlying60
  a164 := Tryd.isAgg60
  z164 := Tryd.sizeOf60
  v164 := Tryd.zeroValue60 }
theorem laysW_extra : Builder.Extra Tryd.prog laysW_ren := {
  sizeBuilder := by kernel_rfl
  liesBuilder := by kernel_rfl
  t5 := Tryd.underlying5
  a5 := Tryd.isAgg5
  z5 := Tryd.sizeOf5
  v5 := Tryd.zeroValue5
  infoByte := by kernel_rfl
  cellsByte := by kernel_rfl
  sizeByte := by kernel_rfl
  neB5 := by decide }
theorem writeString_any (B b : Nat) (bs : List Value) (s : ByteArray) (w : World) (h : Lib.IsBuilderF 47 5 B b bs w) (hlen : bs.length + s.size ≤ 140737488355328) (hBw : B ≤ w.heap.size) :
    Calls Tryd.prog 27 #[.pointer (some ⟨b, 0, none⟩), .string s] w fun e w' => e = .returned (.tuple #[.int .i64 s.size, .nilIface]) ∧ (Lib.BuilderAtF 47 5 B b (.pointer (some ⟨b, 0, none⟩)) (bs ++ Lib.strCells s) w' ∧ Below B w w') :=
  Any.Builder_WriteString_f (P := Tryd.prog) (ρ := laysW_ren) laysW laysW_extra B b bs s w h hlen hBw

end Go.Proofs.YtdhacjpdlmnlmaqDoor
namespace Go.Proofs.YtdhacjpdlmnlmaqDoor
open Go.RowKit

/-- A builder stays what it is where only new blocks are made. -/
theorem builderAt_next {T e : TypeId} {B b : Nat} {p : Value} {bs : List Value} {w w' : World} (h : Lib.BuilderAtF T e B b p bs w) (hb : Below w.heap.size w w') : Lib.BuilderAtF T e B b p bs w' := by
  have hlt := h.lt
  obtain ⟨hB, v, hbk, hown, hne⟩ := h
  have hg : World.grownBy w w' none := ⟨hb.os, hb.tape, hb.output, hb.size, fun k hk _ => hb.block k hk⟩
  exact ⟨hB, v, by rw [hb.block b hlt]; exact hbk, hown.kept hg (by cases hv : v.ownBlock <;> simp), hne⟩
theorem builder_next {T e : TypeId} {B b : Nat} {bs : List Value} {w w' : World} (h : Lib.IsBuilderF T e B b bs w) (hb : Below w.heap.size w w') : Lib.IsBuilderF T e B b bs w' :=
  h.elim (fun k => .inl (builderAt_next k hb)) (fun k => .inr (builderAt_next k hb))
theorem strCells_list (l : List UInt8) : Lib.strCells ⟨l.toArray⟩ = Lib.byteCells l := rfl

end Go.Proofs.YtdhacjpdlmnlmaqDoor
namespace Go.Proofs.YtdhacjpdlmnlmaqDoor
open Go.RowKit

/-- What an 'and' with a number that is not below 0 leaves lies in 0 .. that number. -/
theorem and_mask (x : Int) (m : Nat) (hm : m < 2 ^ 63) : 0 ≤ bits .and .i64 x (m : Int) ∧ bits .and .i64 x (m : Int) ≤ (m : Int) := by
  unfold bits
  simp only
  have hb : (BitVec.ofInt IntKind.i64.bits (m : Int)).toNat = m := by
    rw [BitVec.toNat_ofInt]
    show ((m : Int) % ((2 ^ 64 : Nat) : Int)).toNat = m
    omega
  have hle : (BitVec.ofInt IntKind.i64.bits x &&& BitVec.ofInt IntKind.i64.bits (m : Int)).toNat ≤ m := by
    rw [BitVec.toNat_and, hb]
    exact Nat.and_le_right
  generalize (BitVec.ofInt IntKind.i64.bits x &&& BitVec.ofInt IntKind.i64.bits (m : Int)).toNat = k at hle
  have hw : IntKind.i64.wrap (k : Int) = (k : Int) := by rw [IntKind.wrap_i64]; omega
  rw [hw]
  omega

/-- Block c alone may have been written; blocks may have been added. -/
structure Only (c : Nat) (w w' : World) : Prop where
  os : w'.os = w.os
  tape : w'.tape = w.tape
  output : w'.output = w.output
  size : w.heap.size ≤ w'.heap.size
  block : ∀ k, k < w.heap.size → k ≠ c → w'.heap[k]? = w.heap[k]?

theorem Only.refl (c : Nat) (w : World) : Only c w w := ⟨rfl, rfl, rfl, Nat.le_refl _, fun _ _ _ => rfl⟩
theorem Only.trans {c : Nat} {w w1 w2 : World} (h : Only c w w1) (k : Only c w1 w2) : Only c w w2 :=
  ⟨k.os.trans h.os, k.tape.trans h.tape, k.output.trans h.output, Nat.le_trans h.size k.size, fun i hi hc => (k.block i (Nat.lt_of_lt_of_le hi h.size) hc).trans (h.block i hi hc)⟩
theorem Only.of_below {c : Nat} {w w' : World} (h : Below w.heap.size w w') : Only c w w' := ⟨h.os, h.tape, h.output, h.size, fun k hk _ => h.block k hk⟩
theorem Only.below {c B : Nat} {w w' : World} (h : Only c w w') (hB : B ≤ c) (hs : B ≤ w.heap.size) : Below B w w' :=
  ⟨h.os, h.tape, h.output, h.size, fun k hk => h.block k (by omega) (by omega)⟩
theorem Only.cell {c : Nat} {w w' : World} (h : Only c w w') {p : Addr} (hp : p.block < w.heap.size) (hc : p.block ≠ c) : w'.cell? p = w.cell? p := World.cell?_of_block (w := w) (h.block p.block hp hc)
theorem Only.setCell {c : Nat} {w : World} (o : Nat) (v : Value) : Only c w (w.setCell ⟨c, o, none⟩ v) := by
  have h := Below.setCell (B := 0) (Below.refl 0 w) (p := ⟨c, o, none⟩) (Nat.zero_le _) v
  exact ⟨h.os, h.tape, h.output, h.size, fun k _ hc => Below.heap_setCell w _ v k hc⟩
theorem Only.drewN {c : Nat} {w w' : World} (h : Only c w w') (n : Nat) : Only c w (w'.drewN n) := by
  have hb := below_drewN (B := w'.heap.size) (Below.refl _ w') n
  exact h.trans (.of_below hb)

theorem set_off (w : World) (c o q : Nat) (v : Value) (h : o ≠ q) : (w.setCell ⟨c, o, none⟩ v).cell? ⟨c, q, none⟩ = w.cell? ⟨c, q, none⟩ :=
  World.cell?_setCell_other _ _ _ _ (fun e => h (congrArg Addr.off e))
theorem set_on (w : World) (c o : Nat) (u v : Value) (h : w.cell? ⟨c, o, none⟩ = some u) : (w.setCell ⟨c, o, none⟩ v).cell? ⟨c, o, none⟩ = some v :=
  World.cell?_setCell_same _ _ _ h

/-- A cursor in block c over 'len' bytes. -/
structure Cur (c : Nat) (a : Option Addr) (len cap : Nat) (w : World) : Prop where
  few : len ≤ 1048576
  c0 : w.cell? ⟨c, 0, none⟩ = some (.slice a len cap)
  c1 : ∃ i : Nat, i ≤ len ∧ w.cell? ⟨c, 1, none⟩ = some (.int .i64 i)
  c2 : ∃ h : Int, w.cell? ⟨c, 2, none⟩ = some (.int .i64 h)
  f1 : w.frozen? ⟨c, 1, none⟩ = false
  f2 : w.frozen? ⟨c, 2, none⟩ = false
  bytes : ∀ j, j < len → ∃ (b off : Nat) (x : Int), a = some ⟨b, off, none⟩ ∧ b < c ∧ w.cell? ⟨b, off + j, none⟩ = some (.int .u8 x) ∧ 0 ≤ x ∧ x ≤ 255

theorem cell_size {w : World} {p : Addr} {v : Value} (h : w.cell? p = some v) : p.block < w.heap.size := by
  rcases Nat.lt_or_ge p.block w.heap.size with h' | h'
  · exact h'
  · exfalso
    unfold World.cell? at h
    simp [Array.getElem?_eq_none h'] at h

/-- Behind a store into the cursor's two numbers it is one still. -/
theorem Cur.turn {c : Nat} {a : Option Addr} {len cap : Nat} {w w' : World} (h : Cur c a len cap w) (ho : Only c w w') (h0 : w'.cell? ⟨c, 0, none⟩ = some (.slice a len cap))
    (h1 : ∃ i : Nat, i ≤ len ∧ w'.cell? ⟨c, 1, none⟩ = some (.int .i64 i)) (h2 : ∃ h : Int, w'.cell? ⟨c, 2, none⟩ = some (.int .i64 h)) (f1 : w'.frozen? ⟨c, 1, none⟩ = false) (f2 : w'.frozen? ⟨c, 2, none⟩ = false) : Cur c a len cap w' := by
  refine ⟨h.few, h0, h1, h2, f1, f2, fun j hj => ?_⟩
  obtain ⟨b, off, x, ha, hb, hx, x0, x1⟩ := h.bytes j hj
  exact ⟨b, off, x, ha, hb, by rw [ho.cell (cell_size hx) (by show b ≠ c; omega)]; exact hx, x0, x1⟩

/-- What lies in blocks as they were reads as it did. -/
theorem Cur.kept {c : Nat} {a : Option Addr} {len cap : Nat} {B : Nat} {w w' : World} (h : Cur c a len cap w) (hb : Below B w w') (hs : c < B) : Cur c a len cap w' := by
  refine ⟨h.few, by rw [hb.cell (p := ⟨c, 0, none⟩) hs]; exact h.c0, ?_, ?_, by rw [hb.frozen (p := ⟨c, 1, none⟩) hs]; exact h.f1, by rw [hb.frozen (p := ⟨c, 2, none⟩) hs]; exact h.f2, fun j hj => ?_⟩
  · rw [hb.cell (p := ⟨c, 1, none⟩) hs]; exact h.c1
  · rw [hb.cell (p := ⟨c, 2, none⟩) hs]; exact h.c2
  · obtain ⟨b, off, x, ha, hbc, hx, x0, x1⟩ := h.bytes j hj
    exact ⟨b, off, x, ha, hbc, by rw [hb.cell (p := ⟨b, off + j, none⟩) (by show b < B; omega)]; exact hx, x0, x1⟩
theorem Cur.below {c : Nat} {a : Option Addr} {len cap : Nat} {w w' : World} (h : Cur c a len cap w) (hb : Below w.heap.size w w') : Cur c a len cap w' :=
  h.kept hb (cell_size (p := ⟨c, 0, none⟩) h.c0)
theorem Only.behind {c : Nat} {w w1 w2 : World} (h : Only c w w1) (k : Below w.heap.size w1 w2) : Only c w w2 :=
  ⟨k.os.trans h.os, k.tape.trans h.tape, k.output.trans h.output, Nat.le_trans h.size k.size, fun i hi hc => (k.block i hi).trans (h.block i hi hc)⟩

/-- Bytes that can be read, in blocks that are there. -/
structure Src (a : Option Addr) (len : Nat) (w : World) : Prop where
  few : len ≤ 1048576
  bytes : ∀ j, j < len → ∃ (b off : Nat) (x : Int), a = some ⟨b, off, none⟩ ∧ b < w.heap.size ∧ w.cell? ⟨b, off + j, none⟩ = some (.int .u8 x) ∧ 0 ≤ x ∧ x ≤ 255

theorem Src.below {a : Option Addr} {len : Nat} {w w' : World} (h : Src a len w) (hb : Below w.heap.size w w') : Src a len w' := by
  refine ⟨h.few, fun j hj => ?_⟩
  obtain ⟨b, off, x, ha, hs, hx, x0, x1⟩ := h.bytes j hj
  exact ⟨b, off, x, ha, Nat.lt_of_lt_of_le hs hb.size, by rw [hb.cell (p := ⟨b, off + j, none⟩) hs]; exact hx, x0, x1⟩

/-- How a draw of a number ends: it lies in 0 .. hi; the cursor is one still; no other block was written. -/
def DrewInt (hi : Int) (c : Nat) (a : Option Addr) (len cap : Nat) (w : World) (e : Ending) (w' : World) : Prop :=
  ∃ x : Int, 0 ≤ x ∧ x ≤ hi ∧ e = .returned (.int .i64 x) ∧ Cur c a len cap w' ∧ Only c w w'

end Go.Proofs.YtdhacjpdlmnlmaqDoor
