/-
  The library's contract of a builder's WriteString laid at this translation: one application.
  A builder stays what it is where only new blocks are made; no program is spoken of here.
  The program's state of a digest: its bytes, and back.
  The program's new hasher.
  The program's hashers: whether one is right.
  Plain mathematics of words turned by shifts, and of words mixed bit for bit; no program is spoken of here.
-/
import Derived.Shelf.Strings.BuilderF
import Derived.Test.YtoaifgblbfdncaaGreatDoorProg
import Derived.Test.YtoaifgblbfdncaaGreatDoorJ25
import Derived.Test.YtoaifgblbfdncaaGreatDoorJ17
import Derived.Test.YtoaifgblbfdncaaGreatDoorRows
import Derived.Test.YtoaifgblbfdncaaGreatDoorJ01
import Derived.Deep.RegionHeld3
import Derived.BigQuiet
import Derived.Deep.QuietTactic
import Derived.Deep.LoopGhost
import Derived.Deep.DeepCutAuto
import Derived.Test.YtoaifgblbfdncaaGreatDoorJ12
namespace Go.Proofs.YtoaifgblbfdncaaGreatDoor
open Go.Shelf Go.RowKit

def laysW_ren : Go.Shelf.Ren := ⟨fun | 166 => 87 | 240 => 118 | 276 => 135 | n => n, fun | 0 => 0 | 3 => 3 | 4 => 4 | 9 => 9 | 20 => 20 | 37 => 22 | 70 => 121 | 72 => 123 | 75 => 125 | 164 => 169 | 5 => 5 | 80 => 97 | n => n, fun | n => n⟩
theorem laysW : Go.Proofs.Lays.n166 Tryz.prog laysW_ren := {
  mixed := by kernel_rfl
  f166 := Tryz.func87.trans (congrArg some (by kernel_rfl))
  f240 := Tryz.func118.trans (congrArg some (by kernel_rfl))
  f276 := Tryz.func135.trans (congrArg some (by kernel_rfl))
  t0 := Tryz.underlying0
  a0 := Tryz.isAgg0
  z0 := Tryz.sizeOf0
  v0 := Tryz.zeroValue0
  t3 := Tryz.underlying3
  a3 := Tryz.isAgg3
  z3 := Tryz.sizeOf3
  v3 := Tryz.zeroValue3
  t4 := Tryz.underlying4
  a4 := Tryz.isAgg4
  z4 := Tryz.sizeOf4
  v4 := Tryz.zeroValue4
  t9 := Tryz.underlying9
  a9 := Tryz.isAgg9
  z9 := Tryz.sizeOf9
  v9 := Tryz.zeroValue9
  t20 := Tryz.underlying20
  a20 := Tryz.isAgg20
  z20 := Tryz.sizeOf20
  v20 := Tryz.zeroValue20
  t37 := Tryz.underlying22
  a37 := Tryz.isAgg22
  z37 := Tryz.sizeOf22
  v37 := Tryz.zeroValue22
  t70 := Tryz.underlying121
  a70 := Tryz.isAgg121
  z70 := Tryz.sizeOf121
  v70 := Tryz.zeroValue121
  t72 := Tryz.underlying123
  a72 := Tryz.isAgg123
  z72 := Tryz.sizeOf123
  v72 := Tryz.zeroValue123
  t75 := Tryz.underlying125
  a75 := Tryz.isAgg125
  z75 := Tryz.sizeOf125
  v75 := Tryz.zeroValue125
  t164 := Tryz.underlying169
  a164 := Tryz.isAgg169
  z164 := Tryz.sizeOf169
  v164 := Tryz.zeroValue169 }
theorem laysW_extra : Builder.Extra Tryz.prog laysW_ren := {
  sizeBuilder := by kernel_rfl
  liesBuilder := by kernel_rfl
  t5 := Tryz.underlying5
  a5 := Tryz.isAgg5
  z5 := Tryz.sizeOf5
  v5 := Tryz.zeroValue5
  infoByte := by kernel_rfl
  cellsByte := by kernel_rfl
  sizeByte := by kernel_rfl
  neB5 := by decide }
theorem writeString_any (B b : Nat) (bs : List Value) (s : ByteArray) (w : World) (h : Lib.IsBuilderF 123 5 B b bs w) (hlen : bs.length + s.size ≤ 140737488355328) (hBw : B ≤ w.heap.size) :
    Calls Tryz.prog 87 #[.pointer (some ⟨b, 0, none⟩), .string s] w fun e w' => e = .returned (.tuple #[.int .i64 s.size, .nilIface]) ∧ (Lib.BuilderAtF 123 5 B b (.pointer (some ⟨b, 0, none⟩)) (bs ++ Lib.strCells s) w' ∧ Below B w w') :=
  Any.Builder_WriteString_f (P := Tryz.prog) (ρ := laysW_ren) laysW laysW_extra B b bs s w h hlen hBw

end Go.Proofs.YtoaifgblbfdncaaGreatDoor
namespace Go.Proofs.YtoaifgblbfdncaaGreatDoor
open Go.RowKit

/-- A builder stays what it is where only new blocks are made. -/
theorem builderAt_next {T e : TypeId} {B b : Nat} {p : Value} {bs : List Value} {w w' : World} (h : Lib.BuilderAtF T e B b p bs w) (hb : Below w.heap.size w w') : Lib.BuilderAtF T e B b p bs w' := by
  have hlt := h.lt
  obtain ⟨hB, v, hbk, hown, hne⟩ := h
  have hg : World.grownBy w w' none := ⟨hb.os, hb.tape, hb.output, hb.size, fun k hk _ => hb.block k hk⟩
  exact ⟨hB, v, by rw [hb.block b hlt]; exact hbk, hown.kept hg (by cases hv : v.ownBlock <;> simp), hne⟩
theorem builder_next {T e : TypeId} {B b : Nat} {bs : List Value} {w w' : World} (h : Lib.IsBuilderF T e B b bs w) (hb : Below w.heap.size w w') : Lib.IsBuilderF T e B b bs w' :=
  h.elim (fun k => .inl (builderAt_next k hb)) (fun k => .inr (builderAt_next k hb))
end Go.Proofs.YtoaifgblbfdncaaGreatDoor
namespace Go.Proofs.YtoaifgblbfdncaaGreatDoor
open Go.RowKit

theorem bytesOf_takeI (st : List Nat) (k : Nat) (h : k < st.length) : bytesOf (st.take (k + 1)) = bytesOf (st.take k) ++ four (st.getD k 0) := by
  rw [List.take_succ_eq_append_getElem h, bytesOf_append, List.getD_eq_getElem?_getD, List.getElem?_eq_getElem h]
  show _ ++ (four _ ++ []) = _
  rw [List.append_nil]
  rfl

set_option maxRecDepth 100000 in
set_option maxHeartbeats 1600000 in
theorem stateText_any (st : List Nat) (hst : Words st) (hst8 : st.length = 8) (w : World) :
    Calls Tryz.prog 59 #[stV st] w fun e w' => e = .returned (.string ⟨(bytesOf st).toArray⟩) ∧ Below w.heap.size w w' := by
  have A0 := Lib.hid ((ArrW.new w 92 st).alloc (.cells #[.pointer none, .slice none 0 0] 123))
  have j8 : (Tryz.prog.info? 92).map (·.size) = some st.length := by rw [hst8]; kernel_rfl
  have i8 := Lib.hid j8
  clear j8
  have B0 : Hid (Lib.IsBuilderF 123 5 w.heap.size (w.heap.size + 1) (Lib.byteCells (bytesOf (st.take 0))) ((w.alloc (.cells (wcells st).toArray 92)).alloc (.cells #[.pointer none, .slice none 0 0] 123))) := by
    refine .inl ⟨by omega, .slice none 0 0, ?_, World.ownsRowF_of (World.ownsRow_nil _ _ _ _), by simp [Value.ownBlock]⟩
    have h := heap_alloc_new (w.alloc (.cells (wcells st).toArray 92)) (.cells #[.pointer none, .slice none 0 0] 123)
    have e : (w.alloc (.cells (wcells st).toArray 92)).heap.size = w.heap.size + 1 := by simp
    rw [e] at h
    exact h
  have C0 := Lib.hid (((Below.refl w.heap.size w).alloc (Nat.le_refl _) (.cells (wcells st).toArray 92)).alloc (by simp) (.cells #[.pointer none, .slice none 0 0] 123))
  show Calls Tryz.prog 59 #[.agg (wcells st).toArray] w _
  go_enter Tryz.func59, Tryz.ntmps59
  go_wp2_with (refine wpList_loadA _ rfl (.tmp 1) 92 rfl w.heap.size st rfl Tryz.underlying92 i8.out A0.out ?_)
  go_loopw [7] (fun i wr => ∃ k : Nat, k ≤ 8 ∧ i = .int .i64 (k : Int) ∧ Lib.IsBuilderF 123 5 w.heap.size (w.heap.size + 1) (Lib.byteCells (bytesOf (st.take k))) wr ∧ Below w.heap.size w wr) (fun i _ => 8 - (intOf i).toNat)
  case atStart =>
    exact ⟨0, by omega, rfl, B0.out, C0.out⟩
  case round =>
    obtain ⟨k, hk, rfl, hv, hnx⟩ := hrel
    have HV := Lib.hid hv
    have HN := Lib.hid hnx
    clear hv hnx A0 B0 C0
    by_cases hlt : (k : Int) < 8
    · have hix := index8 st hst8 k (by omega) wr
      have hlx := hst.at k
      have HB := Lib.hid (bytesOf_takeI st k (by omega))
      obtain ⟨x, X1⟩ : ∃ x, Hid (x = st.getD k 0) := ⟨_, rfl⟩
      rw [← X1.out] at hix hlx HB
      have H1 := Lib.hid (wordText_any x hlx)
      go_wp2_with fail
      refine (H1.out _).mono ?_
      rintro e w1 ⟨rfl, hb1⟩
      have HV1 := Lib.hid (builder_next HV.out hb1)
      have HN1 := Lib.hid (HN.out.trans (hb1.mono HN.out.size))
      have hlen : (Lib.byteCells (bytesOf (st.take k))).length + (⟨(four x).toArray⟩ : ByteArray).size ≤ 140737488355328 := by
        have e1 : (Lib.byteCells (bytesOf (st.take k))).length = 4 * k := by rw [Lib.byteCells_length, bytesOf_length, List.length_take]; omega
        rw [e1]
        show 4 * k + 4 ≤ _
        omega
      have H2 := Lib.hid (writeString_any w.heap.size (w.heap.size + 1) _ ⟨(four x).toArray⟩ w1 HV1.out hlen HN1.out.size)
      clear hb1 hlen
      go_wp2_with fail
      refine (H2.out).mono ?_
      rintro e w2 ⟨rfl, hv2, hb2⟩
      have HV2 := Lib.hid hv2
      have HB2 := Lib.hid hb2
      clear hv2 hb2
      go_wp2_with fail
      go_roundw
      case rel =>
        refine ⟨k + 1, by omega, by go_num, ?_, HN1.out.trans HB2.out⟩
        rw [HB.out, Lib.byteCells_append]
        exact .inr HV2.out
      case measure => simp [intOf]; omega
    · have hk8 : k = 8 := by omega
      subst hk8
      have e8 : st.take 8 = st := List.take_of_length_le (by omega)
      rw [e8] at HV
      have hne : bytesOf st ≠ [] := by
        intro h
        have := bytesOf_length st
        rw [h, hst8] at this
        exact absurd this (by decide)
      have H3 := Lib.hid (Tryz.Builder_String_f w.heap.size (w.heap.size + 1) (bytesOf st) wr HV.out hne)
      go_wp2_with fail
      refine (H3.out).mono ?_
      rintro e w3 ⟨rfl, _, hb3⟩
      have HB3 := Lib.hid hb3
      clear hb3
      go_wp2_with fail
      go_ret
      exact ⟨rfl, HN.out.trans HB3.out⟩

set_option maxRecDepth 100000 in
set_option maxHeartbeats 400000 in
theorem firstState_any (w : World) :
    Calls Tryz.prog 56 #[] w fun e w' => e = .returned (stV firstState) ∧ Below w.heap.size w w' := by
  go_enter Tryz.func56, Tryz.ntmps56
  go_wp2_with fail
  refine bodyPost_ret (v := stV firstState) ?_ rfl ⟨rfl, ?_⟩
  · simp [results, Tryz.results56, go_sem]
    rfl
  · exact (Below.refl _ _).alloc (Nat.le_refl _) _

end Go.Proofs.YtoaifgblbfdncaaGreatDoor
namespace Go.Proofs.YtoaifgblbfdncaaGreatDoor
open Go.RowKit

/-- A variable of three cells in a block of its own. -/
structure VarT (r : Nat) (t : TypeId) (a b c : Value) (X : World) : Prop where
  row : X.heap[r]? = some (.cells #[a, b, c] t (0, 0))
theorem VarT.next {r : Nat} {t : TypeId} {a b c : Value} {X Y : World} (h : VarT r t a b c X) (hb : Below X.heap.size X Y) : VarT r t a b c Y := ⟨by rw [hb.block r (lt_of_block h.row)]; exact h.row⟩
theorem VarT.drew {r : Nat} {t : TypeId} {a b c : Value} {X : World} (h : VarT r t a b c X) : VarT r t a b c X.drew := ⟨h.row⟩
theorem VarT.only {r q : Nat} {t : TypeId} {a b c : Value} {X Y : World} (h : VarT r t a b c X) (ho : Only q X Y) (hr : r ≠ q) : VarT r t a b c Y := ⟨by rw [ho.block r (lt_of_block h.row) hr]; exact h.row⟩
theorem VarT.c0 {r : Nat} {t : TypeId} {a b c : Value} {X : World} (h : VarT r t a b c X) : X.cell? ⟨r, 0, none⟩ = some a := by rw [cell_of_row X r 0 _ t (0, 0) h.row]; rfl
theorem VarT.c1 {r : Nat} {t : TypeId} {a b c : Value} {X : World} (h : VarT r t a b c X) : X.cell? ⟨r, 1, none⟩ = some b := by rw [cell_of_row X r 1 _ t (0, 0) h.row]; rfl
theorem VarT.c2 {r : Nat} {t : TypeId} {a b c : Value} {X : World} (h : VarT r t a b c X) : X.cell? ⟨r, 2, none⟩ = some c := by rw [cell_of_row X r 2 _ t (0, 0) h.row]; rfl
theorem VarT.free {r : Nat} {t : TypeId} {a b c : Value} {X : World} (h : VarT r t a b c X) (j : Nat) : X.frozen? ⟨r, j, none⟩ = false := frozen_of_row X r j _ t h.row
theorem VarT.set3 {r : Nat} {t : TypeId} {a b c : Value} {X : World} (h : VarT r t a b c X) (a' b' c' : Value) : VarT r t a' b' c' (((X.setCell ⟨r, 0, none⟩ a').setCell ⟨r, 1, none⟩ b').setCell ⟨r, 2, none⟩ c') :=
  ⟨by have h1 := h.row; simp [World.setCell, Array.getElem?_modify, h1]⟩
theorem Only.set3 (w : World) (r : Nat) (v0 v1 v2 : Value) : Only r w (((w.setCell ⟨r, 0, none⟩ v0).setCell ⟨r, 1, none⟩ v1).setCell ⟨r, 2, none⟩ v2) :=
  ((Only.setCell 0 v0).trans (Only.setCell 1 v1)).trans (Only.setCell 2 v2)
theorem VarT.new (w : World) (t : TypeId) (a b c : Value) : VarT w.heap.size t a b c (w.alloc (.cells #[a, b, c] t)) := ⟨heap_alloc_new w _⟩

end Go.Proofs.YtoaifgblbfdncaaGreatDoor
namespace Go.Proofs.YtoaifgblbfdncaaGreatDoor
open Go.RowKit

end Go.Proofs.YtoaifgblbfdncaaGreatDoor
namespace Go.Proofs.YtoaifgblbfdncaaGreatDoor
open Go.RowKit

/-- A word turned right by k bits is shifted both ways. -/
theorem turn_or (x k : Nat) (hx : x < 4294967296) (h0 : 0 < k) (hk : k < 32) : (x * 2 ^ (32 - k) % 4294967296) ||| (x / 2 ^ k) = right x (2 ^ k) (2 ^ (32 - k)) := by
  have hp : 2 ^ k * 2 ^ (32 - k) = 4294967296 := by rw [← Nat.pow_add]; have : k + (32 - k) = 32 := by omega
                                                    rw [this]
  have e1 : x * 2 ^ (32 - k) % 4294967296 = x % 2 ^ k * 2 ^ (32 - k) := by
    rw [← hp, Nat.mul_mod_mul_right]
  have hlt : x / 2 ^ k < 2 ^ (32 - k) := Nat.div_lt_of_lt_mul (by rw [hp]; exact hx)
  rw [e1, or_add (x % 2 ^ k) (x / 2 ^ k) (32 - k) hlt]
  unfold right
  omega
theorem pow_half (k : Nat) (h0 : 0 < k) (hk : k < 32) : 2147483648 / 2 ^ k * 2 = 2 ^ (32 - k) := by
  have e : 2147483648 = 2 ^ (31 - k) * 2 ^ k := by rw [← Nat.pow_add]; have : 31 - k + k = 31 := by omega
                                                   rw [this]
  rw [e, Nat.mul_div_cancel _ (Nat.two_pow_pos k), ← Nat.pow_succ]
  congr 1
  omega
/-- A word turned right by k bits. -/
def turnR (x k : Nat) : Nat := right x (2 ^ k) (2 ^ (32 - k))
theorem turnR_lt (x k : Nat) (hx : x < 4294967296) (hk : k < 32) : turnR x k < 4294967296 := by
  refine right_lt x _ _ hx (Nat.two_pow_pos k) ?_
  rw [← Nat.pow_add]
  have : k + (32 - k) = 32 := by omega
  rw [this]
theorem sgm_turn (x a b c : Nat) (ha : 0 < a ∧ a < 32) (hb : 0 < b ∧ b < 32) (hc : 0 < c ∧ c < 32) : sgm x (2 ^ a) (2 ^ b) (2 ^ c) false = turnR x a ^^^ turnR x b ^^^ turnR x c := by
  unfold sgm turnR
  rw [pow_half a ha.1 ha.2, pow_half b hb.1 hb.2, pow_half c hc.1 hc.2]
  rfl
theorem sgm_shift (x a b c : Nat) (ha : 0 < a ∧ a < 32) (hb : 0 < b ∧ b < 32) : sgm x (2 ^ a) (2 ^ b) (2 ^ c) true = turnR x a ^^^ turnR x b ^^^ (x / 2 ^ c) := by
  unfold sgm turnR
  rw [pow_half a ha.1 ha.2, pow_half b hb.1 hb.2]
  rfl
theorem bs0_turn (x : Nat) : bs0 x = turnR x 2 ^^^ turnR x 13 ^^^ turnR x 22 := sgm_turn x 2 13 22 (by decide) (by decide) (by decide)
theorem bs1_turn (x : Nat) : bs1 x = turnR x 6 ^^^ turnR x 11 ^^^ turnR x 25 := sgm_turn x 6 11 25 (by decide) (by decide) (by decide)
theorem ss0_turn (x : Nat) : ss0 x = turnR x 7 ^^^ turnR x 18 ^^^ (x / 2 ^ 3) := sgm_shift x 7 18 3 (by decide) (by decide)
theorem ss1_turn (x : Nat) : ss1 x = turnR x 17 ^^^ turnR x 19 ^^^ (x / 2 ^ 10) := sgm_shift x 17 19 10 (by decide) (by decide)

theorem not_bit (e i : Nat) (he : e < 4294967296) : (4294967295 - e).testBit i = (decide (i < 32) && !e.testBit i) := by
  have h := Nat.testBit_two_pow_sub_succ (x := e) (n := 32) he i
  have e1 : 2 ^ 32 - (e + 1) = 4294967295 - e := by omega
  rw [e1] at h
  exact h
/-- Where e is 1 f, else g, by 'or'. -/
theorem ch_or (e f g : Nat) (he : e < 4294967296) : (e &&& f) ||| ((4294967295 - e) &&& g) = chO e f g := by
  unfold chO
  apply Nat.eq_of_testBit_eq
  intro i
  rw [Nat.testBit_or, Nat.testBit_xor, Nat.testBit_and, Nat.testBit_and, not_bit e i he]
  cases e.testBit i <;> cases f.testBit i <;> cases g.testBit i <;> simp
/-- What most are, by 'or'. -/
theorem maj_or (a b c : Nat) : (a &&& b) ||| (a &&& c) ||| (b &&& c) = majO a b c := by
  unfold majO
  apply Nat.eq_of_testBit_eq
  intro i
  rw [Nat.testBit_or, Nat.testBit_or, Nat.testBit_xor, Nat.testBit_xor, Nat.testBit_and, Nat.testBit_and, Nat.testBit_and]
  cases a.testBit i <;> cases b.testBit i <;> cases c.testBit i <;> rfl

end Go.Proofs.YtoaifgblbfdncaaGreatDoor
