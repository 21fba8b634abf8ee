/-
  The program's state of a digest: its bytes, and back.
  The program's new hasher.
  The program's hashers: whether one is right.
  Plain mathematics of words turned by shifts, and of words mixed bit for bit; no program is spoken of here.
  The program's words: turned, shifted, mixed, read of a text.
-/
import Derived.Test.YtoaifgblbfdncaaDoorJ15
import Derived.Test.YtoaifgblbfdncaaDoorJ10
import Derived.Test.YtoaifgblbfdncaaDoorRows
import Derived.Test.YtoaifgblbfdncaaDoorJ01
import Derived.Deep.RegionHeld3
import Derived.BigQuiet
import Derived.Deep.QuietTactic
import Derived.Deep.LoopGhost
import Derived.Deep.DeepCutAuto
import Derived.Test.YtoaifgblbfdncaaDoorJ08
namespace Go.Proofs.YtoaifgblbfdncaaDoor
open Go.RowKit

theorem bytesOf_takeI (st : List Nat) (k : Nat) (h : k < st.length) : bytesOf (st.take (k + 1)) = bytesOf (st.take k) ++ four (st.getD k 0) := by
  rw [List.take_succ_eq_append_getElem h, bytesOf_append, List.getD_eq_getElem?_getD, List.getElem?_eq_getElem h]
  show _ ++ (four _ ++ []) = _
  rw [List.append_nil]
  rfl

set_option maxRecDepth 100000 in
set_option maxHeartbeats 1600000 in
theorem stateText_any (st : List Nat) (hst : Words st) (hst8 : st.length = 8) (w : World) :
    Calls Tryd.prog 31 #[stV st] w fun e w' => e = .returned (.string ⟨(bytesOf st).toArray⟩) ∧ Below w.heap.size w w' := by
  have A0 := Lib.hid ((ArrW.new w 69 st).alloc (.cells #[.pointer none, .slice none 0 0] 97))
  have j8 : (Tryd.prog.info? 69).map (·.size) = some st.length := by rw [hst8]; kernel_rfl
  have i8 := Lib.hid j8
  clear j8
  have B0 : Hid (Lib.IsBuilderF 97 5 w.heap.size (w.heap.size + 1) (Lib.byteCells (bytesOf (st.take 0))) ((w.alloc (.cells (wcells st).toArray 69)).alloc (.cells #[.pointer none, .slice none 0 0] 97))) := by
    refine .inl ⟨by omega, .slice none 0 0, ?_, World.ownsRowF_of (World.ownsRow_nil _ _ _ _), by simp [Value.ownBlock]⟩
    have h := heap_alloc_new (w.alloc (.cells (wcells st).toArray 69)) (.cells #[.pointer none, .slice none 0 0] 97)
    have e : (w.alloc (.cells (wcells st).toArray 69)).heap.size = w.heap.size + 1 := by simp
    rw [e] at h
    exact h
  have C0 := Lib.hid (((Below.refl w.heap.size w).alloc (Nat.le_refl _) (.cells (wcells st).toArray 69)).alloc (by simp) (.cells #[.pointer none, .slice none 0 0] 97))
  show Calls Tryd.prog 31 #[.agg (wcells st).toArray] w _
  go_enter Tryd.func31, Tryd.ntmps31
  go_wp2_with (refine wpList_loadA _ rfl (.tmp 1) 69 rfl w.heap.size st rfl Tryd.underlying69 i8.out A0.out ?_)
  go_loopw [7] (fun i wr => ∃ k : Nat, k ≤ 8 ∧ i = .int .i64 (k : Int) ∧ Lib.IsBuilderF 97 5 w.heap.size (w.heap.size + 1) (Lib.byteCells (bytesOf (st.take k))) wr ∧ Below w.heap.size w wr) (fun i _ => 8 - (intOf i).toNat)
  case atStart =>
    exact ⟨0, by omega, rfl, B0.out, C0.out⟩
  case round =>
    obtain ⟨k, hk, rfl, hv, hnx⟩ := hrel
    have HV := Lib.hid hv
    have HN := Lib.hid hnx
    clear hv hnx A0 B0 C0
    by_cases hlt : (k : Int) < 8
    · have hix := index8 st hst8 k (by omega) wr
      have hlx := hst.at k
      have HB := Lib.hid (bytesOf_takeI st k (by omega))
      obtain ⟨x, X1⟩ : ∃ x, Hid (x = st.getD k 0) := ⟨_, rfl⟩
      rw [← X1.out] at hix hlx HB
      have H1 := Lib.hid (wordText_any x hlx)
      go_wp2_with fail
      refine (H1.out _).mono ?_
      rintro e w1 ⟨rfl, hb1⟩
      have HV1 := Lib.hid (builder_next HV.out hb1)
      have HN1 := Lib.hid (HN.out.trans (hb1.mono HN.out.size))
      have hlen : (Lib.byteCells (bytesOf (st.take k))).length + (⟨(four x).toArray⟩ : ByteArray).size ≤ 140737488355328 := by
        have e1 : (Lib.byteCells (bytesOf (st.take k))).length = 4 * k := by rw [Lib.byteCells_length, bytesOf_length, List.length_take]; omega
        rw [e1]
        show 4 * k + 4 ≤ _
        omega
      have H2 := Lib.hid (writeString_any w.heap.size (w.heap.size + 1) _ ⟨(four x).toArray⟩ w1 HV1.out hlen HN1.out.size)
      clear hb1 hlen
      go_wp2_with fail
      refine (H2.out).mono ?_
      rintro e w2 ⟨rfl, hv2, hb2⟩
      have HV2 := Lib.hid hv2
      have HB2 := Lib.hid hb2
      clear hv2 hb2
      go_wp2_with fail
      go_roundw
      case rel =>
        refine ⟨k + 1, by omega, by go_num, ?_, HN1.out.trans HB2.out⟩
        rw [HB.out, Lib.byteCells_append]
        exact .inr HV2.out
      case measure => simp [intOf]; omega
    · have hk8 : k = 8 := by omega
      subst hk8
      have e8 : st.take 8 = st := List.take_of_length_le (by omega)
      rw [e8] at HV
      have hne : bytesOf st ≠ [] := by
        intro h
        have := bytesOf_length st
        rw [h, hst8] at this
        exact absurd this (by decide)
      have H3 := Lib.hid (Tryd.Builder_String_f w.heap.size (w.heap.size + 1) (bytesOf st) wr HV.out hne)
      go_wp2_with fail
      refine (H3.out).mono ?_
      rintro e w3 ⟨rfl, _, hb3⟩
      have HB3 := Lib.hid hb3
      clear hb3
      go_wp2_with fail
      go_ret
      exact ⟨rfl, HN.out.trans HB3.out⟩

set_option maxRecDepth 100000 in
set_option maxHeartbeats 400000 in
theorem firstState_any (w : World) :
    Calls Tryd.prog 28 #[] w fun e w' => e = .returned (stV firstState) ∧ Below w.heap.size w w' := by
  go_enter Tryd.func28, Tryd.ntmps28
  go_wp2_with fail
  refine bodyPost_ret (v := stV firstState) ?_ rfl ⟨rfl, ?_⟩
  · simp [results, Tryd.results28, go_sem]
    rfl
  · exact (Below.refl _ _).alloc (Nat.le_refl _) _

end Go.Proofs.YtoaifgblbfdncaaDoor
namespace Go.Proofs.YtoaifgblbfdncaaDoor
open Go.RowKit

/-- A variable of three cells in a block of its own. -/
structure VarT (r : Nat) (t : TypeId) (a b c : Value) (X : World) : Prop where
  row : X.heap[r]? = some (.cells #[a, b, c] t (0, 0))
theorem VarT.next {r : Nat} {t : TypeId} {a b c : Value} {X Y : World} (h : VarT r t a b c X) (hb : Below X.heap.size X Y) : VarT r t a b c Y := ⟨by rw [hb.block r (lt_of_block h.row)]; exact h.row⟩
theorem VarT.drew {r : Nat} {t : TypeId} {a b c : Value} {X : World} (h : VarT r t a b c X) : VarT r t a b c X.drew := ⟨h.row⟩
theorem VarT.only {r q : Nat} {t : TypeId} {a b c : Value} {X Y : World} (h : VarT r t a b c X) (ho : Only q X Y) (hr : r ≠ q) : VarT r t a b c Y := ⟨by rw [ho.block r (lt_of_block h.row) hr]; exact h.row⟩
theorem VarT.c0 {r : Nat} {t : TypeId} {a b c : Value} {X : World} (h : VarT r t a b c X) : X.cell? ⟨r, 0, none⟩ = some a := by rw [cell_of_row X r 0 _ t (0, 0) h.row]; rfl
theorem VarT.c1 {r : Nat} {t : TypeId} {a b c : Value} {X : World} (h : VarT r t a b c X) : X.cell? ⟨r, 1, none⟩ = some b := by rw [cell_of_row X r 1 _ t (0, 0) h.row]; rfl
theorem VarT.c2 {r : Nat} {t : TypeId} {a b c : Value} {X : World} (h : VarT r t a b c X) : X.cell? ⟨r, 2, none⟩ = some c := by rw [cell_of_row X r 2 _ t (0, 0) h.row]; rfl
theorem VarT.free {r : Nat} {t : TypeId} {a b c : Value} {X : World} (h : VarT r t a b c X) (j : Nat) : X.frozen? ⟨r, j, none⟩ = false := frozen_of_row X r j _ t h.row
theorem VarT.set3 {r : Nat} {t : TypeId} {a b c : Value} {X : World} (h : VarT r t a b c X) (a' b' c' : Value) : VarT r t a' b' c' (((X.setCell ⟨r, 0, none⟩ a').setCell ⟨r, 1, none⟩ b').setCell ⟨r, 2, none⟩ c') :=
  ⟨by have h1 := h.row; simp [World.setCell, Array.getElem?_modify, h1]⟩
theorem Only.set3 (w : World) (r : Nat) (v0 v1 v2 : Value) : Only r w (((w.setCell ⟨r, 0, none⟩ v0).setCell ⟨r, 1, none⟩ v1).setCell ⟨r, 2, none⟩ v2) :=
  ((Only.setCell 0 v0).trans (Only.setCell 1 v1)).trans (Only.setCell 2 v2)
theorem VarT.new (w : World) (t : TypeId) (a b c : Value) : VarT w.heap.size t a b c (w.alloc (.cells #[a, b, c] t)) := ⟨heap_alloc_new w _⟩

end Go.Proofs.YtoaifgblbfdncaaDoor
namespace Go.Proofs.YtoaifgblbfdncaaDoor
open Go.RowKit

end Go.Proofs.YtoaifgblbfdncaaDoor
namespace Go.Proofs.YtoaifgblbfdncaaDoor
open Go.RowKit

/-- A word turned right by k bits is shifted both ways. -/
theorem turn_or (x k : Nat) (hx : x < 4294967296) (h0 : 0 < k) (hk : k < 32) : (x * 2 ^ (32 - k) % 4294967296) ||| (x / 2 ^ k) = right x (2 ^ k) (2 ^ (32 - k)) := by
  have hp : 2 ^ k * 2 ^ (32 - k) = 4294967296 := by rw [← Nat.pow_add]; have : k + (32 - k) = 32 := by omega
                                                    rw [this]
  have e1 : x * 2 ^ (32 - k) % 4294967296 = x % 2 ^ k * 2 ^ (32 - k) := by
    rw [← hp, Nat.mul_mod_mul_right]
  have hlt : x / 2 ^ k < 2 ^ (32 - k) := Nat.div_lt_of_lt_mul (by rw [hp]; exact hx)
  rw [e1, or_add (x % 2 ^ k) (x / 2 ^ k) (32 - k) hlt]
  unfold right
  omega
theorem pow_half (k : Nat) (h0 : 0 < k) (hk : k < 32) : 2147483648 / 2 ^ k * 2 = 2 ^ (32 - k) := by
  have e : 2147483648 = 2 ^ (31 - k) * 2 ^ k := by rw [← Nat.pow_add]; have : 31 - k + k = 31 := by omega
                                                   rw [this]
  rw [e, Nat.mul_div_cancel _ (Nat.two_pow_pos k), ← Nat.pow_succ]
  congr 1
  omega
/-- A word turned right by k bits. -/
def turnR (x k : Nat) : Nat := right x (2 ^ k) (2 ^ (32 - k))
theorem turnR_lt (x k : Nat) (hx : x < 4294967296) (hk : k < 32) : turnR x k < 4294967296 := by
  refine right_lt x _ _ hx (Nat.two_pow_pos k) ?_
  rw [← Nat.pow_add]
  have : k + (32 - k) = 32 := by omega
  rw [this]
theorem sgm_turn (x a b c : Nat) (ha : 0 < a ∧ a < 32) (hb : 0 < b ∧ b < 32) (hc : 0 < c ∧ c < 32) : sgm x (2 ^ a) (2 ^ b) (2 ^ c) false = turnR x a ^^^ turnR x b ^^^ turnR x c := by
  unfold sgm turnR
  rw [pow_half a ha.1 ha.2, pow_half b hb.1 hb.2, pow_half c hc.1 hc.2]
  rfl
theorem sgm_shift (x a b c : Nat) (ha : 0 < a ∧ a < 32) (hb : 0 < b ∧ b < 32) : sgm x (2 ^ a) (2 ^ b) (2 ^ c) true = turnR x a ^^^ turnR x b ^^^ (x / 2 ^ c) := by
  unfold sgm turnR
  rw [pow_half a ha.1 ha.2, pow_half b hb.1 hb.2]
  rfl
theorem bs0_turn (x : Nat) : bs0 x = turnR x 2 ^^^ turnR x 13 ^^^ turnR x 22 := sgm_turn x 2 13 22 (by decide) (by decide) (by decide)
theorem bs1_turn (x : Nat) : bs1 x = turnR x 6 ^^^ turnR x 11 ^^^ turnR x 25 := sgm_turn x 6 11 25 (by decide) (by decide) (by decide)
theorem ss0_turn (x : Nat) : ss0 x = turnR x 7 ^^^ turnR x 18 ^^^ (x / 2 ^ 3) := sgm_shift x 7 18 3 (by decide) (by decide)
theorem ss1_turn (x : Nat) : ss1 x = turnR x 17 ^^^ turnR x 19 ^^^ (x / 2 ^ 10) := sgm_shift x 17 19 10 (by decide) (by decide)

theorem not_bit (e i : Nat) (he : e < 4294967296) : (4294967295 - e).testBit i = (decide (i < 32) && !e.testBit i) := by
  have h := Nat.testBit_two_pow_sub_succ (x := e) (n := 32) he i
  have e1 : 2 ^ 32 - (e + 1) = 4294967295 - e := by omega
  rw [e1] at h
  exact h
/-- Where e is 1 f, else g, by 'or'. -/
theorem ch_or (e f g : Nat) (he : e < 4294967296) : (e &&& f) ||| ((4294967295 - e) &&& g) = chO e f g := by
  unfold chO
  apply Nat.eq_of_testBit_eq
  intro i
  rw [Nat.testBit_or, Nat.testBit_xor, Nat.testBit_and, Nat.testBit_and, not_bit e i he]
  cases e.testBit i <;> cases f.testBit i <;> cases g.testBit i <;> simp
/-- What most are, by 'or'. -/
theorem maj_or (a b c : Nat) : (a &&& b) ||| (a &&& c) ||| (b &&& c) = majO a b c := by
  unfold majO
  apply Nat.eq_of_testBit_eq
  intro i
  rw [Nat.testBit_or, Nat.testBit_or, Nat.testBit_xor, Nat.testBit_xor, Nat.testBit_and, Nat.testBit_and, Nat.testBit_and]
  cases a.testBit i <;> cases b.testBit i <;> cases c.testBit i <;> rfl

end Go.Proofs.YtoaifgblbfdncaaDoor
namespace Go.Proofs.YtoaifgblbfdncaaDoor
open Go.RowKit

/-- A number below 0 as so many bits, as the walk spells it. -/
theorem bits31 (k : Nat) (h0 : 0 < k) (hk : k < 32) : bits .and .u64 (IntKind.u64.wrap (-(k : Int))) 31 = ((32 - k : Nat) : Int) := by
  have e : ∀ k : Fin 32, 0 < k.val → bits .and .u64 (IntKind.u64.wrap (-((k.val : Nat) : Int))) 31 = ((32 - k.val : Nat) : Int) := by decide
  exact e ⟨k, hk⟩ h0

set_option maxRecDepth 100000 in
set_option maxHeartbeats 400000 in
theorem rotate_any (x k : Nat) (hx : x < 4294967296) (h0 : 0 < k) (hk : k < 32) (w : World) :
    Calls Tryd.prog 88 #[.int .u32 x, .int .i64 (-(k : Int))] w fun e w' => e = .returned (.int .u32 (turnR x k : Nat)) ∧ w' = w := by
  obtain ⟨j, hj, J⟩ : ∃ j : Nat, bits .and .u64 (IntKind.u64.wrap (-(k : Int))) 31 = (j : Int) ∧ Hid (j = 32 - k) := ⟨_, bits31 k h0 hk, rfl⟩
  have hj2 : (32 : Int) - (j : Int) = (k : Int) := by have := J.out; omega
  have hw : IntKind.u64.wrap (k : Int) = (k : Int) := by rw [IntKind.wrap_u64]; omega
  go_enter Tryd.func88, Tryd.ntmps88
  go_wp2
  go_ret
  refine ⟨congrArg (fun z => Ending.returned (.int .u32 z)) ?_, rfl⟩
  have e1 : (x : Int) * 2 ^ j % 4294967296 = ((x * 2 ^ (32 - k) % 4294967296 : Nat) : Int) := by rw [J.out, Int.natCast_emod, Int.natCast_mul, Int.natCast_pow]; rfl
  have e2 : (x : Int) / 2 ^ k = ((x / 2 ^ k : Nat) : Int) := by norm_cast
  rw [e1, e2, or_u32 _ _ (Nat.mod_lt _ (by decide)) (Nat.lt_of_le_of_lt (Nat.div_le_self _ _) hx), turn_or x k hx h0 hk]
  rfl

set_option maxRecDepth 100000 in
set_option maxHeartbeats 400000 in
theorem shifted_any (x k : Nat) (hk : k < 32) (w : World) :
    Calls Tryd.prog 80 #[.int .u32 x, .int .i64 k] w fun e w' => e = .returned (.int .u32 (x / 2 ^ k : Nat)) ∧ w' = w := by
  go_enter Tryd.func80, Tryd.ntmps80
  go_wp2
  go_ret
  refine ⟨congrArg (fun z => Ending.returned (.int .u32 z)) ?_, rfl⟩
  norm_cast

set_option maxRecDepth 100000 in
set_option maxHeartbeats 400000 in
theorem turned_any (x k : Nat) (hx : x < 4294967296) (h0 : 0 < k) (hk : k < 32) (w : World) :
    Calls Tryd.prog 81 #[.int .u32 x, .int .i64 k] w fun e w' => e = .returned (.int .u32 (turnR x k : Nat)) ∧ w' = w := by
  have H1 := Lib.hid (rotate_any x k hx h0 hk)
  have hw : IntKind.i64.wrap (-(k : Int)) = -(k : Int) := by rw [IntKind.wrap_i64]; omega
  go_enter Tryd.func81, Tryd.ntmps81
  go_wp2_with fail
  refine (H1.out _).mono ?_
  rintro e w4 ⟨rfl, rfl⟩
  go_wp2_with fail
  go_ret
  exact ⟨rfl, rfl⟩

set_option maxRecDepth 100000 in
set_option maxHeartbeats 400000 in
theorem mixed_turned (x a b c z : Nat) (hx : x < 4294967296) (hz : z < 4294967296) (ha : 0 < a ∧ a < 32) (hb : 0 < b ∧ b < 32) (hF : ∀ w, Calls Tryd.prog 81 #[.int .u32 x, .int .i64 c] w fun e w' => e = .returned (.int .u32 z) ∧ w' = w) (w : World) :
    Calls Tryd.prog 79 #[.int .u32 x, .int .i64 a, .int .i64 b, .int .i64 c, .func (.func 81) #[] #[]] w fun e w' => e = .returned (.int .u32 (turnR x a ^^^ turnR x b ^^^ z : Nat)) ∧ w' = w := by
  have l1 := turnR_lt x a hx ha.2
  have l2 := turnR_lt x b hx hb.2
  have H1 := Lib.hid (turned_any x a hx ha.1 ha.2)
  have H2 := Lib.hid (turned_any x b hx hb.1 hb.2)
  have H3 := Lib.hid hF
  clear hF ha hb
  generalize turnR x a = ra at *
  generalize turnR x b = rb at *
  have lx1 : ra ^^^ rb < 4294967296 := Nat.xor_lt_two_pow (n := 32) l1 l2
  have x1 := xor_u32 ra rb l1 l2
  have x2 := xor_u32 (ra ^^^ rb) z lx1 hz
  go_enter Tryd.func79, Tryd.ntmps79
  go_wp2_with fail
  refine (H1.out _).mono ?_
  rintro e w4 ⟨rfl, rfl⟩
  go_wp2_with fail
  refine (H2.out _).mono ?_
  rintro e w4 ⟨rfl, rfl⟩
  go_wp2_with fail
  refine (H3.out _).mono ?_
  rintro e w4 ⟨rfl, rfl⟩
  go_wp2_with fail
  go_ret
  exact ⟨rfl, rfl⟩

set_option maxRecDepth 100000 in
set_option maxHeartbeats 400000 in
theorem mixed_shifted (x a b c z : Nat) (hx : x < 4294967296) (hz : z < 4294967296) (ha : 0 < a ∧ a < 32) (hb : 0 < b ∧ b < 32) (hF : ∀ w, Calls Tryd.prog 80 #[.int .u32 x, .int .i64 c] w fun e w' => e = .returned (.int .u32 z) ∧ w' = w) (w : World) :
    Calls Tryd.prog 79 #[.int .u32 x, .int .i64 a, .int .i64 b, .int .i64 c, .func (.func 80) #[] #[]] w fun e w' => e = .returned (.int .u32 (turnR x a ^^^ turnR x b ^^^ z : Nat)) ∧ w' = w := by
  have l1 := turnR_lt x a hx ha.2
  have l2 := turnR_lt x b hx hb.2
  have H1 := Lib.hid (turned_any x a hx ha.1 ha.2)
  have H2 := Lib.hid (turned_any x b hx hb.1 hb.2)
  have H3 := Lib.hid hF
  clear hF ha hb
  generalize turnR x a = ra at *
  generalize turnR x b = rb at *
  have lx1 : ra ^^^ rb < 4294967296 := Nat.xor_lt_two_pow (n := 32) l1 l2
  have x1 := xor_u32 ra rb l1 l2
  have x2 := xor_u32 (ra ^^^ rb) z lx1 hz
  go_enter Tryd.func79, Tryd.ntmps79
  go_wp2_with fail
  refine (H1.out _).mono ?_
  rintro e w4 ⟨rfl, rfl⟩
  go_wp2_with fail
  refine (H2.out _).mono ?_
  rintro e w4 ⟨rfl, rfl⟩
  go_wp2_with fail
  refine (H3.out _).mono ?_
  rintro e w4 ⟨rfl, rfl⟩
  go_wp2_with fail
  go_ret
  exact ⟨rfl, rfl⟩

/-- The four ways of mixing. -/
theorem mixed_bs0 (x : Nat) (hx : x < 4294967296) (w : World) :
    Calls Tryd.prog 79 #[.int .u32 x, .int .i64 2, .int .i64 13, .int .i64 22, .func (.func 81) #[] #[]] w fun e w' => e = .returned (.int .u32 (bs0 x : Nat)) ∧ w' = w := by
  rw [bs0_turn]
  exact mixed_turned x 2 13 22 _ hx (turnR_lt x 22 hx (by decide)) (by decide) (by decide) (turned_any x 22 hx (by decide) (by decide)) w
theorem mixed_bs1 (x : Nat) (hx : x < 4294967296) (w : World) :
    Calls Tryd.prog 79 #[.int .u32 x, .int .i64 6, .int .i64 11, .int .i64 25, .func (.func 81) #[] #[]] w fun e w' => e = .returned (.int .u32 (bs1 x : Nat)) ∧ w' = w := by
  rw [bs1_turn]
  exact mixed_turned x 6 11 25 _ hx (turnR_lt x 25 hx (by decide)) (by decide) (by decide) (turned_any x 25 hx (by decide) (by decide)) w
theorem mixed_ss0 (x : Nat) (hx : x < 4294967296) (w : World) :
    Calls Tryd.prog 79 #[.int .u32 x, .int .i64 7, .int .i64 18, .int .i64 3, .func (.func 80) #[] #[]] w fun e w' => e = .returned (.int .u32 (ss0 x : Nat)) ∧ w' = w := by
  rw [ss0_turn]
  exact mixed_shifted x 7 18 3 _ hx (Nat.lt_of_le_of_lt (Nat.div_le_self _ _) hx) (by decide) (by decide) (shifted_any x 3 (by decide)) w
theorem mixed_ss1 (x : Nat) (hx : x < 4294967296) (w : World) :
    Calls Tryd.prog 79 #[.int .u32 x, .int .i64 17, .int .i64 19, .int .i64 10, .func (.func 80) #[] #[]] w fun e w' => e = .returned (.int .u32 (ss1 x : Nat)) ∧ w' = w := by
  rw [ss1_turn]
  exact mixed_shifted x 17 19 10 _ hx (Nat.lt_of_le_of_lt (Nat.div_le_self _ _) hx) (by decide) (by decide) (shifted_any x 10 (by decide)) w

theorem byte_at (s : ByteArray) (k : Nat) (h : k < s.size) : s.data.toList.getD k 0 = s[k] := by
  rw [List.getD_eq_getElem?_getD, List.getElem?_eq_getElem (by simpa using h)]
  rfl

set_option maxRecDepth 100000 in
set_option maxHeartbeats 800000 in
theorem textWord_first (s : ByteArray) (hs : 3 < s.size) (w : World) :
    Calls Tryd.prog 78 #[.string s] w fun e w' => e = .returned (.int .u32 (wordAt s.data.toList 0 : Nat)) ∧ Below w.heap.size w w' := by
  have h0 : (0 : Int) < (s.size : Int) := by omega
  have h1 : (1 : Int) < (s.size : Int) := by omega
  have h2 : (2 : Int) < (s.size : Int) := by omega
  have h3 : (3 : Int) < (s.size : Int) := by omega
  have g0 : 0 < s.size := by omega
  have g1 : 1 < s.size := by omega
  have g2 : 2 < s.size := by omega
  go_enter Tryd.func78, Tryd.ntmps78
  go_wp2
  go_quiet (fail)
  go_wp2
  go_ret
  refine ⟨congrArg (fun z => Ending.returned (.int .u32 z)) ?_, below_drewN (Below.refl _ _) _⟩
  have q0 := byte_at s 0 (by omega)
  have q1 := byte_at s 1 (by omega)
  have q2 := byte_at s 2 (by omega)
  have q3 := byte_at s 3 (by omega)
  unfold wordAt fourNum
  rw [q0, q1, q2, q3]
  exact word_or _ _ _ _ (UInt8.toNat_lt _) (UInt8.toNat_lt _) (UInt8.toNat_lt _) (UInt8.toNat_lt _)

end Go.Proofs.YtoaifgblbfdncaaDoor
