/-
  The program's signatures as values and as bytes: what is right, SigText, ReadSig.
-/
import Derived.Test.YtkjjdoadjhjmbauGreatDoorJ15
import Derived.Deep.RegionHeld3
import Derived.BigQuiet
import Derived.Deep.QuietTactic
namespace Go.Proofs.YtkjjdoadjhjmbauGreatDoor
open Go.RowKit

/-- What a number leaves modulo Order, not below 0. -/
def modO (a : Int) : Nat := (a % 1073741789).toNat
theorem modO_lt (a : Int) : modO a < 1073741789 := by unfold modO; omega
theorem modO_int (a : Int) : (modO a : Int) = a % 1073741789 := by unfold modO; omega
theorem modO_in (n : Nat) (h : n < 1073741789) : modO (n : Int) = n := by unfold modO; omega
theorem modO_nat (n : Nat) : modO (n : Int) = n % 1073741789 := by unfold modO; omega
theorem modO_out (a : Int) (h : a < 0 ∨ 1073741788 < a) : (a == (modO a : Int)) = false := by
  have := modO_lt a
  rw [beq_eq_false_iff_ne]
  omega
theorem tmodO_cases (a : Int) : ∃ r : Int, a.tmod 1073741789 = r ∧ -1073741789 < r ∧ r < 1073741789 ∧ (r < 0 → r + 1073741789 = (modO a : Int)) ∧ (¬ r < 0 → r = (modO a : Int)) := by
  refine ⟨_, rfl, ?_, ?_, ?_, ?_⟩
  · have := Int.lt_tmod_of_pos a (show (0 : Int) < 1073741789 by omega); omega
  · exact Int.tmod_lt_of_pos a (by omega)
  · intro h
    have e := Int.tmod_def a 1073741789
    rw [modO_int]
    have h2 := Int.lt_tmod_of_pos a (show (0 : Int) < 1073741789 by omega)
    generalize a.tdiv 1073741789 = q at e
    omega
  · intro h
    have e := Int.tmod_def a 1073741789
    rw [modO_int]
    have h2 := Int.tmod_lt_of_pos a (show (0 : Int) < 1073741789 by omega)
    generalize a.tdiv 1073741789 = q at e
    omega

set_option maxRecDepth 100000 in
set_option maxHeartbeats 400000 in
theorem ofO_any (a : Int) (w : World) :
    Calls Tryz.prog 96 #[.agg #[.int .i64 1073741789], .int .i64 a] w fun e w' => e = .returned (.int .i64 (modO a : Nat)) ∧ Below w.heap.size w w' := by
  obtain ⟨r, hr, h1, h2, h3, h4⟩ := tmodO_cases a
  by_cases hn : r < 0
  · have H := Lib.hid (h3 hn)
    clear h3 h4
    go_enter Tryz.func96, Tryz.ntmps96
    go_wp2
    go_ret
    exact ⟨by rw [← H.out]; rfl, (Below.refl _ _).alloc (Nat.le_refl _) _⟩
  · have H := Lib.hid (h4 hn)
    clear h3 h4
    go_enter Tryz.func96, Tryz.ntmps96
    go_wp2
    go_ret
    exact ⟨by rw [← H.out]; rfl, (Below.refl _ _).alloc (Nat.le_refl _) _⟩

set_option maxRecDepth 100000 in
set_option maxHeartbeats 400000 in
theorem byOrder_any (w : World) :
    Calls Tryz.prog 95 #[] w fun e w' => e = .returned (.agg #[.int .i64 1073741789]) ∧ Below w.heap.size w w' := by
  go_enter Tryz.func95, Tryz.ntmps95
  go_wp2
  refine bodyPost_ret (v := .agg #[.int .i64 1073741789]) (by simp [results, Tryz.results95, go_sem]) rfl ⟨rfl, ?_⟩
  exact (Below.refl _ _).alloc (Nat.le_refl _) _

/-- A signature's variable, and beside it one of the modulus in another block. -/
structure RSg (w : World) (E S : Int) (q : Nat) (X : World) : Prop where
  sig : PV w 49 (.int .i64 E) (.int .i64 S) X
  row : X.heap[q]? = some (.cells #[.int .i64 1073741789] 117 (0, 0))
theorem RSg.next {w : World} {E S : Int} {q : Nat} {X Y : World} (h : RSg w E S q X) (hb : Below X.heap.size X Y) : RSg w E S q Y := ⟨h.sig.next hb, by rw [hb.block q (lt_of_block h.row)]; exact h.row⟩
theorem RSg.drew {w : World} {E S : Int} {q : Nat} {X : World} (h : RSg w E S q X) : RSg w E S q X.drew := ⟨h.sig.drew, h.row⟩
theorem RSg.cell {w : World} {E S : Int} {q : Nat} {X : World} (h : RSg w E S q X) : X.cell? ⟨q, 0, none⟩ = some (.int .i64 1073741789) := by rw [cell_of_row X q 0 _ _ (0, 0) h.row]; rfl
theorem RSg.three {w : World} {E S : Int} {q : Nat} {X : World} (h : RSg w E S q X) : X.cell? ⟨w.heap.size, 0, none⟩ = some (.int .i64 E) ∧ X.cell? ⟨w.heap.size, 1, none⟩ = some (.int .i64 S) ∧ X.cell? ⟨q, 0, none⟩ = some (.int .i64 1073741789) ∧ RSg w E S q X := ⟨h.sig.v.c0, h.sig.v.c1, h.cell, h⟩

set_option maxRecDepth 100000 in
set_option maxHeartbeats 1600000 in
theorem isRight_any (E S : Int) (w : World) :
    Calls Tryz.prog 99 #[.agg #[.int .i64 E, .int .i64 S]] w fun e w' => e = .returned (.bool (E == (modO E : Int) && S == (modO S : Int))) ∧ Below w.heap.size w w' := by
  have H1 := Lib.hid byOrder_any
  have k2 := ofO_any
  have P0 := Lib.hid (PV.new w 49 (.int .i64 E) (.int .i64 S))
  obtain ⟨f, F⟩ : ∃ f : Int → Nat, Hid (f = modO) := ⟨_, rfl⟩
  rw [← F.out] at k2 ⊢
  have EQ := fun (a b : Int) (X : World) => sig_eq E S a b X
  go_enter Tryz.func99, Tryz.ntmps99
  go_wp2_with fail
  refine (H1.out _).mono ?_
  rintro e w1 ⟨rfl, hb1⟩
  have P1 := P0.out.next hb1
  have P2 : RSg w E S w1.heap.size (w1.alloc (.cells #[.int .i64 1073741789] 117)) := ⟨P1.next ((Below.refl _ _).alloc (Nat.le_refl _) _), heap_alloc_new w1 _⟩
  have K2 : Hid (∀ (a : Int) (X : World), (X.cell? ⟨w.heap.size, 0, none⟩ = some (.int .i64 E) ∧ X.cell? ⟨w.heap.size, 1, none⟩ = some (.int .i64 S) ∧ X.cell? ⟨w1.heap.size, 0, none⟩ = some (.int .i64 1073741789) ∧ RSg w E S w1.heap.size X) → Calls Tryz.prog 96 #[.agg #[.int .i64 1073741789], .int .i64 a] X fun e Y => e = .returned (.int .i64 (f a : Nat)) ∧ (Y.cell? ⟨w.heap.size, 0, none⟩ = some (.int .i64 E) ∧ Y.cell? ⟨w.heap.size, 1, none⟩ = some (.int .i64 S) ∧ Y.cell? ⟨w1.heap.size, 0, none⟩ = some (.int .i64 1073741789) ∧ RSg w E S w1.heap.size Y)) := fun a X hX => by
    refine (k2 a X).mono ?_
    rintro e Y ⟨rfl, hb⟩
    exact ⟨rfl, (hX.2.2.2.next hb).three⟩
  clear hb1 P0 P1 k2
  go_upto_region 2 with fail
  generalize w1.alloc (.cells #[.int .i64 1073741789] 117) = w2 at *
  generalize w1.heap.size = q at *
  have P3 := Lib.hid P2
  clear P2
  go_region_held3 (fun X => X.cell? ⟨w.heap.size, 0, none⟩ = some (.int .i64 E) ∧ X.cell? ⟨w.heap.size, 1, none⟩ = some (.int .i64 S) ∧ X.cell? ⟨q, 0, none⟩ = some (.int .i64 1073741789) ∧ RSg w E S q X) (first | (with_reducible assumption) | (with_reducible exact (RSg.drew P3.out).three)) (first | (go_at_call 96; refine (K2.out _ _ (by assumption)).mono ?_; rintro e v1 ⟨rfl, hS⟩))
  all_goals
    go_wp2_with fail
    go_ret
    exact ⟨rfl, hS.2.2.2.sig.below⟩

theorem isRight_yes (E S : Nat) (hE : E < 1073741789) (hS : S < 1073741789) (w : World) :
    Calls Tryz.prog 99 #[.agg #[.int .i64 E, .int .i64 S]] w fun e w' => e = .returned (.bool true) ∧ Below w.heap.size w w' := by
  have h := isRight_any (E : Int) (S : Int) w
  rw [modO_in E hE, modO_in S hS] at h
  simpa using h
theorem isRight_no (E S : Int) (h : (E < 0 ∨ 1073741788 < E) ∨ (S < 0 ∨ 1073741788 < S)) (w : World) :
    Calls Tryz.prog 99 #[.agg #[.int .i64 E, .int .i64 S]] w fun e w' => e = .returned (.bool false) ∧ Below w.heap.size w w' := by
  have k := isRight_any E S w
  have e : (E == (modO E : Int) && S == (modO S : Int)) = false := by
    rcases h with h | h
    · rw [modO_out E h, Bool.false_and]
    · rw [modO_out S h, Bool.and_false]
  rw [e] at k
  exact k

set_option maxRecDepth 100000 in
set_option maxHeartbeats 800000 in
theorem implSigText_yes (E S : Nat) (hE : E < 1073741789) (hS : S < 1073741789) (w : World) :
    Calls Tryz.prog 77 #[.agg #[.int .i64 E, .int .i64 S]] w fun e w' => e = .returned (.tuple #[.string (numB E ++ numB S), .bool true]) ∧ Below w.heap.size w w' := by
  have H0 := Lib.hid (isRight_yes E S hE hS)
  have P0 := Lib.hid (PV.new w 49 (.int .i64 E) (.int .i64 S))
  have k1 := implNumberText_yes E (by omega)
  have k2 := implNumberText_yes S (by omega)
  have e1 : (⟨(four E).toArray⟩ : ByteArray) = numB E := rfl
  have e2 : (⟨(four S).toArray⟩ : ByteArray) = numB S := rfl
  rw [e1] at k1
  rw [e2] at k2
  have z1 := numB_size E
  have z2 := numB_size S
  obtain ⟨a, A⟩ : ∃ n, Hid (n = numB E) := ⟨_, rfl⟩
  obtain ⟨b, B⟩ : ∃ n, Hid (n = numB S) := ⟨_, rfl⟩
  rw [← A.out] at k1 z1 ⊢
  rw [← B.out] at k2 z2 ⊢
  have m1 : ∀ X, (Op.stringOp .add a b).run Tryz.prog X = .ok (.string (a ++ b)) X := fun X => run_string_add_sum X a b (by omega)
  have K1 : Hid (∀ X, (X.cell? ⟨w.heap.size, 0, none⟩ = some (.int .i64 E) ∧ X.cell? ⟨w.heap.size, 1, none⟩ = some (.int .i64 S) ∧ PV w 49 (.int .i64 E) (.int .i64 S) X) → Calls Tryz.prog 92 #[.int .i64 E] X fun e Y => e = .returned (.string a) ∧ (Y.cell? ⟨w.heap.size, 0, none⟩ = some (.int .i64 E) ∧ Y.cell? ⟨w.heap.size, 1, none⟩ = some (.int .i64 S) ∧ PV w 49 (.int .i64 E) (.int .i64 S) Y)) := fun X hX => by
    refine (k1 X).mono ?_
    rintro e Y ⟨rfl, hb⟩
    exact ⟨rfl, (hX.2.2.next hb).two⟩
  have K2 : Hid (∀ X, (X.cell? ⟨w.heap.size, 0, none⟩ = some (.int .i64 E) ∧ X.cell? ⟨w.heap.size, 1, none⟩ = some (.int .i64 S) ∧ PV w 49 (.int .i64 E) (.int .i64 S) X) → Calls Tryz.prog 92 #[.int .i64 S] X fun e Y => e = .returned (.string b) ∧ (Y.cell? ⟨w.heap.size, 0, none⟩ = some (.int .i64 E) ∧ Y.cell? ⟨w.heap.size, 1, none⟩ = some (.int .i64 S) ∧ PV w 49 (.int .i64 E) (.int .i64 S) Y)) := fun X hX => by
    refine (k2 X).mono ?_
    rintro e Y ⟨rfl, hb⟩
    exact ⟨rfl, (hX.2.2.next hb).two⟩
  have c0 := P0.out.v.c0
  have c1 := P0.out.v.c1
  clear k1 k2 e1 e2
  go_enter Tryz.func77, Tryz.ntmps77
  go_wp2_with fail
  refine (H0.out _).mono ?_
  rintro e w1 ⟨rfl, hb1⟩
  have P1 := Lib.hid (P0.out.next hb1)
  clear hb1 P0 c0 c1
  go_wp2_with fail
  go_region_held3 (fun X => X.cell? ⟨w.heap.size, 0, none⟩ = some (.int .i64 E) ∧ X.cell? ⟨w.heap.size, 1, none⟩ = some (.int .i64 S) ∧ PV w 49 (.int .i64 E) (.int .i64 S) X) (first | (with_reducible assumption) | (with_reducible exact (PV.drew P1.out).two)) (first | (go_at_call_of 92 (Value.int IntKind.i64 (E : Int)); refine (K1.out _ (by assumption)).mono ?_; rintro e v1 ⟨rfl, hS⟩) | (go_at_call_of 92 (Value.int IntKind.i64 (S : Int)); refine (K2.out _ (by assumption)).mono ?_; rintro e v1 ⟨rfl, hS⟩))
  all_goals
    go_wp2_with fail
    go_ret2
    exact ⟨rfl, hS.2.2.below⟩

set_option maxRecDepth 100000 in
set_option maxHeartbeats 400000 in
theorem implSigText_no (E S : Int) (h : (E < 0 ∨ 1073741788 < E) ∨ (S < 0 ∨ 1073741788 < S)) (w : World) :
    Calls Tryz.prog 77 #[.agg #[.int .i64 E, .int .i64 S]] w fun e w' => e = .returned (.tuple #[.string ⟨#[]⟩, .bool false]) ∧ Below w.heap.size w w' := by
  have P0 := Lib.hid (PV.new w 49 (.int .i64 E) (.int .i64 S))
  have c0 := P0.out.v.c0
  have c1 := P0.out.v.c1
  have H0 := Lib.hid (isRight_no E S h)
  clear h
  go_enter Tryz.func77, Tryz.ntmps77
  go_wp2_with fail
  refine (H0.out _).mono ?_
  rintro e w1 ⟨rfl, hb1⟩
  have P1 := Lib.hid (P0.out.next hb1)
  clear hb1 P0
  go_wp2_with fail
  go_ret2
  exact ⟨rfl, P1.out.below⟩

theorem byte_sig (s : ByteArray) (k : Nat) (h : k < s.size) : s.data.toList.getD k 0 = s[k] := by
  rw [List.getD_eq_getElem?_getD, List.getElem?_eq_getElem (by simpa using h)]
  rfl
theorem fourBack_head (s : ByteArray) (hs : 3 < s.size) : fourBack (s.extract 0 4).data.toList = fourNum s[0] s[1] s[2] s[3] := by
  have e : ∀ k, k < 4 → (s.extract 0 4).data.toList.getD k 0 = s.data.toList.getD k 0 := by
    intro k hk
    rw [ByteArray.data_extract, Array.toList_extract, List.extract_eq_take_drop]
    show (List.take 4 s.data.toList).getD k 0 = _
    rw [List.getD_eq_getElem?_getD, List.getD_eq_getElem?_getD, List.getElem?_take, if_pos hk]
  unfold fourBack
  rw [e 0 (by omega), e 1 (by omega), e 2 (by omega), e 3 (by omega), byte_sig s 0 (by omega), byte_sig s 1 (by omega), byte_sig s 2 (by omega), byte_sig s 3 (by omega)]

set_option maxRecDepth 100000 in
set_option maxHeartbeats 800000 in
theorem textWord_head (s : ByteArray) (hs : 3 < s.size) (w : World) :
    Calls Tryz.prog 89 #[.string s] w fun e w' => e = .returned (.int .u32 (fourBack (s.extract 0 4).data.toList : Nat)) ∧ Below w.heap.size w w' := by
  rw [fourBack_head s hs]
  have h0 : (0 : Int) < (s.size : Int) := by omega
  have h1 : (1 : Int) < (s.size : Int) := by omega
  have h2 : (2 : Int) < (s.size : Int) := by omega
  have h3 : (3 : Int) < (s.size : Int) := by omega
  have g0 : 0 < s.size := by omega
  have g1 : 1 < s.size := by omega
  have g2 : 2 < s.size := by omega
  go_enter Tryz.func89, Tryz.ntmps89
  go_wp2
  go_quiet (fail)
  go_wp2
  go_ret
  refine ⟨congrArg (fun z => Ending.returned (.int .u32 z)) ?_, below_drewN (Below.refl _ _) _⟩
  unfold fourNum
  exact word_or _ _ _ _ (UInt8.toNat_lt _) (UInt8.toNat_lt _) (UInt8.toNat_lt _) (UInt8.toNat_lt _)

set_option maxRecDepth 100000 in
set_option maxHeartbeats 400000 in
theorem implReadSig_size (text : ByteArray) (h : text.size ≠ 8) (w : World) :
    Calls Tryz.prog 79 #[.string text] w fun e w' => e = .returned (.tuple #[.agg #[.int .i64 0, .int .i64 0], .bool false]) ∧ Below w.heap.size w w' := by
  have h1 : ((text.size : Int) != 8) = true := by rw [bne_iff_ne]; omega
  have V0 := Lib.hid (PV.new w 49 (.int .i64 0) (.int .i64 0))
  go_enter Tryz.func79, Tryz.ntmps79
  go_wp2_with fail
  refine bodyPost_ret (v := .tuple #[.agg #[.int .i64 0, .int .i64 0], .bool false]) (by simp [results, Tryz.results79, go_sem]) rfl ⟨rfl, V0.out.below⟩

/-- The result's variable, and another of two cells behind it. -/
structure QSg (w : World) (q : Nat) (a b : Value) (X : World) : Prop where
  one : PV w 49 (.int .i64 0) (.int .i64 0) X
  two : VarP q 49 a b X
  lt : w.heap.size < q
theorem QSg.next {w : World} {q : Nat} {a b : Value} {X Y : World} (h : QSg w q a b X) (hb : Below X.heap.size X Y) : QSg w q a b Y := ⟨h.one.next hb, h.two.next hb, h.lt⟩
theorem QSg.new {w : World} {V : World} (h : PV w 49 (.int .i64 0) (.int .i64 0) V) (a b : Value) : QSg w V.heap.size a b (V.alloc (.cells #[a, b] 49)) := ⟨h.next ((Below.refl _ _).alloc (Nat.le_refl _) _), VarP.new V _ a b, lt_of_block h.v.row⟩
theorem PV.alloc {w : World} {t : TypeId} {a b : Value} {X : World} (h : PV w t a b X) (o : Obj) : PV w t a b (X.alloc o) := h.next ((Below.refl _ _).alloc (Nat.le_refl _) o)
theorem QSg.set2 {w : World} {q : Nat} {a b : Value} {X : World} (h : QSg w q a b X) (a' b' : Value) : QSg w q a' b' ((X.setCell ⟨q, 0, none⟩ a').setCell ⟨q, 1, none⟩ b') := by
  have ho := Only.set2 X q a' b'
  have hl := h.lt
  exact ⟨⟨h.one.v.only ho (by omega), h.one.below.trans (ho.below (by omega) h.one.below.size)⟩, h.two.set2 a' b', h.lt⟩
theorem sigNewB {w : World} {V Y : World} {a b : Value} (hT : PV w 49 (.int .i64 0) (.int .i64 0) V) (hb : Below (V.alloc (.cells #[a, b] 49)).heap.size (V.alloc (.cells #[a, b] 49)) Y) : QSg w V.heap.size a b Y := (QSg.new hT a b).next hb
theorem sigNewA {w : World} {V Y : World} {a b : Value} (hT : PV w 49 (.int .i64 0) (.int .i64 0) V) (hb : Below (V.alloc (.cells #[a, b] 49)).drew.heap.size (V.alloc (.cells #[a, b] 49)).drew Y) : QSg w V.heap.size a b Y := sigNewB hT ⟨hb.os, hb.tape, hb.output, hb.size, hb.block⟩
theorem sigNewC {w : World} {V Y : World} {a b : Value} (hT : PV w 49 (.int .i64 0) (.int .i64 0) V) (hb : Below (V.drew.alloc (.cells #[a, b] 49)).heap.size (V.drew.alloc (.cells #[a, b] 49)) Y) : QSg w V.heap.size a b Y := sigNewB (V := V.drew) hT.drew hb

set_option maxRecDepth 100000 in
set_option maxHeartbeats 1600000 in
theorem implReadSig_eight (text l r : ByteArray) (h : text.size = 8) (hl : text.extract 0 4 = l) (hr : text.extract 4 8 = r) (v : Value) (hv : (fourBack l.data.toList < 1073741789 ∧ fourBack r.data.toList < 1073741789 ∧ v = .tuple #[.agg #[.int .i64 (fourBack l.data.toList : Nat), .int .i64 (fourBack r.data.toList : Nat)], .bool true]) ∨ ((1073741789 ≤ fourBack l.data.toList ∨ 1073741789 ≤ fourBack r.data.toList) ∧ v = .tuple #[.agg #[.int .i64 0, .int .i64 0], .bool false])) (w : World) :
    Calls Tryz.prog 79 #[.string text] w fun e w' => e = .returned v ∧ Below w.heap.size w w' := by
  have z2 : r.size = 4 := by rw [← hr, ByteArray.size_extract]; omega
  have k1 := textWord_head text (by omega)
  rw [hl] at k1
  have k2 := textWord_any r z2
  have la := fourBack_lt l.data.toList
  have lb := fourBack_lt r.data.toList
  obtain ⟨a, A⟩ : ∃ n, Hid (n = fourBack l.data.toList) := ⟨_, rfl⟩
  obtain ⟨b, B⟩ : ∃ n, Hid (n = fourBack r.data.toList) := ⟨_, rfl⟩
  rw [← A.out] at k1 hv la
  rw [← B.out] at k2 hv lb
  have HV := Lib.hid hv
  have K1 : Hid (∀ X, PV w 49 (.int .i64 0) (.int .i64 0) X → Calls Tryz.prog 89 #[.string text] X fun e Y => e = .returned (.int .u32 a) ∧ PV w 49 (.int .i64 0) (.int .i64 0) Y ∧ Below X.heap.size X Y) := fun X hX => by
    refine (k1 X).mono ?_
    rintro e Y ⟨rfl, hb⟩
    exact ⟨rfl, hX.next hb, hb⟩
  have K2 : Hid (∀ X, PV w 49 (.int .i64 0) (.int .i64 0) X → Calls Tryz.prog 89 #[.string r] X fun e Y => e = .returned (.int .u32 b) ∧ PV w 49 (.int .i64 0) (.int .i64 0) Y ∧ Below X.heap.size X Y) := fun X hX => by
    refine (k2 X).mono ?_
    rintro e Y ⟨rfl, hb⟩
    exact ⟨rfl, hX.next hb, hb⟩
  have h1 : ((text.size : Int) != 8) = false := by rw [bne_eq_false_iff_eq]; omega
  have h8 : (text.size : Int) = 8 := by omega
  have hz8 : text.size = 8 := h
  have wa : IntKind.i64.wrap (a : Int) = (a : Int) := by rw [IntKind.wrap_i64]; omega
  have wb : IntKind.i64.wrap (b : Int) = (b : Int) := by rw [IntKind.wrap_i64]; omega
  have V0 := Lib.hid (PV.new w 49 (.int .i64 0) (.int .i64 0))
  clear k1 k2 hl A B h hv z2 la lb
  go_enter Tryz.func79, Tryz.ntmps79
  go_upto_region 3 with fail
  generalize w.alloc (.cells #[.int .i64 0, .int .i64 0] 49) = W at V0
  go_region_held3 (fun X => PV w 49 (.int .i64 0) (.int .i64 0) X) (first | (with_reducible assumption) | (with_reducible exact (PV.drew V0.out)) | (with_reducible exact PV.alloc (by assumption) _) | (with_reducible exact PV.alloc (PV.drew V0.out) _) | (with_reducible exact PV.drew (PV.alloc V0.out _))) (first | (go_at_call_of 89 (Value.string text); refine (K1.out _ (by assumption)).mono ?_; rintro e v1 ⟨rfl, hT, hb⟩; (first | (have hF := QSg.next hF hb) | (with_reducible have hF := sigNewB (by assumption) hb) | (with_reducible have hF := sigNewA V0.out hb) | (with_reducible have hF := sigNewC V0.out hb) | skip); first | (have g0 := hF.two.c0; have g1 := hF.two.c1; have f0 := hF.two.free 0; have f1 := hF.two.free 1; have hQ5 := hF.set2 (.int .i64 (a : Int)) (.int .i64 (b : Int)); have hT5 := hQ5.one) | skip) | (go_at_call_of 89 (Value.string r); refine (K2.out _ (by assumption)).mono ?_; rintro e v1 ⟨rfl, hT, hb⟩; (first | (have hF := QSg.next hF hb) | (with_reducible have hF := sigNewB (by assumption) hb) | (with_reducible have hF := sigNewA V0.out hb) | (with_reducible have hF := sigNewC V0.out hb) | skip); first | (have g0 := hF.two.c0; have g1 := hF.two.c1; have f0 := hF.two.free 0; have f1 := hF.two.free 1; have hQ5 := hF.set2 (.int .i64 (a : Int)) (.int .i64 (b : Int)); have hT5 := hQ5.one) | skip))
  all_goals
    first | (have Q5 := Lib.hid hQ5) | (have Q5 := Lib.hid (QSg.new hT (.int .i64 (a : Int)) (.int .i64 (b : Int))))
    have e0 := Q5.out.two.c0
    have e1 := Q5.out.two.c1
    rcases HV.out with ⟨ha, hb, rfl⟩ | ⟨hab, rfl⟩
    · have H3 := Lib.hid (isRight_yes a b ha hb)
      clear HV ha hb
      go_wp2_with fail
      refine (H3.out _).mono ?_
      rintro e w5 ⟨rfl, hb5⟩
      have Q6 := Lib.hid (Q5.out.next hb5)
      have i0 := Q6.out.two.c0
      have i1 := Q6.out.two.c1
      have o0 := Q6.out.one.v.c0
      have o1 := Q6.out.one.v.c1
      have p0 := Q6.out.one.v.free 0
      have p1 := Q6.out.one.v.free 1
      have W6 := Lib.hid (Q6.out.one.set2 (.int .i64 (a : Int)) (.int .i64 (b : Int)))
      clear hb5 e0 e1
      go_wp2_with fail
      have j0 := W6.out.v.c0
      have j1 := W6.out.v.c1
      refine bodyPost_ret (v := .tuple #[.agg #[.int .i64 (a : Int), .int .i64 (b : Int)], .bool true]) (by simp [results, Tryz.results79, go_sem, j0, j1]) rfl ⟨rfl, W6.out.below⟩
    · have H3 := Lib.hid (isRight_no (a : Int) (b : Int) (by omega))
      clear HV hab
      go_wp2_with fail
      refine (H3.out _).mono ?_
      rintro e w5 ⟨rfl, hb5⟩
      have Q6 := Lib.hid (Q5.out.next hb5)
      have o0 := Q6.out.one.v.c0
      have o1 := Q6.out.one.v.c1
      have p0 := Q6.out.one.v.free 0
      have p1 := Q6.out.one.v.free 1
      have W6 := Lib.hid (Q6.out.one.set2 (.int .i64 0) (.int .i64 0))
      clear hb5 e0 e1
      go_wp2_with fail
      have j0 := W6.out.v.c0
      have j1 := W6.out.v.c1
      refine bodyPost_ret (v := .tuple #[.agg #[.int .i64 0, .int .i64 0], .bool false]) (by simp [results, Tryz.results79, go_sem, j0, j1]) rfl ⟨rfl, W6.out.below⟩

end Go.Proofs.YtkjjdoadjhjmbauGreatDoor
