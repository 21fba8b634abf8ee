/-
  The given InnerOk, InnerText and ReadInner.
  What the law on inner packets asks of the program; inner packets compared as values.
-/
import Derived.Test.YthiicpbedgcmlaaDoorJ01
import Derived.Test.YthiicpbedgcmlaaDoorJ02
import Derived.Test.YthiicpbedgcmlaaDoorJ03
import Derived.Deep.RegionHeld3
import Derived.Deep.DeepCutAuto
import Derived.Laws.StructEq
namespace Go.Proofs.YthiicpbedgcmlaaDoor
open Go.RowKit

abbrev InnerT : TypeId := 25

set_option maxRecDepth 100000 in
set_option maxHeartbeats 800000 in
theorem specInnerOk_bool (a b : Int) (t : ByteArray) (c : Bool) (hc : c = true ↔ InnerP a b t) (w : World) :
    Calls Tryd.prog 13 #[.agg #[.int .i64 a, .int .i64 b, .string t]] w fun e w' => e = .returned (.bool c) ∧ Below w.heap.size w w' := by
  have HF : Hid (¬ InnerP a b t → c = false) := Lib.hid (fun h => Bool.eq_false_iff.2 fun e => h (hc.1 e))
  have HC := Lib.hid hc
  have A0 := Lib.hid (VarA.new w InnerT #[.int .i64 a, .int .i64 b, .string t])
  have B0 := Lib.hid ((Below.refl w.heap.size w).alloc (Nat.le_refl _) (.cells #[.int .i64 a, .int .i64 b, .string t] InnerT))
  clear hc
  go_enter Tryd.func13, Tryd.ntmps13
  go_upto_region 1 with fail
  generalize w.alloc (.cells #[.int .i64 a, .int .i64 b, .string t] InnerT) = Y at *
  have c0 : Y.cell? ⟨w.heap.size, 0, none⟩ = some (.int .i64 a) := A0.out.cell 0
  have c1 : Y.cell? ⟨w.heap.size, 1, none⟩ = some (.int .i64 b) := A0.out.cell 1
  have c2 : Y.cell? ⟨w.heap.size, 2, none⟩ = some (.string t) := A0.out.cell 2
  by_cases ha : 0 ≤ a ∧ a ≤ 4294967295
  rotate_left
  · obtain rfl := HF.out (fun h => ha h.1)
    have K := Lib.hid (specAddrOk_no a (by omega))
    clear HF HC ha
    go_wp2_with fail
    refine (K.out _).mono ?_
    rintro e w1 ⟨rfl, rfl⟩
    go_wp2_with fail
    go_ret
    exact ⟨rfl, B0.out⟩
  have K := Lib.hid (specAddrOk_yes a ha.1 ha.2)
  by_cases hb : 0 ≤ b ∧ b ≤ 4294967295
  rotate_left
  · obtain rfl := HF.out (fun h => hb h.2.1)
    have K2 := Lib.hid (specAddrOk_no b (by omega))
    clear HF HC ha hb
    go_wp2_with fail
    refine (K.out _).mono ?_
    rintro e w1 ⟨rfl, rfl⟩
    go_wp2_with fail
    refine (K2.out _).mono ?_
    rintro e w1 ⟨rfl, rfl⟩
    go_wp2_with fail
    go_ret
    exact ⟨rfl, B0.out⟩
  have K2 := Lib.hid (specAddrOk_yes b hb.1 hb.2)
  have hd : decide ((t.size : Int) ≤ 100) = c := by
    cases c with
    | true => exact decide_eq_true (by have := (HC.out.1 rfl).2.2; omega)
    | false => exact decide_eq_false (fun h => by have := HC.out.2 ⟨ha, hb, by omega⟩; cases this)
  clear HF HC ha hb
  go_wp2_with fail
  refine (K.out _).mono ?_
  rintro e w1 ⟨rfl, rfl⟩
  go_wp2_with fail
  refine (K2.out _).mono ?_
  rintro e w1 ⟨rfl, rfl⟩
  go_wp2_with fail
  go_ret
  exact ⟨rfl, B0.out⟩

set_option maxRecDepth 100000 in
set_option maxHeartbeats 1600000 in
theorem specInnerText_any (a b : Int) (t s : ByteArray) (ok : Bool) (h : InnerTextIs a b t s ok) (w : World) :
    Calls Tryd.prog 17 #[.agg #[.int .i64 a, .int .i64 b, .string t]] w fun e w' => e = .returned (.tuple #[.string s, .bool ok]) ∧ Below w.heap.size w w' := by
  have A0 := Lib.hid (VarA.new w InnerT #[.int .i64 a, .int .i64 b, .string t])
  have B0 := Lib.hid ((Below.refl w.heap.size w).alloc (Nat.le_refl _) (.cells #[.int .i64 a, .int .i64 b, .string t] InnerT))
  go_enter Tryd.func17, Tryd.ntmps17
  go_upto_region 1 with fail
  generalize w.alloc (.cells #[.int .i64 a, .int .i64 b, .string t] InnerT) = Y at *
  have c0 : Y.cell? ⟨w.heap.size, 0, none⟩ = some (.int .i64 a) := A0.out.cell 0
  have c1 : Y.cell? ⟨w.heap.size, 1, none⟩ = some (.int .i64 b) := A0.out.cell 1
  have c2 : Y.cell? ⟨w.heap.size, 2, none⟩ = some (.string t) := A0.out.cell 2
  rcases h with ⟨rfl, hp, hs⟩ | ⟨rfl, hp, rfl⟩
  · have K := Lib.hid (specInnerOk_bool a b t true ⟨fun _ => hp, fun _ => rfl⟩ Y)
    obtain ⟨m, rfl⟩ := Int.eq_ofNat_of_zero_le hp.1.1
    obtain ⟨n, rfl⟩ := Int.eq_ofNat_of_zero_le hp.2.1.1
    have hm : m < 4294967296 := by have := hp.1; omega
    have hn : n < 4294967296 := by have := hp.2.1; omega
    have hz := hp.2.2
    rw [Int.toNat_natCast, Int.toNat_natCast] at hs
    unfold innerT fourB at hs
    clear hp
    have HS := Lib.hid hs
    clear hs
    go_wp2_with fail
    refine (K.out).mono ?_
    rintro e X ⟨rfl, hb⟩
    replace A0 := Lib.hid (A0.out.next hb)
    replace B0 := Lib.hid (B0.out.trans (hb.mono B0.out.size))
    clear hb K c0 c1 c2
    have l1 : ¬ 9223372036854775807 < (four m).length + (four n).length := by rw [four_length, four_length]; omega
    have l2 : ¬ 9223372036854775807 < (four m).length + (four n).length + t.size := by rw [four_length, four_length]; omega
    have SS : ∀ Z : World, Below X.heap.size X Z → Z.cell? ⟨w.heap.size, 0, none⟩ = some (.int .i64 (m : Int)) ∧ Z.cell? ⟨w.heap.size, 1, none⟩ = some (.int .i64 (n : Int)) ∧ Z.cell? ⟨w.heap.size, 2, none⟩ = some (.string t) ∧ Below X.heap.size X Z := fun Z hZ => ⟨(A0.out.next hZ).cell 0, (A0.out.next hZ).cell 1, (A0.out.next hZ).cell 2, hZ⟩
    have S0 := SS X.drew (Below.refl _ _).drew
    have KN : Hid (∀ (k : Nat) (Z : World), k < 4294967296 → (Z.cell? ⟨w.heap.size, 0, none⟩ = some (.int .i64 (m : Int)) ∧ Z.cell? ⟨w.heap.size, 1, none⟩ = some (.int .i64 (n : Int)) ∧ Z.cell? ⟨w.heap.size, 2, none⟩ = some (.string t) ∧ Below X.heap.size X Z) → Calls Tryd.prog 32 #[.int .i64 (k : Int)] Z fun e Y => e = .returned (.string ⟨(four k).toArray⟩) ∧ (Y.cell? ⟨w.heap.size, 0, none⟩ = some (.int .i64 (m : Int)) ∧ Y.cell? ⟨w.heap.size, 1, none⟩ = some (.int .i64 (n : Int)) ∧ Y.cell? ⟨w.heap.size, 2, none⟩ = some (.string t) ∧ Below X.heap.size X Y)) := Lib.hid (fun k Z hk hZ => (specNumberText_yes k hk Z).mono fun e Y h => ⟨h.1, SS Y (hZ.2.2.2.trans (h.2.mono hZ.2.2.2.size))⟩)
    clear SS
    go_wp2_with fail
    go_region_held3 (fun Z => Z.cell? ⟨w.heap.size, 0, none⟩ = some (.int .i64 (m : Int)) ∧ Z.cell? ⟨w.heap.size, 1, none⟩ = some (.int .i64 (n : Int)) ∧ Z.cell? ⟨w.heap.size, 2, none⟩ = some (.string t) ∧ Below X.heap.size X Z) (first | (with_reducible assumption)) (first | (go_at_call 32; refine (KN.out _ _ (by assumption) (by assumption)).mono ?_; rintro e v1 ⟨rfl, hS⟩))
    all_goals
      have B := Lib.hid (B0.out.trans (hS.2.2.2.mono B0.out.size))
      clear hS
      go_wp2_with fail
      go_ret2
      exact ⟨by rw [HS.out]; rfl, B.out⟩
  · have K := Lib.hid (specInnerOk_bool a b t false ⟨fun e => (by cases e), fun e => absurd e hp⟩ Y)
    clear hp
    go_wp2_with fail
    refine (K.out).mono ?_
    rintro e X ⟨rfl, hb⟩
    have B := Lib.hid (B0.out.trans (hb.mono B0.out.size))
    clear hb K
    go_wp2_with fail
    go_ret2
    exact ⟨rfl, B.out⟩

/-- What ReadInner hands back. -/
def ReadEnd (a b : Int) (t : ByteArray) (ok : Bool) (w : World) (e : Ending) (w' : World) : Prop := e = .returned (.tuple #[.agg #[.int .i64 a, .int .i64 b, .string t], .bool ok]) ∧ Below w.heap.size w w'

set_option maxRecDepth 100000 in
set_option maxHeartbeats 1600000 in
theorem specReadInner_any (s : ByteArray) (a b : Int) (t : ByteArray) (ok : Bool) (hs : s.size ≤ 9223372036854775807) (h : ReadInnerIs s a b t ok) (w : World) :
    Calls Tryd.prog 12 #[.string s] w (ReadEnd a b t ok w) := by
  obtain ⟨Q, HQ⟩ : ∃ Q : Ending → World → Prop, Hid (Q = ReadEnd a b t ok w) := ⟨_, Lib.hid rfl⟩
  rw [← HQ.out]
  have A0 := Lib.hid (VarA.new w InnerT #[.int .i64 0, .int .i64 0, .string ⟨#[]⟩])
  have B0 := Lib.hid ((Below.refl w.heap.size w).alloc (Nat.le_refl _) (.cells #[.int .i64 0, .int .i64 0, .string ⟨#[]⟩] InnerT))
  have hsz : (w.alloc (.cells #[.int .i64 0, .int .i64 0, .string ⟨#[]⟩] InnerT)).heap.size = w.heap.size + 1 := by simp
  go_enter Tryd.func12, Tryd.ntmps12
  go_upto_region 1 with fail
  generalize w.alloc (.cells #[.int .i64 0, .int .i64 0, .string ⟨#[]⟩] InnerT) = Y at *
  rcases h with ⟨rfl, ⟨h1, h2⟩, ha, hb, ht⟩ | ⟨rfl, hp, rfl, rfl, rfl⟩
  · have K := Lib.hid (inRange_yes (s.size : Int) 8 108 (by omega) (by omega))
    have K1 := Lib.hid (specReadNumber_yes (s.extract 0 4) (by rw [ByteArray.size_extract]; omega))
    have K2 := Lib.hid (specReadNumber_yes (s.extract 4 8) (by rw [ByteArray.size_extract]; omega))
    have ha' : ((fourBack (s.extract 0 4).data.toList : Nat) : Int) = a := ha.symm
    have hb' : ((fourBack (s.extract 4 8).data.toList : Nat) : Int) = b := hb.symm
    have z8 : (8 : Int) ≤ (s.size : Int) := by omega
    have z4 : (4 : Int) ≤ (s.size : Int) := by omega
    rw [ha'] at K1
    rw [hb'] at K2
    clear ha hb ha' hb'
    have D0 := Lib.hid (VarA.new Y InnerT #[.int .i64 0, .int .i64 0, .string (s.extract 8 s.size)])
    go_wp2_with fail
    refine (K.out _).mono ?_
    rintro e w1 ⟨rfl, rfl⟩
    have B1 : Hid (Below w.heap.size w (w1.alloc (.cells #[.int .i64 0, .int .i64 0, .string (s.extract 8 s.size)] InnerT))) := Lib.hid (B0.out.alloc B0.out.size _)
    have R1 := Lib.hid (A0.out.alloc (.cells #[.int .i64 0, .int .i64 0, .string (s.extract 8 s.size)] InnerT))
    rw [← ht] at D0 B1 R1
    clear B0 A0
    go_upto_region 4 with fail
    rw [← ht]
    generalize w1.alloc (.cells #[.int .i64 0, .int .i64 0, .string t] InnerT) = X at *
    rw [hsz] at D0
    clear hsz ht
    go_wp2_with fail
    refine (K1.out _).mono ?_
    rintro e X1 ⟨rfl, hb⟩
    replace D0 := Lib.hid (D0.out.next hb)
    replace R1 := Lib.hid (R1.out.next hb)
    replace B1 := Lib.hid (B1.out.trans (hb.mono B1.out.size))
    have c0 : X1.cell? ⟨w.heap.size + 1, 0, none⟩ = some (.int .i64 0) := D0.out.cell 0
    have f0 := D0.out.free 0
    have D1 := Lib.hid (D0.out.set 0 (.int .i64 a))
    have R2 := Lib.hid (R1.out.off 0 (.int .i64 a) (show w.heap.size ≠ w.heap.size + 1 by omega))
    have B2 := Lib.hid (B1.out.setCell (p := ⟨w.heap.size + 1, 0, none⟩) (by show w.heap.size ≤ w.heap.size + 1; omega) (.int .i64 a))
    clear hb K1 B1 R1 D0
    go_upto_region 5 with fail
    generalize X1.setCell ⟨w.heap.size + 1, 0, none⟩ (.int .i64 a) = X2 at *
    clear c0 f0
    go_wp2_with fail
    refine (K2.out _).mono ?_
    rintro e X3 ⟨rfl, hb⟩
    replace D1 := Lib.hid (D1.out.next hb)
    replace R2 := Lib.hid (R2.out.next hb)
    replace B2 := Lib.hid (B2.out.trans (hb.mono B2.out.size))
    have c1 : X3.cell? ⟨w.heap.size + 1, 1, none⟩ = some (.int .i64 0) := D1.out.cell 1
    have f1 := D1.out.free 1
    have D2 := Lib.hid (D1.out.set 1 (.int .i64 b))
    have R3 := Lib.hid (R2.out.off 1 (.int .i64 b) (show w.heap.size ≠ w.heap.size + 1 by omega))
    have B3 := Lib.hid (B2.out.setCell (p := ⟨w.heap.size + 1, 1, none⟩) (by show w.heap.size ≤ w.heap.size + 1; omega) (.int .i64 b))
    clear hb K2 B2 R2 D1
    go_upto_region 6 with fail
    generalize X3.setCell ⟨w.heap.size + 1, 1, none⟩ (.int .i64 b) = X4 at *
    clear c1 f1
    have c0 : X4.cell? ⟨w.heap.size + 1, 0, none⟩ = some (.int .i64 a) := D2.out.cell 0
    have c1 : X4.cell? ⟨w.heap.size + 1, 1, none⟩ = some (.int .i64 b) := D2.out.cell 1
    have c2 : X4.cell? ⟨w.heap.size + 1, 2, none⟩ = some (.string t) := D2.out.cell 2
    have d0 : X4.cell? ⟨w.heap.size, 0, none⟩ = some (.int .i64 0) := R3.out.cell 0
    have d1 : X4.cell? ⟨w.heap.size, 1, none⟩ = some (.int .i64 0) := R3.out.cell 1
    have d2 : X4.cell? ⟨w.heap.size, 2, none⟩ = some (.string ⟨#[]⟩) := R3.out.cell 2
    have f0 := R3.out.free 0
    have f1 := R3.out.free 1
    have f2 := R3.out.free 2
    have r0 := (((R3.out.set 0 (.int .i64 a)).set 1 (.int .i64 b)).set 2 (.string t)).cell 0
    have r1 := (((R3.out.set 0 (.int .i64 a)).set 1 (.int .i64 b)).set 2 (.string t)).cell 1
    have r2 := (((R3.out.set 0 (.int .i64 a)).set 1 (.int .i64 b)).set 2 (.string t)).cell 2
    have E : Hid (Q (.returned (.tuple #[.agg #[.int .i64 a, .int .i64 b, .string t], .bool true])) (((X4.setCell ⟨w.heap.size, 0, none⟩ (.int .i64 a)).setCell ⟨w.heap.size, 1, none⟩ (.int .i64 b)).setCell ⟨w.heap.size, 2, none⟩ (.string t))) := Lib.hid (by
      rw [HQ.out]
      exact ⟨rfl, ((B3.out.setCell (p := ⟨w.heap.size, 0, none⟩) (Nat.le_refl _) _).setCell (p := ⟨w.heap.size, 1, none⟩) (Nat.le_refl _) _).setCell (p := ⟨w.heap.size, 2, none⟩) (Nat.le_refl _) _⟩)
    clear R3 D2 B3
    go_wp2_with fail
    exact bodyPost_ret (v := .tuple #[.agg #[.int .i64 a, .int .i64 b, .string t], .bool true]) (by simp [results, Tryd.results12, go_sem, r0, r1, r2]) rfl E.out
  · have K := Lib.hid (inRange_no (s.size : Int) 8 108 (by omega))
    have c0 : Y.cell? ⟨w.heap.size, 0, none⟩ = some (.int .i64 0) := A0.out.cell 0
    have c1 : Y.cell? ⟨w.heap.size, 1, none⟩ = some (.int .i64 0) := A0.out.cell 1
    have c2 : Y.cell? ⟨w.heap.size, 2, none⟩ = some (.string ⟨#[]⟩) := A0.out.cell 2
    have f0 := A0.out.free 0
    have f1 := A0.out.free 1
    have f2 := A0.out.free 2
    have E : Hid (Q (.returned (.tuple #[.agg #[.int .i64 0, .int .i64 0, .string ⟨#[]⟩], .bool false])) (((Y.setCell ⟨w.heap.size, 0, none⟩ (.int .i64 0)).setCell ⟨w.heap.size, 1, none⟩ (.int .i64 0)).setCell ⟨w.heap.size, 2, none⟩ (.string ⟨#[]⟩))) := Lib.hid (by
      rw [HQ.out]
      exact ⟨rfl, ((B0.out.setCell (p := ⟨w.heap.size, 0, none⟩) (Nat.le_refl _) _).setCell (p := ⟨w.heap.size, 1, none⟩) (Nat.le_refl _) _).setCell (p := ⟨w.heap.size, 2, none⟩) (Nat.le_refl _) _⟩)
    clear hp
    go_wp2_with fail
    refine (K.out _).mono ?_
    rintro e w1 ⟨rfl, rfl⟩
    have r0 := (((A0.out.set 0 (.int .i64 0)).set 1 (.int .i64 0)).set 2 (.string ⟨#[]⟩)).cell 0
    have r1 := (((A0.out.set 0 (.int .i64 0)).set 1 (.int .i64 0)).set 2 (.string ⟨#[]⟩)).cell 1
    have r2 := (((A0.out.set 0 (.int .i64 0)).set 1 (.int .i64 0)).set 2 (.string ⟨#[]⟩)).cell 2
    go_wp2_with fail
    exact bodyPost_ret (v := .tuple #[.agg #[.int .i64 0, .int .i64 0, .string ⟨#[]⟩], .bool false]) (by simp [results, Tryd.results12, go_sem, r0, r1, r2]) rfl E.out

end Go.Proofs.YthiicpbedgcmlaaDoor
namespace Go.Proofs.YthiicpbedgcmlaaDoor
open Go.RowKit

/-- The program's contracts; L is what the worlds must hold. -/
structure InnerFns (L : World → Prop) : Prop where
  stays : ∀ X Y : World, L X → Below X.heap.size X Y → L Y
  ok : ∀ (a b : Int) (t : ByteArray) (c : Bool), (c = true ↔ InnerP a b t) → t.size ≤ 1048576 → ∀ X : World, L X → Calls Tryd.prog 14 #[.agg #[.int .i64 a, .int .i64 b, .string t]] X fun e Y => e = .returned (.bool c) ∧ Below X.heap.size X Y
  text : ∀ (a b : Int) (t s : ByteArray) (c : Bool), InnerTextIs a b t s c → t.size ≤ 1048576 → ∀ X : World, L X → Calls Tryd.prog 9 #[.agg #[.int .i64 a, .int .i64 b, .string t]] X fun e Y => e = .returned (.tuple #[.string s, .bool c]) ∧ Below X.heap.size X Y
  read : ∀ (s : ByteArray) (a b : Int) (t : ByteArray) (c : Bool), ReadInnerIs s a b t c → s.size ≤ 1048576 → ∀ X : World, L X → Calls Tryd.prog 10 #[.string s] X (ReadEnd a b t c X)

theorem innerFields : Tryd.prog.underlying InnerT = some (.struct (Tryd.prog.fieldsOf InnerT)) := by kernel_rfl
theorem innerStood : Tryd.prog.stoodInHeld InnerT = false := by kernel_rfl
theorem inner_eq (a b c d : Int) (s t : ByteArray) (w : World) : (Op.equalIn 10000 InnerT (.agg #[.int .i64 a, .int .i64 b, .string s]) (.agg #[.int .i64 c, .int .i64 d, .string t])).run Tryd.prog w = .ok (a == c && b == d && s.toList == t.toList) w := by
  have u3 := Tryd.underlying3
  have a3 := Tryd.isAgg3
  have z3 := Tryd.sizeOf3
  have u9 := Tryd.underlying9
  have a9 := Tryd.isAgg9
  have z9 := Tryd.sizeOf9
  rw [show (10000 : Nat) = 9999 + 1 from rfl, run_equalIn_agg w 9999 InnerT _ _ innerFields innerStood]
  simp only [Program.fieldsOf, Tryd.underlying25]
  go_simp
  by_cases h1 : a = c <;> by_cases h2 : b = d <;> by_cases h3 : s.toList = t.toList <;> simp [h1, h2, h3]
theorem inner_same (a b : Int) (t : ByteArray) (w : World) : (Op.equalIn 10000 InnerT (.agg #[.int .i64 a, .int .i64 b, .string t]) (.agg #[.int .i64 a, .int .i64 b, .string t])).run Tryd.prog w = .ok true w := by
  rw [inner_eq]
  simp

end Go.Proofs.YthiicpbedgcmlaaDoor
