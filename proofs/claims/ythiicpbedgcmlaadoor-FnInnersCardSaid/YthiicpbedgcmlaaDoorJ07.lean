/-
  The program's inner packets: what is wrong with one, its bytes, one read.
  The program's inner packets: their bytes; one read, not yet copied.
-/
import Derived.Test.YthiicpbedgcmlaaDoorJ05
import Derived.Test.YthiicpbedgcmlaaDoorJ04
import Derived.Test.YthiicpbedgcmlaaDoorJ06
namespace Go.Proofs.YthiicpbedgcmlaaDoor
open Go.RowKit

abbrev FaultT : TypeId := 66

theorem innerCode_nil (w : World) : Calls Tryd.prog 23 #[.nilIface] w fun e w' => e = .returned (.int .i64 0) ∧ Below w.heap.size w w' := by
  have K := Lib.hid as_nil
  go_enter Tryd.func23, Tryd.ntmps23
  go_wp2_with fail
  refine (K.out _ _).mono ?_
  rintro e w1 ⟨rfl, rfl⟩
  go_wp2_with fail
  go_ret
  exact ⟨rfl, (Below.refl _ _).alloc (Nat.le_refl _) _⟩

set_option maxHeartbeats 800000 in
theorem innerCode_fault (c : Int) (w : World) (hL : LaidE w) : Calls Tryd.prog 23 #[.iface FaultT (.agg #[.int .i64 c])] w fun e w' => e = .returned (.int .i64 c) ∧ Below w.heap.size w w' := by
  have V := VarA.new w FaultT #[.int .i64 0]
  have B := (Below.refl w.heap.size w).alloc (Nat.le_refl _) (.cells #[.int .i64 0] FaultT)
  have K := Lib.hid (as_hit c w.heap.size (.int .i64 0) (w.alloc (.cells #[.int .i64 0] FaultT)) (LaidE.all _ _ hL B) (V.cell 0) (V.free 0))
  have VH := Lib.hid V
  have BH := Lib.hid B
  clear V B
  go_enter Tryd.func23, Tryd.ntmps23
  go_wp2_with fail
  refine (K.out).mono ?_
  rintro e w1 ⟨rfl, rfl⟩
  generalize w.alloc (.cells #[.int .i64 0] FaultT) = Y at *
  have V1 := ((((VH.out.alloc (.cells #[.pointer (some ⟨w.heap.size, 0, none⟩)] 69)).alloc (.cells #[.pointer (some ⟨1, 69, none⟩), .pointer (some ⟨Y.heap.size, 0, none⟩), .int .u64 150] 74)).alloc (.cells #[.pointer (some ⟨1, 69, none⟩), .pointer (some ⟨Y.heap.size, 0, none⟩), .int .u64 150] 74)).alloc (.cells #[.int .i64 c] FaultT)).set 0 (.int .i64 c)
  have B1 := ((((BH.out.alloc BH.out.size (.cells #[.pointer (some ⟨w.heap.size, 0, none⟩)] 69)).alloc (by have := BH.out.size; simp; omega) (.cells #[.pointer (some ⟨1, 69, none⟩), .pointer (some ⟨Y.heap.size, 0, none⟩), .int .u64 150] 74)).alloc (by have := BH.out.size; simp; omega) (.cells #[.pointer (some ⟨1, 69, none⟩), .pointer (some ⟨Y.heap.size, 0, none⟩), .int .u64 150] 74)).alloc (by have := BH.out.size; simp; omega) (.cells #[.int .i64 c] FaultT)).setCell (p := ⟨w.heap.size, 0, none⟩) (Nat.le_refl _) (.int .i64 c)
  have c1 := V1.cell 0
  have B2 := Lib.hid B1
  clear V1 B1 VH BH K
  generalize World.setCell _ ⟨w.heap.size, 0, none⟩ (.int .i64 c) = Z at *
  have c2 : Z.cell? ⟨w.heap.size, 0, none⟩ = some (.int .i64 c) := c1
  clear c1
  go_wp2_with fail
  go_ret
  exact ⟨rfl, B2.out⟩

/-- What is wrong with an inner packet, as a value. -/
def FaultIs (a b : Int) (t : ByteArray) (v : Value) : Prop := (InnerP a b t ∧ v = .nilIface) ∨ (¬ InnerP a b t ∧ ∃ c : Int, c ≠ 0 ∧ v = .iface FaultT (.agg #[.int .i64 c]))

set_option maxRecDepth 100000 in
set_option maxHeartbeats 800000 in
theorem innerFaultOf_any (a b : Int) (t : ByteArray) : ∃ v, FaultIs a b t v ∧ ∀ w : World, Calls Tryd.prog 31 #[.agg #[.int .i64 a, .int .i64 b, .string t]] w fun e w' => e = .returned v ∧ Below w.heap.size w w' := by
  by_cases ha : 0 ≤ a ∧ a ≤ 4294967295
  · have K1 := Lib.hid (implAddrOk_yes a ha.1 ha.2)
    by_cases hb : 0 ≤ b ∧ b ≤ 4294967295
    · have K2 := Lib.hid (implAddrOk_yes b hb.1 hb.2)
      by_cases ht : t.size ≤ 100
      · refine ⟨.nilIface, .inl ⟨⟨ha, hb, ht⟩, rfl⟩, fun w => ?_⟩
        have hd : ¬ 100 < (t.size : Int) := by omega
        have A0 := Lib.hid (VarA.new w InnerT #[.int .i64 a, .int .i64 b, .string t])
        have B0 := Lib.hid ((Below.refl w.heap.size w).alloc (Nat.le_refl _) (.cells #[.int .i64 a, .int .i64 b, .string t] InnerT))
        clear ha hb ht
        go_enter Tryd.func31, Tryd.ntmps31
        go_upto_region 1 with fail
        generalize w.alloc (.cells #[.int .i64 a, .int .i64 b, .string t] InnerT) = Y at *
        have c0 : Y.cell? ⟨w.heap.size, 0, none⟩ = some (.int .i64 a) := A0.out.cell 0
        go_wp2_with fail
        refine (K1.out _).mono ?_
        rintro e X ⟨rfl, h1⟩
        replace A0 := Lib.hid (A0.out.next h1)
        replace B0 := Lib.hid (B0.out.trans (h1.mono B0.out.size))
        have c1 : X.cell? ⟨w.heap.size, 1, none⟩ = some (.int .i64 b) := A0.out.cell 1
        clear h1 c0
        go_wp2_with fail
        refine (K2.out _).mono ?_
        rintro e Z ⟨rfl, h1⟩
        replace A0 := Lib.hid (A0.out.next h1)
        replace B0 := Lib.hid (B0.out.trans (h1.mono B0.out.size))
        have c2 : Z.cell? ⟨w.heap.size, 2, none⟩ = some (.string t) := A0.out.cell 2
        clear h1 c1
        go_wp2_with fail
        go_ret
        exact ⟨rfl, B0.out⟩
      · refine ⟨.iface FaultT (.agg #[.int .i64 3]), .inr ⟨fun h => ht h.2.2, 3, by omega, rfl⟩, fun w => ?_⟩
        have hd : 100 < (t.size : Int) := by omega
        have A0 := Lib.hid (VarA.new w InnerT #[.int .i64 a, .int .i64 b, .string t])
        have B0 := Lib.hid ((Below.refl w.heap.size w).alloc (Nat.le_refl _) (.cells #[.int .i64 a, .int .i64 b, .string t] InnerT))
        clear ha hb ht
        go_enter Tryd.func31, Tryd.ntmps31
        go_upto_region 1 with fail
        generalize w.alloc (.cells #[.int .i64 a, .int .i64 b, .string t] InnerT) = Y at *
        have c0 : Y.cell? ⟨w.heap.size, 0, none⟩ = some (.int .i64 a) := A0.out.cell 0
        go_wp2_with fail
        refine (K1.out _).mono ?_
        rintro e X ⟨rfl, h1⟩
        replace A0 := Lib.hid (A0.out.next h1)
        replace B0 := Lib.hid (B0.out.trans (h1.mono B0.out.size))
        have c1 : X.cell? ⟨w.heap.size, 1, none⟩ = some (.int .i64 b) := A0.out.cell 1
        clear h1 c0
        go_wp2_with fail
        refine (K2.out _).mono ?_
        rintro e Z ⟨rfl, h1⟩
        replace A0 := Lib.hid (A0.out.next h1)
        replace B0 := Lib.hid (B0.out.trans (h1.mono B0.out.size))
        have c2 : Z.cell? ⟨w.heap.size, 2, none⟩ = some (.string t) := A0.out.cell 2
        clear h1 c1
        go_wp2_with fail
        go_ret
        exact ⟨rfl, B0.out⟩
    · refine ⟨.iface FaultT (.agg #[.int .i64 2]), .inr ⟨fun h => hb h.2.1, 2, by omega, rfl⟩, fun w => ?_⟩
      have K2 := Lib.hid (implAddrOk_no b (by omega))
      have A0 := Lib.hid (VarA.new w InnerT #[.int .i64 a, .int .i64 b, .string t])
      have B0 := Lib.hid ((Below.refl w.heap.size w).alloc (Nat.le_refl _) (.cells #[.int .i64 a, .int .i64 b, .string t] InnerT))
      clear ha hb
      go_enter Tryd.func31, Tryd.ntmps31
      go_upto_region 1 with fail
      generalize w.alloc (.cells #[.int .i64 a, .int .i64 b, .string t] InnerT) = Y at *
      have c0 : Y.cell? ⟨w.heap.size, 0, none⟩ = some (.int .i64 a) := A0.out.cell 0
      go_wp2_with fail
      refine (K1.out _).mono ?_
      rintro e X ⟨rfl, h1⟩
      replace A0 := Lib.hid (A0.out.next h1)
      replace B0 := Lib.hid (B0.out.trans (h1.mono B0.out.size))
      have c1 : X.cell? ⟨w.heap.size, 1, none⟩ = some (.int .i64 b) := A0.out.cell 1
      clear h1 c0
      go_wp2_with fail
      refine (K2.out _).mono ?_
      rintro e Z ⟨rfl, h1⟩
      replace B0 := Lib.hid (B0.out.trans (h1.mono B0.out.size))
      clear h1 c1
      go_wp2_with fail
      go_ret
      exact ⟨rfl, B0.out⟩
  · refine ⟨.iface FaultT (.agg #[.int .i64 1]), .inr ⟨fun h => ha h.1, 1, by omega, rfl⟩, fun w => ?_⟩
    have K1 := Lib.hid (implAddrOk_no a (by omega))
    have A0 := Lib.hid (VarA.new w InnerT #[.int .i64 a, .int .i64 b, .string t])
    have B0 := Lib.hid ((Below.refl w.heap.size w).alloc (Nat.le_refl _) (.cells #[.int .i64 a, .int .i64 b, .string t] InnerT))
    clear ha
    go_enter Tryd.func31, Tryd.ntmps31
    go_upto_region 1 with fail
    generalize w.alloc (.cells #[.int .i64 a, .int .i64 b, .string t] InnerT) = Y at *
    have c0 : Y.cell? ⟨w.heap.size, 0, none⟩ = some (.int .i64 a) := A0.out.cell 0
    go_wp2_with fail
    refine (K1.out _).mono ?_
    rintro e X ⟨rfl, h1⟩
    replace B0 := Lib.hid (B0.out.trans (h1.mono B0.out.size))
    clear h1 c0
    go_wp2_with fail
    go_ret
    exact ⟨rfl, B0.out⟩

/-- The code of what is wrong: none iff nothing is. -/
theorem innerCode_of (a b : Int) (t : ByteArray) (v : Value) (h : FaultIs a b t v) : ∃ c : Int, (c = 0 ↔ InnerP a b t) ∧ ∀ w : World, LaidE w → Calls Tryd.prog 23 #[v] w fun e w' => e = .returned (.int .i64 c) ∧ Below w.heap.size w w' := by
  rcases h with ⟨hp, rfl⟩ | ⟨hp, c, hc, rfl⟩
  · exact ⟨0, ⟨fun _ => hp, fun _ => rfl⟩, fun w _ => innerCode_nil w⟩
  · exact ⟨c, ⟨fun e => absurd e hc, fun e => absurd e hp⟩, fun w hL => innerCode_fault c w hL⟩

set_option maxRecDepth 100000 in
set_option maxHeartbeats 800000 in
theorem implInnerOk_bool (a b : Int) (t : ByteArray) (c : Bool) (hc : c = true ↔ InnerP a b t) (w : World) (hL : LaidE w) :
    Calls Tryd.prog 14 #[.agg #[.int .i64 a, .int .i64 b, .string t]] w fun e w' => e = .returned (.bool c) ∧ Below w.heap.size w w' := by
  obtain ⟨v, hv, k1⟩ := innerFaultOf_any a b t
  obtain ⟨n, hn, k2⟩ := innerCode_of a b t v hv
  have hcn : (n == 0) = c := by
    cases c with
    | true => exact beq_iff_eq.2 (hn.2 (hc.1 rfl))
    | false => exact beq_eq_false_iff_ne.2 (fun e => by have := hc.2 (hn.1 e); cases this)
  have K1 := Lib.hid k1
  have K2 := Lib.hid k2
  have LH := Lib.hid hL
  have A0 := Lib.hid (VarA.new w InnerT #[.int .i64 a, .int .i64 b, .string t])
  have B0 := Lib.hid ((Below.refl w.heap.size w).alloc (Nat.le_refl _) (.cells #[.int .i64 a, .int .i64 b, .string t] InnerT))
  clear k1 k2 hv hn hc hL
  go_enter Tryd.func14, Tryd.ntmps14
  go_upto_region 1 with fail
  generalize w.alloc (.cells #[.int .i64 a, .int .i64 b, .string t] InnerT) = Y at *
  have c0 : Y.cell? ⟨w.heap.size, 0, none⟩ = some (.int .i64 a) := A0.out.cell 0
  have c1 : Y.cell? ⟨w.heap.size, 1, none⟩ = some (.int .i64 b) := A0.out.cell 1
  have c2 : Y.cell? ⟨w.heap.size, 2, none⟩ = some (.string t) := A0.out.cell 2
  go_wp2_with fail
  refine (K1.out _).mono ?_
  rintro e X ⟨rfl, h1⟩
  replace B0 := Lib.hid (B0.out.trans (h1.mono B0.out.size))
  clear h1 c0 c1 c2
  go_wp2_with fail
  refine (K2.out _ (LaidE.all _ _ LH.out B0.out)).mono ?_
  rintro e Z ⟨rfl, h1⟩
  replace B0 := Lib.hid (B0.out.trans (h1.mono B0.out.size))
  clear h1
  go_wp2_with fail
  go_ret
  exact ⟨rfl, B0.out⟩

end Go.Proofs.YthiicpbedgcmlaaDoor
namespace Go.Proofs.YthiicpbedgcmlaaDoor
open Go.RowKit

set_option maxRecDepth 100000 in
set_option maxHeartbeats 1600000 in
theorem implInnerText_any (a b : Int) (t s : ByteArray) (ok : Bool) (h : InnerTextIs a b t s ok) (w : World) (hL : LaidE w) :
    Calls Tryd.prog 9 #[.agg #[.int .i64 a, .int .i64 b, .string t]] w fun e w' => e = .returned (.tuple #[.string s, .bool ok]) ∧ Below w.heap.size w w' := by
  have LH := Lib.hid hL
  have A0 := Lib.hid (VarA.new w InnerT #[.int .i64 a, .int .i64 b, .string t])
  have B0 := Lib.hid ((Below.refl w.heap.size w).alloc (Nat.le_refl _) (.cells #[.int .i64 a, .int .i64 b, .string t] InnerT))
  clear hL
  go_enter Tryd.func9, Tryd.ntmps9
  go_upto_region 1 with fail
  generalize w.alloc (.cells #[.int .i64 a, .int .i64 b, .string t] InnerT) = Y at *
  have c0 : Y.cell? ⟨w.heap.size, 0, none⟩ = some (.int .i64 a) := A0.out.cell 0
  have c1 : Y.cell? ⟨w.heap.size, 1, none⟩ = some (.int .i64 b) := A0.out.cell 1
  have c2 : Y.cell? ⟨w.heap.size, 2, none⟩ = some (.string t) := A0.out.cell 2
  rcases h with ⟨rfl, hp, hs⟩ | ⟨rfl, hp, rfl⟩
  · have K := Lib.hid (implInnerOk_bool a b t true ⟨fun _ => hp, fun _ => rfl⟩ Y (LaidE.all _ _ LH.out B0.out))
    obtain ⟨m, rfl⟩ := Int.eq_ofNat_of_zero_le hp.1.1
    obtain ⟨n, rfl⟩ := Int.eq_ofNat_of_zero_le hp.2.1.1
    have hm : m < 4294967296 := by have := hp.1; omega
    have hn : n < 4294967296 := by have := hp.2.1; omega
    have hz := hp.2.2
    rw [Int.toNat_natCast, Int.toNat_natCast] at hs
    unfold innerT fourB at hs
    clear hp
    have HS := Lib.hid hs
    clear hs
    go_wp2_with fail
    refine (K.out).mono ?_
    rintro e X ⟨rfl, hb⟩
    replace A0 := Lib.hid (A0.out.next hb)
    replace B0 := Lib.hid (B0.out.trans (hb.mono B0.out.size))
    clear hb K c0 c1 c2
    have l1 : ¬ 9223372036854775807 < (four m).length + (four n).length := by rw [four_length, four_length]; omega
    have l2 : ¬ 9223372036854775807 < (four m).length + (four n).length + t.size := by rw [four_length, four_length]; omega
    have SS : ∀ Z : World, Below X.heap.size X Z → Z.cell? ⟨w.heap.size, 0, none⟩ = some (.int .i64 (m : Int)) ∧ Z.cell? ⟨w.heap.size, 1, none⟩ = some (.int .i64 (n : Int)) ∧ Z.cell? ⟨w.heap.size, 2, none⟩ = some (.string t) ∧ Below X.heap.size X Z := fun Z hZ => ⟨(A0.out.next hZ).cell 0, (A0.out.next hZ).cell 1, (A0.out.next hZ).cell 2, hZ⟩
    have S0 := SS X.drew (Below.refl _ _).drew
    have KN : Hid (∀ (k : Nat) (Z : World), k < 4294967296 → (Z.cell? ⟨w.heap.size, 0, none⟩ = some (.int .i64 (m : Int)) ∧ Z.cell? ⟨w.heap.size, 1, none⟩ = some (.int .i64 (n : Int)) ∧ Z.cell? ⟨w.heap.size, 2, none⟩ = some (.string t) ∧ Below X.heap.size X Z) → Calls Tryd.prog 21 #[.int .i64 (k : Int)] Z fun e Y => e = .returned (.string ⟨(four k).toArray⟩) ∧ (Y.cell? ⟨w.heap.size, 0, none⟩ = some (.int .i64 (m : Int)) ∧ Y.cell? ⟨w.heap.size, 1, none⟩ = some (.int .i64 (n : Int)) ∧ Y.cell? ⟨w.heap.size, 2, none⟩ = some (.string t) ∧ Below X.heap.size X Y)) := Lib.hid (fun k Z hk hZ => (implNumberText_yes k hk Z).mono fun e Y h => ⟨h.1, SS Y (hZ.2.2.2.trans (h.2.mono hZ.2.2.2.size))⟩)
    clear SS
    go_wp2_with fail
    go_region_held3 (fun Z => Z.cell? ⟨w.heap.size, 0, none⟩ = some (.int .i64 (m : Int)) ∧ Z.cell? ⟨w.heap.size, 1, none⟩ = some (.int .i64 (n : Int)) ∧ Z.cell? ⟨w.heap.size, 2, none⟩ = some (.string t) ∧ Below X.heap.size X Z) (first | (with_reducible assumption)) (first | (go_at_call 21; refine (KN.out _ _ (by assumption) (by assumption)).mono ?_; rintro e v1 ⟨rfl, hS⟩))
    all_goals
      have B := Lib.hid (B0.out.trans (hS.2.2.2.mono B0.out.size))
      clear hS
      go_wp2_with fail
      go_ret2
      exact ⟨by rw [HS.out]; rfl, B.out⟩
  · have K := Lib.hid (implInnerOk_bool a b t false ⟨fun e => (by cases e), fun e => absurd e hp⟩ Y (LaidE.all _ _ LH.out B0.out))
    clear hp
    go_wp2_with fail
    refine (K.out).mono ?_
    rintro e X ⟨rfl, hb⟩
    have B := Lib.hid (B0.out.trans (hb.mono B0.out.size))
    clear hb K
    go_wp2_with fail
    go_ret2
    exact ⟨rfl, B.out⟩

/-- The result's variable, and the packet's behind it. -/
structure QIn (w : World) (q : Nat) (a b : Value) (c : Value) (X : World) : Prop where
  one : VarA w.heap.size InnerT #[.int .i64 0, .int .i64 0, .string ⟨#[]⟩] X
  two : VarA q InnerT #[a, b, c] X
  lt : w.heap.size < q
  below : Below w.heap.size w X
theorem QIn.next {w : World} {q : Nat} {a b c : Value} {X Y : World} (h : QIn w q a b c X) (hb : Below X.heap.size X Y) : QIn w q a b c Y := ⟨h.one.next hb, h.two.next hb, h.lt, h.below.trans (hb.mono h.below.size)⟩
/-- Before the packet's variable is there. -/
structure QIo (w : World) (X : World) : Prop where
  one : VarA w.heap.size InnerT #[.int .i64 0, .int .i64 0, .string ⟨#[]⟩] X
  below : Below w.heap.size w X
theorem QIo.next {w : World} {X Y : World} (h : QIo w X) (hb : Below X.heap.size X Y) : QIo w Y := ⟨h.one.next hb, h.below.trans (hb.mono h.below.size)⟩
theorem QIo.drew {w : World} {X : World} (h : QIo w X) : QIo w X.drew := h.next (Below.refl _ X).drew
theorem QIo.alloc {w : World} {X : World} (h : QIo w X) (o : Obj) : QIo w (X.alloc o) := h.next ((Below.refl _ _).alloc (Nat.le_refl _) o)
theorem QIn.new {w : World} {V : World} (h : QIo w V) (a b c : Value) : QIn w V.heap.size a b c (V.alloc (.cells #[a, b, c] InnerT)) := ⟨h.one.next ((Below.refl _ _).alloc (Nat.le_refl _) _), VarA.new V _ _, lt_of_block h.one.row, h.below.alloc h.below.size _⟩
theorem inNewB {w : World} {V Y : World} {a b c : Value} (hT : QIo w V) (hb : Below (V.alloc (.cells #[a, b, c] InnerT)).heap.size (V.alloc (.cells #[a, b, c] InnerT)) Y) : QIn w V.heap.size a b c Y := (QIn.new hT a b c).next hb
theorem inNewA {w : World} {V Y : World} {a b c : Value} (hT : QIo w V) (hb : Below (V.alloc (.cells #[a, b, c] InnerT)).drew.heap.size (V.alloc (.cells #[a, b, c] InnerT)).drew Y) : QIn w V.heap.size a b c Y := inNewB hT ⟨hb.os, hb.tape, hb.output, hb.size, hb.block⟩
theorem inNewC {w : World} {V Y : World} {a b c : Value} (hT : QIo w V) (hb : Below (V.drew.alloc (.cells #[a, b, c] InnerT)).heap.size (V.drew.alloc (.cells #[a, b, c] InnerT)) Y) : QIn w V.heap.size a b c Y := inNewB (V := V.drew) hT.drew hb
theorem QIn.io {w : World} {q : Nat} {a b c : Value} {X : World} (h : QIn w q a b c X) : QIo w X := ⟨h.one, h.below⟩
theorem QIn.set3 {w : World} {q : Nat} {a b c : Value} {X : World} (h : QIn w q a b c X) (a' b' c' : Value) : QIn w q a' b' c' (((X.setCell ⟨q, 0, none⟩ a').setCell ⟨q, 1, none⟩ b').setCell ⟨q, 2, none⟩ c') := by
  have hl := h.lt
  have hne : w.heap.size ≠ q := by omega
  refine ⟨((h.one.off 0 a' hne).off 1 b' hne).off 2 c' hne, ?_, hl, ((h.below.setCell (p := ⟨q, 0, none⟩) (Nat.le_of_lt hl) _).setCell (p := ⟨q, 1, none⟩) (Nat.le_of_lt hl) _).setCell (p := ⟨q, 2, none⟩) (Nat.le_of_lt hl) _⟩
  simpa using ((h.two.set 0 a').set 1 b').set 2 c'

set_option maxRecDepth 100000 in
set_option maxHeartbeats 400000 in
theorem innerIn_short (s : ByteArray) (h : s.size < 8) (w : World) :
    Calls Tryd.prog 22 #[.string s] w fun e w' => e = .returned (.tuple #[.agg #[.int .i64 0, .int .i64 0, .string ⟨#[]⟩], .iface FaultT (.agg #[.int .i64 4])]) ∧ Below w.heap.size w w' := by
  have h1 : (s.size : Int) < 8 := by omega
  have A0 := Lib.hid (VarA.new w InnerT #[.int .i64 0, .int .i64 0, .string ⟨#[]⟩])
  have B0 := Lib.hid ((Below.refl w.heap.size w).alloc (Nat.le_refl _) (.cells #[.int .i64 0, .int .i64 0, .string ⟨#[]⟩] InnerT))
  clear h
  go_enter Tryd.func22, Tryd.ntmps22
  go_upto_region 1 with fail
  generalize w.alloc (.cells #[.int .i64 0, .int .i64 0, .string ⟨#[]⟩] InnerT) = Y at *
  have c0 : Y.cell? ⟨w.heap.size, 0, none⟩ = some (.int .i64 0) := A0.out.cell 0
  have c1 : Y.cell? ⟨w.heap.size, 1, none⟩ = some (.int .i64 0) := A0.out.cell 1
  have c2 : Y.cell? ⟨w.heap.size, 2, none⟩ = some (.string ⟨#[]⟩) := A0.out.cell 2
  have f0 := A0.out.free 0
  have f1 := A0.out.free 1
  have f2 := A0.out.free 2
  have r0 := (((A0.out.set 0 (.int .i64 0)).set 1 (.int .i64 0)).set 2 (.string ⟨#[]⟩)).cell 0
  have r1 := (((A0.out.set 0 (.int .i64 0)).set 1 (.int .i64 0)).set 2 (.string ⟨#[]⟩)).cell 1
  have r2 := (((A0.out.set 0 (.int .i64 0)).set 1 (.int .i64 0)).set 2 (.string ⟨#[]⟩)).cell 2
  have B1 := Lib.hid (((B0.out.setCell (p := ⟨w.heap.size, 0, none⟩) (Nat.le_refl _) (.int .i64 0)).setCell (p := ⟨w.heap.size, 1, none⟩) (Nat.le_refl _) (.int .i64 0)).setCell (p := ⟨w.heap.size, 2, none⟩) (Nat.le_refl _) (.string ⟨#[]⟩))
  go_wp2_with fail
  exact bodyPost_ret (v := .tuple #[.agg #[.int .i64 0, .int .i64 0, .string ⟨#[]⟩], .iface FaultT (.agg #[.int .i64 4])]) (by simp [results, Tryd.results22, go_sem, r0, r1, r2]) rfl ⟨rfl, B1.out⟩

end Go.Proofs.YthiicpbedgcmlaaDoor
