/-
  A text of a list, drawn.
  A cursor and variables of two cells, carried through a draw; no program is spoken of here.
  What is drawn for signatures.
  A text that is drawn as another one, spoilt or not.
  Signatures that are drawn, spoilt or not; their bytes.
  Signatures that are drawn with a public number and a text, spoilt or not.
-/
import Derived.Test.YtogmmilfdolpnabDoorDrawAll
import Derived.Test.YtogmmilfdolpnabDoorVarTwo
import Derived.Test.YtogmmilfdolpnabDoorSignTextSpec
import Derived.Deep.RegionHeld3
import Derived.BigQuiet
import Derived.Deep.QuietTactic
namespace Go.Proofs.YtogmmilfdolpnabDoor
open Go.RowKit

/-- How a draw of any int ends. -/
def DrewAny (c : Nat) (a : Option Addr) (len cap : Nat) (w : World) (e : Ending) (w' : World) : Prop :=
  ∃ x : Int, (-9223372036854775808 ≤ x ∧ x ≤ 9223372036854775807) ∧ e = .returned (.int .i64 x) ∧ Cur c a len cap w' ∧ Only c w w'

set_option maxRecDepth 100000 in
set_option maxHeartbeats 800000 in
theorem pickText_any {c : Nat} {a : Option Addr} {len cap : Nat} (g n : Nat) (zs : List ByteArray) (hz : zs.length = n) (h0 : 0 < n) (h1 : n ≤ 1000) (hg : c ≠ g) (w : World) (H : Cur c a len cap w) (hc : ∀ j, j < n → w.cell? ⟨g, j, none⟩ = some (.string (zs.getD j ⟨#[]⟩))) :
    Calls Tryd.prog 70 #[.pointer (some ⟨c, 0, none⟩), .slice (some ⟨g, 0, none⟩) n n] w fun e w' => ∃ x : ByteArray, x ∈ zs ∧ e = .returned (.string x) ∧ Cur c a len cap w' ∧ Only c w w' := by
  have HC := Lib.hid H
  have HZ := Lib.hid hc
  have HL := Lib.hid hz
  clear H hc hz
  go_enter Tryd.func70, Tryd.ntmps70
  go_wp2_with fail
  refine (below_any (n : Int) (by omega) (by omega) _ HC.out).mono ?_
  rintro e w1 ⟨x, x0, x1, rfl, hc1, ho1⟩
  obtain ⟨k, rfl⟩ := Int.eq_ofNat_of_zero_le x0
  have hk : k < n := by omega
  have hk2 : (k : Int) < (n : Int) := by omega
  have hgs : g < w.heap.size := cell_size (p := ⟨g, k, none⟩) (HZ.out k hk)
  have hcell : w1.cell? ⟨g, k, none⟩ = some (.string (zs.getD k ⟨#[]⟩)) := by
    rw [ho1.cell (p := ⟨g, k, none⟩) hgs (fun e => hg e.symm)]
    exact HZ.out k hk
  have HM : Hid (zs.getD k ⟨#[]⟩ ∈ zs) := by
    have hl := HL.out
    show _ ∈ _
    rw [List.getD_eq_getElem?_getD, List.getElem?_eq_getElem (by omega)]
    exact List.getElem_mem _
  have HC1 := Lib.hid hc1
  have HO1 := Lib.hid ho1
  generalize zs.getD k ⟨#[]⟩ = z at hcell HM
  clear hc1 ho1
  go_wp2_with fail
  go_ret
  exact ⟨_, HM.out, rfl, HC1.out, HO1.out⟩

end Go.Proofs.YtogmmilfdolpnabDoor
namespace Go.Proofs.YtogmmilfdolpnabDoor
open Go.RowKit

/-- A cursor, a result's variable and another one, of two cells each, behind what was there. -/
structure SD (c : Nat) (a : Option Addr) (len cap : Nat) (w : World) (t : TypeId) (q : Nat) (x y : Value) (X : World) : Prop where
  cur : Cur c a len cap X
  only : Only c w X
  res : VarP w.heap.size t (.int .i64 0) (.int .i64 0) X
  var : VarP q t x y X
  lt : w.heap.size < q
  cl : c < w.heap.size
theorem SD.step {c : Nat} {a : Option Addr} {len cap : Nat} {w : World} {t : TypeId} {q : Nat} {x y : Value} {X Y : World} (h : SD c a len cap w t q x y X) (hc : Cur c a len cap Y) (ho : Only c X Y) : SD c a len cap w t q x y Y :=
  ⟨hc, h.only.trans ho, h.res.only ho (by have := h.cl; omega), h.var.only ho (by have := h.cl; have := h.lt; omega), h.lt, h.cl⟩
theorem SD.next {c : Nat} {a : Option Addr} {len cap : Nat} {w : World} {t : TypeId} {q : Nat} {x y : Value} {X Y : World} (h : SD c a len cap w t q x y X) (hb : Below X.heap.size X Y) : SD c a len cap w t q x y Y :=
  ⟨h.cur.below hb, h.only.trans (.of_below hb), h.res.next hb, h.var.next hb, h.lt, h.cl⟩
theorem SD.set0 {c : Nat} {a : Option Addr} {len cap : Nat} {w : World} {t : TypeId} {q : Nat} {x y : Value} {X : World} (h : SD c a len cap w t q x y X) (v : Value) : SD c a len cap w t q v y (X.setCell ⟨q, 0, none⟩ v) := by
  have hq : w.heap.size ≤ q := Nat.le_of_lt h.lt
  have hb : Below w.heap.size X (X.setCell ⟨q, 0, none⟩ v) := (Below.refl _ X).setCell (p := ⟨q, 0, none⟩) hq v
  exact ⟨h.cur.kept hb h.cl, h.only.behind hb, h.res.only (Only.setCell 0 v) (by have := h.lt; omega), h.var.set0 v, h.lt, h.cl⟩
theorem SD.set1 {c : Nat} {a : Option Addr} {len cap : Nat} {w : World} {t : TypeId} {q : Nat} {x y : Value} {X : World} (h : SD c a len cap w t q x y X) (v : Value) : SD c a len cap w t q x v (X.setCell ⟨q, 1, none⟩ v) := by
  have hq : w.heap.size ≤ q := Nat.le_of_lt h.lt
  have hb : Below w.heap.size X (X.setCell ⟨q, 1, none⟩ v) := (Below.refl _ X).setCell (p := ⟨q, 1, none⟩) hq v
  exact ⟨h.cur.kept hb h.cl, h.only.behind hb, h.res.only (Only.setCell 1 v) (by have := h.lt; omega), h.var.set1 v, h.lt, h.cl⟩
/-- The result is stored. -/
theorem SD.store {c : Nat} {a : Option Addr} {len cap : Nat} {w : World} {t : TypeId} {q : Nat} {x y : Value} {X : World} (h : SD c a len cap w t q x y X) (u v : Value) :
    (Cur c a len cap ((X.setCell ⟨w.heap.size, 0, none⟩ u).setCell ⟨w.heap.size, 1, none⟩ v) ∧ Only c w ((X.setCell ⟨w.heap.size, 0, none⟩ u).setCell ⟨w.heap.size, 1, none⟩ v)) ∧ VarP w.heap.size t u v ((X.setCell ⟨w.heap.size, 0, none⟩ u).setCell ⟨w.heap.size, 1, none⟩ v) := by
  have hb : Below w.heap.size X ((X.setCell ⟨w.heap.size, 0, none⟩ u).setCell ⟨w.heap.size, 1, none⟩ v) := ((Below.refl _ X).setCell (p := ⟨w.heap.size, 0, none⟩) (Nat.le_refl _) u).setCell (p := ⟨w.heap.size, 1, none⟩) (Nat.le_refl _) v
  exact ⟨⟨h.cur.kept hb h.cl, h.only.behind hb⟩, h.res.set2 u v⟩

end Go.Proofs.YtogmmilfdolpnabDoor
namespace Go.Proofs.YtogmmilfdolpnabDoor
open Go.RowKit

def groupEdges : List Int := [0, 1, -1, 2147483579, 2147483578, 1073741789, 9223372036854775807, -9223372036854775808]
theorem groupEdges_int (x : Int) (h : x ∈ groupEdges) : -9223372036854775808 ≤ x ∧ x ≤ 9223372036854775807 := by
  simp only [groupEdges, List.mem_cons, List.not_mem_nil, or_false] at h
  omega

set_option maxRecDepth 100000 in
set_option maxHeartbeats 800000 in
theorem groupNumber_any {c : Nat} {a : Option Addr} {len cap : Nat} (w : World) (H : Cur c a len cap w) :
    Calls Tryd.prog 75 #[.pointer (some ⟨c, 0, none⟩)] w (DrewAny c a len cap w) := by
  have HC := Lib.hid H
  clear H
  go_enter Tryd.func75, Tryd.ntmps75
  go_wp2_with fail
  refine (below_any 8 (by omega) (by omega) _ HC.out).mono ?_
  rintro e w1 ⟨x, x0, x1, rfl, hc1, ho1⟩
  have HC1 := Lib.hid hc1
  have HO1 := Lib.hid ho1
  clear hc1 ho1
  have h4 : x = 0 ∨ x = 1 ∨ 2 ≤ x := by omega
  rcases h4 with rfl | rfl | x2
  · go_wp2_with fail
    have hcs : c < w1.heap.size := cell_size (p := ⟨c, 0, none⟩) HC1.out.c0
    refine (pickInt_any w1.heap.size 8 groupEdges rfl (by omega) (by omega) (by omega) _ (HC1.out.below ((Below.refl _ _).alloc (Nat.le_refl _) _)) ?_).mono ?_
    · intro j hj
      have h8 : j = 0 ∨ j = 1 ∨ j = 2 ∨ j = 3 ∨ j = 4 ∨ j = 5 ∨ j = 6 ∨ j = 7 := by omega
      rcases h8 with rfl | rfl | rfl | rfl | rfl | rfl | rfl | rfl <;> simp [groupEdges]
    rintro e w2 ⟨y, hy, rfl, hc2, ho2⟩
    have HC2 := Lib.hid hc2
    have HO2 : Hid (Only c w1 w2) := (Only.of_below ((Below.refl _ _).alloc (Nat.le_refl _) _)).trans ho2
    have HY := Lib.hid (groupEdges_int y hy)
    clear hc2 ho2 hy hcs
    go_wp2_with fail
    go_ret
    exact ⟨y, HY.out, rfl, HC2.out, HO1.out.trans HO2.out⟩
  · go_wp2_with fail
    refine (below_any 100 (by omega) (by omega) _ HC1.out).mono ?_
    rintro e w2 ⟨y, y0, y1, rfl, hc2, ho2⟩
    have HC2 := Lib.hid hc2
    have HO2 := Lib.hid ho2
    clear hc2 ho2
    go_wp2_with fail
    go_ret
    exact ⟨y, ⟨by omega, by omega⟩, rfl, HC2.out, HO1.out.trans HO2.out⟩
  · have d0 : ¬ (x = 0) := by omega
    have d1 : ¬ (x = 1) := by omega
    go_wp2_with fail
    refine (below_any 4294967296 (by omega) (by omega) _ HC1.out).mono ?_
    rintro e w2 ⟨y, y0, y1, rfl, hc2, ho2⟩
    have HC2 := Lib.hid hc2
    have HO2 := Lib.hid ho2
    obtain ⟨z, hz1, hz2, hz3⟩ : ∃ z : Int, y % 2147483579 = z ∧ y.tmod 2147483579 = z ∧ (0 ≤ z ∧ z ≤ 2147483579) := ⟨_, rfl, Int.tmod_eq_emod_of_nonneg (by omega), by omega⟩
    have HZ := Lib.hid hz3
    clear hc2 ho2 hz3
    go_wp2_with fail
    go_ret
    exact ⟨z, ⟨by have := HZ.out; omega, by have := HZ.out; omega⟩, rfl, HC2.out, HO1.out.trans HO2.out⟩

set_option maxRecDepth 100000 in
set_option maxHeartbeats 800000 in
theorem drawChallenge_any (a : Option Addr) (len cap : Nat) (w : World) (H : Src a len w) :
    Calls Tryd.prog 28 #[.slice a len cap] w fun e w' => ∃ (x y : Int) (t : ByteArray), (-9223372036854775808 ≤ x ∧ x ≤ 9223372036854775807) ∧ (-9223372036854775808 ≤ y ∧ y ≤ 9223372036854775807) ∧ t.size ≤ 3 ∧ e = .returned (.tuple #[.int .i64 x, .int .i64 y, .string t]) ∧ Below w.heap.size w w' := by
  have HS := Lib.hid H
  clear H
  go_enter Tryd.func28, Tryd.ntmps28
  go_wp2_with fail
  refine (new_any a len cap _ HS.out).mono ?_
  rintro e w1 ⟨c, rfl, hc, hcur, hb⟩
  have HC1 := Lib.hid hcur
  have HB1 := Lib.hid hb
  clear hcur hb
  go_wp2_with fail
  refine (groupNumber_any _ HC1.out).mono ?_
  rintro e w2 ⟨x, hx, rfl, hcur, ho⟩
  have HC2 := Lib.hid hcur
  have HB2 := Lib.hid (HB1.out.trans (ho.below hc HB1.out.size))
  have HX := Lib.hid hx
  clear hcur ho hx
  go_wp2_with fail
  refine (groupNumber_any _ HC2.out).mono ?_
  rintro e w3 ⟨y, hy, rfl, hcur, ho⟩
  have HC3 := Lib.hid hcur
  have HB3 := Lib.hid (HB2.out.trans (ho.below hc HB2.out.size))
  have HY := Lib.hid hy
  clear hcur ho hy
  go_wp2_with fail
  refine (text_any 3 (by omega) _ HC3.out).mono ?_
  rintro e w4 ⟨l, hl, rfl, hcur, ho⟩
  have HB4 := Lib.hid (HB3.out.trans (ho.below hc HB3.out.size))
  have hts : (⟨l.toArray⟩ : ByteArray).size ≤ 3 := by show l.toArray.size ≤ 3; rw [List.size_toArray]; omega
  generalize (⟨l.toArray⟩ : ByteArray) = t at hts
  clear hcur ho hl
  go_wp2_with fail
  refine bodyPost_ret (v := .tuple #[.int .i64 x, .int .i64 y, .string t]) (by simp [results, Tryd.results28, go_sem]) rfl ⟨x, y, t, HX.out, HY.out, hts, rfl, HB4.out⟩

end Go.Proofs.YtogmmilfdolpnabDoor
namespace Go.Proofs.YtogmmilfdolpnabDoor
open Go.RowKit

set_option maxRecDepth 100000 in
set_option maxHeartbeats 1600000 in
theorem spoilt_any {c : Nat} {a : Option Addr} {len cap : Nat} (s : ByteArray) (hs : s.size ≤ 1000) (w : World) (H : Cur c a len cap w) :
    Calls Tryd.prog 45 #[.pointer (some ⟨c, 0, none⟩), .string s] w fun e w' => ∃ t : ByteArray, t.size ≤ 1001 ∧ e = .returned (.string t) ∧ Cur c a len cap w' ∧ Only c w w' := by
  have HC := Lib.hid H
  clear H
  go_enter Tryd.func45, Tryd.ntmps45
  go_wp2_with fail
  refine (below_any 12 (by omega) (by omega) _ HC.out).mono ?_
  rintro e w1 ⟨x, x0, x1, rfl, hc1, ho1⟩
  have HC1 := Lib.hid hc1
  have HO1 := Lib.hid ho1
  clear hc1 ho1
  have h4 : x = 0 ∨ x = 1 ∨ x = 2 ∨ x = 3 ∨ 4 ≤ x := by omega
  rcases h4 with rfl | rfl | rfl | rfl | hx4
  · go_wp2_with fail
    refine (text_any 1 (by omega) _ HC1.out).mono ?_
    rintro e w2 ⟨l, hl, rfl, hc2, ho2⟩
    have HC2 := Lib.hid hc2
    have HO2 := Lib.hid (HO1.out.trans ho2)
    obtain ⟨A, hA, AA⟩ : ∃ A : ByteArray, A.size = 1 ∧ Hid (A = ⟨l.toArray⟩) := ⟨_, by show l.toArray.size = 1; simpa using hl, rfl⟩
    rw [← AA.out]
    have h9 : ¬ (9223372036854775807 < s.size + A.size) := by omega
    clear hc2 ho2 hl
    go_wp2_with fail
    go_ret
    exact ⟨s ++ A, by rw [ByteArray.size_append]; omega, rfl, HC2.out, HO2.out⟩
  · go_wp2_with fail
    refine (below_any ((s.size : Int) + 1) (by omega) (by omega) _ HC1.out).mono ?_
    rintro e w2 ⟨y, y0, y1, rfl, hc2, ho2⟩
    have HC2 := Lib.hid hc2
    have HO2 := Lib.hid (HO1.out.trans ho2)
    obtain ⟨k, rfl⟩ := Int.eq_ofNat_of_zero_le y0
    have hk : (k : Int) ≤ (s.size : Int) := by omega
    clear hc2 ho2
    go_wp2_with fail
    go_ret
    exact ⟨_, by rw [ByteArray.size_extract]; omega, rfl, HC2.out, HO2.out⟩
  · by_cases h0 : 0 < (s.size : Int)
    · go_wp2_with fail
      refine (below_any (s.size : Int) (by omega) (by omega) _ HC1.out).mono ?_
      rintro e w2 ⟨y, y0, y1, rfl, hc2, ho2⟩
      have S2 : Hid (Cur c a len cap w2 ∧ Only c w w2) := ⟨hc2, HO1.out.trans ho2⟩
      obtain ⟨k, rfl⟩ := Int.eq_ofNat_of_zero_le y0
      have hk : (k : Int) ≤ (s.size : Int) := by omega
      have hk1 : (k : Int) + 1 ≤ (s.size : Int) := by omega
      have hkw : IntKind.i64.wrap ((k : Int) + 1) = (k : Int) + 1 := by rw [IntKind.wrap_i64]; omega
      have hk3 : ((k : Int) + 1).toNat = k + 1 := by omega
      have hk4 : (0 : Int) ≤ (k : Int) + 1 := by omega
      obtain ⟨p1, hp1⟩ : ∃ p, s.extract 0 k = p := ⟨_, rfl⟩
      obtain ⟨p2, hp2⟩ : ∃ p, s.extract (k + 1) s.size = p := ⟨_, rfl⟩
      have q1 : p1.size ≤ s.size := by rw [← hp1, ByteArray.size_extract]; omega
      have q3 : p1.size + p2.size ≤ s.size := by rw [← hp1, ← hp2, ByteArray.size_extract, ByteArray.size_extract]; omega
      have K : Hid (∀ X, (Cur c a len cap X ∧ Only c w X) → Calls Tryd.prog 71 #[.pointer (some ⟨c, 0, none⟩), .int .i64 1] X fun e Y => ∃ B : ByteArray, B.size = 1 ∧ e = .returned (.string B) ∧ (Cur c a len cap Y ∧ Only c w Y)) := fun X hX => by
        refine (text_any 1 (by omega) X hX.1).mono ?_
        rintro e Y ⟨l, hl, rfl, hc, ho⟩
        exact ⟨⟨l.toArray⟩, by show l.toArray.size = 1; simpa using hl, rfl, hc, hX.2.trans ho⟩
      clear hc2 ho2
      go_wp2_with fail
      go_region_held3 (fun X => Cur c a len cap X ∧ Only c w X) (first | (with_reducible assumption) | (with_reducible exact ⟨Cur.below S2.out.1 (Below.drew (Below.refl _ _)), Only.trans S2.out.2 (Only.of_below (Below.drew (Below.refl _ _)))⟩)) (first | (go_at_call 71; refine (K.out _ (by assumption)).mono ?_; rintro e v1 ⟨B, hB, rfl, hS⟩; have m1 : ∀ X, (Op.stringOp .add p1 B).run Tryd.prog X = .ok (.string (p1 ++ B)) X := (fun X => run_string_add_sum X p1 B (by omega)); have m2 : ∀ X, (Op.stringOp .add (p1 ++ B) p2).run Tryd.prog X = .ok (.string (p1 ++ B ++ p2)) X := (fun X => run_string_add_sum X (p1 ++ B) p2 (by rw [ByteArray.size_append]; omega))))
      all_goals
        go_wp2_with fail
        go_ret
        exact ⟨p1 ++ B ++ p2, by rw [ByteArray.size_append, ByteArray.size_append]; omega, rfl, hS.1, hS.2⟩
    · go_wp2_with fail
      go_ret
      exact ⟨s, by omega, rfl, HC1.out, HO1.out⟩
  · by_cases h0 : 0 < (s.size : Int)
    · go_wp2_with fail
      refine (below_any (s.size : Int) (by omega) (by omega) _ HC1.out).mono ?_
      rintro e w2 ⟨y, y0, y1, rfl, hc2, ho2⟩
      have S2 : Hid (Cur c a len cap w2 ∧ Only c w w2) := ⟨hc2, HO1.out.trans ho2⟩
      obtain ⟨k, rfl⟩ := Int.eq_ofNat_of_zero_le y0
      have hk : (k : Int) ≤ (s.size : Int) := by omega
      have hk1 : (k : Int) + 1 ≤ (s.size : Int) := by omega
      have hkw : IntKind.i64.wrap ((k : Int) + 1) = (k : Int) + 1 := by rw [IntKind.wrap_i64]; omega
      have hk3 : ((k : Int) + 1).toNat = k + 1 := by omega
      have hk4 : (0 : Int) ≤ (k : Int) + 1 := by omega
      obtain ⟨p1, hp1⟩ : ∃ p, s.extract 0 k = p := ⟨_, rfl⟩
      obtain ⟨p2, hp2⟩ : ∃ p, s.extract (k + 1) s.size = p := ⟨_, rfl⟩
      have q1 : p1.size ≤ s.size := by rw [← hp1, ByteArray.size_extract]; omega
      have q3 : p1.size + p2.size ≤ s.size := by rw [← hp1, ← hp2, ByteArray.size_extract, ByteArray.size_extract]; omega
      have K : Hid (∀ X, (Cur c a len cap X ∧ Only c w X) → Calls Tryd.prog 71 #[.pointer (some ⟨c, 0, none⟩), .int .i64 1] X fun e Y => ∃ B : ByteArray, B.size = 1 ∧ e = .returned (.string B) ∧ (Cur c a len cap Y ∧ Only c w Y)) := fun X hX => by
        refine (text_any 1 (by omega) X hX.1).mono ?_
        rintro e Y ⟨l, hl, rfl, hc, ho⟩
        exact ⟨⟨l.toArray⟩, by show l.toArray.size = 1; simpa using hl, rfl, hc, hX.2.trans ho⟩
      clear hc2 ho2
      go_wp2_with fail
      go_region_held3 (fun X => Cur c a len cap X ∧ Only c w X) (first | (with_reducible assumption) | (with_reducible exact ⟨Cur.below S2.out.1 (Below.drew (Below.refl _ _)), Only.trans S2.out.2 (Only.of_below (Below.drew (Below.refl _ _)))⟩)) (first | (go_at_call 71; refine (K.out _ (by assumption)).mono ?_; rintro e v1 ⟨B, hB, rfl, hS⟩; have m1 : ∀ X, (Op.stringOp .add p1 B).run Tryd.prog X = .ok (.string (p1 ++ B)) X := (fun X => run_string_add_sum X p1 B (by omega)); have m2 : ∀ X, (Op.stringOp .add (p1 ++ B) p2).run Tryd.prog X = .ok (.string (p1 ++ B ++ p2)) X := (fun X => run_string_add_sum X (p1 ++ B) p2 (by rw [ByteArray.size_append]; omega))))
      all_goals
        go_wp2_with fail
        go_ret
        exact ⟨p1 ++ B ++ p2, by rw [ByteArray.size_append, ByteArray.size_append]; omega, rfl, hS.1, hS.2⟩
    · go_wp2_with fail
      go_ret
      exact ⟨s, by omega, rfl, HC1.out, HO1.out⟩
  · have d0 : ¬ (x = 0) := by omega
    have d1 : ¬ (x = 1) := by omega
    have d2 : ¬ (x = 2) := by omega
    have d3 : ¬ (x = 3) := by omega
    go_wp2_with fail
    go_ret
    exact ⟨s, by omega, rfl, HC1.out, HO1.out⟩

end Go.Proofs.YtogmmilfdolpnabDoor
namespace Go.Proofs.YtogmmilfdolpnabDoor
open Go.RowKit

def sigEdges : List Int := [-1, 0, 1073741788, 1073741789]
theorem sigEdges_int (x : Int) (h : x ∈ sigEdges) : -9223372036854775808 ≤ x ∧ x ≤ 9223372036854775807 := by
  simp only [sigEdges, List.mem_cons, List.not_mem_nil, or_false] at h
  omega

set_option maxRecDepth 100000 in
set_option maxHeartbeats 1600000 in
theorem sig_any {c : Nat} {a : Option Addr} {len cap : Nat} (w : World) (H : Cur c a len cap w) :
    Calls Tryd.prog 77 #[.pointer (some ⟨c, 0, none⟩)] w fun e w' => ∃ x y : Int, ((-9223372036854775808 ≤ x ∧ x ≤ 9223372036854775807) ∧ (-9223372036854775808 ≤ y ∧ y ≤ 9223372036854775807)) ∧ e = .returned (.agg #[.int .i64 x, .int .i64 y]) ∧ Cur c a len cap w' ∧ Only c w w' := by
  have hcs : c < w.heap.size := cell_size (p := ⟨c, 0, none⟩) H.c0
  have R0 := Lib.hid (VarP.new w 34 (.int .i64 0) (.int .i64 0))
  have B0 := Lib.hid ((Below.refl w.heap.size w).alloc (Nat.le_refl _) (.cells #[.int .i64 0, .int .i64 0] 34))
  have HC0 := Lib.hid (H.below B0.out)
  have k0 := specSecretOf_any ⟨#[97]⟩ (by decide)
  have hs := secretP_in ⟨#[97]⟩
  obtain ⟨s, SS⟩ : ∃ n, Hid (n = secretP ⟨#[97]⟩) := ⟨_, rfl⟩
  rw [← SS.out] at k0 hs
  have H0 := Lib.hid k0
  clear H k0
  go_enter Tryd.func77, Tryd.ntmps77
  go_wp2_with fail
  refine (H0.out _).mono ?_
  rintro e w1 ⟨rfl, hb1⟩
  have R1 := Lib.hid (R0.out.next hb1)
  have HC1 := Lib.hid (HC0.out.below hb1)
  have HO1 : Hid (Only c w w1) := Only.of_below (B0.out.trans (hb1.mono B0.out.size))
  clear hb1
  go_wp2_with fail
  refine (below_any 4 (by omega) (by omega) _ HC1.out).mono ?_
  rintro e w2 ⟨x, x0, x1, rfl, hc2, ho2⟩
  have R2 := Lib.hid (R1.out.only ho2 (by omega))
  have HC2 := Lib.hid hc2
  have HO2 := Lib.hid (HO1.out.trans ho2)
  obtain ⟨k, rfl⟩ := Int.eq_ofNat_of_zero_le x0
  clear hc2 ho2
  go_wp2_with fail
  refine (text_any k (by omega) _ HC2.out).mono ?_
  rintro e w3 ⟨l, hl, rfl, hc3, ho3⟩
  have R3 := Lib.hid (R2.out.only ho3 (by omega))
  have HC3 := Lib.hid hc3
  have HO3 := Lib.hid (HO2.out.trans ho3)
  have hts : (⟨l.toArray⟩ : ByteArray).size ≤ 3 := by show l.toArray.size ≤ 3; rw [List.size_toArray]; omega
  generalize (⟨l.toArray⟩ : ByteArray) = t at hts
  have k4 := specSignText_yes s t (by omega) (by omega) (by omega)
  have hE := signE_lt s t
  have hS := signS_lt s t
  obtain ⟨E, EE⟩ : ∃ n, Hid (n = signE s t) := ⟨_, rfl⟩
  obtain ⟨S, SI⟩ : ∃ n, Hid (n = signS s t) := ⟨_, rfl⟩
  rw [← EE.out] at k4 hE
  rw [← SI.out] at k4 hS
  have H4 := Lib.hid k4
  clear hc3 ho3 hl k4
  go_wp2_with fail
  refine (H4.out _).mono ?_
  rintro e w4 ⟨rfl, hb4⟩
  have hV4 : SD c a len cap w 34 w4.heap.size (.int .i64 (E : Int)) (.int .i64 (S : Int)) (w4.alloc (.cells #[.int .i64 (E : Int), .int .i64 (S : Int)] 34)) := by
    have hr := R3.out.next hb4
    have ha : Below w4.heap.size w4 (w4.alloc (.cells #[.int .i64 (E : Int), .int .i64 (S : Int)] 34)) := (Below.refl _ _).alloc (Nat.le_refl _) _
    exact ⟨(HC3.out.below hb4).below ha, (HO3.out.trans (.of_below hb4)).trans (.of_below ha), hr.next ha, VarP.new _ _ _ _, lt_of_block hr.row, hcs⟩
  have V4 := Lib.hid hV4
  clear hb4 hV4 R0 B0 HC0 R1 HC1 HO1 R2 HC2 HO2 R3 HC3 HO3 H0 H4
  go_wp2_with fail
  refine (below_any 8 (by omega) (by omega) _ V4.out.cur).mono ?_
  rintro e w5 ⟨x, x0, x1, rfl, hc5, ho5⟩
  have V5 := Lib.hid (V4.out.step hc5 ho5)
  generalize w4.heap.size = q at *
  clear hc5 ho5 V4
  have h3 : x = 0 ∨ x = 1 ∨ 2 ≤ x := by omega
  rcases h3 with rfl | rfl | x2
  · go_wp2_with fail
    have hq5 : q < w5.heap.size := lt_of_block V5.out.var.row
    have hb6 : Below w5.heap.size w5 (w5.alloc (.cells #[.int .i64 (-1), .int .i64 0, .int .i64 1073741788, .int .i64 1073741789] 3)) := (Below.refl _ _).alloc (Nat.le_refl _) _
    have V6 := Lib.hid (V5.out.next hb6)
    have hc6 : c < w5.heap.size := by have := V5.out.cl; have := V5.out.lt; omega
    refine (pickInt_any w5.heap.size 4 sigEdges rfl (by omega) (by omega) (by omega) _ V6.out.cur ?_).mono ?_
    · intro j hj
      have h4 : j = 0 ∨ j = 1 ∨ j = 2 ∨ j = 3 := by omega
      rcases h4 with rfl | rfl | rfl | rfl <;> simp [sigEdges]
    rintro e w6 ⟨y, hy, rfl, hc7, ho7⟩
    have hV7 := V6.out.step hc7 ho7
    have HY := Lib.hid (sigEdges_int y hy)
    have c0 := hV7.var.c0
    have f0 := hV7.var.free 0
    have hV8 := hV7.set0 (.int .i64 y)
    clear hc7 ho7 hy hb6 hV7 V6
    go_upto_region 7 with fail
    generalize w6.setCell ⟨q, 0, none⟩ (.int .i64 y) = w8 at *
    have d0 := hV8.var.c0
    have d1 := hV8.var.c1
    have r0 := hV8.res.c0
    have r1 := hV8.res.c1
    have g0 := hV8.res.free 0
    have g1 := hV8.res.free 1
    have ST := Lib.hid (hV8.store (.int .i64 y) (.int .i64 (S : Int)))
    clear hV8 V5 c0 f0
    go_wp2_with fail
    have i0 := ST.out.2.c0
    have i1 := ST.out.2.c1
    refine bodyPost_ret (v := .agg #[.int .i64 y, .int .i64 (S : Int)]) (by simp [results, Tryd.results77, go_sem, i0, i1]) rfl ⟨y, S, ⟨HY.out, by omega, by omega⟩, rfl, ST.out.1.1, ST.out.1.2⟩
  · go_wp2_with fail
    have hq5 : q < w5.heap.size := lt_of_block V5.out.var.row
    have hb6 : Below w5.heap.size w5 (w5.alloc (.cells #[.int .i64 (-1), .int .i64 0, .int .i64 1073741788, .int .i64 1073741789] 3)) := (Below.refl _ _).alloc (Nat.le_refl _) _
    have V6 := Lib.hid (V5.out.next hb6)
    have hc6 : c < w5.heap.size := by have := V5.out.cl; have := V5.out.lt; omega
    refine (pickInt_any w5.heap.size 4 sigEdges rfl (by omega) (by omega) (by omega) _ V6.out.cur ?_).mono ?_
    · intro j hj
      have h4 : j = 0 ∨ j = 1 ∨ j = 2 ∨ j = 3 := by omega
      rcases h4 with rfl | rfl | rfl | rfl <;> simp [sigEdges]
    rintro e w6 ⟨y, hy, rfl, hc7, ho7⟩
    have hV7 := V6.out.step hc7 ho7
    have HY := Lib.hid (sigEdges_int y hy)
    have c1 := hV7.var.c1
    have f1 := hV7.var.free 1
    have hV8 := hV7.set1 (.int .i64 y)
    clear hc7 ho7 hy hb6 hV7 V6
    go_upto_region 7 with fail
    generalize w6.setCell ⟨q, 1, none⟩ (.int .i64 y) = w8 at *
    have d0 := hV8.var.c0
    have d1 := hV8.var.c1
    have r0 := hV8.res.c0
    have r1 := hV8.res.c1
    have g0 := hV8.res.free 0
    have g1 := hV8.res.free 1
    have ST := Lib.hid (hV8.store (.int .i64 (E : Int)) (.int .i64 y))
    clear hV8 V5 c1 f1
    go_wp2_with fail
    have i0 := ST.out.2.c0
    have i1 := ST.out.2.c1
    refine bodyPost_ret (v := .agg #[.int .i64 (E : Int), .int .i64 y]) (by simp [results, Tryd.results77, go_sem, i0, i1]) rfl ⟨E, y, ⟨⟨by omega, by omega⟩, HY.out⟩, rfl, ST.out.1.1, ST.out.1.2⟩
  · have n0 : ¬ (x = 0) := by omega
    have n1 : ¬ (x = 1) := by omega
    have d0 := V5.out.var.c0
    have d1 := V5.out.var.c1
    have r0 := V5.out.res.c0
    have r1 := V5.out.res.c1
    have g0 := V5.out.res.free 0
    have g1 := V5.out.res.free 1
    have ST := Lib.hid (V5.out.store (.int .i64 (E : Int)) (.int .i64 (S : Int)))
    go_wp2_with fail
    have i0 := ST.out.2.c0
    have i1 := ST.out.2.c1
    refine bodyPost_ret (v := .agg #[.int .i64 (E : Int), .int .i64 (S : Int)]) (by simp [results, Tryd.results77, go_sem, i0, i1]) rfl ⟨E, S, ⟨⟨by omega, by omega⟩, by omega, by omega⟩, rfl, ST.out.1.1, ST.out.1.2⟩

/-- SigText of any two numbers: a text of at most eight bytes. -/
theorem specSigText_few (x y : Int) : ∃ (t : ByteArray) (b : Bool), t.size ≤ 8 ∧ ∀ X, Calls Tryd.prog 76 #[.agg #[.int .i64 x, .int .i64 y]] X fun e X' => e = .returned (.tuple #[.string t, .bool b]) ∧ Below X.heap.size X X' := by
  by_cases h : (0 ≤ x ∧ x ≤ 1073741788) ∧ (0 ≤ y ∧ y ≤ 1073741788)
  · obtain ⟨E, rfl⟩ : ∃ E : Nat, x = (E : Int) := ⟨x.toNat, by omega⟩
    obtain ⟨S, rfl⟩ : ∃ S : Nat, y = (S : Int) := ⟨y.toNat, by omega⟩
    exact ⟨_, _, by rw [ByteArray.size_append, numB_size, numB_size]; omega, specSigText_yes E S (by omega) (by omega)⟩
  · exact ⟨_, _, by decide, specSigText_no x y (by omega)⟩

set_option maxRecDepth 100000 in
set_option maxHeartbeats 800000 in
theorem drawReadSig_any (a : Option Addr) (len cap : Nat) (w : World) (H : Src a len w) :
    Calls Tryd.prog 26 #[.slice a len cap] w fun e w' => ∃ t : ByteArray, t.size ≤ 1001 ∧ e = .returned (.string t) ∧ Below w.heap.size w w' := by
  have HS := Lib.hid H
  clear H
  go_enter Tryd.func26, Tryd.ntmps26
  go_wp2_with fail
  refine (new_any a len cap _ HS.out).mono ?_
  rintro e w1 ⟨c, rfl, hc, hcur, hb⟩
  have HC1 := Lib.hid hcur
  have HB1 := Lib.hid hb
  clear hcur hb
  go_wp2_with fail
  refine (sig_any _ HC1.out).mono ?_
  rintro e w2 ⟨x, y, hxy, rfl, hcur, ho⟩
  have HC2 := Lib.hid hcur
  have HB2 := Lib.hid (HB1.out.trans (ho.below hc HB1.out.size))
  clear hcur ho hxy
  obtain ⟨t, b, ht, k3⟩ := specSigText_few x y
  have H3 := Lib.hid k3
  clear k3
  go_wp2_with fail
  refine (H3.out _).mono ?_
  rintro e w3 ⟨rfl, hb3⟩
  have HC3 := Lib.hid (HC2.out.below hb3)
  have HB3 := Lib.hid (HB2.out.trans (hb3.mono HB2.out.size))
  clear hb3
  go_wp2_with fail
  refine (below_any 4 (by omega) (by omega) _ HC3.out).mono ?_
  rintro e w4 ⟨z, z0, z1, rfl, hcur, ho⟩
  have HC4 := Lib.hid hcur
  have HB4 := Lib.hid (HB3.out.trans (ho.below hc HB3.out.size))
  clear hcur ho
  have h3 : z = 0 ∨ z = 1 ∨ 2 ≤ z := by omega
  rcases h3 with rfl | rfl | z2
  · have H5 : Hid (∀ X, Calls Tryd.prog 78 #[.int .i64 8, .int .u8 255] X fun e w' => ∃ l : List UInt8, l.length = 8 ∧ e = .returned (.string ⟨l.toArray⟩) ∧ Below X.heap.size X w') := long_any 8 (by omega) 255
    go_wp2_with fail
    refine (H5.out _).mono ?_
    rintro e w5 ⟨l, hl, rfl, hb5⟩
    have HB5 := Lib.hid (HB4.out.trans (hb5.mono HB4.out.size))
    have hts : (⟨l.toArray⟩ : ByteArray).size ≤ 1001 := by show l.toArray.size ≤ 1001; rw [List.size_toArray]; omega
    generalize (⟨l.toArray⟩ : ByteArray) = u at hts
    clear hb5 hl
    go_wp2_with fail
    go_ret
    exact ⟨u, hts, rfl, HB5.out⟩
  · go_wp2_with fail
    refine (spoilt_any t (by omega) _ HC4.out).mono ?_
    rintro e w5 ⟨u, hu, rfl, hcur, ho⟩
    have HB5 := Lib.hid (HB4.out.trans (ho.below hc HB4.out.size))
    clear hcur ho
    go_wp2_with fail
    go_ret
    exact ⟨u, hu, rfl, HB5.out⟩
  · have n0 : ¬ (z = 0) := by omega
    have n1 : ¬ (z = 1) := by omega
    go_wp2_with fail
    go_ret
    exact ⟨t, by omega, rfl, HB4.out⟩

end Go.Proofs.YtogmmilfdolpnabDoor
namespace Go.Proofs.YtogmmilfdolpnabDoor
open Go.RowKit

/-- A result's variable, a cursor behind it, and another variable behind that one. -/
structure CD (w : World) (c : Nat) (a : Option Addr) (len cap : Nat) (t : TypeId) (q : Nat) (x y : Value) (X : World) : Prop where
  cur : Cur c a len cap X
  below : Below w.heap.size w X
  res : VarP w.heap.size t (.int .i64 0) (.int .i64 0) X
  var : VarP q t x y X
  hc : w.heap.size < c
  hq : c < q
theorem CD.step {w : World} {c : Nat} {a : Option Addr} {len cap : Nat} {t : TypeId} {q : Nat} {x y : Value} {X Y : World} (h : CD w c a len cap t q x y X) (hc : Cur c a len cap Y) (ho : Only c X Y) : CD w c a len cap t q x y Y :=
  ⟨hc, h.below.trans (ho.below (Nat.le_of_lt h.hc) h.below.size), h.res.only ho (by have := h.hc; omega), h.var.only ho (by have := h.hq; omega), h.hc, h.hq⟩
theorem CD.next {w : World} {c : Nat} {a : Option Addr} {len cap : Nat} {t : TypeId} {q : Nat} {x y : Value} {X Y : World} (h : CD w c a len cap t q x y X) (hb : Below X.heap.size X Y) : CD w c a len cap t q x y Y :=
  ⟨h.cur.below hb, h.below.trans (hb.mono h.below.size), h.res.next hb, h.var.next hb, h.hc, h.hq⟩
theorem CD.set0 {w : World} {c : Nat} {a : Option Addr} {len cap : Nat} {t : TypeId} {q : Nat} {x y : Value} {X : World} (h : CD w c a len cap t q x y X) (v : Value) : CD w c a len cap t q v y (X.setCell ⟨q, 0, none⟩ v) := by
  have hb : Below q X (X.setCell ⟨q, 0, none⟩ v) := (Below.refl _ X).setCell (p := ⟨q, 0, none⟩) (Nat.le_refl _) v
  exact ⟨h.cur.kept hb h.hq, h.below.trans (hb.mono (by have := h.hc; have := h.hq; omega)), h.res.only (Only.setCell 0 v) (by have := h.hc; have := h.hq; omega), h.var.set0 v, h.hc, h.hq⟩
theorem CD.set1 {w : World} {c : Nat} {a : Option Addr} {len cap : Nat} {t : TypeId} {q : Nat} {x y : Value} {X : World} (h : CD w c a len cap t q x y X) (v : Value) : CD w c a len cap t q x v (X.setCell ⟨q, 1, none⟩ v) := by
  have hb : Below q X (X.setCell ⟨q, 1, none⟩ v) := (Below.refl _ X).setCell (p := ⟨q, 1, none⟩) (Nat.le_refl _) v
  exact ⟨h.cur.kept hb h.hq, h.below.trans (hb.mono (by have := h.hc; have := h.hq; omega)), h.res.only (Only.setCell 1 v) (by have := h.hc; have := h.hq; omega), h.var.set1 v, h.hc, h.hq⟩
theorem CD.store {w : World} {c : Nat} {a : Option Addr} {len cap : Nat} {t : TypeId} {q : Nat} {x y : Value} {X : World} (h : CD w c a len cap t q x y X) (u v : Value) :
    Below w.heap.size w ((X.setCell ⟨w.heap.size, 0, none⟩ u).setCell ⟨w.heap.size, 1, none⟩ v) ∧ VarP w.heap.size t u v ((X.setCell ⟨w.heap.size, 0, none⟩ u).setCell ⟨w.heap.size, 1, none⟩ v) :=
  ⟨h.below.trans (((Below.refl _ X).setCell (p := ⟨w.heap.size, 0, none⟩) (Nat.le_refl _) u).setCell (p := ⟨w.heap.size, 1, none⟩) (Nat.le_refl _) v), h.res.set2 u v⟩
theorem CD.drew {w : World} {c : Nat} {a : Option Addr} {len cap : Nat} {t : TypeId} {q : Nat} {x y : Value} {X : World} (h : CD w c a len cap t q x y X) : CD w c a len cap t q x y X.drew := h.next ((Below.refl _ _).drew)

def seeds : List ByteArray := [⟨#[97]⟩, ⟨#[98]⟩]
theorem seeds_few (x : ByteArray) (h : x ∈ seeds) : x.size ≤ 1 := by
  simp only [seeds, List.mem_cons, List.not_mem_nil, or_false] at h
  rcases h with rfl | rfl <;> decide
def checkEdges : List Int := [-1, 0, 1073741789]
theorem checkEdges_int (x : Int) (h : x ∈ checkEdges) : -9223372036854775808 ≤ x ∧ x ≤ 9223372036854775807 := by
  simp only [checkEdges, List.mem_cons, List.not_mem_nil, or_false] at h
  omega

set_option maxRecDepth 100000 in
set_option maxHeartbeats 2000000 in
theorem drawCheckText_any (a : Option Addr) (len cap : Nat) (w : World) (H : Src a len w) :
    Calls Tryd.prog 25 #[.slice a len cap] w fun e w' => ∃ (p : Int) (m : ByteArray) (E S : Int), ((-9223372036854775808 ≤ p ∧ p ≤ 9223372036854775807) ∧ m.size ≤ 10 ∧ (-9223372036854775808 ≤ E ∧ E ≤ 9223372036854775807) ∧ (-9223372036854775808 ≤ S ∧ S ≤ 9223372036854775807)) ∧ e = .returned (.tuple #[.int .i64 p, .string m, .agg #[.int .i64 E, .int .i64 S]]) ∧ Below w.heap.size w w' := by
  have R0 := Lib.hid (VarP.new w 34 (.int .i64 0) (.int .i64 0))
  have B0 := Lib.hid ((Below.refl w.heap.size w).alloc (Nat.le_refl _) (.cells #[.int .i64 0, .int .i64 0] 34))
  have HS := Lib.hid (H.below B0.out)
  have hz0 : (w.alloc (.cells #[.int .i64 0, .int .i64 0] 34)).heap.size = w.heap.size + 1 := by simp
  clear H
  go_enter Tryd.func25, Tryd.ntmps25
  go_wp2_with fail
  refine (new_any a len cap _ HS.out).mono ?_
  rintro e w1 ⟨c, rfl, hc, hcur, hb⟩
  rw [hz0] at hc
  have R1 := Lib.hid (R0.out.next hb)
  have HC1 := Lib.hid hcur
  have HB1 := Lib.hid (B0.out.trans (hb.mono B0.out.size))
  have hcs : c < w1.heap.size := cell_size (p := ⟨c, 0, none⟩) hcur.c0
  clear hcur hb R0 B0 HS hz0
  go_wp2_with fail
  have hb2 : Below w1.heap.size w1 (w1.alloc (.cells #[.string ⟨#[97]⟩, .string ⟨#[98]⟩] 9)) := (Below.refl _ _).alloc (Nat.le_refl _) _
  have R2 := Lib.hid (R1.out.next hb2)
  have HB2 := Lib.hid (HB1.out.trans (hb2.mono HB1.out.size))
  refine (pickText_any w1.heap.size 2 seeds rfl (by omega) (by omega) (by omega) _ (HC1.out.below hb2) ?_).mono ?_
  · intro j hj
    have h2 : j = 0 ∨ j = 1 := by omega
    rcases h2 with rfl | rfl <;> simp [seeds]
  rintro e w3 ⟨sd, hsd, rfl, hcur, ho⟩
  have hsz := seeds_few sd hsd
  have R3 := Lib.hid (R2.out.only ho (by omega))
  have HC3 := Lib.hid hcur
  have HB3 := Lib.hid (HB2.out.trans (ho.below (by omega) HB2.out.size))
  have k4 := specSecretOf_any sd (by omega)
  have hs := secretP_in sd
  obtain ⟨s, SS⟩ : ∃ n, Hid (n = secretP sd) := ⟨_, rfl⟩
  rw [← SS.out] at k4 hs
  have H4 := Lib.hid k4
  clear hcur ho hsd hb2 R1 HB1 HC1 R2 HB2 k4 hcs
  go_wp2_with fail
  refine (H4.out _).mono ?_
  rintro e w4 ⟨rfl, hb4⟩
  have R4 := Lib.hid (R3.out.next hb4)
  have HC4 := Lib.hid (HC3.out.below hb4)
  have HB4 := Lib.hid (HB3.out.trans (hb4.mono HB3.out.size))
  clear hb4 R3 HC3 HB3 H4
  go_wp2_with fail
  refine (below_any 3 (by omega) (by omega) _ HC4.out).mono ?_
  rintro e w5 ⟨x, x0, x1, rfl, hcur, ho⟩
  have R5 := Lib.hid (R4.out.only ho (by omega))
  have HC5 := Lib.hid hcur
  have HB5 := Lib.hid (HB4.out.trans (ho.below (by omega) HB4.out.size))
  obtain ⟨k, rfl⟩ := Int.eq_ofNat_of_zero_le x0
  clear hcur ho R4 HC4 HB4
  go_wp2_with fail
  refine (text_any k (by omega) _ HC5.out).mono ?_
  rintro e w6 ⟨l, hl, rfl, hcur, ho⟩
  have R6 := Lib.hid (R5.out.only ho (by omega))
  have HC6 := Lib.hid hcur
  have HB6 := Lib.hid (HB5.out.trans (ho.below (by omega) HB5.out.size))
  have hts : (⟨l.toArray⟩ : ByteArray).size ≤ 2 := by show l.toArray.size ≤ 2; rw [List.size_toArray]; omega
  generalize (⟨l.toArray⟩ : ByteArray) = m at hts
  have k7 := specSignText_yes s m (by omega) (by omega) (by omega)
  have k8 := specPublicOf_yes s (by omega) (by omega)
  have hE := signE_lt s m
  have hS := signS_lt s m
  have hp : publicP s < 2147483579 := powP_few 4 s
  obtain ⟨E, EE⟩ : ∃ n, Hid (n = signE s m) := ⟨_, rfl⟩
  obtain ⟨S, SI⟩ : ∃ n, Hid (n = signS s m) := ⟨_, rfl⟩
  obtain ⟨p, PP⟩ : ∃ n, Hid (n = publicP s) := ⟨_, rfl⟩
  rw [← EE.out] at k7 hE
  rw [← SI.out] at k7 hS
  rw [← PP.out] at k8 hp
  have H7 := Lib.hid k7
  have H8 := Lib.hid k8
  clear hcur ho hl k7 k8 R5 HC5 HB5
  go_wp2_with fail
  refine (H7.out _).mono ?_
  rintro e w7 ⟨rfl, hb7⟩
  have hV7 : CD w c a len cap 34 w7.heap.size (.int .i64 (E : Int)) (.int .i64 (S : Int)) (w7.alloc (.cells #[.int .i64 (E : Int), .int .i64 (S : Int)] 34)) := by
    have ha : Below w7.heap.size w7 (w7.alloc (.cells #[.int .i64 (E : Int), .int .i64 (S : Int)] 34)) := (Below.refl _ _).alloc (Nat.le_refl _) _
    have hcu := HC6.out.below hb7
    have hbe := HB6.out.trans (hb7.mono HB6.out.size)
    exact ⟨hcu.below ha, hbe.trans (ha.mono hbe.size), (R6.out.next hb7).next ha, VarP.new _ _ _ _, by omega, cell_size (p := ⟨c, 0, none⟩) hcu.c0⟩
  have V7 := Lib.hid hV7
  clear hb7 hV7 R6 HC6 HB6 H7
  go_wp2_with fail
  refine (H8.out _).mono ?_
  rintro e w8 ⟨rfl, rfl⟩
  go_wp2_with fail
  refine (below_any 8 (by omega) (by omega) _ V7.out.cur).mono ?_
  rintro e w9 ⟨x, x0, x1, rfl, hcur, ho⟩
  have hV9 := V7.out.step hcur ho
  generalize w7.heap.size = q at *
  clear hcur ho V7 H8
  have h5 : x = 0 ∨ x = 1 ∨ x = 2 ∨ x = 3 ∨ 4 ≤ x := by omega
  rcases h5 with rfl | rfl | rfl | rfl | x4
  · have h9 : ¬ (9223372036854775807 < m.size + 1) := by omega
    have hms : (m ++ (⟨#[120]⟩ : ByteArray)).size ≤ 10 := by rw [ByteArray.size_append]; show m.size + 1 ≤ 10; omega
    have d0 := hV9.var.c0
    have d1 := hV9.var.c1
    have r0 := hV9.res.c0
    have r1 := hV9.res.c1
    have g0 := hV9.res.free 0
    have g1 := hV9.res.free 1
    have ST := Lib.hid ((hV9.store (.int .i64 (E : Int)) (.int .i64 (S : Int))))
    clear hV9
    go_wp2_with fail
    go_region
    all_goals
      have i0 := ST.out.2.c0
      have i1 := ST.out.2.c1
      go_wp2_with fail
      refine bodyPost_ret (v := .tuple #[.int .i64 (p : Int), .string (m ++ (⟨#[120]⟩ : ByteArray)), .agg #[.int .i64 (E : Int), .int .i64 (S : Int)]]) (by simp [results, Tryd.results25, go_sem, i0, i1]) rfl ⟨(p : Int), (m ++ (⟨#[120]⟩ : ByteArray)), (E : Int), (S : Int), ⟨⟨by omega, by omega⟩, hms, ⟨by omega, by omega⟩, by omega, by omega⟩, rfl, ST.out.1.drew⟩
  · have c1 := hV9.var.c1
    have f1 := hV9.var.free 1
    obtain ⟨z, z1, z2, z3⟩ : ∃ z : Int, ((S : Int) + 1) % 1073741789 = z ∧ ((S : Int) + 1).tmod 1073741789 = z ∧ (0 ≤ z ∧ z < 1073741789) := ⟨_, rfl, Int.tmod_eq_emod_of_nonneg (by omega), by omega⟩
    have hV10 := hV9.set1 (.int .i64 z)
    clear hV9
    go_upto_region 15 with fail
    generalize w9.setCell ⟨q, 1, none⟩ (.int .i64 z) = w10 at *
    have hV9 := hV10
    clear hV10 c1 f1 z1 z2
    have d0 := hV9.var.c0
    have d1 := hV9.var.c1
    have r0 := hV9.res.c0
    have r1 := hV9.res.c1
    have g0 := hV9.res.free 0
    have g1 := hV9.res.free 1
    have ST := Lib.hid ((hV9.store (.int .i64 (E : Int)) (.int .i64 z)))
    clear hV9
    go_wp2_with fail
    go_region
    all_goals
      have i0 := ST.out.2.c0
      have i1 := ST.out.2.c1
      go_wp2_with fail
      refine bodyPost_ret (v := .tuple #[.int .i64 (p : Int), .string m, .agg #[.int .i64 (E : Int), .int .i64 z]]) (by simp [results, Tryd.results25, go_sem, i0, i1]) rfl ⟨(p : Int), m, (E : Int), z, ⟨⟨by omega, by omega⟩, by omega, ⟨by omega, by omega⟩, by omega, by omega⟩, rfl, ST.out.1.drew⟩
  · go_wp2_with fail
    have hb10 : Below w9.heap.size w9 (w9.alloc (.cells #[.int .i64 (-1), .int .i64 0, .int .i64 1073741789] 3)) := (Below.refl _ _).alloc (Nat.le_refl _) _
    have hV10 := hV9.next hb10
    have hcs : c < w9.heap.size := cell_size (p := ⟨c, 0, none⟩) hV9.cur.c0
    refine (pickInt_any w9.heap.size 3 checkEdges rfl (by omega) (by omega) (by omega) _ hV10.cur ?_).mono ?_
    · intro j hj
      have h3 : j = 0 ∨ j = 1 ∨ j = 2 := by omega
      rcases h3 with rfl | rfl | rfl <;> simp [checkEdges]
    rintro e w11 ⟨z, hz, rfl, hcur, ho⟩
    have hzi := checkEdges_int z hz
    have hV11 := hV10.step hcur ho
    have c0 := hV11.var.c0
    have f0 := hV11.var.free 0
    have hV12 := hV11.set0 (.int .i64 z)
    clear hcur ho hz hb10 hV9 hV10 hV11 hcs
    go_upto_region 15 with fail
    generalize w11.setCell ⟨q, 0, none⟩ (.int .i64 z) = w12 at *
    have hV9 := hV12
    clear hV12 c0 f0
    have d0 := hV9.var.c0
    have d1 := hV9.var.c1
    have r0 := hV9.res.c0
    have r1 := hV9.res.c1
    have g0 := hV9.res.free 0
    have g1 := hV9.res.free 1
    have ST := Lib.hid ((hV9.store (.int .i64 z) (.int .i64 (S : Int))))
    clear hV9
    go_wp2_with fail
    go_region
    all_goals
      have i0 := ST.out.2.c0
      have i1 := ST.out.2.c1
      go_wp2_with fail
      refine bodyPost_ret (v := .tuple #[.int .i64 (p : Int), .string m, .agg #[.int .i64 z, .int .i64 (S : Int)]]) (by simp [results, Tryd.results25, go_sem, i0, i1]) rfl ⟨(p : Int), m, z, (S : Int), ⟨⟨by omega, by omega⟩, by omega, hzi, by omega, by omega⟩, rfl, ST.out.1.drew⟩
  · have V9 := Lib.hid hV9
    clear hV9
    go_wp2_with fail
    refine (groupNumber_any _ V9.out.cur).mono ?_
    rintro e w10 ⟨z, hzi, rfl, hcur, ho⟩
    have hV9 := V9.out.step hcur ho
    clear hcur ho V9
    have d0 := hV9.var.c0
    have d1 := hV9.var.c1
    have r0 := hV9.res.c0
    have r1 := hV9.res.c1
    have g0 := hV9.res.free 0
    have g1 := hV9.res.free 1
    have ST := Lib.hid ((hV9.store (.int .i64 (E : Int)) (.int .i64 (S : Int))))
    clear hV9
    go_wp2_with fail
    go_region
    all_goals
      have i0 := ST.out.2.c0
      have i1 := ST.out.2.c1
      go_wp2_with fail
      refine bodyPost_ret (v := .tuple #[.int .i64 z, .string m, .agg #[.int .i64 (E : Int), .int .i64 (S : Int)]]) (by simp [results, Tryd.results25, go_sem, i0, i1]) rfl ⟨z, m, (E : Int), (S : Int), ⟨hzi, by omega, ⟨by omega, by omega⟩, by omega, by omega⟩, rfl, ST.out.1.drew⟩
  · have n0 : ¬ (x = 0) := by omega
    have n1 : ¬ (x = 1) := by omega
    have n2 : ¬ (x = 2) := by omega
    have n3 : ¬ (x = 3) := by omega
    have d0 := hV9.var.c0
    have d1 := hV9.var.c1
    have r0 := hV9.res.c0
    have r1 := hV9.res.c1
    have g0 := hV9.res.free 0
    have g1 := hV9.res.free 1
    have ST := Lib.hid ((hV9.store (.int .i64 (E : Int)) (.int .i64 (S : Int))))
    clear hV9
    go_wp2_with fail
    go_region
    all_goals
      have i0 := ST.out.2.c0
      have i1 := ST.out.2.c1
      go_wp2_with fail
      refine bodyPost_ret (v := .tuple #[.int .i64 (p : Int), .string m, .agg #[.int .i64 (E : Int), .int .i64 (S : Int)]]) (by simp [results, Tryd.results25, go_sem, i0, i1]) rfl ⟨(p : Int), m, (E : Int), (S : Int), ⟨⟨by omega, by omega⟩, by omega, ⟨by omega, by omega⟩, by omega, by omega⟩, rfl, ST.out.1.drew⟩

end Go.Proofs.YtogmmilfdolpnabDoor
