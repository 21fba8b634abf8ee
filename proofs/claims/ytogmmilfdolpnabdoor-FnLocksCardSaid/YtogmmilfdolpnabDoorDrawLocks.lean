/-
  Keys and texts that are drawn for sums under a key; what the law itself calls.
  A text that is drawn as another one, spoilt or not.
  Keys, numbers and texts that are drawn for locked texts.
-/
import Derived.Test.YtogmmilfdolpnabDoorDrawHash
import Derived.Test.YtogmmilfdolpnabDoorXorImpl
import Derived.Test.YtogmmilfdolpnabDoorDrawAll
import Derived.Deep.RegionHeld3
import Derived.BigQuiet
import Derived.Deep.QuietTactic
import Derived.Test.YtogmmilfdolpnabDoorLockSpecs
namespace Go.Proofs.YtogmmilfdolpnabDoor
open Go.RowKit

def keySizes : List Int := [0, 0, 26, 58, 63, 64, 65, 80]
theorem keySizes_few (x : Int) (h : x ∈ keySizes) : 0 ≤ x ∧ x ≤ 80 := by
  unfold keySizes at h
  simp at h
  omega

set_option maxRecDepth 100000 in
set_option maxHeartbeats 800000 in
theorem macKey_any {c : Nat} {a : Option Addr} {len cap : Nat} (w : World) (H : Cur c a len cap w) :
    Calls Tryd.prog 32 #[.pointer (some ⟨c, 0, none⟩)] w (DrewStr c a len cap w) := by
  have HC := Lib.hid H
  clear H
  go_enter Tryd.func32, Tryd.ntmps32
  go_wp2_with fail
  refine (below_any 6 (by omega) (by omega) _ HC.out).mono ?_
  rintro e w2 ⟨x, x0, x1, rfl, hc2, ho2⟩
  have HC2 := Lib.hid hc2
  have HO2 := Lib.hid ho2
  obtain ⟨k, rfl⟩ := Int.eq_ofNat_of_zero_le x0
  clear hc2 ho2
  go_wp2_with fail
  refine (text_any k (by omega) _ HC2.out).mono ?_
  rintro e w3 ⟨l, hl, rfl, hc3, ho3⟩
  have HC3 := Lib.hid hc3
  have HO3 := Lib.hid (HO2.out.trans ho3)
  have hcs : c < w3.heap.size := cell_size (p := ⟨c, 0, none⟩) hc3.c0
  obtain ⟨A, hA, AA⟩ : ∃ A : ByteArray, A.size = k ∧ Hid (A = ⟨l.toArray⟩) := ⟨_, by show l.toArray.size = k; simpa using hl, rfl⟩
  rw [← AA.out]
  clear hc3 ho3 hl
  go_wp2_with fail
  refine (pickInt_any w3.heap.size 8 keySizes rfl (by omega) (by omega) (by omega) _ (HC3.out.below ((Below.refl _ _).alloc (Nat.le_refl _) _)) ?_).mono ?_
  · intro j hj
    have h8 : j = 0 ∨ j = 1 ∨ j = 2 ∨ j = 3 ∨ j = 4 ∨ j = 5 ∨ j = 6 ∨ j = 7 := by omega
    rcases h8 with rfl | rfl | rfl | rfl | rfl | rfl | rfl | rfl <;> simp [keySizes]
  rintro e w4 ⟨y, hy, rfl, hc4, ho4⟩
  have HC4 := Lib.hid hc4
  have HO4 : Hid (Only c w w4) := HO3.out.trans ((Only.of_below ((Below.refl _ _).alloc (Nat.le_refl _) _)).trans ho4)
  obtain ⟨y0, y1⟩ := keySizes_few y hy
  obtain ⟨ny, rfl⟩ := Int.eq_ofNat_of_zero_le y0
  have H5 : Hid (∀ X, Calls Tryd.prog 78 #[.int .i64 ny, .int .u8 7] X fun e w' => ∃ l : List UInt8, l.length = ny ∧ e = .returned (.string ⟨l.toArray⟩) ∧ Below X.heap.size X w') := long_any ny (by omega) 7
  clear hc4 ho4 hy hcs
  go_wp2_with fail
  refine (H5.out _).mono ?_
  rintro e w5 ⟨l5, hl5, rfl, hb5⟩
  have HC5 := Lib.hid (HC4.out.below hb5)
  have HO5 := Lib.hid (HO4.out.trans (Only.of_below hb5))
  obtain ⟨B, hB, BB⟩ : ∃ B : ByteArray, B.size = ny ∧ Hid (B = ⟨l5.toArray⟩) := ⟨_, by show l5.toArray.size = ny; simpa using hl5, rfl⟩
  rw [← BB.out]
  have hs : ¬ (9223372036854775807 < A.size + B.size) := by omega
  clear hb5 hl5
  go_wp2_with fail
  go_ret
  exact ⟨A ++ B, by rw [ByteArray.size_append]; omega, rfl, HC5.out, HO5.out⟩

set_option maxHeartbeats 400000 in
theorem bigM_any (a : Option Addr) (len cap : Nat) (w : World) :
    Calls Tryd.prog 6 #[.slice a len cap] w fun e w' => e = .returned (.bool (decide (1048576 < (len : Int)))) ∧ w' = w := by
  go_enter Tryd.func6, Tryd.ntmps6
  go_wp2
  go_ret
  exact ⟨rfl, rfl⟩

set_option maxRecDepth 100000 in
set_option maxHeartbeats 400000 in
theorem begins_yes (a b : ByteArray) (h : a.size ≤ b.size) (hx : b.extract 0 a.size = a) (w : World) :
    Calls Tryd.prog 14 #[.string a, .string b] w fun e w' => e = .returned (.bool true) ∧ w' = w := by
  have h1 : (a.size : Int) ≤ (b.size : Int) := by omega
  go_enter Tryd.func14, Tryd.ntmps14
  go_wp2_with fail
  go_ret
  exact ⟨rfl, rfl⟩

end Go.Proofs.YtogmmilfdolpnabDoor
namespace Go.Proofs.YtogmmilfdolpnabDoor
open Go.RowKit

set_option maxRecDepth 100000 in
set_option maxHeartbeats 1600000 in
theorem spoilt_any {c : Nat} {a : Option Addr} {len cap : Nat} (s : ByteArray) (hs : s.size ≤ 1000) (w : World) (H : Cur c a len cap w) :
    Calls Tryd.prog 45 #[.pointer (some ⟨c, 0, none⟩), .string s] w fun e w' => ∃ t : ByteArray, t.size ≤ 1001 ∧ e = .returned (.string t) ∧ Cur c a len cap w' ∧ Only c w w' := by
  have HC := Lib.hid H
  clear H
  go_enter Tryd.func45, Tryd.ntmps45
  go_wp2_with fail
  refine (below_any 12 (by omega) (by omega) _ HC.out).mono ?_
  rintro e w1 ⟨x, x0, x1, rfl, hc1, ho1⟩
  have HC1 := Lib.hid hc1
  have HO1 := Lib.hid ho1
  clear hc1 ho1
  have h4 : x = 0 ∨ x = 1 ∨ x = 2 ∨ x = 3 ∨ 4 ≤ x := by omega
  rcases h4 with rfl | rfl | rfl | rfl | hx4
  · go_wp2_with fail
    refine (text_any 1 (by omega) _ HC1.out).mono ?_
    rintro e w2 ⟨l, hl, rfl, hc2, ho2⟩
    have HC2 := Lib.hid hc2
    have HO2 := Lib.hid (HO1.out.trans ho2)
    obtain ⟨A, hA, AA⟩ : ∃ A : ByteArray, A.size = 1 ∧ Hid (A = ⟨l.toArray⟩) := ⟨_, by show l.toArray.size = 1; simpa using hl, rfl⟩
    rw [← AA.out]
    have h9 : ¬ (9223372036854775807 < s.size + A.size) := by omega
    clear hc2 ho2 hl
    go_wp2_with fail
    go_ret
    exact ⟨s ++ A, by rw [ByteArray.size_append]; omega, rfl, HC2.out, HO2.out⟩
  · go_wp2_with fail
    refine (below_any ((s.size : Int) + 1) (by omega) (by omega) _ HC1.out).mono ?_
    rintro e w2 ⟨y, y0, y1, rfl, hc2, ho2⟩
    have HC2 := Lib.hid hc2
    have HO2 := Lib.hid (HO1.out.trans ho2)
    obtain ⟨k, rfl⟩ := Int.eq_ofNat_of_zero_le y0
    have hk : (k : Int) ≤ (s.size : Int) := by omega
    clear hc2 ho2
    go_wp2_with fail
    go_ret
    exact ⟨_, by rw [ByteArray.size_extract]; omega, rfl, HC2.out, HO2.out⟩
  · by_cases h0 : 0 < (s.size : Int)
    · go_wp2_with fail
      refine (below_any (s.size : Int) (by omega) (by omega) _ HC1.out).mono ?_
      rintro e w2 ⟨y, y0, y1, rfl, hc2, ho2⟩
      have S2 : Hid (Cur c a len cap w2 ∧ Only c w w2) := ⟨hc2, HO1.out.trans ho2⟩
      obtain ⟨k, rfl⟩ := Int.eq_ofNat_of_zero_le y0
      have hk : (k : Int) ≤ (s.size : Int) := by omega
      have hk1 : (k : Int) + 1 ≤ (s.size : Int) := by omega
      have hkw : IntKind.i64.wrap ((k : Int) + 1) = (k : Int) + 1 := by rw [IntKind.wrap_i64]; omega
      have hk3 : ((k : Int) + 1).toNat = k + 1 := by omega
      have hk4 : (0 : Int) ≤ (k : Int) + 1 := by omega
      obtain ⟨p1, hp1⟩ : ∃ p, s.extract 0 k = p := ⟨_, rfl⟩
      obtain ⟨p2, hp2⟩ : ∃ p, s.extract (k + 1) s.size = p := ⟨_, rfl⟩
      have q1 : p1.size ≤ s.size := by rw [← hp1, ByteArray.size_extract]; omega
      have q3 : p1.size + p2.size ≤ s.size := by rw [← hp1, ← hp2, ByteArray.size_extract, ByteArray.size_extract]; omega
      have K : Hid (∀ X, (Cur c a len cap X ∧ Only c w X) → Calls Tryd.prog 71 #[.pointer (some ⟨c, 0, none⟩), .int .i64 1] X fun e Y => ∃ B : ByteArray, B.size = 1 ∧ e = .returned (.string B) ∧ (Cur c a len cap Y ∧ Only c w Y)) := fun X hX => by
        refine (text_any 1 (by omega) X hX.1).mono ?_
        rintro e Y ⟨l, hl, rfl, hc, ho⟩
        exact ⟨⟨l.toArray⟩, by show l.toArray.size = 1; simpa using hl, rfl, hc, hX.2.trans ho⟩
      clear hc2 ho2
      go_wp2_with fail
      go_region_held3 (fun X => Cur c a len cap X ∧ Only c w X) (first | (with_reducible assumption) | (with_reducible exact ⟨Cur.below S2.out.1 (Below.drew (Below.refl _ _)), Only.trans S2.out.2 (Only.of_below (Below.drew (Below.refl _ _)))⟩)) (first | (go_at_call 71; refine (K.out _ (by assumption)).mono ?_; rintro e v1 ⟨B, hB, rfl, hS⟩; have m1 : ∀ X, (Op.stringOp .add p1 B).run Tryd.prog X = .ok (.string (p1 ++ B)) X := (fun X => run_string_add_sum X p1 B (by omega)); have m2 : ∀ X, (Op.stringOp .add (p1 ++ B) p2).run Tryd.prog X = .ok (.string (p1 ++ B ++ p2)) X := (fun X => run_string_add_sum X (p1 ++ B) p2 (by rw [ByteArray.size_append]; omega))))
      all_goals
        go_wp2_with fail
        go_ret
        exact ⟨p1 ++ B ++ p2, by rw [ByteArray.size_append, ByteArray.size_append]; omega, rfl, hS.1, hS.2⟩
    · go_wp2_with fail
      go_ret
      exact ⟨s, by omega, rfl, HC1.out, HO1.out⟩
  · by_cases h0 : 0 < (s.size : Int)
    · go_wp2_with fail
      refine (below_any (s.size : Int) (by omega) (by omega) _ HC1.out).mono ?_
      rintro e w2 ⟨y, y0, y1, rfl, hc2, ho2⟩
      have S2 : Hid (Cur c a len cap w2 ∧ Only c w w2) := ⟨hc2, HO1.out.trans ho2⟩
      obtain ⟨k, rfl⟩ := Int.eq_ofNat_of_zero_le y0
      have hk : (k : Int) ≤ (s.size : Int) := by omega
      have hk1 : (k : Int) + 1 ≤ (s.size : Int) := by omega
      have hkw : IntKind.i64.wrap ((k : Int) + 1) = (k : Int) + 1 := by rw [IntKind.wrap_i64]; omega
      have hk3 : ((k : Int) + 1).toNat = k + 1 := by omega
      have hk4 : (0 : Int) ≤ (k : Int) + 1 := by omega
      obtain ⟨p1, hp1⟩ : ∃ p, s.extract 0 k = p := ⟨_, rfl⟩
      obtain ⟨p2, hp2⟩ : ∃ p, s.extract (k + 1) s.size = p := ⟨_, rfl⟩
      have q1 : p1.size ≤ s.size := by rw [← hp1, ByteArray.size_extract]; omega
      have q3 : p1.size + p2.size ≤ s.size := by rw [← hp1, ← hp2, ByteArray.size_extract, ByteArray.size_extract]; omega
      have K : Hid (∀ X, (Cur c a len cap X ∧ Only c w X) → Calls Tryd.prog 71 #[.pointer (some ⟨c, 0, none⟩), .int .i64 1] X fun e Y => ∃ B : ByteArray, B.size = 1 ∧ e = .returned (.string B) ∧ (Cur c a len cap Y ∧ Only c w Y)) := fun X hX => by
        refine (text_any 1 (by omega) X hX.1).mono ?_
        rintro e Y ⟨l, hl, rfl, hc, ho⟩
        exact ⟨⟨l.toArray⟩, by show l.toArray.size = 1; simpa using hl, rfl, hc, hX.2.trans ho⟩
      clear hc2 ho2
      go_wp2_with fail
      go_region_held3 (fun X => Cur c a len cap X ∧ Only c w X) (first | (with_reducible assumption) | (with_reducible exact ⟨Cur.below S2.out.1 (Below.drew (Below.refl _ _)), Only.trans S2.out.2 (Only.of_below (Below.drew (Below.refl _ _)))⟩)) (first | (go_at_call 71; refine (K.out _ (by assumption)).mono ?_; rintro e v1 ⟨B, hB, rfl, hS⟩; have m1 : ∀ X, (Op.stringOp .add p1 B).run Tryd.prog X = .ok (.string (p1 ++ B)) X := (fun X => run_string_add_sum X p1 B (by omega)); have m2 : ∀ X, (Op.stringOp .add (p1 ++ B) p2).run Tryd.prog X = .ok (.string (p1 ++ B ++ p2)) X := (fun X => run_string_add_sum X (p1 ++ B) p2 (by rw [ByteArray.size_append]; omega))))
      all_goals
        go_wp2_with fail
        go_ret
        exact ⟨p1 ++ B ++ p2, by rw [ByteArray.size_append, ByteArray.size_append]; omega, rfl, hS.1, hS.2⟩
    · go_wp2_with fail
      go_ret
      exact ⟨s, by omega, rfl, HC1.out, HO1.out⟩
  · have d0 : ¬ (x = 0) := by omega
    have d1 : ¬ (x = 1) := by omega
    have d2 : ¬ (x = 2) := by omega
    have d3 : ¬ (x = 3) := by omega
    go_wp2_with fail
    go_ret
    exact ⟨s, by omega, rfl, HC1.out, HO1.out⟩

end Go.Proofs.YtogmmilfdolpnabDoor
namespace Go.Proofs.YtogmmilfdolpnabDoor
open Go.RowKit

def places (n : Int) : List Int := [-1, n, n + 1, 9223372036854775807, -9223372036854775808]
theorem places_int (n x : Int) (h0 : 0 < n) (h1 : n ≤ 1000000) (h : x ∈ places n) : -9223372036854775808 ≤ x ∧ x ≤ 9223372036854775807 := by
  simp only [places, List.mem_cons, List.not_mem_nil, or_false] at h
  omega

set_option maxRecDepth 100000 in
set_option maxHeartbeats 800000 in
theorem place_any {c : Nat} {a : Option Addr} {len cap : Nat} (n : Int) (h0 : 0 < n) (h1 : n ≤ 1000000) (w : World) (H : Cur c a len cap w) :
    Calls Tryd.prog 33 #[.pointer (some ⟨c, 0, none⟩), .int .i64 n] w fun e w' => ∃ x : Int, (-9223372036854775808 ≤ x ∧ x ≤ 9223372036854775807) ∧ e = .returned (.int .i64 x) ∧ Cur c a len cap w' ∧ Only c w w' := by
  have HC := Lib.hid H
  clear H
  go_enter Tryd.func33, Tryd.ntmps33
  go_wp2_with fail
  refine (once_any 15 (by omega) (by omega) _ HC.out).mono ?_
  rintro e w1 ⟨b, rfl, hc1, ho1⟩
  have HC1 := Lib.hid hc1
  have HO1 := Lib.hid ho1
  clear hc1 ho1
  cases b
  · go_wp2_with fail
    refine (below_any n (by omega) (by omega) _ HC1.out).mono ?_
    rintro e w2 ⟨y, y0, y1, rfl, hc2, ho2⟩
    have HC2 := Lib.hid hc2
    have HO2 := Lib.hid ho2
    clear hc2 ho2
    go_wp2
    go_ret
    exact ⟨y, ⟨by omega, by omega⟩, rfl, HC2.out, HO1.out.trans HO2.out⟩
  · go_wp2_with fail
    have hcs : c < w1.heap.size := cell_size (p := ⟨c, 0, none⟩) HC1.out.c0
    refine (pickInt_any w1.heap.size 5 (places n) rfl (by omega) (by omega) (by omega) _ (HC1.out.below ((Below.refl _ _).alloc (Nat.le_refl _) _)) ?_).mono ?_
    · intro j hj
      have h5 : j = 0 ∨ j = 1 ∨ j = 2 ∨ j = 3 ∨ j = 4 := by omega
      rcases h5 with rfl | rfl | rfl | rfl | rfl <;> simp [places]
    rintro e w2 ⟨y, hy, rfl, hc2, ho2⟩
    have HC2 := Lib.hid hc2
    have HO2 : Hid (Only c w1 w2) := (Only.of_below ((Below.refl _ _).alloc (Nat.le_refl _) _)).trans ho2
    have HY := Lib.hid (places_int n y h0 h1 hy)
    clear hc2 ho2 hy hcs
    go_wp2
    go_ret
    exact ⟨y, HY.out, rfl, HC2.out, HO1.out.trans HO2.out⟩

def lockSizes : List Int := [0, 0, 5, 13, 14, 15, 40]
theorem lockSizes_few (x : Int) (h : x ∈ lockSizes) : 0 ≤ x ∧ x ≤ 40 := by
  unfold lockSizes at h
  simp at h
  omega

set_option maxRecDepth 100000 in
set_option maxHeartbeats 800000 in
theorem lockText_any {c : Nat} {a : Option Addr} {len cap : Nat} (w : World) (H : Cur c a len cap w) :
    Calls Tryd.prog 34 #[.pointer (some ⟨c, 0, none⟩)] w (DrewStr c a len cap w) := by
  have HC := Lib.hid H
  clear H
  go_enter Tryd.func34, Tryd.ntmps34
  go_wp2_with fail
  refine (below_any 9 (by omega) (by omega) _ HC.out).mono ?_
  rintro e w2 ⟨x, x0, x1, rfl, hc2, ho2⟩
  have HC2 := Lib.hid hc2
  have HO2 := Lib.hid ho2
  obtain ⟨k, rfl⟩ := Int.eq_ofNat_of_zero_le x0
  clear hc2 ho2
  go_wp2_with fail
  refine (text_any k (by omega) _ HC2.out).mono ?_
  rintro e w3 ⟨l, hl, rfl, hc3, ho3⟩
  have HC3 := Lib.hid hc3
  have HO3 := Lib.hid (HO2.out.trans ho3)
  have hcs : c < w3.heap.size := cell_size (p := ⟨c, 0, none⟩) hc3.c0
  obtain ⟨A, hA, AA⟩ : ∃ A : ByteArray, A.size = k ∧ Hid (A = ⟨l.toArray⟩) := ⟨_, by show l.toArray.size = k; simpa using hl, rfl⟩
  rw [← AA.out]
  clear hc3 ho3 hl
  go_wp2_with fail
  refine (pickInt_any w3.heap.size 7 lockSizes rfl (by omega) (by omega) (by omega) _ (HC3.out.below ((Below.refl _ _).alloc (Nat.le_refl _) _)) ?_).mono ?_
  · intro j hj
    have h7 : j = 0 ∨ j = 1 ∨ j = 2 ∨ j = 3 ∨ j = 4 ∨ j = 5 ∨ j = 6 := by omega
    rcases h7 with rfl | rfl | rfl | rfl | rfl | rfl | rfl <;> simp [lockSizes]
  rintro e w4 ⟨y, hy, rfl, hc4, ho4⟩
  have HC4 := Lib.hid hc4
  have HO4 : Hid (Only c w w4) := HO3.out.trans ((Only.of_below ((Below.refl _ _).alloc (Nat.le_refl _) _)).trans ho4)
  obtain ⟨y0, y1⟩ := lockSizes_few y hy
  obtain ⟨ny, rfl⟩ := Int.eq_ofNat_of_zero_le y0
  have H5 : Hid (∀ X, Calls Tryd.prog 78 #[.int .i64 ny, .int .u8 66] X fun e w' => ∃ l : List UInt8, l.length = ny ∧ e = .returned (.string ⟨l.toArray⟩) ∧ Below X.heap.size X w') := long_any ny (by omega) 66
  clear hc4 ho4 hy hcs
  go_wp2_with fail
  refine (H5.out _).mono ?_
  rintro e w5 ⟨l5, hl5, rfl, hb5⟩
  have HC5 := Lib.hid (HC4.out.below hb5)
  have HO5 := Lib.hid (HO4.out.trans (Only.of_below hb5))
  obtain ⟨B, hB, BB⟩ : ∃ B : ByteArray, B.size = ny ∧ Hid (B = ⟨l5.toArray⟩) := ⟨_, by show l5.toArray.size = ny; simpa using hl5, rfl⟩
  rw [← BB.out]
  have hs : ¬ (9223372036854775807 < A.size + B.size) := by omega
  clear hb5 hl5
  go_wp2_with fail
  go_ret
  exact ⟨A ++ B, by rw [ByteArray.size_append]; omega, rfl, HC5.out, HO5.out⟩

set_option maxRecDepth 100000 in
set_option maxHeartbeats 800000 in
theorem drawLockText_any (a : Option Addr) (len cap : Nat) (w : World) (H : Src a len w) :
    Calls Tryd.prog 7 #[.slice a len cap] w fun e w' => ∃ (k : ByteArray) (x : Int) (t : ByteArray), k.size ≤ 200 ∧ (-9223372036854775808 ≤ x ∧ x ≤ 9223372036854775807) ∧ t.size ≤ 200 ∧ e = .returned (.tuple #[.string k, .int .i64 x, .string t]) ∧ Below w.heap.size w w' := by
  have HS := Lib.hid H
  clear H
  go_enter Tryd.func7, Tryd.ntmps7
  go_wp2_with fail
  refine (new_any a len cap _ HS.out).mono ?_
  rintro e w1 ⟨c, rfl, hc, hcur, hb⟩
  have HC1 := Lib.hid hcur
  have HB1 := Lib.hid hb
  clear hcur hb
  go_wp2_with fail
  refine (macKey_any _ HC1.out).mono ?_
  rintro e w2 ⟨k, hk, rfl, hcur, ho⟩
  have HC2 := Lib.hid hcur
  have HB2 := Lib.hid (HB1.out.trans (ho.below hc HB1.out.size))
  clear hcur ho
  go_wp2_with fail
  refine (place_any 300 (by omega) (by omega) _ HC2.out).mono ?_
  rintro e w3 ⟨x, hx, rfl, hcur, ho⟩
  have HC3 := Lib.hid hcur
  have HB3 := Lib.hid (HB2.out.trans (ho.below hc HB2.out.size))
  have HX := Lib.hid hx
  clear hcur ho hx
  go_wp2_with fail
  refine (lockText_any _ HC3.out).mono ?_
  rintro e w4 ⟨t, ht, rfl, hcur, ho⟩
  have HB4 := Lib.hid (HB3.out.trans (ho.below hc HB3.out.size))
  clear hcur ho
  go_wp2_with fail
  refine bodyPost_ret (v := .tuple #[.string k, .int .i64 x, .string t]) (by simp [results, Tryd.results7, go_sem]) rfl ⟨k, x, t, hk, HX.out, ht, rfl, HB4.out⟩

set_option maxRecDepth 100000 in
set_option maxHeartbeats 1600000 in
theorem drawOpenText_any (a : Option Addr) (len cap : Nat) (w : World) (H : Src a len w) :
    Calls Tryd.prog 11 #[.slice a len cap] w fun e w' => ∃ (k : ByteArray) (n : Nat) (t : ByteArray), k.size ≤ 201 ∧ n ≤ 300 ∧ t.size ≤ 1001 ∧ e = .returned (.tuple #[.string k, .int .i64 n, .string t]) ∧ Below w.heap.size w w' := by
  have HS := Lib.hid H
  clear H
  go_enter Tryd.func11, Tryd.ntmps11
  go_wp2_with fail
  refine (new_any a len cap _ HS.out).mono ?_
  rintro e w1 ⟨c, rfl, hc, hcur, hb⟩
  have HC1 := Lib.hid hcur
  have HB1 := Lib.hid hb
  clear hcur hb
  go_wp2_with fail
  refine (macKey_any _ HC1.out).mono ?_
  rintro e w2 ⟨k, hk, rfl, hcur, ho⟩
  have HC2 := Lib.hid hcur
  have HB2 := Lib.hid (HB1.out.trans (ho.below hc HB1.out.size))
  clear hcur ho
  go_wp2_with fail
  refine (below_any 300 (by omega) (by omega) _ HC2.out).mono ?_
  rintro e w3 ⟨x, x0, x1, rfl, hcur, ho⟩
  have HC3 := Lib.hid hcur
  have HB3 := Lib.hid (HB2.out.trans (ho.below hc HB2.out.size))
  obtain ⟨n, rfl⟩ := Int.eq_ofNat_of_zero_le x0
  clear hcur ho
  go_wp2_with fail
  refine (lockText_any _ HC3.out).mono ?_
  rintro e w4 ⟨t, ht, rfl, hcur, ho⟩
  have HC4 := Lib.hid hcur
  have HB4 := Lib.hid (HB3.out.trans (ho.below hc HB3.out.size))
  have h5 := specLock_yes k n t (by omega) (by omega) (by omega)
  have hls := lockP_size k n t
  obtain ⟨l, L⟩ : ∃ l, Hid (l = lockP k n t) := ⟨_, rfl⟩
  rw [← L.out] at h5 hls
  have H5 := Lib.hid h5
  clear hcur ho h5
  go_wp2_with fail
  refine (H5.out _).mono ?_
  rintro e w5 ⟨rfl, hb5⟩
  have HC5 := Lib.hid (HC4.out.below hb5)
  have HB5 := Lib.hid (HB4.out.trans (hb5.mono HB4.out.size))
  clear hb5
  go_wp2_with fail
  refine (below_any 6 (by omega) (by omega) _ HC5.out).mono ?_
  rintro e w6 ⟨y, y0, y1, rfl, hcur, ho⟩
  have HC6 := Lib.hid hcur
  have HB6 := Lib.hid (HB5.out.trans (ho.below hc HB5.out.size))
  clear hcur ho
  have h4 : y = 0 ∨ y = 1 ∨ y = 2 ∨ 3 ≤ y := by omega
  rcases h4 with rfl | rfl | rfl | hy3
  · go_wp2_with fail
    refine (spoilt_any l (by omega) _ HC6.out).mono ?_
    rintro e w7 ⟨u, hu, rfl, hcur, ho⟩
    have HB7 := Lib.hid (HB6.out.trans (ho.below hc HB6.out.size))
    clear hcur ho
    go_wp2_with fail
    refine bodyPost_ret (v := .tuple #[.string k, .int .i64 n, .string u]) (by simp [results, Tryd.results11, go_sem]) rfl ⟨k, n, u, by omega, by omega, hu, rfl, HB7.out⟩
  · go_wp2_with fail
    refine bodyPost_ret (v := .tuple #[.string k, .int .i64 ((n : Int) + 1), .string l]) (by simp [results, Tryd.results11, go_sem]) rfl ?_
    exact ⟨k, n + 1, l, by omega, by omega, by omega, rfl, HB6.out⟩
  · have h9 : ¬ (9223372036854775807 < k.size + 1) := by omega
    go_wp2_with fail
    refine bodyPost_ret (v := .tuple #[.string (k ++ (⟨#[120]⟩ : ByteArray)), .int .i64 n, .string l]) (by simp [results, Tryd.results11, go_sem]) rfl ?_
    exact ⟨k ++ (⟨#[120]⟩ : ByteArray), n, l, by rw [ByteArray.size_append]; show k.size + 1 ≤ 201; omega, by omega, by omega, rfl, HB6.out⟩
  · have d0 : ¬ (y = 0) := by omega
    have d1 : ¬ (y = 1) := by omega
    have d2 : ¬ (y = 2) := by omega
    go_wp2_with fail
    refine bodyPost_ret (v := .tuple #[.string k, .int .i64 n, .string l]) (by simp [results, Tryd.results11, go_sem]) rfl ⟨k, n, l, by omega, by omega, by omega, rfl, HB6.out⟩

end Go.Proofs.YtogmmilfdolpnabDoor
