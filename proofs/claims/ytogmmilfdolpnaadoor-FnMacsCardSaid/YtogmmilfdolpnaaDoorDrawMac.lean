/-
  Keys and texts that are drawn for sums under a key; what the law itself calls.
-/
import Derived.Test.YtogmmilfdolpnaaDoorDrawHash
import Derived.Test.YtogmmilfdolpnaaDoorXorImpl
namespace Go.Proofs.YtogmmilfdolpnaaDoor
open Go.RowKit

def keySizes : List Int := [0, 0, 26, 58, 63, 64, 65, 80]
theorem keySizes_few (x : Int) (h : x ∈ keySizes) : 0 ≤ x ∧ x ≤ 80 := by
  unfold keySizes at h
  simp at h
  omega

set_option maxRecDepth 100000 in
set_option maxHeartbeats 800000 in
theorem macKey_any {c : Nat} {a : Option Addr} {len cap : Nat} (w : World) (H : Cur c a len cap w) :
    Calls Tryd.prog 69 #[.pointer (some ⟨c, 0, none⟩)] w (DrewStr c a len cap w) := by
  have HC := Lib.hid H
  clear H
  go_enter Tryd.func69, Tryd.ntmps69
  go_wp2_with fail
  refine (below_any 6 (by omega) (by omega) _ HC.out).mono ?_
  rintro e w2 ⟨x, x0, x1, rfl, hc2, ho2⟩
  have HC2 := Lib.hid hc2
  have HO2 := Lib.hid ho2
  obtain ⟨k, rfl⟩ := Int.eq_ofNat_of_zero_le x0
  clear hc2 ho2
  go_wp2_with fail
  refine (text_any k (by omega) _ HC2.out).mono ?_
  rintro e w3 ⟨l, hl, rfl, hc3, ho3⟩
  have HC3 := Lib.hid hc3
  have HO3 := Lib.hid (HO2.out.trans ho3)
  have hcs : c < w3.heap.size := cell_size (p := ⟨c, 0, none⟩) hc3.c0
  obtain ⟨A, hA, AA⟩ : ∃ A : ByteArray, A.size = k ∧ Hid (A = ⟨l.toArray⟩) := ⟨_, by show l.toArray.size = k; simpa using hl, rfl⟩
  rw [← AA.out]
  clear hc3 ho3 hl
  go_wp2_with fail
  refine (pickInt_any w3.heap.size 8 keySizes rfl (by omega) (by omega) (by omega) _ (HC3.out.below ((Below.refl _ _).alloc (Nat.le_refl _) _)) ?_).mono ?_
  · intro j hj
    have h8 : j = 0 ∨ j = 1 ∨ j = 2 ∨ j = 3 ∨ j = 4 ∨ j = 5 ∨ j = 6 ∨ j = 7 := by omega
    rcases h8 with rfl | rfl | rfl | rfl | rfl | rfl | rfl | rfl <;> simp [keySizes]
  rintro e w4 ⟨y, hy, rfl, hc4, ho4⟩
  have HC4 := Lib.hid hc4
  have HO4 : Hid (Only c w w4) := HO3.out.trans ((Only.of_below ((Below.refl _ _).alloc (Nat.le_refl _) _)).trans ho4)
  obtain ⟨y0, y1⟩ := keySizes_few y hy
  obtain ⟨ny, rfl⟩ := Int.eq_ofNat_of_zero_le y0
  have H5 : Hid (∀ X, Calls Tryd.prog 48 #[.int .i64 ny, .int .u8 7] X fun e w' => ∃ l : List UInt8, l.length = ny ∧ e = .returned (.string ⟨l.toArray⟩) ∧ Below X.heap.size X w') := long_any ny (by omega) 7
  clear hc4 ho4 hy hcs
  go_wp2_with fail
  refine (H5.out _).mono ?_
  rintro e w5 ⟨l5, hl5, rfl, hb5⟩
  have HC5 := Lib.hid (HC4.out.below hb5)
  have HO5 := Lib.hid (HO4.out.trans (Only.of_below hb5))
  obtain ⟨B, hB, BB⟩ : ∃ B : ByteArray, B.size = ny ∧ Hid (B = ⟨l5.toArray⟩) := ⟨_, by show l5.toArray.size = ny; simpa using hl5, rfl⟩
  rw [← BB.out]
  have hs : ¬ (9223372036854775807 < A.size + B.size) := by omega
  clear hb5 hl5
  go_wp2_with fail
  go_ret
  exact ⟨A ++ B, by rw [ByteArray.size_append]; omega, rfl, HC5.out, HO5.out⟩

set_option maxRecDepth 100000 in
set_option maxHeartbeats 800000 in
theorem drawMacOf_any (a : Option Addr) (len cap : Nat) (w : World) (H : Src a len w) :
    Calls Tryd.prog 35 #[.slice a len cap] w fun e w' => ∃ k t : ByteArray, k.size ≤ 200 ∧ t.size ≤ 200 ∧ e = .returned (.tuple #[.string k, .string t]) ∧ Below w.heap.size w w' := by
  have HS := Lib.hid H
  clear H
  go_enter Tryd.func35, Tryd.ntmps35
  go_wp2_with fail
  refine (new_any a len cap _ HS.out).mono ?_
  rintro e w1 ⟨c, rfl, hc, hcur, hb⟩
  have HC1 := Lib.hid hcur
  have HB1 := Lib.hid hb
  clear hcur hb
  go_wp2_with fail
  refine (macKey_any _ HC1.out).mono ?_
  rintro e w2 ⟨k, hk, rfl, hcur, ho⟩
  have HC2 := Lib.hid hcur
  have HB2 := Lib.hid (HB1.out.trans (ho.below hc HB1.out.size))
  clear hcur ho
  go_wp2_with fail
  refine (hashText_any _ HC2.out).mono ?_
  rintro e w3 ⟨t, ht, rfl, hcur, ho⟩
  have HB3 := Lib.hid (HB2.out.trans (ho.below hc HB2.out.size))
  clear hcur ho
  go_wp2_with fail
  go_ret2
  exact ⟨k, t, hk, ht, rfl, HB3.out⟩

set_option maxHeartbeats 400000 in
theorem bigM_any (a : Option Addr) (len cap : Nat) (w : World) :
    Calls Tryd.prog 8 #[.slice a len cap] w fun e w' => e = .returned (.bool (decide (1048576 < (len : Int)))) ∧ w' = w := by
  go_enter Tryd.func8, Tryd.ntmps8
  go_wp2
  go_ret
  exact ⟨rfl, rfl⟩

set_option maxRecDepth 100000 in
set_option maxHeartbeats 400000 in
theorem begins_yes (a b : ByteArray) (h : a.size ≤ b.size) (hx : b.extract 0 a.size = a) (w : World) :
    Calls Tryd.prog 39 #[.string a, .string b] w fun e w' => e = .returned (.bool true) ∧ w' = w := by
  have h1 : (a.size : Int) ≤ (b.size : Int) := by omega
  go_enter Tryd.func39, Tryd.ntmps39
  go_wp2_with fail
  go_ret
  exact ⟨rfl, rfl⟩

set_option maxRecDepth 100000 in
set_option maxHeartbeats 1600000 in
theorem turnedText_any (s : ByteArray) (h0 : 0 < s.size) (hs : s.size ≤ 1000) (g cp : Nat) (z0 z1 : Int) (hz0 : 0 ≤ z0 ∧ z0 ≤ 9999) (hz1 : 0 ≤ z1 ∧ z1 ≤ 9999) (w : World) (hg : g < w.heap.size) (c0 : w.cell? ⟨g, 0, none⟩ = some (.int .i64 z0)) (c1 : w.cell? ⟨g, 1, none⟩ = some (.int .i64 z1)) :
    Calls Tryd.prog 41 #[.string s, .slice (some ⟨g, 0, none⟩) 12 cp] w fun e w' => ∃ t : ByteArray, t.toList ≠ s.toList ∧ e = .returned (.string t) ∧ Below w.heap.size w w' := by
  obtain ⟨cp1, w1, hcv, hb1, hr1⟩ := bytes_text w s
  have hl : s.data.toList.length = s.size := by simp
  obtain ⟨k, hk, hr1', hr2⟩ : ∃ k : Nat, k < s.size ∧ z0 % (s.size : Int) = (k : Int) ∧ z0.tmod (s.size : Int) = (k : Int) := by
    have h1 : 0 ≤ z0 % (s.size : Int) := Int.emod_nonneg _ (by omega)
    have h2 := Int.emod_lt_of_pos z0 (show (0 : Int) < (s.size : Int) by omega)
    refine ⟨(z0 % (s.size : Int)).toNat, by omega, by omega, ?_⟩
    rw [Int.tmod_eq_emod_of_nonneg hz0.1]
    omega
  obtain ⟨m, hm, hm1, hm2⟩ : ∃ m : Nat, m < 255 ∧ z1 % 255 = (m : Int) ∧ z1.tmod 255 = (m : Int) := by
    refine ⟨(z1 % 255).toNat, by omega, by omega, ?_⟩
    rw [Int.tmod_eq_emod_of_nonneg hz1.1]
    omega
  obtain ⟨y, hy1, hy2⟩ : ∃ y : UInt8, 1 + (m : Int) = (y.toNat : Int) ∧ y ≠ 0 := by
    refine ⟨UInt8.ofNat (1 + m), by rw [UInt8.toNat_ofNat']; omega, fun h => ?_⟩
    have := congrArg UInt8.toNat h
    rw [UInt8.toNat_ofNat'] at this
    simp at this
    omega
  obtain ⟨x, XX⟩ : ∃ x : UInt8, Hid (x = s.data.toList.getD k 0) := ⟨_, rfl⟩
  have d0 : w1.cell? ⟨g, 0, none⟩ = some (.int .i64 z0) := by rw [hb1.cell (p := ⟨g, 0, none⟩) hg]; exact c0
  have d1 : w1.cell? ⟨g, 1, none⟩ = some (.int .i64 z1) := by rw [hb1.cell (p := ⟨g, 1, none⟩) hg]; exact c1
  have e0 := hr1.cell k (by omega)
  have f0 := hr1.free k (by omega)
  rw [← XX.out] at e0
  have hxor := xor_bytes x y
  have hset := (hr1.set k (by omega) (x ^^^ y)).drew
  have hrd := hset.back s.size cp1 (by rw [List.length_set]; exact hl)
  have HB : Hid (Below w.heap.size w (w1.setCell ⟨w.heap.size, k, none⟩ (.int .u8 ((x ^^^ y).toNat : Nat))).drew) := (hb1.setCell (p := ⟨w.heap.size, k, none⟩) (Nat.le_refl _) _).drew
  have HE : Hid ((⟨(s.data.toList.set k (x ^^^ y)).toArray⟩ : ByteArray).toList ≠ s.toList) := by
    show _ ≠ _
    rw [ByteArray.toList_eq, ByteArray.toList_eq]
    intro h
    have h' : s.data.toList.set k (x ^^^ y) = s.data.toList := h
    have h2 := congrArg (fun l : List UInt8 => l.getD k 0) h'
    simp only [List.getD_eq_getElem?_getD] at h2
    rw [List.getElem?_set_self (by omega), ← List.getD_eq_getElem?_getD, ← XX.out] at h2
    have h3 : x ^^^ y = x := h2
    have h4 := congrArg (x ^^^ ·) h3
    simp only [← UInt8.xor_assoc, UInt8.xor_self, UInt8.zero_xor] at h4
    exact hy2 h4
  generalize hT : (⟨(s.data.toList.set k (x ^^^ y)).toArray⟩ : ByteArray) = t at hrd HE
  generalize x ^^^ y = v at hxor hrd HB
  have hk2 : (k : Int) < (s.size : Int) := by omega
  have hs0 : ¬ ((s.size : Int) = 0) := by omega
  have hy3 : (1 + (m : Int)) % 256 = (y.toNat : Int) := by omega
  have hyl := y.toNat_lt
  clear hset hr1 hT hb1 c0 c1 XX
  go_enter Tryd.func41, Tryd.ntmps41
  go_wp2_with fail
  go_region
  all_goals
    go_wp2_with fail
    go_ret
    exact ⟨t, HE.out, rfl, HB.out⟩

end Go.Proofs.YtogmmilfdolpnaaDoor
