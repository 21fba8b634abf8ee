/-
  The given masks, and what opens a locked text.
  The given OpenText.
  What OpenText tells at every argument, in plain words; the given one.
-/
import Derived.Test.YtoaifgblbfdncabGreatDoorJ09
import Derived.Test.YtoaifgblbfdncabGreatDoorJ10
namespace Go.Proofs.YtoaifgblbfdncabGreatDoor
open Go.RowKit

set_option maxRecDepth 100000 in
set_option maxHeartbeats 1600000 in
theorem specMaskF_yes (key : ByteArray) (num n : Nat) (hnum : num ≤ 1000000000) (hn : n ≤ 8000) (hk : key.size ≤ 300000000) (w : World) :
    Calls Tryz.prog 53 #[.string key, .int .i64 num, .int .i64 n] w fun e w' => e = .returned (.tuple #[.string (maskB key num n), .bool true]) ∧ Below w.heap.size w w' := by
  obtain ⟨i0, hif, hz0, hz1, hz2⟩ := info_parts infoByteS
  have H0 := Lib.hid (inRange_yes (num : Int) 0 1000000000 (by omega) (by omega))
  have H1 := Lib.hid (inRange_yes (n : Int) 0 8000 (by omega) (by omega))
  have hO := Lib.hid (OwnB.lit w w.heap.size 5 (Nat.le_refl _))
  have hB := Lib.hid ((Below.refl w.heap.size w).alloc (Nat.le_refl _) (.cells #[] 5))
  have h2 := l01Var_any num hnum
  have hvl : (⟨(var num).toArray⟩ : ByteArray).size ≤ 5 := by have := var_few num hnum; show (var num).toArray.size ≤ 5; rw [List.size_toArray]; exact this
  have hP : ∀ j, Hid (macP key ((⟨#[109]⟩ : ByteArray) ++ (⟨(var num).toArray⟩ : ByteArray) ++ (⟨#[UInt8.ofNat j]⟩ : ByteArray)) = maskPart key num j) := fun j => rfl
  obtain ⟨vt, VT⟩ : ∃ v : ByteArray, Hid (v = ⟨(var num).toArray⟩) := ⟨_, rfl⟩
  rw [← VT.out] at h2 hvl hP
  have H2 := Lib.hid h2
  have HP := Lib.hid hP
  clear h2 hP hnum
  go_enter Tryz.func53, Tryz.ntmps53
  go_wp2_with fail
  refine (H0.out _).mono ?_
  rintro e w1 ⟨rfl, rfl⟩
  go_wp2_with fail
  refine (H1.out _).mono ?_
  rintro e w2 ⟨rfl, rfl⟩
  go_wp2_with fail
  go_loopw [8, 9] (fun v i wr => ∃ j : Nat, 32 * j < n + 32 ∧ i = .int .i64 (j : Int) ∧ OwnB wr w2.heap.size 5 v (maskUp key num j) ∧ Below w2.heap.size w2 wr) (fun _ i _ => 300 - (intOf i).toNat)
  case atStart =>
    exact ⟨0, by omega, rfl, hO.out, hB.out⟩
  case round =>
    obtain ⟨j, hj, rfl, hown, hnx⟩ := hrel
    have hlen := maskUp_length key num j
    by_cases hlt : 32 * j < n
    · obtain ⟨ao, cap, hv, _⟩ := hown.form
      subst hv
      rw [hlen] at hown ⊢
      have hlt' : ((32 * j : Nat) : Int) < (n : Int) := by omega
      obtain ⟨m, M⟩ : ∃ m, Hid (m = 32 * j) := ⟨_, rfl⟩
      rw [← M.out] at hown hlt' ⊢
      have HO := Lib.hid hown
      have HN := Lib.hid hnx
      have hj1 : j < 256 := by omega
      have H3 := Lib.hid (specByte_any j hj1)
      have z1 : (⟨#[UInt8.ofNat j]⟩ : ByteArray).size = 1 := rfl
      have hPj := HP.out j
      obtain ⟨bt, BT⟩ : ∃ b : ByteArray, Hid (b = ⟨#[UInt8.ofNat j]⟩) := ⟨_, rfl⟩
      rw [← BT.out] at H3 z1 hPj
      have z0 : (⟨#[109]⟩ : ByteArray).size = 1 := rfl
      have h4 := specMacOf_any key ((⟨#[109]⟩ : ByteArray) ++ vt ++ bt) (by omega) (by rw [ByteArray.size_append, ByteArray.size_append, z0, z1]; omega)
      rw [hPj.out] at h4
      have H4 := Lib.hid h4
      have s1 : ¬ (9223372036854775807 < 1 + vt.size) := by omega
      have s2 : ¬ (9223372036854775807 < 1 + vt.size + bt.size) := by omega
      clear h4 hown hnx z0
      go_wp2_with fail
      refine (H2.out _).mono ?_
      rintro e w3 ⟨rfl, hb3⟩
      have HO3 := Lib.hid (HO.out.after hb3)
      have HN3 := Lib.hid (HN.out.trans (hb3.mono HN.out.size))
      clear hb3
      go_wp2_with fail
      refine (H3.out _).mono ?_
      rintro e w4 ⟨rfl, hb4⟩
      have HO4 := Lib.hid (HO3.out.after hb4)
      have HN4 := Lib.hid (HN3.out.trans (hb4.mono HN3.out.size))
      clear hb4
      go_wp2_with fail
      refine (H4.out _).mono ?_
      rintro e w5 ⟨rfl, hb5⟩
      have hO5 := HO4.out.after hb5
      have hN5 := HN4.out.trans (hb5.mono HN4.out.size)
      have hts := maskPart_size key num j
      obtain ⟨tn, TN⟩ : ∃ b : ByteArray, Hid (b = maskPart key num j) := ⟨_, rfl⟩
      rw [← TN.out] at hts ⊢
      obtain ⟨cp, w6, hcv, _, hb6, hcl6, _⟩ := bytes_row w5 tn
      have hO6 := hO5.after hb6
      have hN6 := hN5.trans (hb6.mono hN5.size)
      have hsz6 := hN6.size
      have HN6 := Lib.hid hN6
      have hl6 : tn.data.toList.length = 32 := by have h : tn.data.toList.length = tn.size := by simp
                                                  omega
      have hcl7 : ∀ j, j < 32 → w6.cell? ⟨w5.heap.size, j, none⟩ = some (.int .u8 (tn.data.toList.getD j 0).toNat) := fun j hj => hcl6 j (by omega)
      have HL := Lib.hid (And.intro hl6 hcl7)
      clear hb5 hb6 hO5 hN5 hN6 hl6 hcl6 hcl7
      go_wp2_with (at_builtin; refine wpList_joinB _ rfl _ _ 94 rfl w2.heap.size 5 i0 Tryz.underlying94 hif hz0 hz1 hz2 _ _ rfl hO6 w5.heap.size 32 cp tn.data.toList rfl HL.out.1 HL.out.2 (by rw [hlen]; omega) hsz6 ?_)
      intro v7 w7 hO7 hb7
      have HO7 := Lib.hid hO7
      have HN7 := Lib.hid (HN6.out.trans hb7)
      clear hO7 hb7 hcv hO6
      go_wp2_with fail
      go_roundw
      case rel =>
        refine ⟨j + 1, by omega, by go_num, ?_, HN7.out⟩
        have h7 := HO7.out
        rw [TN.out] at h7
        exact h7
      case measure => simp [intOf]; omega
    · have hjn : j = (n + 31) / 32 := by omega
      obtain ⟨ao, cap, hv, hcap, hrd⟩ := own_front (P := Tryz.prog) wr 94 9 5 Tryz.underlying94 Tryz.underlying5 Tryz.underlying9 _ hown n (by rw [hlen]; omega)
      subst hv
      have HN := Lib.hid hnx
      have HE : Hid ((⟨((maskUp key num j).take n).toArray⟩ : ByteArray) = maskB key num n) := by show _ = _; unfold maskB maskP; rw [hjn]
      rw [HE.out] at hrd
      rw [hlen]
      have hnlt : ¬ (((32 * j : Nat) : Int) < (n : Int)) := by omega
      have hcap' : (n : Int) ≤ (cap : Int) := by omega
      clear hown hnx
      go_wp2_with fail
      go_ret2
      exact ⟨rfl, HN.out⟩

set_option maxRecDepth 100000 in
set_option maxHeartbeats 400000 in
theorem specMaskF_no (key : ByteArray) (num n : Int) (h : (num < 0 ∨ 1000000000 < num) ∨ (n < 0 ∨ 8000 < n)) (w : World) :
    Calls Tryz.prog 53 #[.string key, .int .i64 num, .int .i64 n] w fun e w' => e = .returned (.tuple #[.string ⟨#[]⟩, .bool false]) ∧ Below w.heap.size w w' := by
  by_cases h1 : num < 0 ∨ 1000000000 < num
  · have H0 := Lib.hid (inRange_no num 0 1000000000 h1)
    clear h h1
    go_enter Tryz.func53, Tryz.ntmps53
    go_wp2_with fail
    refine (H0.out _).mono ?_
    rintro e w1 ⟨rfl, rfl⟩
    go_wp2_with fail
    go_ret2
    exact ⟨rfl, Below.refl _ _⟩
  · have H0 := Lib.hid (inRange_yes num 0 1000000000 (by omega) (by omega))
    have H1 := Lib.hid (inRange_no n 0 8000 (by omega))
    clear h h1
    go_enter Tryz.func53, Tryz.ntmps53
    go_wp2_with fail
    refine (H0.out _).mono ?_
    rintro e w1 ⟨rfl, rfl⟩
    go_wp2_with fail
    refine (H1.out _).mono ?_
    rintro e w2 ⟨rfl, rfl⟩
    go_wp2_with fail
    go_ret2
    exact ⟨rfl, Below.refl _ _⟩

set_option maxRecDepth 100000 in
set_option maxHeartbeats 1600000 in
theorem specXor_any (t y : ByteArray) (hz : t.size ≤ 1000000000) (hy : t.size ≤ y.size) (w : World) :
    Calls Tryz.prog 56 #[.string t, .string y] w fun e w' => e = .returned (.string (xorP t y)) ∧ Below w.heap.size w w' := by
  show Calls _ _ _ w fun e w' => e = .returned (.string ⟨(xorUp t.data.toList y.data.toList t.size).toArray⟩) ∧ Below w.heap.size w w'
  obtain ⟨cp, w1, hcv, hb1, hr1⟩ := bytes_text w t
  have htl : t.data.toList.length = t.size := by simp
  have HB1 := Lib.hid hb1
  have HR1 := Lib.hid hr1
  clear hb1 hr1
  go_enter Tryz.func56, Tryz.ntmps56
  go_wp2_with fail
  clear hcv
  go_loopw [6] (fun i wr => ∃ n : Nat, n ≤ t.size ∧ i = .int .i64 (n : Int) ∧ RowB w.heap.size (xorUp t.data.toList y.data.toList n) wr ∧ Below w.heap.size w wr) (fun i _ => t.size - (intOf i).toNat)
  case atStart =>
    exact ⟨0, by omega, rfl, HR1.out, HB1.out⟩
  case round =>
    obtain ⟨n, hn, rfl, hrow, hnx⟩ := hrel
    have HN := Lib.hid hnx
    have hl := xorUp_length t.data.toList y.data.toList n (by omega)
    by_cases hlt : (n : Int) < (t.size : Int)
    · have c0 := hrow.cell n (by omega)
      have f0 := hrow.free n (by omega)
      rw [xorUp_at _ _ n] at c0
      obtain ⟨a, AA⟩ : ∃ b : UInt8, Hid (b = t.data.toList.getD n 0) := ⟨_, rfl⟩
      obtain ⟨b, BB⟩ : ∃ b : UInt8, Hid (b = y.data.toList.getD n 0) := ⟨_, rfl⟩
      rw [← AA.out] at c0
      have hyn : (n : Int) < (y.size : Int) := by omega
      have hnz : (n : Int) < 1000000000 := by omega
      have hb : (y[n]'(by omega)) = b := by rw [BB.out]; exact text_byte y n (by omega)
      obtain ⟨x, hx, X⟩ : ∃ x : Nat, bits .xor .u8 (a.toNat : Int) (b.toNat : Int) = (x : Int) ∧ Hid (x = (a ^^^ b).toNat) := ⟨_, xor_bytes a b, rfl⟩
      have HR : Hid (RowB w.heap.size (xorUp t.data.toList y.data.toList (n + 1)) (wr.setCell ⟨w.heap.size, n, none⟩ (.int .u8 (x : Int)))) := by
        rw [X.out, ← xorUp_set _ _ n (by omega), ← AA.out, ← BB.out]
        exact hrow.set n (by omega) (a ^^^ b)
      clear hrow hnx
      go_wp2_with fail
      go_region
      all_goals
        go_wp2_with fail
        go_roundw
        case rel => exact ⟨n + 1, by omega, by go_num, HR.out.drew, (HN.out.setCell (p := ⟨w.heap.size, n, none⟩) (Nat.le_refl _) _).drew⟩
        case measure => simp [intOf]; omega
    · have hnt : n = t.size := by omega
      subst hnt
      have hrd := hrow.back t.size cp (by omega)
      clear hrow hnx
      go_wp2_with fail
      go_ret
      exact ⟨rfl, HN.out⟩

set_option maxRecDepth 100000 in
set_option maxHeartbeats 400000 in
theorem specTag_any (key : ByteArray) (num : Nat) (x : ByteArray) (hnum : num ≤ 1000000000) (hk : key.size ≤ 300000000) (hx : x.size ≤ 300000000) (w : World) :
    Calls Tryz.prog 55 #[.string key, .int .i64 num, .string x] w fun e w' => e = .returned (.string (tagP key num x)) ∧ Below w.heap.size w w' := by
  have h2 := l01Var_any num hnum
  have hvl : (⟨(var num).toArray⟩ : ByteArray).size ≤ 5 := by have := var_few num hnum; show (var num).toArray.size ≤ 5; rw [List.size_toArray]; exact this
  have hT : tagP key num x = (macP key ((⟨#[116]⟩ : ByteArray) ++ (⟨(var num).toArray⟩ : ByteArray) ++ x)).extract 0 16 := rfl
  obtain ⟨vt, VT⟩ : ∃ v : ByteArray, Hid (v = ⟨(var num).toArray⟩) := ⟨_, rfl⟩
  rw [← VT.out] at h2 hvl hT
  have H2 := Lib.hid h2
  have z0 : (⟨#[116]⟩ : ByteArray).size = 1 := rfl
  have h4 := specMacOf_any key ((⟨#[116]⟩ : ByteArray) ++ vt ++ x) (by omega) (by rw [ByteArray.size_append, ByteArray.size_append, z0]; omega)
  have hms := macP_size key ((⟨#[116]⟩ : ByteArray) ++ vt ++ x)
  obtain ⟨m, M⟩ : ∃ m, Hid (m = macP key ((⟨#[116]⟩ : ByteArray) ++ vt ++ x)) := ⟨_, rfl⟩
  rw [← M.out] at h4 hms hT
  have H4 := Lib.hid h4
  have s1 : ¬ (9223372036854775807 < 1 + vt.size) := by omega
  have s2 : ¬ (9223372036854775807 < 1 + vt.size + x.size) := by omega
  have hm2 : (16 : Int) ≤ (m.size : Int) := by omega
  rw [hT]
  clear h2 h4 hT z0 M VT
  go_enter Tryz.func55, Tryz.ntmps55
  go_wp2_with fail
  refine (H2.out _).mono ?_
  rintro e w3 ⟨rfl, hb3⟩
  have HN3 := Lib.hid hb3
  clear hb3
  go_wp2_with fail
  refine (H4.out _).mono ?_
  rintro e w5 ⟨rfl, hb5⟩
  have HN5 := Lib.hid (HN3.out.trans (hb5.mono HN3.out.size))
  clear hb5
  go_wp2_with fail
  go_ret
  exact ⟨rfl, HN5.out⟩

end Go.Proofs.YtoaifgblbfdncabGreatDoor
namespace Go.Proofs.YtoaifgblbfdncabGreatDoor
open Go.RowKit

set_option maxRecDepth 100000 in
set_option maxHeartbeats 400000 in
theorem specOpen_short (key : ByteArray) (num : Int) (text : ByteArray) (h : text.size < 16) (w : World) :
    Calls Tryz.prog 38 #[.string key, .int .i64 num, .string text] w fun e w' => e = .returned (.tuple #[.string ⟨#[]⟩, .bool false]) ∧ Below w.heap.size w w' := by
  have h1 : (text.size : Int) < 16 := by omega
  go_enter Tryz.func38, Tryz.ntmps38
  go_wp2_with fail
  go_ret2
  exact ⟨rfl, Below.refl _ _⟩

set_option maxRecDepth 100000 in
set_option maxHeartbeats 400000 in
theorem specOpen_mask (key : ByteArray) (num : Int) (text : ByteArray) (h : 16 ≤ text.size) (hs : text.size ≤ 1000000000) (hm : (num < 0 ∨ 1000000000 < num) ∨ 8016 < text.size) (w : World) :
    Calls Tryz.prog 38 #[.string key, .int .i64 num, .string text] w fun e w' => e = .returned (.tuple #[.string ⟨#[]⟩, .bool false]) ∧ Below w.heap.size w w' := by
  have h1 : ¬ ((text.size : Int) < 16) := by omega
  obtain ⟨n, hn, hn2⟩ : ∃ n : Nat, (text.size : Int) - 16 = (n : Int) ∧ n = text.size - 16 := ⟨text.size - 16, by omega, rfl⟩
  have hle : (n : Int) ≤ (text.size : Int) := by omega
  have hz : (text.extract 0 n).size = n := by rw [ByteArray.size_extract]; omega
  obtain ⟨x, hx⟩ : ∃ x, text.extract 0 n = x := ⟨_, rfl⟩
  rw [hx] at hz
  have H1 := Lib.hid (specMaskF_no key num (n : Int) (by omega))
  have hz2 : (x.size : Int) = (n : Int) := by omega
  clear hm hn2 h hz
  go_enter Tryz.func38, Tryz.ntmps38
  go_wp2_with fail
  refine (H1.out _).mono ?_
  rintro e w1 ⟨rfl, hb1⟩
  have HB1 := Lib.hid hb1
  clear hb1
  go_wp2_with fail
  go_quiet (fail)
  go_wp2_with fail
  go_ret2
  exact ⟨rfl, below_drewN HB1.out _⟩

set_option maxRecDepth 100000 in
set_option maxHeartbeats 1600000 in
theorem specOpen_tag (key : ByteArray) (num : Nat) (text x rest : ByteArray) (n : Nat) (hnum : num ≤ 1000000000) (hk : key.size ≤ 300000000) (hn : text.size = n + 16) (h8 : n ≤ 8000) (hx : text.extract 0 n = x) (hr : text.extract n text.size = rest) (w : World) :
    Calls Tryz.prog 38 #[.string key, .int .i64 num, .string text] w fun e w' => e = .returned (.tuple #[.string (if ((tagP key num x).toList == rest.toList) = true then openP key num x else ⟨#[]⟩), .bool ((tagP key num x).toList == rest.toList)]) ∧ Below w.heap.size w w' := by
  have h1 : ¬ ((text.size : Int) < 16) := by omega
  have hn1 : (text.size : Int) - 16 = (n : Int) := by omega
  have hle : (n : Int) ≤ (text.size : Int) := by omega
  have hz : x.size = n := by rw [← hx, ByteArray.size_extract]; omega
  have H1 := Lib.hid (specMaskF_yes key num n hnum h8 hk)
  have hms := maskB_size key num n
  have h2 := specTag_any key num x hnum hk (by omega)
  have h3 := specSameMac_any (tagP key num x) rest
  have h4 := specXor_any x (maskB key num n) (by omega) (by omega)
  have hO : xorP x (maskB key num n) = openP key num x := by unfold openP; rw [hz]
  rw [hO] at h4
  obtain ⟨mk, MK⟩ : ∃ m, Hid (m = maskB key num n) := ⟨_, rfl⟩
  obtain ⟨tg, TG⟩ : ∃ m, Hid (m = tagP key num x) := ⟨_, rfl⟩
  obtain ⟨op, OP⟩ : ∃ m, Hid (m = openP key num x) := ⟨_, rfl⟩
  rw [← MK.out] at H1 h4
  rw [← TG.out] at h2 h3 ⊢
  rw [← OP.out] at h4 ⊢
  obtain ⟨b, B⟩ : ∃ b, Hid (b = (tg.toList == rest.toList)) := ⟨_, rfl⟩
  rw [← B.out] at h3 ⊢
  have K2 : Hid (∀ X, Below w.heap.size w X → Calls Tryz.prog 55 #[.string key, .int .i64 num, .string x] X fun e Y => e = .returned (.string tg) ∧ Below w.heap.size w Y) := fun X hX => by
    refine (h2 X).mono ?_
    rintro e Y ⟨rfl, hb⟩
    exact ⟨rfl, hX.trans (hb.mono hX.size)⟩
  have K3 : Hid (∀ X, Below w.heap.size w X → Calls Tryz.prog 54 #[.string tg, .string rest] X fun e Y => e = .returned (.bool b) ∧ Below w.heap.size w Y) := fun X hX => by
    refine (h3 X).mono ?_
    rintro e Y ⟨rfl, rfl⟩
    exact ⟨rfl, hX⟩
  have H4 := Lib.hid h4
  have hz2 : (x.size : Int) = (n : Int) := by omega
  clear h2 h3 h4 hO hms hn hz MK TG OP B
  cases b
  · go_enter Tryz.func38, Tryz.ntmps38
    go_wp2_with fail
    refine (H1.out _).mono ?_
    rintro e w1 ⟨rfl, hb1⟩
    have HB1 := Lib.hid hb1
    clear hb1
    go_wp2_with fail
    go_region_held3 (fun X => Below w.heap.size w X) (first | (with_reducible assumption) | (with_reducible exact HB1.out.drew)) (first | (go_at_call 55; refine (K2.out _ (by assumption)).mono ?_; rintro e v1 ⟨rfl, hS⟩) | (go_at_call 54; refine (K3.out _ (by assumption)).mono ?_; rintro e v1 ⟨rfl, hS⟩))
    all_goals
      go_wp2_with fail
      go_ret2
      exact ⟨rfl, hS⟩
  · go_enter Tryz.func38, Tryz.ntmps38
    go_wp2_with fail
    refine (H1.out _).mono ?_
    rintro e w1 ⟨rfl, hb1⟩
    have HB1 := Lib.hid hb1
    clear hb1
    go_wp2_with fail
    go_region_held3 (fun X => Below w.heap.size w X) (first | (with_reducible assumption) | (with_reducible exact HB1.out.drew)) (first | (go_at_call 55; refine (K2.out _ (by assumption)).mono ?_; rintro e v1 ⟨rfl, hS⟩) | (go_at_call 54; refine (K3.out _ (by assumption)).mono ?_; rintro e v1 ⟨rfl, hS⟩))
    all_goals
      have HS := Lib.hid hS
      clear hS
      go_wp2_with fail
      refine (H4.out _).mono ?_
      rintro e w5 ⟨rfl, hb5⟩
      have HB5 := Lib.hid (HS.out.trans (hb5.mono HS.out.size))
      clear hb5
      go_wp2_with fail
      go_ret2
      exact ⟨rfl, HB5.out⟩

end Go.Proofs.YtoaifgblbfdncabGreatDoor
namespace Go.Proofs.YtoaifgblbfdncabGreatDoor
open Go.RowKit

/-- Whether a text and a number can be those of a locked one. -/
def OpenIn (num : Int) (text : ByteArray) : Prop := (16 ≤ text.size ∧ text.size ≤ 8016) ∧ (0 ≤ num ∧ num ≤ 1000000000)
/-- What OpenText tells. -/
def OpenIs (key : ByteArray) (num : Int) (text t : ByteArray) (ok : Bool) : Prop :=
  (¬ OpenIn num text ∧ t = ⟨#[]⟩ ∧ ok = false) ∨
  (OpenIn num text ∧ ok = ((tagP key num.toNat (text.extract 0 (text.size - 16))).toList == (text.extract (text.size - 16) text.size).toList) ∧ t = if ok = true then openP key num.toNat (text.extract 0 (text.size - 16)) else ⟨#[]⟩)
theorem open_is (key : ByteArray) (num : Int) (text : ByteArray) : ∃ t ok, OpenIs key num text t ok := by
  by_cases h : OpenIn num text
  · exact ⟨_, _, .inr ⟨h, rfl, rfl⟩⟩
  · exact ⟨_, _, .inl ⟨h, rfl, rfl⟩⟩
theorem specOpen_is (key : ByteArray) (num : Int) (text t : ByteArray) (ok : Bool) (hk : key.size ≤ 300000000) (hs : text.size ≤ 1000000000) (h : OpenIs key num text t ok) (w : World) :
    Calls Tryz.prog 38 #[.string key, .int .i64 num, .string text] w fun e w' => e = .returned (.tuple #[.string t, .bool ok]) ∧ Below w.heap.size w w' := by
  rcases h with ⟨hn, rfl, rfl⟩ | ⟨⟨h1, h2⟩, hok, ht⟩
  · by_cases h16 : text.size < 16
    · refine (specOpen_short key num text h16 w).mono ?_
      rintro e Y ⟨rfl, h⟩
      exact ⟨rfl, by first | exact h | (rw [h]; exact Below.refl _ _)⟩
    · refine (specOpen_mask key num text (by omega) hs (by unfold OpenIn at hn; omega) w).mono ?_
      rintro e Y ⟨rfl, h⟩
      exact ⟨rfl, by first | exact h | (rw [h]; exact Below.refl _ _)⟩
  · obtain ⟨n, rfl⟩ : ∃ n : Nat, num = n := ⟨num.toNat, by omega⟩
    rw [Int.toNat_natCast] at hok ht
    refine (specOpen_tag key n text _ _ (text.size - 16) (by omega) hk (by omega) (by omega) rfl rfl w).mono ?_
    rintro e Y ⟨rfl, h⟩
    rw [← hok, ← ht]
    exact ⟨rfl, h⟩

end Go.Proofs.YtoaifgblbfdncabGreatDoor
