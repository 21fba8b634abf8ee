/-
  '[]byte(t)' and '[]byte{}' written into and turned back into a text.
  The program's exclusive or of two texts.
  Whether two sums are the same: the program's, and the given one.
  The given masks, and what opens a locked text.
  The given LockText.
  A row of ints of the call's own stays where an order is drawn.
-/
import Derived.Test.YtoaifgblbfdncaaGreatDoorRows
import Derived.Test.YtoaifgblbfdncaaGreatDoorJ01
import Derived.Test.YtoaifgblbfdncaaGreatDoorJ21
import Derived.Lib.ConvBytes
import Derived.Deep.RegionHeld3
import Derived.BigQuiet
import Derived.Deep.QuietTactic
import Derived.Deep.LoopGhost
import Derived.Deep.DeepCutAuto
import Derived.Test.YtoaifgblbfdncaaGreatDoorJ04
namespace Go.Proofs.YtoaifgblbfdncaaGreatDoor
open Go.RowKit

/-- A row of bytes in block g: its cells, none of them barred. -/
structure RowB (g : Nat) (l : List UInt8) (X : World) : Prop where
  cell : ∀ j, j < l.length → X.cell? ⟨g, j, none⟩ = some (.int .u8 ((l.getD j 0).toNat : Nat))
  free : ∀ j, j < l.length → X.frozen? ⟨g, j, none⟩ = false
theorem RowB.set {g : Nat} {l : List UInt8} {X : World} (h : RowB g l X) (k : Nat) (hk : k < l.length) (b : UInt8) : RowB g (l.set k b) (X.setCell ⟨g, k, none⟩ (.int .u8 (b.toNat : Nat))) := by
  refine ⟨fun j hj => ?_, fun j hj => ?_⟩
  · rw [List.length_set] at hj
    by_cases hjk : k = j
    · subst hjk
      rw [set_on _ _ _ _ _ (h.cell k hk), List.getD_eq_getElem?_getD, List.getElem?_set_self hk]
      rfl
    · rw [set_off _ _ _ _ _ hjk, h.cell j hj, List.getD_eq_getElem?_getD, List.getD_eq_getElem?_getD, List.getElem?_set_ne hjk]
  · rw [List.length_set] at hj
    rw [World.frozen?_setCell]
    exact h.free j hj
theorem RowB.drew {g : Nat} {l : List UInt8} {X : World} (h : RowB g l X) : RowB g l X.drew := ⟨h.cell, h.free⟩
theorem RowB.back {g : Nat} {l : List UInt8} {X : World} (h : RowB g l X) (n cap : Nat) (hn : l.length = n) : (convert 22 9 (.slice (some ⟨g, 0, none⟩) n cap)).run Tryz.prog X = .ok (.string ⟨l.toArray⟩) X := by
  subst hn
  refine run_convert_bytes_back (P := Tryz.prog) X 22 9 5 ⟨g, 0, none⟩ cap l Tryz.underlying22 Tryz.underlying5 Tryz.underlying9 (fun j hj => ?_)
  have e : (⟨g, 0, none⟩ : Addr).add j = ⟨g, j, none⟩ := by unfold Addr.add; split <;> simp_all
  rw [e, h.cell j hj, List.getD_eq_getElem?_getD, List.getElem?_eq_getElem hj]
  rfl
/-- '[]byte(t)': a row of its own that holds t's bytes. -/
theorem bytes_text (w : World) (t : ByteArray) : ∃ (cp : Nat) (w' : World), (convert 9 22 (.string t)).run Tryz.prog w = .ok (.slice (some ⟨w.heap.size, 0, none⟩) t.size cp) w' ∧ Below w.heap.size w w' ∧ RowB w.heap.size t.data.toList w' := by
  have hl : t.data.toList.length = t.size := by simp
  refine ⟨_, _, Lib.run_convert_string_bytes w 9 22 5 t Tryz.underlying9 Tryz.underlying22 Tryz.underlying5, ⟨rfl, rfl, rfl, by rw [Lib.bytesWorld_size]; omega, fun k hk => Lib.bytesWorld_at_old w _ t k hk⟩, fun j hj => Lib.bytesWorld_cell w _ t j (by omega), fun j hj => ?_⟩
  have h := Lib.bytesWorld_at_new w 5 t
  have hz : t.size ≤ (Lib.bytesCells w 5 t).size := by simp [Lib.bytesCells]
  unfold World.frozen?
  rw [h]
  simp
  omega

end Go.Proofs.YtoaifgblbfdncaaGreatDoor
namespace Go.Proofs.YtoaifgblbfdncaaGreatDoor
open Go.RowKit

set_option maxRecDepth 100000 in
set_option maxHeartbeats 1600000 in
theorem exclusiveOr_any (t y : ByteArray) (hz : t.size ≤ 1000000000) (hy : t.size ≤ y.size) (w : World) :
    Calls Tryz.prog 91 #[.string t, .string y] w fun e w' => e = .returned (.string ⟨(xorUp t.data.toList y.data.toList t.size).toArray⟩) ∧ Below w.heap.size w w' := by
  obtain ⟨cp, w1, hcv, hb1, hr1⟩ := bytes_text w t
  have htl : t.data.toList.length = t.size := by simp
  have HB1 := Lib.hid hb1
  have HR1 := Lib.hid hr1
  clear hb1 hr1
  go_enter Tryz.func91, Tryz.ntmps91
  go_wp2_with fail
  clear hcv
  go_loopw [11] (fun i wr => ∃ n : Nat, n ≤ t.size ∧ i = .int .i64 (n : Int) ∧ RowB w.heap.size (xorUp t.data.toList y.data.toList n) wr ∧ Below w.heap.size w wr) (fun i _ => t.size - (intOf i).toNat)
  case atStart =>
    exact ⟨0, by omega, rfl, HR1.out, HB1.out⟩
  case round =>
    obtain ⟨n, hn, rfl, hrow, hnx⟩ := hrel
    have HN := Lib.hid hnx
    have hl := xorUp_length t.data.toList y.data.toList n (by omega)
    by_cases hlt : (n : Int) < (t.size : Int)
    · have c0 := hrow.cell n (by omega)
      have f0 := hrow.free n (by omega)
      rw [xorUp_at _ _ n] at c0
      obtain ⟨a, AA⟩ : ∃ b : UInt8, Hid (b = t.data.toList.getD n 0) := ⟨_, rfl⟩
      obtain ⟨b, BB⟩ : ∃ b : UInt8, Hid (b = y.data.toList.getD n 0) := ⟨_, rfl⟩
      rw [← AA.out] at c0
      have hyn : (n : Int) < (y.size : Int) := by omega
      have hnz : (n : Int) < 1000000000 := by omega
      have hb : (y[n]'(by omega)) = b := by rw [BB.out]; exact text_byte y n (by omega)
      obtain ⟨x, hx, X⟩ : ∃ x : Nat, bits .xor .u8 (a.toNat : Int) (b.toNat : Int) = (x : Int) ∧ Hid (x = (a ^^^ b).toNat) := ⟨_, xor_bytes a b, rfl⟩
      have HR : Hid (RowB w.heap.size (xorUp t.data.toList y.data.toList (n + 1)) (wr.setCell ⟨w.heap.size, n, none⟩ (.int .u8 (x : Int)))) := by
        rw [X.out, ← xorUp_set _ _ n (by omega), ← AA.out, ← BB.out]
        exact hrow.set n (by omega) (a ^^^ b)
      clear hrow hnx
      go_wp2_with fail
      go_region
      all_goals
        go_wp2_with fail
        go_roundw
        case rel => exact ⟨n + 1, by omega, by go_num, HR.out.drew, (HN.out.setCell (p := ⟨w.heap.size, n, none⟩) (Nat.le_refl _) _).drew⟩
        case measure => simp [intOf]; omega
    · have hnt : n = t.size := by omega
      subst hnt
      have hrd := hrow.back t.size cp (by omega)
      clear hrow hnx
      go_wp2_with fail
      go_ret
      exact ⟨rfl, HN.out⟩

end Go.Proofs.YtoaifgblbfdncaaGreatDoor
namespace Go.Proofs.YtoaifgblbfdncaaGreatDoor
open Go.RowKit

end Go.Proofs.YtoaifgblbfdncaaGreatDoor
namespace Go.Proofs.YtoaifgblbfdncaaGreatDoor
open Go.RowKit

set_option maxRecDepth 100000 in
set_option maxHeartbeats 1600000 in
theorem specMaskF_yes (key : ByteArray) (num n : Nat) (hnum : num ≤ 1000000000) (hn : n ≤ 8000) (hk : key.size ≤ 300000000) (w : World) :
    Calls Tryz.prog 80 #[.string key, .int .i64 num, .int .i64 n] w fun e w' => e = .returned (.tuple #[.string (maskB key num n), .bool true]) ∧ Below w.heap.size w w' := by
  obtain ⟨i0, hif, hz0, hz1, hz2⟩ := info_parts infoByteS
  have H0 := Lib.hid (inRange_yes (num : Int) 0 1000000000 (by omega) (by omega))
  have H1 := Lib.hid (inRange_yes (n : Int) 0 8000 (by omega) (by omega))
  have hO := Lib.hid (OwnB.lit w w.heap.size 5 (Nat.le_refl _))
  have hB := Lib.hid ((Below.refl w.heap.size w).alloc (Nat.le_refl _) (.cells #[] 5))
  have h2 := l01Var_any num hnum
  have hvl : (⟨(var num).toArray⟩ : ByteArray).size ≤ 5 := by have := var_few num hnum; show (var num).toArray.size ≤ 5; rw [List.size_toArray]; exact this
  have hP : ∀ j, Hid (macP key ((⟨#[109]⟩ : ByteArray) ++ (⟨(var num).toArray⟩ : ByteArray) ++ (⟨#[UInt8.ofNat j]⟩ : ByteArray)) = maskPart key num j) := fun j => rfl
  obtain ⟨vt, VT⟩ : ∃ v : ByteArray, Hid (v = ⟨(var num).toArray⟩) := ⟨_, rfl⟩
  rw [← VT.out] at h2 hvl hP
  have H2 := Lib.hid h2
  have HP := Lib.hid hP
  clear h2 hP hnum
  go_enter Tryz.func80, Tryz.ntmps80
  go_wp2_with fail
  refine (H0.out _).mono ?_
  rintro e w1 ⟨rfl, rfl⟩
  go_wp2_with fail
  refine (H1.out _).mono ?_
  rintro e w2 ⟨rfl, rfl⟩
  go_wp2_with fail
  go_loopw [8, 9] (fun v i wr => ∃ j : Nat, 32 * j < n + 32 ∧ i = .int .i64 (j : Int) ∧ OwnB wr w2.heap.size 5 v (maskUp key num j) ∧ Below w2.heap.size w2 wr) (fun _ i _ => 300 - (intOf i).toNat)
  case atStart =>
    exact ⟨0, by omega, rfl, hO.out, hB.out⟩
  case round =>
    obtain ⟨j, hj, rfl, hown, hnx⟩ := hrel
    have hlen := maskUp_length key num j
    by_cases hlt : 32 * j < n
    · obtain ⟨ao, cap, hv, _⟩ := hown.form
      subst hv
      rw [hlen] at hown ⊢
      have hlt' : ((32 * j : Nat) : Int) < (n : Int) := by omega
      obtain ⟨m, M⟩ : ∃ m, Hid (m = 32 * j) := ⟨_, rfl⟩
      rw [← M.out] at hown hlt' ⊢
      have HO := Lib.hid hown
      have HN := Lib.hid hnx
      have hj1 : j < 256 := by omega
      have H3 := Lib.hid (specByte_any j hj1)
      have z1 : (⟨#[UInt8.ofNat j]⟩ : ByteArray).size = 1 := rfl
      have hPj := HP.out j
      obtain ⟨bt, BT⟩ : ∃ b : ByteArray, Hid (b = ⟨#[UInt8.ofNat j]⟩) := ⟨_, rfl⟩
      rw [← BT.out] at H3 z1 hPj
      have z0 : (⟨#[109]⟩ : ByteArray).size = 1 := rfl
      have h4 := specMacOf_any key ((⟨#[109]⟩ : ByteArray) ++ vt ++ bt) (by omega) (by rw [ByteArray.size_append, ByteArray.size_append, z0, z1]; omega)
      rw [hPj.out] at h4
      have H4 := Lib.hid h4
      have s1 : ¬ (9223372036854775807 < 1 + vt.size) := by omega
      have s2 : ¬ (9223372036854775807 < 1 + vt.size + bt.size) := by omega
      clear h4 hown hnx z0
      go_wp2_with fail
      refine (H2.out _).mono ?_
      rintro e w3 ⟨rfl, hb3⟩
      have HO3 := Lib.hid (HO.out.after hb3)
      have HN3 := Lib.hid (HN.out.trans (hb3.mono HN.out.size))
      clear hb3
      go_wp2_with fail
      refine (H3.out _).mono ?_
      rintro e w4 ⟨rfl, hb4⟩
      have HO4 := Lib.hid (HO3.out.after hb4)
      have HN4 := Lib.hid (HN3.out.trans (hb4.mono HN3.out.size))
      clear hb4
      go_wp2_with fail
      refine (H4.out _).mono ?_
      rintro e w5 ⟨rfl, hb5⟩
      have hO5 := HO4.out.after hb5
      have hN5 := HN4.out.trans (hb5.mono HN4.out.size)
      have hts := maskPart_size key num j
      obtain ⟨tn, TN⟩ : ∃ b : ByteArray, Hid (b = maskPart key num j) := ⟨_, rfl⟩
      rw [← TN.out] at hts ⊢
      obtain ⟨cp, w6, hcv, _, hb6, hcl6, _⟩ := bytes_row w5 tn
      have hO6 := hO5.after hb6
      have hN6 := hN5.trans (hb6.mono hN5.size)
      have hsz6 := hN6.size
      have HN6 := Lib.hid hN6
      have hl6 : tn.data.toList.length = 32 := by have h : tn.data.toList.length = tn.size := by simp
                                                  omega
      have hcl7 : ∀ j, j < 32 → w6.cell? ⟨w5.heap.size, j, none⟩ = some (.int .u8 (tn.data.toList.getD j 0).toNat) := fun j hj => hcl6 j (by omega)
      have HL := Lib.hid (And.intro hl6 hcl7)
      clear hb5 hb6 hO5 hN5 hN6 hl6 hcl6 hcl7
      go_wp2_with (at_builtin; refine wpList_joinB _ rfl _ _ 22 rfl w2.heap.size 5 i0 Tryz.underlying22 hif hz0 hz1 hz2 _ _ rfl hO6 w5.heap.size 32 cp tn.data.toList rfl HL.out.1 HL.out.2 (by rw [hlen]; omega) hsz6 ?_)
      intro v7 w7 hO7 hb7
      have HO7 := Lib.hid hO7
      have HN7 := Lib.hid (HN6.out.trans hb7)
      clear hO7 hb7 hcv hO6
      go_wp2_with fail
      go_roundw
      case rel =>
        refine ⟨j + 1, by omega, by go_num, ?_, HN7.out⟩
        have h7 := HO7.out
        rw [TN.out] at h7
        exact h7
      case measure => simp [intOf]; omega
    · have hjn : j = (n + 31) / 32 := by omega
      obtain ⟨ao, cap, hv, hcap, hrd⟩ := own_front (P := Tryz.prog) wr 22 9 5 Tryz.underlying22 Tryz.underlying5 Tryz.underlying9 _ hown n (by rw [hlen]; omega)
      subst hv
      have HN := Lib.hid hnx
      have HE : Hid ((⟨((maskUp key num j).take n).toArray⟩ : ByteArray) = maskB key num n) := by show _ = _; unfold maskB maskP; rw [hjn]
      rw [HE.out] at hrd
      rw [hlen]
      have hnlt : ¬ (((32 * j : Nat) : Int) < (n : Int)) := by omega
      have hcap' : (n : Int) ≤ (cap : Int) := by omega
      clear hown hnx
      go_wp2_with fail
      go_ret2
      exact ⟨rfl, HN.out⟩

set_option maxRecDepth 100000 in
set_option maxHeartbeats 1600000 in
theorem specXor_any (t y : ByteArray) (hz : t.size ≤ 1000000000) (hy : t.size ≤ y.size) (w : World) :
    Calls Tryz.prog 81 #[.string t, .string y] w fun e w' => e = .returned (.string (xorP t y)) ∧ Below w.heap.size w w' := by
  show Calls _ _ _ w fun e w' => e = .returned (.string ⟨(xorUp t.data.toList y.data.toList t.size).toArray⟩) ∧ Below w.heap.size w w'
  obtain ⟨cp, w1, hcv, hb1, hr1⟩ := bytes_text w t
  have htl : t.data.toList.length = t.size := by simp
  have HB1 := Lib.hid hb1
  have HR1 := Lib.hid hr1
  clear hb1 hr1
  go_enter Tryz.func81, Tryz.ntmps81
  go_wp2_with fail
  clear hcv
  go_loopw [6] (fun i wr => ∃ n : Nat, n ≤ t.size ∧ i = .int .i64 (n : Int) ∧ RowB w.heap.size (xorUp t.data.toList y.data.toList n) wr ∧ Below w.heap.size w wr) (fun i _ => t.size - (intOf i).toNat)
  case atStart =>
    exact ⟨0, by omega, rfl, HR1.out, HB1.out⟩
  case round =>
    obtain ⟨n, hn, rfl, hrow, hnx⟩ := hrel
    have HN := Lib.hid hnx
    have hl := xorUp_length t.data.toList y.data.toList n (by omega)
    by_cases hlt : (n : Int) < (t.size : Int)
    · have c0 := hrow.cell n (by omega)
      have f0 := hrow.free n (by omega)
      rw [xorUp_at _ _ n] at c0
      obtain ⟨a, AA⟩ : ∃ b : UInt8, Hid (b = t.data.toList.getD n 0) := ⟨_, rfl⟩
      obtain ⟨b, BB⟩ : ∃ b : UInt8, Hid (b = y.data.toList.getD n 0) := ⟨_, rfl⟩
      rw [← AA.out] at c0
      have hyn : (n : Int) < (y.size : Int) := by omega
      have hnz : (n : Int) < 1000000000 := by omega
      have hb : (y[n]'(by omega)) = b := by rw [BB.out]; exact text_byte y n (by omega)
      obtain ⟨x, hx, X⟩ : ∃ x : Nat, bits .xor .u8 (a.toNat : Int) (b.toNat : Int) = (x : Int) ∧ Hid (x = (a ^^^ b).toNat) := ⟨_, xor_bytes a b, rfl⟩
      have HR : Hid (RowB w.heap.size (xorUp t.data.toList y.data.toList (n + 1)) (wr.setCell ⟨w.heap.size, n, none⟩ (.int .u8 (x : Int)))) := by
        rw [X.out, ← xorUp_set _ _ n (by omega), ← AA.out, ← BB.out]
        exact hrow.set n (by omega) (a ^^^ b)
      clear hrow hnx
      go_wp2_with fail
      go_region
      all_goals
        go_wp2_with fail
        go_roundw
        case rel => exact ⟨n + 1, by omega, by go_num, HR.out.drew, (HN.out.setCell (p := ⟨w.heap.size, n, none⟩) (Nat.le_refl _) _).drew⟩
        case measure => simp [intOf]; omega
    · have hnt : n = t.size := by omega
      subst hnt
      have hrd := hrow.back t.size cp (by omega)
      clear hrow hnx
      go_wp2_with fail
      go_ret
      exact ⟨rfl, HN.out⟩

set_option maxRecDepth 100000 in
set_option maxHeartbeats 400000 in
theorem specTag_any (key : ByteArray) (num : Nat) (x : ByteArray) (hnum : num ≤ 1000000000) (hk : key.size ≤ 300000000) (hx : x.size ≤ 300000000) (w : World) :
    Calls Tryz.prog 82 #[.string key, .int .i64 num, .string x] w fun e w' => e = .returned (.string (tagP key num x)) ∧ Below w.heap.size w w' := by
  have h2 := l01Var_any num hnum
  have hvl : (⟨(var num).toArray⟩ : ByteArray).size ≤ 5 := by have := var_few num hnum; show (var num).toArray.size ≤ 5; rw [List.size_toArray]; exact this
  have hT : tagP key num x = (macP key ((⟨#[116]⟩ : ByteArray) ++ (⟨(var num).toArray⟩ : ByteArray) ++ x)).extract 0 16 := rfl
  obtain ⟨vt, VT⟩ : ∃ v : ByteArray, Hid (v = ⟨(var num).toArray⟩) := ⟨_, rfl⟩
  rw [← VT.out] at h2 hvl hT
  have H2 := Lib.hid h2
  have z0 : (⟨#[116]⟩ : ByteArray).size = 1 := rfl
  have h4 := specMacOf_any key ((⟨#[116]⟩ : ByteArray) ++ vt ++ x) (by omega) (by rw [ByteArray.size_append, ByteArray.size_append, z0]; omega)
  have hms := macP_size key ((⟨#[116]⟩ : ByteArray) ++ vt ++ x)
  obtain ⟨m, M⟩ : ∃ m, Hid (m = macP key ((⟨#[116]⟩ : ByteArray) ++ vt ++ x)) := ⟨_, rfl⟩
  rw [← M.out] at h4 hms hT
  have H4 := Lib.hid h4
  have s1 : ¬ (9223372036854775807 < 1 + vt.size) := by omega
  have s2 : ¬ (9223372036854775807 < 1 + vt.size + x.size) := by omega
  have hm2 : (16 : Int) ≤ (m.size : Int) := by omega
  rw [hT]
  clear h2 h4 hT z0 M VT
  go_enter Tryz.func82, Tryz.ntmps82
  go_wp2_with fail
  refine (H2.out _).mono ?_
  rintro e w3 ⟨rfl, hb3⟩
  have HN3 := Lib.hid hb3
  clear hb3
  go_wp2_with fail
  refine (H4.out _).mono ?_
  rintro e w5 ⟨rfl, hb5⟩
  have HN5 := Lib.hid (HN3.out.trans (hb5.mono HN3.out.size))
  clear hb5
  go_wp2_with fail
  go_ret
  exact ⟨rfl, HN5.out⟩

end Go.Proofs.YtoaifgblbfdncaaGreatDoor
namespace Go.Proofs.YtoaifgblbfdncaaGreatDoor
open Go.RowKit

set_option maxRecDepth 100000 in
set_option maxHeartbeats 400000 in
theorem specLock_yes (key : ByteArray) (num : Nat) (s : ByteArray) (hnum : num ≤ 1000000000) (hk : key.size ≤ 300000000) (hs : s.size ≤ 8000) (w : World) :
    Calls Tryz.prog 46 #[.string key, .int .i64 num, .string s] w fun e w' => e = .returned (.tuple #[.string (lockP key num s), .bool true]) ∧ Below w.heap.size w w' := by
  have H1 := Lib.hid (specMaskF_yes key num s.size hnum hs hk)
  have hms := maskB_size key num s.size
  have h2 := specXor_any s (maskB key num s.size) (by omega) (by omega)
  have hO : xorP s (maskB key num s.size) = lockX key num s := rfl
  rw [hO] at h2
  have hxs := lockX_size key num s
  have h3 := specTag_any key num (lockX key num s) hnum hk (by omega)
  have hts := tagP_size key num (lockX key num s)
  unfold lockP
  obtain ⟨mk, MK⟩ : ∃ m, Hid (m = maskB key num s.size) := ⟨_, rfl⟩
  obtain ⟨x, X⟩ : ∃ m, Hid (m = lockX key num s) := ⟨_, rfl⟩
  rw [← MK.out] at H1 h2
  rw [← X.out] at h2 h3 hxs hts ⊢
  obtain ⟨tg, TG⟩ : ∃ m, Hid (m = tagP key num x) := ⟨_, rfl⟩
  rw [← TG.out] at h3 hts ⊢
  have H2 := Lib.hid h2
  have H3 := Lib.hid h3
  have s1 : ¬ (9223372036854775807 < x.size + tg.size) := by omega
  clear h2 h3 hO hms hxs hts
  go_enter Tryz.func46, Tryz.ntmps46
  go_wp2_with fail
  refine (H1.out _).mono ?_
  rintro e w1 ⟨rfl, hb1⟩
  have HB1 := Lib.hid hb1
  clear hb1
  go_wp2_with fail
  refine (H2.out _).mono ?_
  rintro e w2 ⟨rfl, hb2⟩
  have HB2 := Lib.hid (HB1.out.trans (hb2.mono HB1.out.size))
  clear hb2
  go_wp2_with fail
  refine (H3.out _).mono ?_
  rintro e w3 ⟨rfl, hb3⟩
  have HB3 := Lib.hid (HB2.out.trans (hb3.mono HB2.out.size))
  clear hb3
  go_wp2_with fail
  go_ret2
  exact ⟨rfl, HB3.out⟩

end Go.Proofs.YtoaifgblbfdncaaGreatDoor
namespace Go.Proofs.YtoaifgblbfdncaaGreatDoor
open Go.RowKit

theorem own_drew {Y : World} {f : List Nat} {b : Nat} {c : List Value} {r : List Int} (h : layIntS.own Y b f c r) : layIntS.own Y.drew b f c r := layIntS.keep h (fun _ _ => rfl)

end Go.Proofs.YtoaifgblbfdncaaGreatDoor
