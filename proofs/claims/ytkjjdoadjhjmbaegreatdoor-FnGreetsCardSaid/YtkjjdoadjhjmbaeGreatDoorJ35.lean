/-
  The program's KeysOf, at greeters that have keys when they are up.
  What the program's functions of greetings give: the contracts by name.
  The program's contracts that the law FnGreets asks.
  Greeters compared as values; two greeters in a row.
  What one block alone changes, in the words of footprints.
  A byte that is drawn: it lies in 0 .. 255, the cursor stays one, and no other block is written.
  A number below another one, and a choice, drawn.
-/
import Derived.Test.YtkjjdoadjhjmbaeGreatDoorJ25
import Derived.Test.YtkjjdoadjhjmbaeGreatDoorJ26
import Derived.Test.YtkjjdoadjhjmbaeGreatDoorJ15
import Derived.Test.YtkjjdoadjhjmbaeGreatDoorJ34
import Derived.Test.YtkjjdoadjhjmbaeGreatDoorJ30
import Derived.Test.YtkjjdoadjhjmbaeGreatDoorJ33
import Derived.Test.YtkjjdoadjhjmbaeGreatDoorJ28
import Derived.Test.YtkjjdoadjhjmbaeGreatDoorJ31
import Derived.Test.YtkjjdoadjhjmbaeGreatDoorJ07
import Derived.Test.YtkjjdoadjhjmbaeGreatDoorJ06
import Derived.Laws.StructEq
import Derived.Test.YtkjjdoadjhjmbaeGreatDoorJ03
import Derived.Test.YtkjjdoadjhjmbaeGreatDoorJ05
import Derived.Test.YtkjjdoadjhjmbaeGreatDoorRows
import Derived.Test.YtkjjdoadjhjmbaeGreatDoorJ02
import Derived.Deep.QuietTactic
namespace Go.Proofs.YtkjjdoadjhjmbaeGreatDoor
open Go.RowKit

theorem shared_small (a b : Nat) : powP a b < 4294967296 := by
  have h : powP a b < prime := Nat.mod_lt _ (by decide)
  have h2 : prime = 2147483579 := rfl
  omega

set_option maxRecDepth 100000 in
set_option maxHeartbeats 3200000 in
theorem implKeysOf_any (HG : CloneG) (x0 x1 x2 x3 x4 : Int) (x5 x6 : ByteArray) (h5 : x5.size ≤ 10000000) (h6 : x6.size ≤ 10000000) (hup : x4 = 3 → ∃ n, HasKeys x0 x3 x4 x6 n) (snd opn : ByteArray) (ok : Bool) (hk : KeysIs x0 x3 x4 x5 x6 snd opn ok) (w : World) (hK0 : LaidK w) :
    Calls Tryz.prog 9 #[.agg #[.int .i64 x0, .int .i64 x1, .int .i64 x2, .int .i64 x3, .int .i64 x4, .string x5, .string x6]] w fun e w' => e = .returned (.tuple #[.string snd, .string opn, .bool ok]) ∧ Below w.heap.size w w' := by
  have A0 := Lib.hid (VarA.new w GreeterT #[.int .i64 x0, .int .i64 x1, .int .i64 x2, .int .i64 x3, .int .i64 x4, .string x5, .string x6])
  have B0 := Lib.hid ((Below.refl w.heap.size w).alloc (Nat.le_refl _) (.cells #[.int .i64 x0, .int .i64 x1, .int .i64 x2, .int .i64 x3, .int .i64 x4, .string x5, .string x6] GreeterT))
  have LK := Lib.hid (hK0.stays B0.out (Nat.le_refl _))
  have HK := Lib.hid hk
  have HU := Lib.hid hup
  clear hK0 hk hup
  go_enter Tryz.func9, Tryz.ntmps9
  go_upto_region 1 with fail
  generalize w.alloc (.cells #[.int .i64 x0, .int .i64 x1, .int .i64 x2, .int .i64 x3, .int .i64 x4, .string x5, .string x6] GreeterT) = Y9 at *
  have c4 : Y9.cell? ⟨w.heap.size, 4, none⟩ = some (.int .i64 x4) := A0.out.cell 4
  have K0 := Lib.hid (stepOf_any x4 Y9)
  have A1 := Lib.hid (A0.out.alloc (.cells #[] StUpT))
  have B1 := Lib.hid (B0.out.alloc B0.out.size (.cells #[] StUpT))
  have L1 := Lib.hid (LK.out.stays ((Below.refl _ _).alloc (Nat.le_refl _) (.cells #[] StUpT)) (Nat.le_refl _))
  by_cases h3 : x4 = 3
  rotate_left
  · rcases HK.out with ⟨m, hm, -⟩ | ⟨-, rfl, rfl, rfl⟩
    · exact absurd hm.1 h3
    have hN : stepT x4 = StNewT ∨ stepT x4 = StSaidT ∨ stepT x4 = StHeardT ∨ stepT x4 = StBadT := by
      by_cases h0 : x4 = 0
      · exact .inl (by rw [h0]; rfl)
      · by_cases h1 : x4 = 1
        · exact .inr (.inl (by rw [h1]; rfl))
        · by_cases h2 : x4 = 2
          · exact .inr (.inr (.inl (by rw [h2]; rfl)))
          · exact .inr (.inr (.inr (stepT_bad h0 h1 h2 h3)))
    have TA1 := assertUp_New
    have TA2 := assertUp_Said
    have TA3 := assertUp_Heard
    have TA4 := assertUp_Bad
    clear h3 HK HU
    go_wp2_with fail
    refine K0.out.mono ?_
    rintro e Y2 ⟨rfl, hY⟩
    rw [hY]
    clear hY K0
    rcases hN with h | h | h | h
    all_goals
      rw [h]
      clear h
      go_wp2_with fail
      exact bodyPost_ret (v := .tuple #[.string ⟨#[]⟩, .string ⟨#[]⟩, .bool false]) (by simp [results, Tryz.results9, go_sem]) rfl ⟨rfl, B1.out⟩
  subst h3
  obtain ⟨n, -, hO, hse⟩ := HU.out rfl
  obtain ⟨hn, hg⟩ : n = helloN x6 ∧ inGroup (n : Nat) = true := by
    rcases other_by hO with ⟨-, h1, h2⟩ | ⟨-, h⟩
    · exact ⟨h1, by rw [h1]; exact h2.symm⟩
    · cases h
  obtain ⟨k, hke⟩ : ∃ k, k = powP n x3.toNat := ⟨_, rfl⟩
  have hkl : k < 4294967296 := by rw [hke]; exact shared_small _ _
  obtain ⟨T, HTT⟩ : ∃ t, Hid (t = keysB x0 x3 n x5 x6) := ⟨_, Lib.hid rfl⟩
  have hfin : ok = true ∧ ((x0 = 1 ∧ snd = T.extract 0 32 ∧ opn = T.extract 32 64) ∨ (x0 ≠ 1 ∧ snd = T.extract 32 64 ∧ opn = T.extract 0 32)) := by
    rw [HTT.out]
    rcases HK.out with ⟨m, hm, h1, h2⟩ | ⟨hno, -⟩
    · obtain ⟨rfl, -⟩ := other_one hO hm.2.1
      exact ⟨h1, h2⟩
    · exact absurd ⟨n, rfl, hO, hse⟩ hno
  obtain ⟨rfl, hfin⟩ := hfin
  have HF := Lib.hid hfin
  have HSE := Lib.hid hse
  have HGG := Lib.hid hg
  have HN := Lib.hid hn
  clear hfin HK HU hO hse hg hn
  have zT : T.size = 64 := by rw [HTT.out]; exact expandP_length _ _ 64
  obtain ⟨tr, TR⟩ : ∃ b, Hid (b = transB x0 x5 x6) := ⟨_, Lib.hid rfl⟩
  have zt : tr.size ≤ 300000000 := by rw [TR.out, trans_size]; omega
  obtain ⟨nb, NB⟩ : ∃ b, Hid (b = numB k) := ⟨_, Lib.hid rfl⟩
  have zn : nb.size ≤ 300000000 := by rw [NB.out, numB_size]; omega
  rw [show stepT 3 = StUpT from rfl] at K0
  have TA := assertUp_Up
  go_wp2_with fail
  refine K0.out.mono ?_
  rintro e Y2 ⟨rfl, hY⟩
  rw [hY]
  clear hY K0
  go_wp2_with fail
  generalize Y9.alloc (.cells #[] StUpT) = Y0 at *
  clear TA c4
  have E0 := Lib.hid (sbg_drew (sbg_of A1.out))
  have KH : Hid (∀ X, (X.cell? ⟨w.heap.size, 0, none⟩ = some (.int .i64 x0) ∧ X.cell? ⟨w.heap.size, 1, none⟩ = some (.int .i64 x1) ∧ X.cell? ⟨w.heap.size, 2, none⟩ = some (.int .i64 x2) ∧ X.cell? ⟨w.heap.size, 3, none⟩ = some (.int .i64 x3) ∧ X.cell? ⟨w.heap.size, 4, none⟩ = some (.int .i64 3) ∧ X.cell? ⟨w.heap.size, 5, none⟩ = some (.string x5) ∧ X.cell? ⟨w.heap.size, 6, none⟩ = some (.string x6) ∧ Below Y0.heap.size Y0 X) → Calls Tryz.prog 31 #[.string x6] X fun e Y => e = .returned (.int .i64 (n : Nat)) ∧ (Y.cell? ⟨w.heap.size, 0, none⟩ = some (.int .i64 x0) ∧ Y.cell? ⟨w.heap.size, 1, none⟩ = some (.int .i64 x1) ∧ Y.cell? ⟨w.heap.size, 2, none⟩ = some (.int .i64 x2) ∧ Y.cell? ⟨w.heap.size, 3, none⟩ = some (.int .i64 x3) ∧ Y.cell? ⟨w.heap.size, 4, none⟩ = some (.int .i64 3) ∧ Y.cell? ⟨w.heap.size, 5, none⟩ = some (.string x5) ∧ Y.cell? ⟨w.heap.size, 6, none⟩ = some (.string x6) ∧ Below Y0.heap.size Y0 Y)) := Lib.hid (fun X hX => by
    refine (helloNumber_any x6 (by omega) X).mono ?_
    rintro e Y ⟨rfl, hb⟩
    exact ⟨by rw [HN.out], sbg_next hX hb⟩)
  have KS : Hid (∀ X, (X.cell? ⟨w.heap.size, 0, none⟩ = some (.int .i64 x0) ∧ X.cell? ⟨w.heap.size, 1, none⟩ = some (.int .i64 x1) ∧ X.cell? ⟨w.heap.size, 2, none⟩ = some (.int .i64 x2) ∧ X.cell? ⟨w.heap.size, 3, none⟩ = some (.int .i64 x3) ∧ X.cell? ⟨w.heap.size, 4, none⟩ = some (.int .i64 3) ∧ X.cell? ⟨w.heap.size, 5, none⟩ = some (.string x5) ∧ X.cell? ⟨w.heap.size, 6, none⟩ = some (.string x6) ∧ Below Y0.heap.size Y0 X) → Calls Tryz.prog 30 #[.int .i64 x3, .int .i64 (n : Nat)] X fun e Y => e = .returned (.tuple #[.int .i64 (k : Nat), .bool true]) ∧ (Y.cell? ⟨w.heap.size, 0, none⟩ = some (.int .i64 x0) ∧ Y.cell? ⟨w.heap.size, 1, none⟩ = some (.int .i64 x1) ∧ Y.cell? ⟨w.heap.size, 2, none⟩ = some (.int .i64 x2) ∧ Y.cell? ⟨w.heap.size, 3, none⟩ = some (.int .i64 x3) ∧ Y.cell? ⟨w.heap.size, 4, none⟩ = some (.int .i64 3) ∧ Y.cell? ⟨w.heap.size, 5, none⟩ = some (.string x5) ∧ Y.cell? ⟨w.heap.size, 6, none⟩ = some (.string x6) ∧ Below Y0.heap.size Y0 Y)) := Lib.hid (fun X hX => by
    obtain ⟨h1, h2⟩ := HSE.out
    obtain ⟨j, hj⟩ : ∃ j : Nat, x3 = j := ⟨x3.toNat, by omega⟩
    rw [hj]
    refine (implShared_yes j n (by omega) (by omega) HGG.out X).mono ?_
    rintro e Y ⟨rfl, hb⟩
    exact ⟨by rw [hke, hj, Int.toNat_natCast], hj ▸ sbg_next hX hb⟩)
  have KN : Hid (∀ X, (X.cell? ⟨w.heap.size, 0, none⟩ = some (.int .i64 x0) ∧ X.cell? ⟨w.heap.size, 1, none⟩ = some (.int .i64 x1) ∧ X.cell? ⟨w.heap.size, 2, none⟩ = some (.int .i64 x2) ∧ X.cell? ⟨w.heap.size, 3, none⟩ = some (.int .i64 x3) ∧ X.cell? ⟨w.heap.size, 4, none⟩ = some (.int .i64 3) ∧ X.cell? ⟨w.heap.size, 5, none⟩ = some (.string x5) ∧ X.cell? ⟨w.heap.size, 6, none⟩ = some (.string x6) ∧ Below Y0.heap.size Y0 X) → Calls Tryz.prog 33 #[.int .i64 (k : Nat)] X fun e Y => e = .returned (.string nb) ∧ (Y.cell? ⟨w.heap.size, 0, none⟩ = some (.int .i64 x0) ∧ Y.cell? ⟨w.heap.size, 1, none⟩ = some (.int .i64 x1) ∧ Y.cell? ⟨w.heap.size, 2, none⟩ = some (.int .i64 x2) ∧ Y.cell? ⟨w.heap.size, 3, none⟩ = some (.int .i64 x3) ∧ Y.cell? ⟨w.heap.size, 4, none⟩ = some (.int .i64 3) ∧ Y.cell? ⟨w.heap.size, 5, none⟩ = some (.string x5) ∧ Y.cell? ⟨w.heap.size, 6, none⟩ = some (.string x6) ∧ Below Y0.heap.size Y0 Y)) := Lib.hid (fun X hX => by
    refine (implNumberText_yes k hkl X).mono ?_
    rintro e Y ⟨rfl, hb⟩
    exact ⟨by rw [NB.out]; rfl, sbg_next hX hb⟩)
  have KT : Hid (∀ X, (X.cell? ⟨w.heap.size, 0, none⟩ = some (.int .i64 x0) ∧ X.cell? ⟨w.heap.size, 1, none⟩ = some (.int .i64 x1) ∧ X.cell? ⟨w.heap.size, 2, none⟩ = some (.int .i64 x2) ∧ X.cell? ⟨w.heap.size, 3, none⟩ = some (.int .i64 x3) ∧ X.cell? ⟨w.heap.size, 4, none⟩ = some (.int .i64 3) ∧ X.cell? ⟨w.heap.size, 5, none⟩ = some (.string x5) ∧ X.cell? ⟨w.heap.size, 6, none⟩ = some (.string x6) ∧ Below Y0.heap.size Y0 X) → Calls Tryz.prog 10 #[.agg #[.int .i64 x0, .int .i64 x1, .int .i64 x2, .int .i64 x3, .int .i64 3, .string x5, .string x6]] X fun e Y => e = .returned (.string tr) ∧ (Y.cell? ⟨w.heap.size, 0, none⟩ = some (.int .i64 x0) ∧ Y.cell? ⟨w.heap.size, 1, none⟩ = some (.int .i64 x1) ∧ Y.cell? ⟨w.heap.size, 2, none⟩ = some (.int .i64 x2) ∧ Y.cell? ⟨w.heap.size, 3, none⟩ = some (.int .i64 x3) ∧ Y.cell? ⟨w.heap.size, 4, none⟩ = some (.int .i64 3) ∧ Y.cell? ⟨w.heap.size, 5, none⟩ = some (.string x5) ∧ Y.cell? ⟨w.heap.size, 6, none⟩ = some (.string x6) ∧ Below Y0.heap.size Y0 Y)) := Lib.hid (fun X hX => by
    refine (implTranscript_any HG x0 x1 x2 x3 3 x5 x6 h5 h6 X).mono ?_
    rintro e Y ⟨rfl, hb⟩
    exact ⟨by rw [TR.out], sbg_next hX hb⟩)
  have KE : Hid (∀ X, (X.cell? ⟨w.heap.size, 0, none⟩ = some (.int .i64 x0) ∧ X.cell? ⟨w.heap.size, 1, none⟩ = some (.int .i64 x1) ∧ X.cell? ⟨w.heap.size, 2, none⟩ = some (.int .i64 x2) ∧ X.cell? ⟨w.heap.size, 3, none⟩ = some (.int .i64 x3) ∧ X.cell? ⟨w.heap.size, 4, none⟩ = some (.int .i64 3) ∧ X.cell? ⟨w.heap.size, 5, none⟩ = some (.string x5) ∧ X.cell? ⟨w.heap.size, 6, none⟩ = some (.string x6) ∧ Below Y0.heap.size Y0 X) → Calls Tryz.prog 32 #[.string nb, .string tr, .int .i64 64] X fun e Y => e = .returned (.tuple #[.string T, .bool true]) ∧ (Y.cell? ⟨w.heap.size, 0, none⟩ = some (.int .i64 x0) ∧ Y.cell? ⟨w.heap.size, 1, none⟩ = some (.int .i64 x1) ∧ Y.cell? ⟨w.heap.size, 2, none⟩ = some (.int .i64 x2) ∧ Y.cell? ⟨w.heap.size, 3, none⟩ = some (.int .i64 x3) ∧ Y.cell? ⟨w.heap.size, 4, none⟩ = some (.int .i64 3) ∧ Y.cell? ⟨w.heap.size, 5, none⟩ = some (.string x5) ∧ Y.cell? ⟨w.heap.size, 6, none⟩ = some (.string x6) ∧ Below Y0.heap.size Y0 Y)) := Lib.hid (fun X hX => by
    refine (implExpand_yes nb tr 64 (by omega) zn zt X (L1.out.stays hX.2.2.2.2.2.2.2 (Nat.le_refl _))).mono ?_
    rintro e Y ⟨rfl, hb⟩
    refine ⟨?_, sbg_next hX hb⟩
    rw [HTT.out, NB.out, TR.out, hke]
    rfl)
  have HKE := Lib.hid hke
  clear zt zn hkl hke
  go_cut [7] (fun z wx => z = .int .i64 (k : Nat) ∧ (wx.cell? ⟨w.heap.size, 0, none⟩ = some (.int .i64 x0) ∧ wx.cell? ⟨w.heap.size, 1, none⟩ = some (.int .i64 x1) ∧ wx.cell? ⟨w.heap.size, 2, none⟩ = some (.int .i64 x2) ∧ wx.cell? ⟨w.heap.size, 3, none⟩ = some (.int .i64 x3) ∧ wx.cell? ⟨w.heap.size, 4, none⟩ = some (.int .i64 3) ∧ wx.cell? ⟨w.heap.size, 5, none⟩ = some (.string x5) ∧ wx.cell? ⟨w.heap.size, 6, none⟩ = some (.string x6) ∧ Below Y0.heap.size Y0 wx))
  case first =>
    go_region_held3 (fun X => X.cell? ⟨w.heap.size, 0, none⟩ = some (.int .i64 x0) ∧ X.cell? ⟨w.heap.size, 1, none⟩ = some (.int .i64 x1) ∧ X.cell? ⟨w.heap.size, 2, none⟩ = some (.int .i64 x2) ∧ X.cell? ⟨w.heap.size, 3, none⟩ = some (.int .i64 x3) ∧ X.cell? ⟨w.heap.size, 4, none⟩ = some (.int .i64 3) ∧ X.cell? ⟨w.heap.size, 5, none⟩ = some (.string x5) ∧ X.cell? ⟨w.heap.size, 6, none⟩ = some (.string x6) ∧ Below Y0.heap.size Y0 X) (first | (with_reducible assumption) | (with_reducible exact E0.out)) (first | (go_at_call 31; refine (KH.out _ (by assumption)).mono ?_; rintro e v1 ⟨rfl, hS⟩) | (go_at_call 30; refine (KS.out _ (by assumption)).mono ?_; rintro e v1 ⟨rfl, hS⟩))
    all_goals
      go_wp2_with fail
      go_meet
      exact ⟨rfl, hS⟩
  case rest =>
    obtain ⟨rfl, hS1⟩ := hcut
    have E1 := Lib.hid (sbg_drew hS1)
    clear hS1 KH KS E0
    go_wp2_with fail
    go_cut [9] (fun z wx => z = .string T ∧ (wx.cell? ⟨w.heap.size, 0, none⟩ = some (.int .i64 x0) ∧ wx.cell? ⟨w.heap.size, 1, none⟩ = some (.int .i64 x1) ∧ wx.cell? ⟨w.heap.size, 2, none⟩ = some (.int .i64 x2) ∧ wx.cell? ⟨w.heap.size, 3, none⟩ = some (.int .i64 x3) ∧ wx.cell? ⟨w.heap.size, 4, none⟩ = some (.int .i64 3) ∧ wx.cell? ⟨w.heap.size, 5, none⟩ = some (.string x5) ∧ wx.cell? ⟨w.heap.size, 6, none⟩ = some (.string x6) ∧ Below Y0.heap.size Y0 wx))
    case first =>
      go_region_held3 (fun X => X.cell? ⟨w.heap.size, 0, none⟩ = some (.int .i64 x0) ∧ X.cell? ⟨w.heap.size, 1, none⟩ = some (.int .i64 x1) ∧ X.cell? ⟨w.heap.size, 2, none⟩ = some (.int .i64 x2) ∧ X.cell? ⟨w.heap.size, 3, none⟩ = some (.int .i64 x3) ∧ X.cell? ⟨w.heap.size, 4, none⟩ = some (.int .i64 3) ∧ X.cell? ⟨w.heap.size, 5, none⟩ = some (.string x5) ∧ X.cell? ⟨w.heap.size, 6, none⟩ = some (.string x6) ∧ Below Y0.heap.size Y0 X) (first | (with_reducible assumption) | (with_reducible exact E1.out)) (first | (go_at_call 33; refine (KN.out _ (by assumption)).mono ?_; rintro e v1 ⟨rfl, hS⟩) | (go_at_call 10; refine (KT.out _ (by assumption)).mono ?_; rintro e v1 ⟨rfl, hS⟩) | (go_at_call 32; refine (KE.out _ (by assumption)).mono ?_; rintro e v1 ⟨rfl, hS⟩))
      all_goals
        go_wp2_with fail
        go_meet
        exact ⟨rfl, hS⟩
    case rest =>
      obtain ⟨rfl, hS⟩ := hcut
      rename_i wd
      have c0 := hS.1
      have BW := Lib.hid (B1.out.trans (hS.2.2.2.2.2.2.2.mono B1.out.size))
      clear hS KN KT KE E1
      obtain ⟨ta, hta⟩ : ∃ x, T.extract 0 32 = x := ⟨_, rfl⟩
      obtain ⟨tb, htb⟩ : ∃ x, T.extract 32 T.size = x := ⟨_, rfl⟩
      have HF2 : Hid ((x0 = 1 ∧ snd = ta ∧ opn = tb) ∨ (x0 ≠ 1 ∧ snd = tb ∧ opn = ta)) := Lib.hid (by
        rw [← hta, ← htb, zT]
        exact HF.out)
      have z1 : (32 : Int) ≤ (T.size : Int) := by omega
      have z2 : 32 ≤ T.size := by omega
      clear HF zT
      rcases HF2.out with ⟨rfl, rfl, rfl⟩ | ⟨hne, rfl, rfl⟩
      · go_wp2_with fail
        go_quiet (fail)
        go_wp2_with fail
        exact bodyPost_ret (v := .tuple #[.string snd, .string opn, .bool true]) (by simp [results, Tryz.results9, go_sem]) rfl ⟨rfl, below_drewN BW.out _⟩
      · have q0 : (x0 == 1) = false := by rw [beq_eq_false_iff_ne]; exact hne
        clear hne HF2
        go_wp2_with fail
        go_quiet (fail)
        go_wp2_with fail
        exact bodyPost_ret (v := .tuple #[.string snd, .string opn, .bool true]) (by simp [results, Tryz.results9, go_sem]) rfl ⟨rfl, below_drewN BW.out _⟩

end Go.Proofs.YtkjjdoadjhjmbaeGreatDoor
namespace Go.Proofs.YtkjjdoadjhjmbaeGreatDoor
open Go.RowKit

/-- The program's functions of greetings answer what the plain words say; L is what the worlds must hold. -/
structure GreetFns (L : World → Prop) : Prop where
  stays : ∀ X Y, L X → Below X.heap.size X Y → L Y
  greeting : ∀ (s0 s1 s2 s3 : ByteArray) (events : List Int) (v u : Value), events.length ≤ 60 → (∀ e ∈ events, 0 ≤ e) → s0.size ≤ 1048576 → s1.size ≤ 1048576 → s2.size ≤ 1048576 → s3.size ≤ 1048576 → ∀ y : GT, RunIs events (firstG s0 s1 s2 s3) y → ∀ X, L X → layStringS.rd X [v] [s0, s1, s2, s3] → layIntS.rd X [u] events → Calls Tryz.prog 7 #[v, u] X fun e X' => GreetRet [y.a, y.b] true X e X'
  keys : ∀ (x0 x1 x2 x3 x4 : Int) (x5 x6 : ByteArray), x5.size ≤ 1048576 → x6.size ≤ 1048576 → (x4 = 3 → ∃ n, HasKeys x0 x3 x4 x6 n) → ∀ (s o : ByteArray) (ok : Bool), KeysIs x0 x3 x4 x5 x6 s o ok → ∀ X, L X → Calls Tryz.prog 9 #[.agg #[.int .i64 x0, .int .i64 x1, .int .i64 x2, .int .i64 x3, .int .i64 x4, .string x5, .string x6]] X fun e X' => e = .returned (.tuple #[.string s, .string o, .bool ok]) ∧ Below X.heap.size X X'
  trans : ∀ (x0 x1 x2 x3 x4 : Int) (x5 x6 : ByteArray), x5.size ≤ 1048576 → x6.size ≤ 1048576 → ∀ X, L X → Calls Tryz.prog 10 #[.agg #[.int .i64 x0, .int .i64 x1, .int .i64 x2, .int .i64 x3, .int .i64 x4, .string x5, .string x6]] X fun e X' => e = .returned (.string (transB x0 x5 x6)) ∧ Below X.heap.size X X'

end Go.Proofs.YtkjjdoadjhjmbaeGreatDoor
namespace Go.Proofs.YtkjjdoadjhjmbaeGreatDoor
open Go.RowKit

theorem greetFns : GreetFns LaidK where
  stays := fun _ _ h hb => h.stays hb (Nat.le_refl _)
  greeting := fun s0 s1 s2 s3 es v u h1 h2 z0 z1 z2 z3 y hy X hX hv hu => implGreeting_yes cloneG cutG s0 s1 s2 s3 es v u h1 h2 z0 z1 z2 z3 y hy X hX hv hu
  keys := fun x0 x1 x2 x3 x4 x5 x6 h5 h6 hu s o ok hk X hX => implKeysOf_any cloneG x0 x1 x2 x3 x4 x5 x6 (by omega) (by omega) hu s o ok hk X hX
  trans := fun x0 x1 x2 x3 x4 x5 x6 h5 h6 X _ => implTranscript_any cloneG x0 x1 x2 x3 x4 x5 x6 (by omega) (by omega) X

end Go.Proofs.YtkjjdoadjhjmbaeGreatDoor
namespace Go.Proofs.YtkjjdoadjhjmbaeGreatDoor
open Go.RowKit

theorem greeterFields : Tryz.prog.underlying GreeterT = some (.struct (Tryz.prog.fieldsOf GreeterT)) := by kernel_rfl
theorem greeterStood : Tryz.prog.stoodInHeld GreeterT = false := by kernel_rfl
theorem greeterGuard : Tryz.prog.eqGuardType Tryz.prog.depth 32 = false := by kernel_rfl
set_option maxRecDepth 100000 in
theorem greeter_same (x0 x1 x2 x3 x4 : Int) (x5 x6 : ByteArray) (w : World) : (Op.equalIn 10000 32 (.agg #[.int .i64 x0, .int .i64 x1, .int .i64 x2, .int .i64 x3, .int .i64 x4, .string x5, .string x6]) (.agg #[.int .i64 x0, .int .i64 x1, .int .i64 x2, .int .i64 x3, .int .i64 x4, .string x5, .string x6])).run Tryz.prog w = .ok true w := by
  have u3 := Tryz.underlying3
  have a3 := Tryz.isAgg3
  have z3 := Tryz.sizeOf3
  have u9 := Tryz.underlying9
  have a9 := Tryz.isAgg9
  have z9 := Tryz.sizeOf9
  rw [show (10000 : Nat) = 9999 + 1 from rfl, run_equalIn_agg w 9999 32 _ _ greeterFields greeterStood]
  simp only [Program.fieldsOf, Tryz.underlying32]
  go_simp
/-- Two greeters in a row, cell by cell. -/
structure Two (g o : Nat) (a b : GreeterD) (X : World) : Prop where
  a0 : X.cell? ⟨g, o, none⟩ = some (.int .i64 a.1)
  a1 : X.cell? ⟨g, o + 1, none⟩ = some (.int .i64 a.2.1)
  a2 : X.cell? ⟨g, o + 2, none⟩ = some (.int .i64 a.2.2.1)
  a3 : X.cell? ⟨g, o + 3, none⟩ = some (.int .i64 a.2.2.2.1)
  a4 : X.cell? ⟨g, o + 4, none⟩ = some (.int .i64 a.2.2.2.2.1)
  a5 : X.cell? ⟨g, o + 5, none⟩ = some (.string a.2.2.2.2.2.1)
  a6 : X.cell? ⟨g, o + 6, none⟩ = some (.string a.2.2.2.2.2.2)
  b0 : X.cell? ⟨g, o + 7, none⟩ = some (.int .i64 b.1)
  b1 : X.cell? ⟨g, o + 8, none⟩ = some (.int .i64 b.2.1)
  b2 : X.cell? ⟨g, o + 9, none⟩ = some (.int .i64 b.2.2.1)
  b3 : X.cell? ⟨g, o + 10, none⟩ = some (.int .i64 b.2.2.2.1)
  b4 : X.cell? ⟨g, o + 11, none⟩ = some (.int .i64 b.2.2.2.2.1)
  b5 : X.cell? ⟨g, o + 12, none⟩ = some (.string b.2.2.2.2.2.1)
  b6 : X.cell? ⟨g, o + 13, none⟩ = some (.string b.2.2.2.2.2.2)
theorem two_of {X : World} {v : Value} {a b : GreeterD} (h : layGreeterS.rd X [v] [a, b]) : ∃ g o cap, v = .slice (some ⟨g, o, none⟩) 2 cap ∧ Two g o a b X := by
  obtain ⟨ao, cp, rfl⟩ := rows_form h
  obtain ⟨g, o, cs, rfl, -, hr, hc⟩ := rows_elem h 0 a rfl
  rw [layGreeter_rd] at hr
  subst hr
  obtain ⟨g', o', cs, he, -, hr, hd⟩ := rows_elem h 1 b rfl
  simp only [Option.some.injEq, Addr.mk.injEq] at he
  obtain ⟨rfl, rfl, -⟩ := he
  rw [layGreeter_rd] at hr
  subst hr
  have e0 : ∀ t, o + 0 * layGreeter.k + t = o + t := fun t => by rw [Nat.zero_mul, Nat.add_zero]
  have e1 : ∀ t, o + 1 * layGreeter.k + t = o + (7 + t) := fun t => by show o + 1 * 7 + t = _; omega
  refine ⟨g, o, cp, rfl, ?_, ?_, ?_, ?_, ?_, ?_, ?_, ?_, ?_, ?_, ?_, ?_, ?_, ?_⟩
  · have h := hc 0 _ rfl; rw [e0] at h; exact h
  · have h := hc 1 _ rfl; rw [e0] at h; exact h
  · have h := hc 2 _ rfl; rw [e0] at h; exact h
  · have h := hc 3 _ rfl; rw [e0] at h; exact h
  · have h := hc 4 _ rfl; rw [e0] at h; exact h
  · have h := hc 5 _ rfl; rw [e0] at h; exact h
  · have h := hc 6 _ rfl; rw [e0] at h; exact h
  · have h := hd 0 _ rfl; rw [e1] at h; exact h
  · have h := hd 1 _ rfl; rw [e1] at h; exact h
  · have h := hd 2 _ rfl; rw [e1] at h; exact h
  · have h := hd 3 _ rfl; rw [e1] at h; exact h
  · have h := hd 4 _ rfl; rw [e1] at h; exact h
  · have h := hd 5 _ rfl; rw [e1] at h; exact h
  · have h := hd 6 _ rfl; rw [e1] at h; exact h

end Go.Proofs.YtkjjdoadjhjmbaeGreatDoor
namespace Go.Proofs.YtkjjdoadjhjmbaeGreatDoor
open Go.RowKit

theorem only_chg {c : Nat} {X Y : World} (h : Only c X Y) : Chg [c] X Y := ⟨h.os, h.tape, h.output, h.size, fun g hg hn => h.block g hg (fun e => hn (List.mem_singleton.2 e))⟩
theorem only_below {c b : Nat} {X Y : World} (h : Only c X Y) (hb : b ≤ c) (hs : b ≤ X.heap.size) : Below b X Y := (only_chg h).below (fun g hg => by rw [List.mem_singleton] at hg; omega) hs

end Go.Proofs.YtkjjdoadjhjmbaeGreatDoor
namespace Go.Proofs.YtkjjdoadjhjmbaeGreatDoor
open Go.RowKit

set_option maxRecDepth 100000 in
theorem byte_out (c len cap i : Nat) (a : Option Addr) (h : Int) (w : World) (hi : ¬ i < len)
    (c0 : w.cell? ⟨c, 0, none⟩ = some (.slice a len cap)) (c1 : w.cell? ⟨c, 1, none⟩ = some (.int .i64 i)) (c2 : w.cell? ⟨c, 2, none⟩ = some (.int .i64 h))
    (f2 : w.frozen? ⟨c, 2, none⟩ = false) :
    Calls Tryz.prog 52 #[.pointer (some ⟨c, 0, none⟩)] w fun e w' => ∃ x h' : Int, ∃ n m : Nat, 0 ≤ x ∧ x ≤ 255 ∧ e = .returned (.int .i64 x) ∧ w' = ((w.setCell ⟨c, 2, none⟩ (.int .i64 h')).drewN n).drewN m := by
  go_enter Tryz.func52, Tryz.ntmps52
  go_wp2
  go_quiet (fail)
  go_wp2
  go_quiet (fail)
  go_wp2
  go_ret
  exact ⟨_, _, _, _, (and_mask _ 255 (by decide)).1, (and_mask _ 255 (by decide)).2, rfl, rfl⟩

set_option maxRecDepth 100000 in
theorem byte_in (c len cap i b off : Nat) (h z : Int) (w : World) (hi : i < len) (hlen : len ≤ 1048576) (hbc : b < c) (_ : 0 ≤ z) (_ : z ≤ 255)
    (c0 : w.cell? ⟨c, 0, none⟩ = some (.slice (some ⟨b, off, none⟩) len cap)) (c1 : w.cell? ⟨c, 1, none⟩ = some (.int .i64 i)) (c2 : w.cell? ⟨c, 2, none⟩ = some (.int .i64 h))
    (hz : w.cell? ⟨b, off + i, none⟩ = some (.int .u8 z)) (f1 : w.frozen? ⟨c, 1, none⟩ = false) (f2 : w.frozen? ⟨c, 2, none⟩ = false) :
    Calls Tryz.prog 52 #[.pointer (some ⟨c, 0, none⟩)] w fun e w' => ∃ x h' : Int, ∃ n : Nat, 0 ≤ x ∧ x ≤ 255 ∧ e = .returned (.int .i64 x) ∧ w' = ((w.setCell ⟨c, 2, none⟩ (.int .i64 h')).drewN n).setCell ⟨c, 1, none⟩ (.int .i64 ((i : Int) + 1)) := by
  have hne : b ≠ c := by omega
  go_enter Tryz.func52, Tryz.ntmps52
  go_wp2
  go_quiet (fail)
  go_wp2
  go_quiet (fail)
  go_wp2
  go_quiet (fail)
  go_wp2
  go_ret
  exact ⟨_, _, _, (and_mask _ 255 (by decide)).1, (and_mask _ 255 (by decide)).2, rfl, rfl⟩

theorem byte_any {c : Nat} {a : Option Addr} {len cap : Nat} (w : World) (H : Cur c a len cap w) :
    Calls Tryz.prog 52 #[.pointer (some ⟨c, 0, none⟩)] w (DrewInt 255 c a len cap w) := by
  obtain ⟨i, hi, c1⟩ := H.c1
  obtain ⟨h, c2⟩ := H.c2
  have c0 := H.c0
  have f1 := H.f1
  have f2 := H.f2
  rcases Nat.lt_or_ge i len with hlt | hge
  · obtain ⟨b, off, z, rfl, hbc, hz, hz0, hz1⟩ := H.bytes i hlt
    refine (byte_in c len cap i b off h z w hlt H.few hbc hz0 hz1 c0 c1 c2 hz f1 f2).mono ?_
    rintro e w' ⟨x, h', n, x0, x1, rfl, rfl⟩
    have ho : Only c w (((w.setCell ⟨c, 2, none⟩ (.int .i64 h')).drewN n).setCell ⟨c, 1, none⟩ (.int .i64 ((i : Int) + 1))) := ((Only.setCell 2 _).drewN n).trans (.setCell 1 _)
    refine ⟨x, x0, x1, rfl, H.turn ho ?_ ⟨i + 1, hlt, ?_⟩ ⟨h', ?_⟩ ?_ ?_, ho⟩
    · rw [set_off _ _ _ _ _ (by decide), World.cell?_drewN, set_off _ _ _ _ _ (by decide)]
      exact c0
    · exact set_on _ _ _ (.int .i64 i) _ (by rw [World.cell?_drewN, set_off _ _ _ _ _ (by decide)]; exact c1)
    · rw [set_off _ _ _ _ _ (by decide), World.cell?_drewN, set_on _ _ _ _ _ c2]
    · simp [f1]
    · simp [f2]
  · refine (byte_out c len cap i a h w (by omega) c0 c1 c2 f2).mono ?_
    rintro e w' ⟨x, h', n, m, x0, x1, rfl, rfl⟩
    have ho : Only c w (((w.setCell ⟨c, 2, none⟩ (.int .i64 h')).drewN n).drewN m) := ((Only.setCell 2 _).drewN n).drewN m
    refine ⟨x, x0, x1, rfl, H.turn ho ?_ ⟨i, hi, ?_⟩ ⟨h', ?_⟩ ?_ ?_, ho⟩
    · rw [World.cell?_drewN, World.cell?_drewN, set_off _ _ _ _ _ (by decide)]
      exact c0
    · rw [World.cell?_drewN, World.cell?_drewN, set_off _ _ _ _ _ (by decide)]
      exact c1
    · rw [World.cell?_drewN, World.cell?_drewN, set_on _ _ _ _ _ c2]
    · simp [f1]
    · simp [f2]

end Go.Proofs.YtkjjdoadjhjmbaeGreatDoor
namespace Go.Proofs.YtkjjdoadjhjmbaeGreatDoor
open Go.RowKit

set_option maxRecDepth 100000 in
set_option maxHeartbeats 400000 in
theorem below_few {c : Nat} {a : Option Addr} {len cap : Nat} (n : Int) (h0 : 0 < n) (h1 : n ≤ 256) (w : World) (H : Cur c a len cap w) :
    Calls Tryz.prog 19 #[.pointer (some ⟨c, 0, none⟩), .int .i64 n] w (DrewInt (n - 1) c a len cap w) := by
  have HC := Lib.hid H
  clear H
  go_enter Tryz.func19, Tryz.ntmps19
  go_wp2_with fail
  refine (byte_any _ HC.out).mono ?_
  rintro e w1 ⟨x, x0, x1, rfl, hc, ho⟩
  have HC1 := Lib.hid hc
  have HO := Lib.hid ho
  clear hc ho
  go_wp2
  go_ret
  exact ⟨_, Int.emod_nonneg _ (by omega), by have := Int.emod_lt_of_pos x h0; omega, rfl, HC1.out, HO.out⟩

set_option maxRecDepth 100000 in
set_option maxHeartbeats 400000 in
theorem below_many {c : Nat} {a : Option Addr} {len cap : Nat} (n : Int) (h0 : 256 < n) (h1 : n ≤ 9223372036854775807) (w : World) (H : Cur c a len cap w) :
    Calls Tryz.prog 19 #[.pointer (some ⟨c, 0, none⟩), .int .i64 n] w (DrewInt (n - 1) c a len cap w) := by
  have HC := Lib.hid H
  clear H
  go_enter Tryz.func19, Tryz.ntmps19
  go_wp2_with fail
  refine (byte_any _ HC.out).mono ?_
  rintro e w1 ⟨x, x0, x1, rfl, hc, ho⟩
  have HC1 := Lib.hid hc
  have HO1 := Lib.hid ho
  clear hc ho
  go_wp2_with fail
  refine (byte_any _ HC1.out).mono ?_
  rintro e w2 ⟨y, y0, y1, rfl, hc, ho⟩
  have HC2 := Lib.hid hc
  have HO2 := Lib.hid ho
  clear hc ho
  go_wp2_with fail
  refine (byte_any _ HC2.out).mono ?_
  rintro e w3 ⟨z, z0, z1, rfl, hc, ho⟩
  have HC3 := Lib.hid hc
  have HO3 := Lib.hid ho
  clear hc ho
  go_wp2_with fail
  refine (byte_any _ HC3.out).mono ?_
  rintro e w4 ⟨u, u0, u1, rfl, hc, ho⟩
  have HC4 := Lib.hid hc
  have HO4 := Lib.hid ho
  clear hc ho
  go_wp2
  go_ret
  refine ⟨_, ?_, ?_, rfl, HC4.out, ((HO1.out.trans HO2.out).trans HO3.out).trans HO4.out⟩
  · exact Int.emod_nonneg _ (by omega)
  · have := Int.emod_lt_of_pos (x * 16777216 + y * 65536 + z * 256 + u) (show 0 < n by omega)
    omega

theorem below_any {c : Nat} {a : Option Addr} {len cap : Nat} (n : Int) (h0 : 0 < n) (h1 : n ≤ 9223372036854775807) (w : World) (H : Cur c a len cap w) :
    Calls Tryz.prog 19 #[.pointer (some ⟨c, 0, none⟩), .int .i64 n] w (DrewInt (n - 1) c a len cap w) := by
  rcases Int.lt_or_le 256 n with h | h
  · exact below_many n h h1 w H
  · exact below_few n h0 h w H

end Go.Proofs.YtkjjdoadjhjmbaeGreatDoor
