/-
  The given sums under a key.
  The given expansions.
  Plain mathematics of chapter 1's numbers in bytes: 'var n' is the text of a number, seven bits a byte, the lowest first; no program is spoken of here.
  The two functions that write a number in bytes, the given one and the program's, answer one text, at every number.
-/
import Derived.Test.YtoaifgblbfdncabGreatDoorJ08
import Derived.WalkKit
import Derived.Test.YtoaifgblbfdncabGreatDoorRows
import Derived.Test.YtoaifgblbfdncabGreatDoorJ01
namespace Go.Proofs.YtoaifgblbfdncabGreatDoor
open Go.RowKit

theorem OwnB.set {w : World} {base g cap n : Nat} {e : TypeId} {xs : List UInt8} (h : OwnB w base e (.slice (some ⟨g, 0, none⟩) n cap) xs) (hn : xs.length = n) (j : Nat) (x : UInt8) :
    OwnB (w.setCell ⟨g, j, none⟩ (.int .u8 (x.toNat : Int))) base e (.slice (some ⟨g, 0, none⟩) n cap) (xs.set j x) := by
  subst hn
  have h' : w.ownsRow base e 1 (.slice (some ⟨g, 0, none⟩) xs.length cap) xs.length (Lib.byteCells xs) := h
  have := (h'.stored j (.int .u8 (x.toNat : Int))).1
  unfold OwnB
  rw [List.length_set]
  have e1 : Lib.byteCells (xs.set j x) = (Lib.byteCells xs).set j (.int .u8 (x.toNat : Int)) := by unfold Lib.byteCells; rw [List.map_set]
  rw [e1]
  exact this
theorem OwnB.free {w : World} {base g cap n : Nat} {e : TypeId} {xs : List UInt8} (h : OwnB w base e (.slice (some ⟨g, 0, none⟩) n cap) xs) (hn : xs.length = n) (j : Nat) : w.frozen? ⟨g, j, none⟩ = false := by
  subst hn
  exact World.ownsRow.frozenAt (base := base) (e := e) (size := 1) (xs := Lib.byteCells xs) (n := xs.length) (cap := cap) h j
theorem OwnB.at {w : World} {base g cap n : Nat} {e : TypeId} {xs : List UInt8} (h : OwnB w base e (.slice (some ⟨g, 0, none⟩) n cap) xs) (hn : xs.length = n) (j : Nat) (hj : j < n) : w.cell? ⟨g, j, none⟩ = some (.int .u8 ((xs.getD j 0).toNat : Nat)) := by
  subst hn
  obtain ⟨ao, c, hv, hh⟩ := h.form
  obtain ⟨g', hg', _, hc⟩ := hh (by omega)
  simp only [Value.slice.injEq] at hv
  obtain ⟨h1, _, _⟩ := hv
  rw [hg'] at h1
  simp only [Option.some.injEq, Addr.mk.injEq, and_true] at h1
  subst h1
  exact hc j hj
theorem specDigP_any (s : ByteArray) (hs : s.size ≤ 500000000) (w : World) :
    Calls Tryz.prog 83 #[.string s] w fun e w' => e = .returned (.string (digP s)) ∧ Below w.heap.size w w' := specDigestOf_any s hs w
theorem xorB (x y : UInt8) : bits .xor .u8 (x.toNat : Int) (y.toNat : Int) = ((x ^^^ y).toNat : Int) := by
  have e : ∀ x y : Fin 256, bits .xor .u8 (x.val : Int) (y.val : Int) = ((x.val ^^^ y.val : Nat) : Int) := by
    intro x y
    unfold bits
    simp only
    rw [BitVec.toNat_xor]
    have ex : ∀ z : Fin 256, (BitVec.ofInt IntKind.u8.bits (z.val : Int)).toNat = z.val := fun z => by
      rw [BitVec.toNat_ofInt]
      show ((z.val : Int) % ((2 ^ 8 : Nat) : Int)).toNat = z.val
      have := z.isLt
      omega
    rw [ex x, ex y, IntKind.wrap_u8]
    have : x.val ^^^ y.val < 256 := Nat.xor_lt_two_pow (n := 8) x.isLt y.isLt
    omega
  have := e ⟨x.toNat, x.toNat_lt⟩ ⟨y.toNat, y.toNat_lt⟩
  rw [this]
  simp

set_option maxRecDepth 100000 in
set_option maxHeartbeats 1600000 in
theorem specMaskK_any (key k : ByteArray) (hk : k.size ≤ 64) (hkey : keyP key = k) (hs : key.size ≤ 500000000) (x : UInt8) (w : World) :
    Calls Tryz.prog 84 #[.string key, .int .u8 (x.toNat : Nat)] w fun e w' => e = .returned (.string ⟨(padUp k.data.toList x 64).toArray⟩) ∧ Below w.heap.size w w' := by
  obtain ⟨i0, hi, hz0, hz1, hz2⟩ := info_parts infoByteS
  by_cases hlong : 64 < (key.size : Int)
  · have hk2 : digP key = k := by rw [← hkey]; unfold keyP; rw [if_pos (by omega)]
    have H1 := Lib.hid (specDigP_any key hs)
    rw [hk2] at H1
    clear hkey hk2
    go_enter Tryz.func84, Tryz.ntmps84
    go_wp2_with fail
    refine (H1.out _).mono ?_
    rintro e w1 ⟨rfl, hb1⟩
    have HB1 := Lib.hid hb1
    clear hb1
    go_wp2_with (at_make; refine wpList_make_full _ rfl _ _ 94 rfl w.heap.size 5 i0 (.int .u8 0) 1 Tryz.underlying94 hi hz0 hz1 .i64 .i64 64 64 64 rfl rfl rfl rfl (by rw [hz2]; decide) (by unfold maxLen; omega) HB1.out.size ?_)
    intro w2 hown2 hg2
    have hB2 : Below w.heap.size w w2 := HB1.out.trans ((Below.refl w.heap.size w1).grown hg2 HB1.out.size (fun j hj => by cases hj))
    have hO2 : OwnB w2 w.heap.size 5 (.slice (some ⟨w1.heap.size, 0, none⟩) 64 64) (padUp k.data.toList x 0) := by
      have e : (madeCells #[Value.int IntKind.u8 0] 64).toList = Lib.byteCells (padUp k.data.toList x 0) := by
        rw [toList_madeCells_one]
        rfl
      have h2 : w2.ownsRow w.heap.size 5 1 (.slice (some ⟨w1.heap.size, 0, none⟩) 64 64) 64 (madeCells #[Value.int IntKind.u8 0] 64).toList := hown2
      rw [e] at h2
      exact h2
    have HB2 := Lib.hid hB2
    have HO2 := Lib.hid hO2
    obtain ⟨g, G⟩ : ∃ g, Hid (g = w1.heap.size) := ⟨_, rfl⟩
    have ge : w1.heap.size = g := G.out.symm
    rw [ge] at HO2
    clear hown2 hg2 hB2 hO2
    go_wp2_with fail
    go_loopw [6] (fun i wr => ∃ n : Nat, n ≤ 64 ∧ i = .int .i64 (n : Int) ∧ OwnB wr w.heap.size 5 (.slice (some ⟨g, 0, none⟩) 64 64) (padUp k.data.toList x n) ∧ Below w.heap.size w wr ∧ w.heap.size ≤ g) (fun i _ => 64 - (intOf i).toNat)
    case atStart =>
      exact ⟨0, by omega, rfl, HO2.out, HB2.out, by rw [← ge]; exact HB1.out.size⟩
    case round =>
      obtain ⟨n, hn, rfl, hown, hnx, hwg⟩ := hrel
      have HN := Lib.hid hnx
      have HG := Lib.hid hwg
      have hl := padUp_length k.data.toList x n hn
      by_cases hlt : (n : Int) < 64
      · have c0 := hown.at hl n (by omega)
        have f0 := hown.free hl n
        rw [padUp_at k.data.toList x n (by omega)] at c0
        obtain ⟨b, BB⟩ : ∃ b : UInt8, Hid (b = k.data.toList.getD n 0) := ⟨_, rfl⟩
        obtain ⟨y, hy, Y⟩ : ∃ y : Nat, bits .xor .u8 (b.toNat : Int) (x.toNat : Int) = (y : Int) ∧ Hid (y = (b ^^^ x).toNat) := ⟨_, xorB b x, rfl⟩
        have HR : Hid (OwnB (wr.setCell ⟨g, n, none⟩ (.int .u8 (y : Int))) w.heap.size 5 (.slice (some ⟨g, 0, none⟩) 64 64) (padUp k.data.toList x (n + 1))) := by
          rw [Y.out, ← padUp_set k.data.toList x n (by omega), ← BB.out]
          exact hown.set hl n (b ^^^ x)
        have HR2 : Hid (OwnB ((wr.setCell ⟨g, n, none⟩ (.int .u8 (b.toNat : Int))).setCell ⟨g, n, none⟩ (.int .u8 (y : Int))) w.heap.size 5 (.slice (some ⟨g, 0, none⟩) 64 64) (padUp k.data.toList x (n + 1))) := by
          rw [Y.out]
          have h1 := hown.set hl n b
          have h2 := h1.set (by rw [List.length_set]; exact hl) n (b ^^^ x)
          rw [List.set_set, BB.out, padUp_set k.data.toList x n (by omega)] at h2
          rw [BB.out]
          exact h2
        have c1 := (hown.set hl n b).at (by rw [List.length_set]; exact hl) n (by omega)
        have f1 := (hown.set hl n b).free (by rw [List.length_set]; exact hl) n
        rw [List.getD_eq_getElem?_getD, List.getElem?_set_self (by omega)] at c1
        have c1' : (wr.setCell ⟨g, n, none⟩ (.int .u8 (b.toNat : Int))).cell? ⟨g, n, none⟩ = some (.int .u8 (b.toNat : Nat)) := c1
        clear c1 hown hnx hwg
        by_cases hkl : (n : Int) < (k.size : Int)
        · have hb : (k[n]'(by omega)) = b := by rw [BB.out, List.getD_eq_getElem?_getD, List.getElem?_eq_getElem (by simp; omega)]; rfl
          go_wp2_with fail
          go_roundw
          case rel => exact ⟨n + 1, by omega, by go_num, HR2.out, (HN.out.setCell (p := ⟨g, n, none⟩) HG.out _).setCell (p := ⟨g, n, none⟩) HG.out _, HG.out⟩
          case measure => simp [intOf]; omega
        · have hb0 : b = 0 := by rw [BB.out, List.getD_eq_getElem?_getD, List.getElem?_eq_none (by simp; omega)]; rfl
          subst hb0
          have hy0 : bits .xor .u8 0 (x.toNat : Int) = (y : Int) := hy
          go_wp2_with fail
          go_roundw
          case rel => exact ⟨n + 1, by omega, by go_num, HR.out, HN.out.setCell (p := ⟨g, n, none⟩) HG.out _, HG.out⟩
          case measure => simp [intOf]; omega
      · have hn64 : n = 64 := by omega
        subst hn64
        have hrd := run_string_own wr 94 9 5 Tryz.underlying94 Tryz.underlying5 Tryz.underlying9 _ hown
        clear hown hnx hwg
        go_wp2_with fail
        go_ret
        exact ⟨rfl, HN.out⟩
  · have hk2 : key = k := by rw [← hkey]; unfold keyP; rw [if_neg (by omega)]
    subst hk2
    clear hkey
    have HB1 := Lib.hid (Below.refl w.heap.size w)
    go_enter Tryz.func84, Tryz.ntmps84
    go_wp2_with (at_make; refine wpList_make_full _ rfl _ _ 94 rfl w.heap.size 5 i0 (.int .u8 0) 1 Tryz.underlying94 hi hz0 hz1 .i64 .i64 64 64 64 rfl rfl rfl rfl (by rw [hz2]; decide) (by unfold maxLen; omega) HB1.out.size ?_)
    intro w2 hown2 hg2
    have hB2 : Below w.heap.size w w2 := HB1.out.trans ((Below.refl w.heap.size w).grown hg2 HB1.out.size (fun j hj => by cases hj))
    have hO2 : OwnB w2 w.heap.size 5 (.slice (some ⟨w.heap.size, 0, none⟩) 64 64) (padUp key.data.toList x 0) := by
      have e : (madeCells #[Value.int IntKind.u8 0] 64).toList = Lib.byteCells (padUp key.data.toList x 0) := by
        rw [toList_madeCells_one]
        rfl
      have h2 : w2.ownsRow w.heap.size 5 1 (.slice (some ⟨w.heap.size, 0, none⟩) 64 64) 64 (madeCells #[Value.int IntKind.u8 0] 64).toList := hown2
      rw [e] at h2
      exact h2
    have HB2 := Lib.hid hB2
    have HO2 := Lib.hid hO2
    clear hown2 hg2 hB2 hO2
    go_wp2_with fail
    go_loopw [6] (fun i wr => ∃ n : Nat, n ≤ 64 ∧ i = .int .i64 (n : Int) ∧ OwnB wr w.heap.size 5 (.slice (some ⟨w.heap.size, 0, none⟩) 64 64) (padUp key.data.toList x n) ∧ Below w.heap.size w wr ∧ w.heap.size ≤ w.heap.size) (fun i _ => 64 - (intOf i).toNat)
    case atStart =>
      exact ⟨0, by omega, rfl, HO2.out, HB2.out, Nat.le_refl _⟩
    case round =>
      obtain ⟨n, hn, rfl, hown, hnx, hwg⟩ := hrel
      have HN := Lib.hid hnx
      have HG := Lib.hid hwg
      have hl := padUp_length key.data.toList x n hn
      by_cases hlt : (n : Int) < 64
      · have c0 := hown.at hl n (by omega)
        have f0 := hown.free hl n
        rw [padUp_at key.data.toList x n (by omega)] at c0
        obtain ⟨b, BB⟩ : ∃ b : UInt8, Hid (b = key.data.toList.getD n 0) := ⟨_, rfl⟩
        obtain ⟨y, hy, Y⟩ : ∃ y : Nat, bits .xor .u8 (b.toNat : Int) (x.toNat : Int) = (y : Int) ∧ Hid (y = (b ^^^ x).toNat) := ⟨_, xorB b x, rfl⟩
        have HR : Hid (OwnB (wr.setCell ⟨w.heap.size, n, none⟩ (.int .u8 (y : Int))) w.heap.size 5 (.slice (some ⟨w.heap.size, 0, none⟩) 64 64) (padUp key.data.toList x (n + 1))) := by
          rw [Y.out, ← padUp_set key.data.toList x n (by omega), ← BB.out]
          exact hown.set hl n (b ^^^ x)
        have HR2 : Hid (OwnB ((wr.setCell ⟨w.heap.size, n, none⟩ (.int .u8 (b.toNat : Int))).setCell ⟨w.heap.size, n, none⟩ (.int .u8 (y : Int))) w.heap.size 5 (.slice (some ⟨w.heap.size, 0, none⟩) 64 64) (padUp key.data.toList x (n + 1))) := by
          rw [Y.out]
          have h1 := hown.set hl n b
          have h2 := h1.set (by rw [List.length_set]; exact hl) n (b ^^^ x)
          rw [List.set_set, BB.out, padUp_set key.data.toList x n (by omega)] at h2
          rw [BB.out]
          exact h2
        have c1 := (hown.set hl n b).at (by rw [List.length_set]; exact hl) n (by omega)
        have f1 := (hown.set hl n b).free (by rw [List.length_set]; exact hl) n
        rw [List.getD_eq_getElem?_getD, List.getElem?_set_self (by omega)] at c1
        have c1' : (wr.setCell ⟨w.heap.size, n, none⟩ (.int .u8 (b.toNat : Int))).cell? ⟨w.heap.size, n, none⟩ = some (.int .u8 (b.toNat : Nat)) := c1
        clear c1 hown hnx hwg
        by_cases hkl : (n : Int) < (key.size : Int)
        · have hb : (key[n]'(by omega)) = b := by rw [BB.out, List.getD_eq_getElem?_getD, List.getElem?_eq_getElem (by simp; omega)]; rfl
          go_wp2_with fail
          go_roundw
          case rel => exact ⟨n + 1, by omega, by go_num, HR2.out, (HN.out.setCell (p := ⟨w.heap.size, n, none⟩) HG.out _).setCell (p := ⟨w.heap.size, n, none⟩) HG.out _, HG.out⟩
          case measure => simp [intOf]; omega
        · have hb0 : b = 0 := by rw [BB.out, List.getD_eq_getElem?_getD, List.getElem?_eq_none (by simp; omega)]; rfl
          subst hb0
          have hy0 : bits .xor .u8 0 (x.toNat : Int) = (y : Int) := hy
          go_wp2_with fail
          go_roundw
          case rel => exact ⟨n + 1, by omega, by go_num, HR.out, HN.out.setCell (p := ⟨w.heap.size, n, none⟩) HG.out _, HG.out⟩
          case measure => simp [intOf]; omega
      · have hn64 : n = 64 := by omega
        subst hn64
        have hrd := run_string_own wr 94 9 5 Tryz.underlying94 Tryz.underlying5 Tryz.underlying9 _ hown
        clear hown hnx hwg
        go_wp2_with fail
        go_ret
        exact ⟨rfl, HN.out⟩

theorem specMask_any (key : ByteArray) (hs : key.size ≤ 500000000) (x : UInt8) (w : World) :
    Calls Tryz.prog 84 #[.string key, .int .u8 (x.toNat : Nat)] w fun e w' => e = .returned (.string (padP key x)) ∧ Below w.heap.size w w' := specMaskK_any key (keyP key) (keyP_size key) rfl hs x w

set_option maxRecDepth 100000 in
set_option maxHeartbeats 400000 in
theorem specMacOf_any (key s : ByteArray) (hk : key.size ≤ 400000000) (hs : s.size ≤ 400000000) (w : World) :
    Calls Tryz.prog 73 #[.string key, .string s] w fun e w' => e = .returned (.string (macP key s)) ∧ Below w.heap.size w w' := by
  have h1 : ∀ X, Calls Tryz.prog 84 #[.string key, .int .u8 92] X fun e X' => e = .returned (.string (padP key 92)) ∧ Below X.heap.size X X' := specMask_any key (by omega) 92
  have h2 : ∀ X, Calls Tryz.prog 84 #[.string key, .int .u8 54] X fun e X' => e = .returned (.string (padP key 54)) ∧ Below X.heap.size X X' := specMask_any key (by omega) 54
  have z1 := padP_size key 92
  have z2 := padP_size key 54
  have h3 := specDigP_any (padP key 54 ++ s) (by rw [ByteArray.size_append, z2]; omega)
  have z3 := digP_size (padP key 54 ++ s)
  have h4 := specDigP_any (padP key 92 ++ digP (padP key 54 ++ s)) (by rw [ByteArray.size_append, z1, z3]; omega)
  unfold macP
  obtain ⟨pa, PA⟩ : ∃ p, Hid (p = padP key 92) := ⟨_, rfl⟩
  obtain ⟨pb, PB⟩ : ∃ p, Hid (p = padP key 54) := ⟨_, rfl⟩
  rw [← PA.out] at h1 z1 h4 ⊢
  rw [← PB.out] at h2 z2 h3 z3 h4 ⊢
  obtain ⟨dg, DG⟩ : ∃ d, Hid (d = digP (pb ++ s)) := ⟨_, rfl⟩
  rw [← DG.out] at h3 z3 h4 ⊢
  have s1 : ¬ (9223372036854775807 < pb.size + s.size) := by omega
  have s2 : ¬ (9223372036854775807 < pa.size + dg.size) := by omega
  have H1 := Lib.hid h1
  have H2 := Lib.hid h2
  have H3 := Lib.hid h3
  have H4 := Lib.hid h4
  clear h1 h2 h3 h4 z1 z2 z3
  go_enter Tryz.func73, Tryz.ntmps73
  go_wp2_with fail
  refine (H1.out _).mono ?_
  rintro e w1 ⟨rfl, hb1⟩
  have HB1 := Lib.hid hb1
  clear hb1
  go_wp2_with fail
  refine (H2.out _).mono ?_
  rintro e w2 ⟨rfl, hb2⟩
  have HB2 := Lib.hid (HB1.out.trans (hb2.mono HB1.out.size))
  clear hb2
  go_wp2_with fail
  refine (H3.out _).mono ?_
  rintro e w3 ⟨rfl, hb3⟩
  have HB3 := Lib.hid (HB2.out.trans (hb3.mono HB2.out.size))
  clear hb3
  go_wp2_with fail
  refine (H4.out _).mono ?_
  rintro e w4 ⟨rfl, hb4⟩
  have HB4 := Lib.hid (HB3.out.trans (hb4.mono HB3.out.size))
  clear hb4
  go_wp2_with fail
  go_ret
  exact ⟨rfl, HB4.out⟩

end Go.Proofs.YtoaifgblbfdncabGreatDoor
namespace Go.Proofs.YtoaifgblbfdncabGreatDoor
open Go.RowKit

set_option maxRecDepth 100000 in
set_option maxHeartbeats 400000 in
theorem specByte_any (i : Nat) (h : i < 256) (w : World) :
    Calls Tryz.prog 75 #[.int .i64 i] w fun e w' => e = .returned (.string ⟨#[UInt8.ofNat i]⟩) ∧ Below w.heap.size w w' := by
  have h1 : (i : Int) % 256 = (i : Int) := by omega
  have h2 : (i : Int).tmod 256 = (i : Int) := by rw [Int.tmod_eq_emod_of_nonneg (by omega)]; exact h1
  have h3 : ¬ ((i : Int) < 0) := by omega
  obtain ⟨b, hb, BB⟩ : ∃ b : UInt8, (i : Int) = (b.toNat : Int) ∧ Hid (b = UInt8.ofNat i) := ⟨UInt8.ofNat i, by rw [UInt8.toNat_ofNat']; omega, rfl⟩
  have hr := run_string_one (P := Tryz.prog) w 94 9 5 Tryz.underlying94 Tryz.underlying5 Tryz.underlying9 b
  rw [← hb] at hr
  have HB := Lib.hid hb
  rw [← BB.out]
  clear hb
  go_enter Tryz.func75, Tryz.ntmps75
  go_wp2_with fail
  go_ret
  exact ⟨rfl, (Below.refl _ _).alloc (Nat.le_refl _) _⟩

/-- A text's bytes as a row of their own. -/
theorem bytes_row (w : World) (t : ByteArray) : ∃ (cp : Nat) (w' : World), (convert 9 94 (.string t)).run Tryz.prog w = .ok (.slice (some ⟨w.heap.size, 0, none⟩) t.size cp) w' ∧ w.heap.size < w'.heap.size ∧ Below w.heap.size w w' ∧
    (∀ j, j < t.size → w'.cell? ⟨w.heap.size, j, none⟩ = some (.int .u8 (t.data.toList.getD j 0).toNat)) ∧ (∀ j, j < t.size → w'.frozen? ⟨w.heap.size, j, none⟩ = false) := by
  refine ⟨_, _, Lib.run_convert_string_bytes w 9 94 5 t Tryz.underlying9 Tryz.underlying94 Tryz.underlying5, by rw [Lib.bytesWorld_size]; omega, ⟨rfl, rfl, rfl, by rw [Lib.bytesWorld_size]; omega, fun k hk => Lib.bytesWorld_at_old w _ t k hk⟩, fun j hj => Lib.bytesWorld_cell w _ t j hj, fun j hj => ?_⟩
  have h := Lib.bytesWorld_at_new w 5 t
  have hz : t.size ≤ (Lib.bytesCells w 5 t).size := by simp [Lib.bytesCells]
  unfold World.frozen?
  rw [h]
  simp
  omega

theorem OwnB.after {w w' : World} {base : Nat} {e : TypeId} {v : Value} {xs : List UInt8} (h : OwnB w base e v xs) (hb : Below w.heap.size w w') : OwnB w' base e v xs := by
  refine ⟨h.1, ?_⟩
  rcases h.2 with hn | ⟨g, cap, cur, hv, hb', hg, rest⟩
  · exact .inl hn
  · exact .inr ⟨g, cap, cur, hv, hb', by rw [hb.block g (lt_of_block hg)]; exact hg, rest⟩
/-- 'out = append(out, l...)': out a row of bytes of the call's own. -/
theorem wpList_joinB {P : Program} (w : World) {ops : Array Oper} {rest : List Oper} {o : Oper} {a : Act} {Q : Exit → Act → World → Prop} (hgd : o.guard = none) (s x : Operand) (t : TypeId)
    (ho : o.op = .call { callee := .builtin .append, args := #[s, x], argTypes := #[t, t] })
    (base : Nat) (e : TypeId) (i : TypeInfo) (ht : P.underlying t = some (.slice e)) (hi : P.info? e = some i) (hz : i.zero = some (.int .u8 0))
    (hsize : i.size = 1) (hby : i.bytes = 1) (v : Value) (xs : List UInt8) (hs : a.eval s = v) (hown : OwnB w base e v xs)
    (g m c : Nat) (l : List UInt8) (hx : a.eval x = .slice (some ⟨g, 0, none⟩) m c) (hm : l.length = m) (hc : ∀ j, j < m → w.cell? ⟨g, j, none⟩ = some (.int .u8 (l.getD j 0).toNat))
    (hlen : xs.length + m ≤ 1000000000) (hbase : base ≤ w.heap.size)
    (h : ∀ v' w', OwnB w' base e v' (xs ++ l) → Below base w w' → wpList P ops Q rest (a.put o.dst v') w') :
    wpList P ops Q (o :: rest) a w := by
  subst hm
  refine wpList_append_own w hgd s x t ho base e i (.int .u8 0) 1 1 ht hi hz hsize hby rfl (by decide) v xs.length (Lib.byteCells xs) hs hown ⟨g, 0, none⟩ l.length c (Lib.byteCells l) hx (by simp [Lib.byteCells]) (fun j u hj => ?_) (by intro u hu; simp [Lib.byteCells] at hu; obtain ⟨b, _, rfl⟩ := hu; rfl) (by unfold maxLen; omega) (by omega) hbase ?_
  · have hjl : j < l.length := by
      rcases Nat.lt_or_ge j l.length with h | h
      · exact h
      · rw [List.getElem?_eq_none (by simpa [Lib.byteCells] using h)] at hj
        cases hj
    have hadd : (⟨g, 0, none⟩ : Addr).add j = ⟨g, j, none⟩ := by unfold Addr.add; split <;> simp_all
    rw [hadd, hc j hjl, ← hj]
    simp [Lib.byteCells, hjl]
  · intro v' w' h1 h2 _
    refine h v' w' ?_ ((Below.refl base w).grown h2 hbase (fun k hk => (World.ownsRow.lt hown k hk).1))
    unfold OwnB
    rw [List.length_append, Lib.byteCells_append]
    exact h1

/-- The front of a row of one's own, read as a text. -/
theorem own_front {P : Program} (w : World) (src dst e : TypeId) (hs : P.underlying src = some (.slice e)) (he : P.underlying e = some (.int .u8)) (hd : P.underlying dst = some .string)
    {base : Nat} {v : Value} (l : List UInt8) (hown0 : OwnB w base e v l) (n : Nat) (hn : n ≤ l.length) :
    ∃ ao cap, v = .slice ao l.length cap ∧ n ≤ cap ∧ (convert src dst (.slice ao n cap)).run P w = .ok (.string ⟨(l.take n).toArray⟩) w := by
  have hown : w.ownsRow base e 1 v l.length (Lib.byteCells l) := hown0
  rcases hown.2 with ⟨rfl, h0⟩ | ⟨g, cap, cur, rfl, _, _, hnc, _, _, _⟩
  · obtain rfl : l = [] := List.length_eq_zero_iff.1 h0
    obtain rfl : n = 0 := by simpa using hn
    refine ⟨none, 0, rfl, Nat.le_refl _, ?_⟩
    rw [run_convert_bytes_string w src dst e none 0 0 hs he hd]
    rfl
  · refine ⟨_, cap, rfl, by omega, ?_⟩
    have hl : (l.take n).length = n := by rw [List.length_take]; omega
    have h := run_convert_bytes_back w src dst e ⟨g, 0, none⟩ cap (l.take n) hs he hd (fun j hj => hown.cells (g := g) rfl j _ (by
      rw [hl] at hj
      unfold Lib.byteCells
      rw [List.getElem?_map, List.getElem_take, List.getElem?_eq_getElem (by omega)]
      rfl))
    rw [hl] at h
    exact h

end Go.Proofs.YtoaifgblbfdncabGreatDoor
namespace Go.Proofs.YtoaifgblbfdncabGreatDoor

def varF : Nat → Nat → List UInt8
  | 0, n => [UInt8.ofNat n]
  | f + 1, n => if n ≤ 127 then [UInt8.ofNat n] else UInt8.ofNat (n % 128 + 128) :: varF f (n / 128)

def var (n : Nat) : List UInt8 := varF n n

theorem varF_fuel : ∀ (f g n : Nat), n ≤ f → n ≤ g → varF f n = varF g n
  | 0, 0, n, _, _ => rfl
  | 0, g + 1, n, h, _ => by
    have : n = 0 := by omega
    subst this
    simp [varF]
  | f + 1, 0, n, _, h => by
    have : n = 0 := by omega
    subst this
    simp [varF]
  | f + 1, g + 1, n, hf, hg => by
    by_cases h : n ≤ 127
    · simp [varF, h]
    · have h1 : n / 128 ≤ f := by omega
      have h2 : n / 128 ≤ g := by omega
      simp only [varF, if_neg h]
      rw [varF_fuel f g (n / 128) h1 h2]

theorem var_small (n : Nat) (h : n ≤ 127) : var n = [UInt8.ofNat n] := by
  unfold var
  cases n with
  | zero => rfl
  | succ n => simp only [varF, if_pos h]

theorem var_great (n : Nat) (h : 127 < n) : var n = UInt8.ofNat (n % 128 + 128) :: var (n / 128) := by
  unfold var
  obtain ⟨k, rfl⟩ : ∃ k, n = k + 1 := ⟨n - 1, by omega⟩
  have h' : ¬ k + 1 ≤ 127 := by omega
  simp only [varF, if_neg h']
  rw [varF_fuel k ((k + 1) / 128) ((k + 1) / 128) (by omega) (by omega)]

theorem varF_length : ∀ (f n : Nat), (varF f n).length ≤ f + 1
  | 0, n => by simp [varF]
  | f + 1, n => by
    by_cases h : n ≤ 127
    · simp [varF, h]
    · have := varF_length f (n / 128)
      simp only [varF, if_neg h, List.length_cons]
      omega

theorem var_length (n : Nat) : (var n).length ≤ n + 1 := varF_length n n

theorem byte_of (m : Nat) (h : m ≤ 255) : ((UInt8.ofNat m).toNat : Int) = (m : Int) := by
  have : (UInt8.ofNat m).toNat = m := by simp; omega
  omega

end Go.Proofs.YtoaifgblbfdncabGreatDoor
namespace Go.Proofs.YtoaifgblbfdncabGreatDoor
open Go.RowKit

theorem infoByte : (Tryz.prog.info? 5).map (fun i => (i.zero, i.size, i.bytes)) = some (some (.int .u8 0), 1, 1) := by kernel_rfl

set_option maxRecDepth 100000 in
set_option maxHeartbeats 400000 in
theorem l01Var_any (n : Nat) (hn : n ≤ 1000000000) (w : World) :
    Calls Tryz.prog 74 #[.int .i64 n] w fun e w' => e = .returned (.string ⟨(var n).toArray⟩) ∧ Below w.heap.size w w' := by
  obtain ⟨i0, hi, hz0, hz1, hz2⟩ := info_parts infoByte
  go_enter Tryz.func74, Tryz.ntmps74
  go_wp2
  go_loopw [0, 3] (fun t v wr => ∃ (m : Nat) (xs : List UInt8), m ≤ n ∧ t = .int .i64 m ∧ xs ++ var m = var n ∧ OwnB wr w.heap.size 5 v xs ∧ Below w.heap.size w wr) (fun t _ _ => (intOf t).toNat)
  case atStart => exact ⟨n, [], Nat.le_refl _, rfl, rfl, OwnB.lit _ _ _ (Nat.le_refl _), (Below.refl _ _).alloc (Nat.le_refl _) _⟩
  case round =>
    obtain ⟨m, xs, hm, rfl, hx, hown, hnx⟩ := hrel
    have hsz := hnx.size
    have hlen : xs.length + (var m).length ≤ 1000000001 := by
      have h1 := var_length n
      rw [← hx, List.length_append] at h1
      omega
    have HX := Lib.hid hx
    clear hx
    by_cases hlt : 127 < m
    · obtain ⟨b, hb, hg⟩ : ∃ b : UInt8, ((m : Int) % 128 + 128) = b.toNat ∧ var m = b :: var (m / 128) := ⟨_, by rw [byte_of _ (by omega)]; omega, var_great m hlt⟩
      have HG := Lib.hid hg
      have HB := Lib.hid hb
      clear hg hb
      go_wp2_with (at_builtin; refine wpList_push _ rfl _ _ 94 rfl w.heap.size 5 i0 Tryz.underlying94 hi hz0 hz1 hz2 _ xs rfl hown b _ rfl HB.out (by omega) hsz ?_)
      intro v' w1 hown1 hnx1
      have hnx2 := hnx.trans hnx1
      clear hown hnx hnx1 hsz
      go_wp2
      go_roundw
      case rel => exact ⟨m / 128, xs ++ [b], by omega, by go_num, by rw [← HX.out, HG.out, List.append_assoc]; rfl, hown1, hnx2⟩
      case measure => simp [intOf]; omega
    · obtain ⟨b, hb, hs⟩ : ∃ b : UInt8, (m : Int) = b.toNat ∧ var m = [b] := ⟨_, by rw [byte_of _ (by omega)], var_small m (by omega)⟩
      have HS := Lib.hid hs
      have HB := Lib.hid hb
      clear hs hb
      go_wp2_with (at_builtin; refine wpList_push _ rfl _ _ 94 rfl w.heap.size 5 i0 Tryz.underlying94 hi hz0 hz1 hz2 _ xs rfl hown b _ rfl HB.out (by omega) hsz ?_)
      intro v' w1 hown1 hnx1
      have hcv := run_string_own (P := Tryz.prog) w1 94 9 5 Tryz.underlying94 Tryz.underlying5 Tryz.underlying9 _ hown1
      go_wp2
      go_ret
      exact ⟨ret_str (by rw [← HX.out, HS.out]), hnx.trans hnx1⟩

end Go.Proofs.YtoaifgblbfdncabGreatDoor
