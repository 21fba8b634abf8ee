/-
  Plain mathematics of sums under a key; no program is spoken of here.
  The given sums under a key.
-/
import Derived.Test.YtoaifgblbfdncaaGreatDoorJ17
import Derived.Test.YtoaifgblbfdncaaGreatDoorJ19
namespace Go.Proofs.YtoaifgblbfdncaaGreatDoor
open Go.RowKit

/-- The digest of a text. -/
def digP (s : ByteArray) : ByteArray := ⟨(endOf ⟨(bytesOf (moreState ⟨(bytesOf firstState).toArray⟩ ⟨#[]⟩ s)).toArray⟩ ⟨(moreRest ⟨#[]⟩ s).toArray⟩ s.size).toArray⟩
theorem digP_size (s : ByteArray) : (digP s).size = 32 := by
  have h0 : (wordsOf (bytesOf firstState)).length = 8 := by rw [wordsOf_bytesOf _ firstState_words]; rfl
  have h1 : (moreState ⟨(bytesOf firstState).toArray⟩ ⟨#[]⟩ s).length = 8 := eatUp_length _ _ h0 _
  have h2 : Words (moreState ⟨(bytesOf firstState).toArray⟩ ⟨#[]⟩ s) := eatUp_words _ _ (wordsOf_words _) _
  have h3 : (wordsOf (bytesOf (moreState ⟨(bytesOf firstState).toArray⟩ ⟨#[]⟩ s))).length = 8 := by rw [wordsOf_bytesOf _ h2]; exact h1
  show (bytesOf (endState _ _ _)).toArray.size = 32
  rw [List.size_toArray, bytesOf_length]
  unfold endState
  rw [eatUp_length _ _ h3]
/-- A key as it counts: a long one is its digest. -/
def keyP (k : ByteArray) : ByteArray := if 64 < k.size then digP k else k
theorem keyP_size (k : ByteArray) : (keyP k).size ≤ 64 := by
  unfold keyP
  split
  · rw [digP_size]; decide
  · omega
/-- A key, filled with zeros, each byte's exclusive or with a number: the first n bytes, then zeros. -/
def padUp (k : List UInt8) (x : UInt8) (n : Nat) : List UInt8 := (List.range n).map (fun i => k.getD i 0 ^^^ x) ++ List.replicate (64 - n) 0
def padP (k : ByteArray) (x : UInt8) : ByteArray := ⟨(padUp (keyP k).data.toList x 64).toArray⟩
theorem padUp_length (k : List UInt8) (x : UInt8) (n : Nat) (h : n ≤ 64) : (padUp k x n).length = 64 := by unfold padUp; simp; omega
theorem padP_size (k : ByteArray) (x : UInt8) : (padP k x).size = 64 := by
  show (padUp _ x 64).toArray.size = 64
  rw [List.size_toArray, padUp_length _ _ _ (Nat.le_refl _)]
theorem padUp_set (k : List UInt8) (x : UInt8) (n : Nat) (h : n < 64) : (padUp k x n).set n (k.getD n 0 ^^^ x) = padUp k x (n + 1) := by
  unfold padUp
  have e : 64 - n = (64 - (n + 1)) + 1 := by omega
  rw [e, List.replicate_succ, List.set_append_right _ _ (by simp), List.length_map, List.length_range, Nat.sub_self, List.set_cons_zero, List.range_succ, List.map_append, List.append_assoc]
  rfl
theorem padUp_at (k : List UInt8) (x : UInt8) (n : Nat) (h : n < 64) : (padUp k x n).getD n 0 = 0 := by
  unfold padUp
  rw [List.getD_eq_getElem?_getD, List.getElem?_append_right (by simp), List.length_map, List.length_range, Nat.sub_self]
  have e : 64 - n = (64 - (n + 1)) + 1 := by omega
  rw [e, List.replicate_succ]
  rfl
def macP (k s : ByteArray) : ByteArray := digP (padP k 92 ++ digP (padP k 54 ++ s))
theorem macP_size (k s : ByteArray) : (macP k s).size = 32 := digP_size _

end Go.Proofs.YtoaifgblbfdncaaGreatDoor
namespace Go.Proofs.YtoaifgblbfdncaaGreatDoor
open Go.RowKit

theorem OwnB.set {w : World} {base g cap n : Nat} {e : TypeId} {xs : List UInt8} (h : OwnB w base e (.slice (some ⟨g, 0, none⟩) n cap) xs) (hn : xs.length = n) (j : Nat) (x : UInt8) :
    OwnB (w.setCell ⟨g, j, none⟩ (.int .u8 (x.toNat : Int))) base e (.slice (some ⟨g, 0, none⟩) n cap) (xs.set j x) := by
  subst hn
  have h' : w.ownsRow base e 1 (.slice (some ⟨g, 0, none⟩) xs.length cap) xs.length (Lib.byteCells xs) := h
  have := (h'.stored j (.int .u8 (x.toNat : Int))).1
  unfold OwnB
  rw [List.length_set]
  have e1 : Lib.byteCells (xs.set j x) = (Lib.byteCells xs).set j (.int .u8 (x.toNat : Int)) := by unfold Lib.byteCells; rw [List.map_set]
  rw [e1]
  exact this
theorem OwnB.free {w : World} {base g cap n : Nat} {e : TypeId} {xs : List UInt8} (h : OwnB w base e (.slice (some ⟨g, 0, none⟩) n cap) xs) (hn : xs.length = n) (j : Nat) : w.frozen? ⟨g, j, none⟩ = false := by
  subst hn
  exact World.ownsRow.frozenAt (base := base) (e := e) (size := 1) (xs := Lib.byteCells xs) (n := xs.length) (cap := cap) h j
theorem OwnB.at {w : World} {base g cap n : Nat} {e : TypeId} {xs : List UInt8} (h : OwnB w base e (.slice (some ⟨g, 0, none⟩) n cap) xs) (hn : xs.length = n) (j : Nat) (hj : j < n) : w.cell? ⟨g, j, none⟩ = some (.int .u8 ((xs.getD j 0).toNat : Nat)) := by
  subst hn
  obtain ⟨ao, c, hv, hh⟩ := h.form
  obtain ⟨g', hg', _, hc⟩ := hh (by omega)
  simp only [Value.slice.injEq] at hv
  obtain ⟨h1, _, _⟩ := hv
  rw [hg'] at h1
  simp only [Option.some.injEq, Addr.mk.injEq, and_true] at h1
  subst h1
  exact hc j hj
theorem specDigP_any (s : ByteArray) (hs : s.size ≤ 500000000) (w : World) :
    Calls Tryz.prog 40 #[.string s] w fun e w' => e = .returned (.string (digP s)) ∧ Below w.heap.size w w' := specDigestOf_any s hs w
theorem xorB (x y : UInt8) : bits .xor .u8 (x.toNat : Int) (y.toNat : Int) = ((x ^^^ y).toNat : Int) := by
  have e : ∀ x y : Fin 256, bits .xor .u8 (x.val : Int) (y.val : Int) = ((x.val ^^^ y.val : Nat) : Int) := by
    intro x y
    unfold bits
    simp only
    rw [BitVec.toNat_xor]
    have ex : ∀ z : Fin 256, (BitVec.ofInt IntKind.u8.bits (z.val : Int)).toNat = z.val := fun z => by
      rw [BitVec.toNat_ofInt]
      show ((z.val : Int) % ((2 ^ 8 : Nat) : Int)).toNat = z.val
      have := z.isLt
      omega
    rw [ex x, ex y, IntKind.wrap_u8]
    have : x.val ^^^ y.val < 256 := Nat.xor_lt_two_pow (n := 8) x.isLt y.isLt
    omega
  have := e ⟨x.toNat, x.toNat_lt⟩ ⟨y.toNat, y.toNat_lt⟩
  rw [this]
  simp

set_option maxRecDepth 100000 in
set_option maxHeartbeats 1600000 in
theorem specMaskK_any (key k : ByteArray) (hk : k.size ≤ 64) (hkey : keyP key = k) (hs : key.size ≤ 500000000) (x : UInt8) (w : World) :
    Calls Tryz.prog 126 #[.string key, .int .u8 (x.toNat : Nat)] w fun e w' => e = .returned (.string ⟨(padUp k.data.toList x 64).toArray⟩) ∧ Below w.heap.size w w' := by
  obtain ⟨i0, hi, hz0, hz1, hz2⟩ := info_parts infoByteS
  by_cases hlong : 64 < (key.size : Int)
  · have hk2 : digP key = k := by rw [← hkey]; unfold keyP; rw [if_pos (by omega)]
    have H1 := Lib.hid (specDigP_any key hs)
    rw [hk2] at H1
    clear hkey hk2
    go_enter Tryz.func126, Tryz.ntmps126
    go_wp2_with fail
    refine (H1.out _).mono ?_
    rintro e w1 ⟨rfl, hb1⟩
    have HB1 := Lib.hid hb1
    clear hb1
    go_wp2_with (at_make; refine wpList_make_full _ rfl _ _ 22 rfl w.heap.size 5 i0 (.int .u8 0) 1 Tryz.underlying22 hi hz0 hz1 .i64 .i64 64 64 64 rfl rfl rfl rfl (by rw [hz2]; decide) (by unfold maxLen; omega) HB1.out.size ?_)
    intro w2 hown2 hg2
    have hB2 : Below w.heap.size w w2 := HB1.out.trans ((Below.refl w.heap.size w1).grown hg2 HB1.out.size (fun j hj => by cases hj))
    have hO2 : OwnB w2 w.heap.size 5 (.slice (some ⟨w1.heap.size, 0, none⟩) 64 64) (padUp k.data.toList x 0) := by
      have e : (madeCells #[Value.int IntKind.u8 0] 64).toList = Lib.byteCells (padUp k.data.toList x 0) := by
        rw [toList_madeCells_one]
        rfl
      have h2 : w2.ownsRow w.heap.size 5 1 (.slice (some ⟨w1.heap.size, 0, none⟩) 64 64) 64 (madeCells #[Value.int IntKind.u8 0] 64).toList := hown2
      rw [e] at h2
      exact h2
    have HB2 := Lib.hid hB2
    have HO2 := Lib.hid hO2
    obtain ⟨g, G⟩ : ∃ g, Hid (g = w1.heap.size) := ⟨_, rfl⟩
    have ge : w1.heap.size = g := G.out.symm
    rw [ge] at HO2
    clear hown2 hg2 hB2 hO2
    go_wp2_with fail
    go_loopw [6] (fun i wr => ∃ n : Nat, n ≤ 64 ∧ i = .int .i64 (n : Int) ∧ OwnB wr w.heap.size 5 (.slice (some ⟨g, 0, none⟩) 64 64) (padUp k.data.toList x n) ∧ Below w.heap.size w wr ∧ w.heap.size ≤ g) (fun i _ => 64 - (intOf i).toNat)
    case atStart =>
      exact ⟨0, by omega, rfl, HO2.out, HB2.out, by rw [← ge]; exact HB1.out.size⟩
    case round =>
      obtain ⟨n, hn, rfl, hown, hnx, hwg⟩ := hrel
      have HN := Lib.hid hnx
      have HG := Lib.hid hwg
      have hl := padUp_length k.data.toList x n hn
      by_cases hlt : (n : Int) < 64
      · have c0 := hown.at hl n (by omega)
        have f0 := hown.free hl n
        rw [padUp_at k.data.toList x n (by omega)] at c0
        obtain ⟨b, BB⟩ : ∃ b : UInt8, Hid (b = k.data.toList.getD n 0) := ⟨_, rfl⟩
        obtain ⟨y, hy, Y⟩ : ∃ y : Nat, bits .xor .u8 (b.toNat : Int) (x.toNat : Int) = (y : Int) ∧ Hid (y = (b ^^^ x).toNat) := ⟨_, xorB b x, rfl⟩
        have HR : Hid (OwnB (wr.setCell ⟨g, n, none⟩ (.int .u8 (y : Int))) w.heap.size 5 (.slice (some ⟨g, 0, none⟩) 64 64) (padUp k.data.toList x (n + 1))) := by
          rw [Y.out, ← padUp_set k.data.toList x n (by omega), ← BB.out]
          exact hown.set hl n (b ^^^ x)
        have HR2 : Hid (OwnB ((wr.setCell ⟨g, n, none⟩ (.int .u8 (b.toNat : Int))).setCell ⟨g, n, none⟩ (.int .u8 (y : Int))) w.heap.size 5 (.slice (some ⟨g, 0, none⟩) 64 64) (padUp k.data.toList x (n + 1))) := by
          rw [Y.out]
          have h1 := hown.set hl n b
          have h2 := h1.set (by rw [List.length_set]; exact hl) n (b ^^^ x)
          rw [List.set_set, BB.out, padUp_set k.data.toList x n (by omega)] at h2
          rw [BB.out]
          exact h2
        have c1 := (hown.set hl n b).at (by rw [List.length_set]; exact hl) n (by omega)
        have f1 := (hown.set hl n b).free (by rw [List.length_set]; exact hl) n
        rw [List.getD_eq_getElem?_getD, List.getElem?_set_self (by omega)] at c1
        have c1' : (wr.setCell ⟨g, n, none⟩ (.int .u8 (b.toNat : Int))).cell? ⟨g, n, none⟩ = some (.int .u8 (b.toNat : Nat)) := c1
        clear c1 hown hnx hwg
        by_cases hkl : (n : Int) < (k.size : Int)
        · have hb : (k[n]'(by omega)) = b := by rw [BB.out, List.getD_eq_getElem?_getD, List.getElem?_eq_getElem (by simp; omega)]; rfl
          go_wp2_with fail
          go_roundw
          case rel => exact ⟨n + 1, by omega, by go_num, HR2.out, (HN.out.setCell (p := ⟨g, n, none⟩) HG.out _).setCell (p := ⟨g, n, none⟩) HG.out _, HG.out⟩
          case measure => simp [intOf]; omega
        · have hb0 : b = 0 := by rw [BB.out, List.getD_eq_getElem?_getD, List.getElem?_eq_none (by simp; omega)]; rfl
          subst hb0
          have hy0 : bits .xor .u8 0 (x.toNat : Int) = (y : Int) := hy
          go_wp2_with fail
          go_roundw
          case rel => exact ⟨n + 1, by omega, by go_num, HR.out, HN.out.setCell (p := ⟨g, n, none⟩) HG.out _, HG.out⟩
          case measure => simp [intOf]; omega
      · have hn64 : n = 64 := by omega
        subst hn64
        have hrd := run_string_own wr 22 9 5 Tryz.underlying22 Tryz.underlying5 Tryz.underlying9 _ hown
        clear hown hnx hwg
        go_wp2_with fail
        go_ret
        exact ⟨rfl, HN.out⟩
  · have hk2 : key = k := by rw [← hkey]; unfold keyP; rw [if_neg (by omega)]
    subst hk2
    clear hkey
    have HB1 := Lib.hid (Below.refl w.heap.size w)
    go_enter Tryz.func126, Tryz.ntmps126
    go_wp2_with (at_make; refine wpList_make_full _ rfl _ _ 22 rfl w.heap.size 5 i0 (.int .u8 0) 1 Tryz.underlying22 hi hz0 hz1 .i64 .i64 64 64 64 rfl rfl rfl rfl (by rw [hz2]; decide) (by unfold maxLen; omega) HB1.out.size ?_)
    intro w2 hown2 hg2
    have hB2 : Below w.heap.size w w2 := HB1.out.trans ((Below.refl w.heap.size w).grown hg2 HB1.out.size (fun j hj => by cases hj))
    have hO2 : OwnB w2 w.heap.size 5 (.slice (some ⟨w.heap.size, 0, none⟩) 64 64) (padUp key.data.toList x 0) := by
      have e : (madeCells #[Value.int IntKind.u8 0] 64).toList = Lib.byteCells (padUp key.data.toList x 0) := by
        rw [toList_madeCells_one]
        rfl
      have h2 : w2.ownsRow w.heap.size 5 1 (.slice (some ⟨w.heap.size, 0, none⟩) 64 64) 64 (madeCells #[Value.int IntKind.u8 0] 64).toList := hown2
      rw [e] at h2
      exact h2
    have HB2 := Lib.hid hB2
    have HO2 := Lib.hid hO2
    clear hown2 hg2 hB2 hO2
    go_wp2_with fail
    go_loopw [6] (fun i wr => ∃ n : Nat, n ≤ 64 ∧ i = .int .i64 (n : Int) ∧ OwnB wr w.heap.size 5 (.slice (some ⟨w.heap.size, 0, none⟩) 64 64) (padUp key.data.toList x n) ∧ Below w.heap.size w wr ∧ w.heap.size ≤ w.heap.size) (fun i _ => 64 - (intOf i).toNat)
    case atStart =>
      exact ⟨0, by omega, rfl, HO2.out, HB2.out, Nat.le_refl _⟩
    case round =>
      obtain ⟨n, hn, rfl, hown, hnx, hwg⟩ := hrel
      have HN := Lib.hid hnx
      have HG := Lib.hid hwg
      have hl := padUp_length key.data.toList x n hn
      by_cases hlt : (n : Int) < 64
      · have c0 := hown.at hl n (by omega)
        have f0 := hown.free hl n
        rw [padUp_at key.data.toList x n (by omega)] at c0
        obtain ⟨b, BB⟩ : ∃ b : UInt8, Hid (b = key.data.toList.getD n 0) := ⟨_, rfl⟩
        obtain ⟨y, hy, Y⟩ : ∃ y : Nat, bits .xor .u8 (b.toNat : Int) (x.toNat : Int) = (y : Int) ∧ Hid (y = (b ^^^ x).toNat) := ⟨_, xorB b x, rfl⟩
        have HR : Hid (OwnB (wr.setCell ⟨w.heap.size, n, none⟩ (.int .u8 (y : Int))) w.heap.size 5 (.slice (some ⟨w.heap.size, 0, none⟩) 64 64) (padUp key.data.toList x (n + 1))) := by
          rw [Y.out, ← padUp_set key.data.toList x n (by omega), ← BB.out]
          exact hown.set hl n (b ^^^ x)
        have HR2 : Hid (OwnB ((wr.setCell ⟨w.heap.size, n, none⟩ (.int .u8 (b.toNat : Int))).setCell ⟨w.heap.size, n, none⟩ (.int .u8 (y : Int))) w.heap.size 5 (.slice (some ⟨w.heap.size, 0, none⟩) 64 64) (padUp key.data.toList x (n + 1))) := by
          rw [Y.out]
          have h1 := hown.set hl n b
          have h2 := h1.set (by rw [List.length_set]; exact hl) n (b ^^^ x)
          rw [List.set_set, BB.out, padUp_set key.data.toList x n (by omega)] at h2
          rw [BB.out]
          exact h2
        have c1 := (hown.set hl n b).at (by rw [List.length_set]; exact hl) n (by omega)
        have f1 := (hown.set hl n b).free (by rw [List.length_set]; exact hl) n
        rw [List.getD_eq_getElem?_getD, List.getElem?_set_self (by omega)] at c1
        have c1' : (wr.setCell ⟨w.heap.size, n, none⟩ (.int .u8 (b.toNat : Int))).cell? ⟨w.heap.size, n, none⟩ = some (.int .u8 (b.toNat : Nat)) := c1
        clear c1 hown hnx hwg
        by_cases hkl : (n : Int) < (key.size : Int)
        · have hb : (key[n]'(by omega)) = b := by rw [BB.out, List.getD_eq_getElem?_getD, List.getElem?_eq_getElem (by simp; omega)]; rfl
          go_wp2_with fail
          go_roundw
          case rel => exact ⟨n + 1, by omega, by go_num, HR2.out, (HN.out.setCell (p := ⟨w.heap.size, n, none⟩) HG.out _).setCell (p := ⟨w.heap.size, n, none⟩) HG.out _, HG.out⟩
          case measure => simp [intOf]; omega
        · have hb0 : b = 0 := by rw [BB.out, List.getD_eq_getElem?_getD, List.getElem?_eq_none (by simp; omega)]; rfl
          subst hb0
          have hy0 : bits .xor .u8 0 (x.toNat : Int) = (y : Int) := hy
          go_wp2_with fail
          go_roundw
          case rel => exact ⟨n + 1, by omega, by go_num, HR.out, HN.out.setCell (p := ⟨w.heap.size, n, none⟩) HG.out _, HG.out⟩
          case measure => simp [intOf]; omega
      · have hn64 : n = 64 := by omega
        subst hn64
        have hrd := run_string_own wr 22 9 5 Tryz.underlying22 Tryz.underlying5 Tryz.underlying9 _ hown
        clear hown hnx hwg
        go_wp2_with fail
        go_ret
        exact ⟨rfl, HN.out⟩

theorem specMask_any (key : ByteArray) (hs : key.size ≤ 500000000) (x : UInt8) (w : World) :
    Calls Tryz.prog 126 #[.string key, .int .u8 (x.toNat : Nat)] w fun e w' => e = .returned (.string (padP key x)) ∧ Below w.heap.size w w' := specMaskK_any key (keyP key) (keyP_size key) rfl hs x w

set_option maxRecDepth 100000 in
set_option maxHeartbeats 400000 in
theorem specMacOf_any (key s : ByteArray) (hk : key.size ≤ 400000000) (hs : s.size ≤ 400000000) (w : World) :
    Calls Tryz.prog 109 #[.string key, .string s] w fun e w' => e = .returned (.string (macP key s)) ∧ Below w.heap.size w w' := by
  have h1 : ∀ X, Calls Tryz.prog 126 #[.string key, .int .u8 92] X fun e X' => e = .returned (.string (padP key 92)) ∧ Below X.heap.size X X' := specMask_any key (by omega) 92
  have h2 : ∀ X, Calls Tryz.prog 126 #[.string key, .int .u8 54] X fun e X' => e = .returned (.string (padP key 54)) ∧ Below X.heap.size X X' := specMask_any key (by omega) 54
  have z1 := padP_size key 92
  have z2 := padP_size key 54
  have h3 := specDigP_any (padP key 54 ++ s) (by rw [ByteArray.size_append, z2]; omega)
  have z3 := digP_size (padP key 54 ++ s)
  have h4 := specDigP_any (padP key 92 ++ digP (padP key 54 ++ s)) (by rw [ByteArray.size_append, z1, z3]; omega)
  unfold macP
  obtain ⟨pa, PA⟩ : ∃ p, Hid (p = padP key 92) := ⟨_, rfl⟩
  obtain ⟨pb, PB⟩ : ∃ p, Hid (p = padP key 54) := ⟨_, rfl⟩
  rw [← PA.out] at h1 z1 h4 ⊢
  rw [← PB.out] at h2 z2 h3 z3 h4 ⊢
  obtain ⟨dg, DG⟩ : ∃ d, Hid (d = digP (pb ++ s)) := ⟨_, rfl⟩
  rw [← DG.out] at h3 z3 h4 ⊢
  have s1 : ¬ (9223372036854775807 < pb.size + s.size) := by omega
  have s2 : ¬ (9223372036854775807 < pa.size + dg.size) := by omega
  have H1 := Lib.hid h1
  have H2 := Lib.hid h2
  have H3 := Lib.hid h3
  have H4 := Lib.hid h4
  clear h1 h2 h3 h4 z1 z2 z3
  go_enter Tryz.func109, Tryz.ntmps109
  go_wp2_with fail
  refine (H1.out _).mono ?_
  rintro e w1 ⟨rfl, hb1⟩
  have HB1 := Lib.hid hb1
  clear hb1
  go_wp2_with fail
  refine (H2.out _).mono ?_
  rintro e w2 ⟨rfl, hb2⟩
  have HB2 := Lib.hid (HB1.out.trans (hb2.mono HB1.out.size))
  clear hb2
  go_wp2_with fail
  refine (H3.out _).mono ?_
  rintro e w3 ⟨rfl, hb3⟩
  have HB3 := Lib.hid (HB2.out.trans (hb3.mono HB2.out.size))
  clear hb3
  go_wp2_with fail
  refine (H4.out _).mono ?_
  rintro e w4 ⟨rfl, hb4⟩
  have HB4 := Lib.hid (HB3.out.trans (hb4.mono HB3.out.size))
  clear hb4
  go_wp2_with fail
  go_ret
  exact ⟨rfl, HB4.out⟩

end Go.Proofs.YtoaifgblbfdncaaGreatDoor
