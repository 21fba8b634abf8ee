/-
  Plain mathematics of digests by parts: a right hasher, whole blocks that are eaten, the last blocks; no program is spoken of here.
  The given hashers: whether one is right.
  The given new hasher.
  The given HashMore, by what it answers.
-/
import Derived.Test.YtoaifgblbfdncaaGreatDoorJ12
import Derived.Test.YtoaifgblbfdncaaGreatDoorRows
import Derived.Test.YtoaifgblbfdncaaGreatDoorJ01
import Derived.Test.YtoaifgblbfdncaaGreatDoorJ10
import Derived.Deep.RegionHeld3
import Derived.BigQuiet
import Derived.Deep.QuietTactic
import Derived.Deep.LoopGhost
import Derived.Deep.DeepCutAuto
import Derived.Test.YtoaifgblbfdncaaGreatDoorJ16
namespace Go.Proofs.YtoaifgblbfdncaaGreatDoor
open Go.RowKit

/-- A hasher that is right. -/
def HOk (st rest : ByteArray) (n : Int) : Prop := st.size = 32 ∧ rest.size < 64 ∧ 0 ≤ n ∧ n ≤ 1000000000 ∧ n % 64 = (rest.size : Int)

/-- Block number k of a row of bytes. -/
def blockAt (l : List UInt8) (k : Nat) : List UInt8 := (l.drop (64 * k)).take 64
theorem blockAt_length (l : List UInt8) (k : Nat) (h : 64 * k + 64 ≤ l.length) : (blockAt l k).length = 64 := by
  unfold blockAt
  rw [List.length_take, List.length_drop]
  omega
/-- The state behind so many blocks. -/
def eatUp (s0 : List Nat) (l : List UInt8) : Nat → List Nat
  | 0 => s0
  | k + 1 => roundOf (eatUp s0 l k) (blockAt l k)
theorem eatUp_length (s0 : List Nat) (l : List UInt8) (h : s0.length = 8) (k : Nat) : (eatUp s0 l k).length = 8 := by
  cases k with
  | zero => exact h
  | succ k => exact roundOf_length _ _
theorem eatUp_words (s0 : List Nat) (l : List UInt8) (h : Words s0) (k : Nat) : Words (eatUp s0 l k) := by
  cases k with
  | zero => exact h
  | succ k => exact roundOf_words _ _

/-- The last bytes: a byte 128, zeros, and eight bytes of the number of bits. -/
def zerosFor (r : Nat) : Nat := (119 - r) % 64
def beUp (n : Nat) : Nat → List UInt8
  | 0 => []
  | k + 1 => beUp n k ++ [UInt8.ofNat (n / 256 ^ (7 - k) % 256)]
theorem beUp_length (n k : Nat) : (beUp n k).length = k := by
  induction k with
  | zero => rfl
  | succ k ih => rw [beUp, List.length_append, ih]; rfl
def tailOf (rest : List UInt8) (n : Nat) : List UInt8 := rest ++ [128] ++ List.replicate (zerosFor rest.length) 0 ++ beUp (8 * n) 8
theorem tailOf_length (rest : List UInt8) (n : Nat) (h : rest.length < 64) : (tailOf rest n).length = 64 ∨ (tailOf rest n).length = 128 := by
  unfold tailOf zerosFor
  simp only [List.length_append, List.length_replicate, beUp_length, List.length_cons, List.length_nil]
  omega

/-- What more text makes of a hasher, and what a hasher tells. -/
def moreState (st rest s : ByteArray) : List Nat := eatUp (wordsOf st.data.toList) (rest.data.toList ++ s.data.toList) ((rest.size + s.size) / 64)
def moreRest (rest s : ByteArray) : List UInt8 := (rest.data.toList ++ s.data.toList).drop (64 * ((rest.size + s.size) / 64))
def endState (st rest : ByteArray) (n : Nat) : List Nat := eatUp (wordsOf st.data.toList) (tailOf rest.data.toList n) ((tailOf rest.data.toList n).length / 64)
def endOf (st rest : ByteArray) (n : Nat) : List UInt8 := bytesOf (endState st rest n)

/-- The words of bytes that are words' bytes are these. -/
theorem fourNum_four (x : Nat) (h : x < 4294967296) : fourNum (UInt8.ofNat (x / 16777216)) (UInt8.ofNat (x / 65536 % 256)) (UInt8.ofNat (x / 256 % 256)) (UInt8.ofNat (x % 256)) = x := by
  unfold fourNum
  simp only [UInt8.toNat_ofNat']
  omega
theorem wordAt_bytesOf (l : List Nat) (h : Words l) (i : Nat) (hi : i < l.length) : wordAt (bytesOf l) (4 * i) = l.getD i 0 := by
  induction l generalizing i with
  | nil => exact absurd hi (by simp)
  | cons x l ih =>
    cases i with
    | zero =>
      have hx : x < 4294967296 := h x (List.mem_cons_self ..)
      exact fourNum_four x hx
    | succ i =>
      have := ih (fun y hy => h y (List.mem_cons_of_mem _ hy)) i (by simpa using hi)
      have e : 4 * (i + 1) = 4 * i + 4 := by omega
      rw [e]
      unfold wordAt at this ⊢
      rw [bytesOf]
      have hd : ∀ j, (four x ++ bytesOf l).getD (j + 4) 0 = (bytesOf l).getD j 0 := fun j => by
        unfold four
        simp
      have e1 : 4 * i + 4 + 1 = (4 * i + 1) + 4 := by omega
      have e2 : 4 * i + 4 + 2 = (4 * i + 2) + 4 := by omega
      have e3 : 4 * i + 4 + 3 = (4 * i + 3) + 4 := by omega
      rw [e1, e2, e3, hd, hd, hd, hd, this]
      simp
theorem wordsOf_bytesOf (l : List Nat) (h : Words l) : wordsOf (bytesOf l) = l := by
  unfold wordsOf wordsUp
  rw [bytesOf_length, Nat.mul_div_cancel_left _ (by decide)]
  apply List.ext_getElem?
  intro i
  rw [List.getElem?_map]
  rcases Nat.lt_or_ge i l.length with hi | hi
  · rw [List.getElem?_range hi, Option.map_some, wordAt_bytesOf l h i hi, List.getD_eq_getElem?_getD, List.getElem?_eq_getElem hi]
    rfl
  · rw [List.getElem?_eq_none (by simpa using hi), List.getElem?_eq_none hi]
    rfl

end Go.Proofs.YtoaifgblbfdncaaGreatDoor
namespace Go.Proofs.YtoaifgblbfdncaaGreatDoor
open Go.RowKit

set_option maxRecDepth 100000 in
set_option maxHeartbeats 400000 in
theorem specHasherOk_yes (st rest : ByteArray) (n : Int) (h : HOk st rest n) (w : World) :
    Calls Tryz.prog 102 #[.agg #[.string st, .string rest, .int .i64 n]] w fun e w' => e = .returned (.bool true) ∧ Below w.heap.size w w' := by
  obtain ⟨h1, h2, h3, h4, h5⟩ := h
  have a1 : ((st.size : Int) == 32) = true := by rw [h1]; rfl
  have a2 : (rest.size : Int) < 64 := by omega
  have a5 : n.tmod 64 = (rest.size : Int) := by rw [Int.tmod_eq_emod_of_nonneg h3]; exact h5
  have H1 := Lib.hid (inRange_yes n 0 1000000000 h3 h4)
  clear h1 h2 h5
  go_enter Tryz.func102, Tryz.ntmps102
  go_wp2_with fail
  refine (H1.out _).mono ?_
  rintro e w1 ⟨rfl, rfl⟩
  go_wp2_with fail
  go_ret
  exact ⟨rfl, (Below.refl _ _).alloc (Nat.le_refl _) _⟩

end Go.Proofs.YtoaifgblbfdncaaGreatDoor
namespace Go.Proofs.YtoaifgblbfdncaaGreatDoor
open Go.RowKit

/-- A variable of three cells in a block of its own. -/
structure Var3 (r : Nat) (t : TypeId) (a b c : Value) (X : World) : Prop where
  row : X.heap[r]? = some (.cells #[a, b, c] t (0, 0))
theorem Var3.next {r : Nat} {t : TypeId} {a b c : Value} {X Y : World} (h : Var3 r t a b c X) (hb : Below X.heap.size X Y) : Var3 r t a b c Y := ⟨by rw [hb.block r (lt_of_block h.row)]; exact h.row⟩
theorem Var3.c0 {r : Nat} {t : TypeId} {a b c : Value} {X : World} (h : Var3 r t a b c X) : X.cell? ⟨r, 0, none⟩ = some a := by rw [cell_of_row X r 0 _ t (0, 0) h.row]; rfl
theorem Var3.c1 {r : Nat} {t : TypeId} {a b c : Value} {X : World} (h : Var3 r t a b c X) : X.cell? ⟨r, 1, none⟩ = some b := by rw [cell_of_row X r 1 _ t (0, 0) h.row]; rfl
theorem Var3.c2 {r : Nat} {t : TypeId} {a b c : Value} {X : World} (h : Var3 r t a b c X) : X.cell? ⟨r, 2, none⟩ = some c := by rw [cell_of_row X r 2 _ t (0, 0) h.row]; rfl
theorem Var3.free {r : Nat} {t : TypeId} {a b c : Value} {X : World} (h : Var3 r t a b c X) (j : Nat) : X.frozen? ⟨r, j, none⟩ = false := frozen_of_row X r j _ t h.row
theorem Var3.set3 {r : Nat} {t : TypeId} {a b c : Value} {X : World} (h : Var3 r t a b c X) (a' b' c' : Value) : Var3 r t a' b' c' (((X.setCell ⟨r, 0, none⟩ a').setCell ⟨r, 1, none⟩ b').setCell ⟨r, 2, none⟩ c') :=
  ⟨heap_setCell_same _ r 2 _ t c' (heap_setCell_same _ r 1 _ t b' (heap_setCell_same X r 0 _ t a' h.row))⟩
theorem Below.set3 {B r : Nat} {w X : World} (h : Below B w X) (hr : B ≤ r) (a b c : Value) : Below B w (((X.setCell ⟨r, 0, none⟩ a).setCell ⟨r, 1, none⟩ b).setCell ⟨r, 2, none⟩ c) :=
  ((h.setCell (p := ⟨r, 0, none⟩) hr a).setCell (p := ⟨r, 1, none⟩) hr b).setCell (p := ⟨r, 2, none⟩) hr c
theorem Var3.new (w : World) (t : TypeId) (a b c : Value) : Var3 w.heap.size t a b c (w.alloc (.cells #[a, b, c] t)) := ⟨heap_alloc_new w _⟩

set_option maxRecDepth 100000 in
set_option maxHeartbeats 400000 in
theorem specHasherNew_any (w : World) :
    Calls Tryz.prog 75 #[] w fun e w' => e = .returned (.agg #[.string ⟨(bytesOf firstState).toArray⟩, .string ⟨#[]⟩, .int .i64 0]) ∧ Below w.heap.size w w' := by
  have H1 := Lib.hid specFirst_any
  have V0 := Lib.hid (Var3.new w 109 (.string ⟨#[]⟩) (.string ⟨#[]⟩) (.int .i64 0))
  go_enter Tryz.func75, Tryz.ntmps75
  go_wp2_with fail
  refine (H1.out _).mono ?_
  rintro e w1 ⟨g, c, rfl, hg, hc, hb1⟩
  have H2 := Lib.hid (specBytes_any g c firstState firstState_words (by decide) w1 hc hg)
  have V1 := Lib.hid (V0.out.next hb1)
  have HB1 := Lib.hid (((Below.refl w.heap.size w).alloc (Nat.le_refl _) _).trans (hb1.mono (by simp)))
  clear hc hb1
  go_wp2_with fail
  refine (H2.out).mono ?_
  rintro e w2 ⟨rfl, hb2⟩
  have V2 := V1.out.next hb2
  have c0 := V2.c0
  have c1 := V2.c1
  have c2 := V2.c2
  have f0 := V2.free 0
  have f1 := V2.free 1
  have f2 := V2.free 2
  have HB2 := Lib.hid (HB1.out.trans (hb2.mono HB1.out.size))
  have V3 := Lib.hid (V2.set3 (.string ⟨(bytesOf firstState).toArray⟩) (.string ⟨#[]⟩) (.int .i64 0))
  clear V2 hb2
  go_wp2_with fail
  have d0 := V3.out.c0
  have d1 := V3.out.c1
  have d2 := V3.out.c2
  refine bodyPost_ret (v := .agg #[.string ⟨(bytesOf firstState).toArray⟩, .string ⟨#[]⟩, .int .i64 0]) (by simp [results, Tryz.results75, go_sem, d0, d1, d2]) rfl ⟨rfl, ?_⟩
  exact Below.set3 HB2.out (Nat.le_refl _) _ _ _

end Go.Proofs.YtoaifgblbfdncaaGreatDoor
namespace Go.Proofs.YtoaifgblbfdncaaGreatDoor
open Go.RowKit

theorem join_bytes (a b : ByteArray) : (a ++ b).data.toList = a.data.toList ++ b.data.toList := by simp
theorem slice_block (s : ByteArray) (k : Nat) : (s.extract (64 * k) (64 * k + 64)).data.toList = blockAt s.data.toList k := by
  unfold blockAt
  simp

theorem extract_end (b : ByteArray) (m : Nat) : (⟨(b.data.toList.drop m).toArray⟩ : ByteArray) = b.extract m b.size := by
  apply ByteArray.ext
  apply Array.toList_inj.1
  simp
  exact (List.take_of_length_le (by simp)).symm

/-- The parameter and the result, each in a block of its own; what was there ahead of w is as it was. -/
structure TwoVars (w : World) (t : TypeId) (a b c : Value) (X : World) : Prop where
  v : Var3 w.heap.size t a b c X
  r : Var3 (w.heap.size + 1) t (.string ⟨#[]⟩) (.string ⟨#[]⟩) (.int .i64 0) X
  below : Below w.heap.size w X
theorem TwoVars.next {w : World} {t : TypeId} {a b c : Value} {X Y : World} (h : TwoVars w t a b c X) (hb : Below X.heap.size X Y) : TwoVars w t a b c Y :=
  ⟨h.v.next hb, h.r.next hb, h.below.trans (hb.mono h.below.size)⟩
theorem TwoVars.new (w : World) (t : TypeId) (a b c : Value) : TwoVars w t a b c ((w.alloc (.cells #[a, b, c] t)).alloc (.cells #[.string ⟨#[]⟩, .string ⟨#[]⟩, .int .i64 0] t)) := by
  refine ⟨(Var3.new w t a b c).next ((Below.refl _ _).alloc (Nat.le_refl _) _), ?_, ((Below.refl _ _).alloc (Nat.le_refl _) _).alloc (by simp) _⟩
  have h := Var3.new (w.alloc (.cells #[a, b, c] t)) t (.string ⟨#[]⟩) (.string ⟨#[]⟩) (.int .i64 0)
  have e : (w.alloc (.cells #[a, b, c] t)).heap.size = w.heap.size + 1 := by simp
  rw [e] at h
  exact h

set_option maxRecDepth 100000 in
set_option maxHeartbeats 1600000 in
theorem specHashMore_yes (st rest : ByteArray) (n : Int) (s : ByteArray) (h : HOk st rest n) (hn : n + (s.size : Int) ≤ 1000000000) (hs : s.size ≤ 500000000) (w : World) :
    Calls Tryz.prog 74 #[.agg #[.string st, .string rest, .int .i64 n], .string s] w fun e w' => e = .returned (.agg #[.string ⟨(bytesOf (moreState st rest s)).toArray⟩, .string ⟨(moreRest rest s).toArray⟩, .int .i64 (n + (s.size : Int))]) ∧ Below w.heap.size w w' := by
  have H0 := Lib.hid (specHasherOk_yes st rest n h)
  obtain ⟨h1, h2, h3, h4, h5⟩ := h
  have hnn : ¬ (1000000000 < n + (s.size : Int)) := by omega
  have H1 := Lib.hid (specWords_any st (by omega))
  have H2 := Lib.hid specK_any
  have T0 := Lib.hid (TwoVars.new w 109 (.string st) (.string rest) (.int .i64 n))
  go_enter Tryz.func74, Tryz.ntmps74
  go_wp2_with fail
  refine (H0.out _).mono ?_
  rintro e w1 ⟨rfl, hb1⟩
  have T1 := Lib.hid (T0.out.next hb1)
  have a0 := T1.out.v.c0
  have a2 := T1.out.v.c2
  clear hb1 T0 H0
  go_wp2_with fail
  refine (H1.out _).mono ?_
  rintro e w2 ⟨v, rfl, hown, hb2⟩
  have T2 := Lib.hid (T1.out.next hb2)
  have HO2 := Lib.hid (hown.mono (T1.out.below.size))
  clear hb2 T1 H1 a0 a2 hown
  go_wp2_with fail
  refine (H2.out _).mono ?_
  rintro e wk ⟨gk, ck, rfl, hgk, hck, hbk⟩
  have Tk := Lib.hid (T2.out.next hbk)
  have HOk := Lib.hid (HO2.out.below hbk)
  have HCK := Lib.hid hck
  have b1 := Tk.out.v.c1
  have hjoin : ¬ 9223372036854775807 < rest.size + s.size := by omega
  have hbz : (rest ++ s).size = rest.size + s.size := ByteArray.size_append
  clear hbk hck T2 HO2 H2
  go_wp2_with fail
  obtain ⟨S0, HS0⟩ : ∃ S0, Hid (S0 = wordsOf st.data.toList) := ⟨_, rfl⟩
  have hs8 : S0.length = 8 := by rw [HS0.out, wordsOf_length]; simp; omega
  have hsw : Words S0 := by rw [HS0.out]; exact wordsOf_words _
  rw [← HS0.out] at HOk
  obtain ⟨buf, HBUF⟩ : ∃ buf, Hid (buf = rest ++ s) := ⟨_, rfl⟩
  rw [← HBUF.out] at hbz
  have hbf : buf.size ≤ 500000064 := by omega
  have HBZ := Lib.hid hbz
  clear hbz
  simp only [← HBUF.out]
  clear b1 hjoin
  go_loopw [5, 8] (fun v i wr => ∃ k : Nat, 64 * k ≤ buf.size ∧ i = .int .i64 ((64 * k : Nat) : Int) ∧ OwnW wr w.heap.size 90 v (eatUp S0 buf.data.toList k) ∧ Below wk.heap.size wk wr) (fun _ i _ => buf.size - (intOf i).toNat)
  case atStart =>
    exact ⟨0, by omega, rfl, HOk.out, Below.refl _ _⟩
  case round =>
    obtain ⟨k, hk, rfl, hown, hnx⟩ := hrel
    have hl := eatUp_length S0 buf.data.toList hs8 k
    have hw := eatUp_words S0 buf.data.toList hsw k
    obtain ⟨m, HM⟩ : ∃ m : Nat, Hid (m = 64 * k) := ⟨_, rfl⟩
    rw [← HM.out] at hk ⊢
    obtain ⟨gs, cs, rfl, hgs0, hgs, hcs⟩ := hown.form (by omega)
    rw [hl] at hcs ⊢
    have hgk2 : gk < wr.heap.size := Nat.lt_of_lt_of_le hgk hnx.size
    have HN := Lib.hid hnx
    by_cases hlt : m + 64 ≤ buf.size
    · have q1 : (m : Int) + 64 ≤ (buf.size : Int) := by omega
      have hck2 : ∀ j, j < 64 → wr.cell? ⟨gk, j, none⟩ = some (.int .u32 (kTab.getD j 0 : Nat)) := fun j hj => by rw [hnx.cell (p := ⟨gk, j, none⟩) hgk]; exact HCK.out j hj
      have hblk : (buf.extract m (m + 64)).size = 64 := by simp [ByteArray.size_extract]; omega
      have H3 := Lib.hid (specRound_any gs cs gk ck _ hw hl (buf.extract m (m + 64)) hblk wr hcs hck2 hgs hgk2)
      have e1 : (buf.extract m (m + 64)).data.toList = blockAt buf.data.toList k := by rw [HM.out]; exact slice_block buf k
      rw [e1] at H3
      clear hck2 hblk hcs hnx hown e1
      go_wp2_with fail
      refine (H3.out).mono ?_
      rintro e w5 ⟨v', rfl, hown5, hb5⟩
      have hm5 : w.heap.size ≤ wr.heap.size := Nat.le_trans Tk.out.below.size HN.out.size
      have HO5 := Lib.hid (hown5.mono hm5)
      have HB5 := Lib.hid (HN.out.trans (hb5.mono HN.out.size))
      clear hown5 hb5
      go_wp2_with fail
      go_roundw
      case rel =>
        refine ⟨k + 1, by have := HM.out; omega, by have := HM.out; go_num, HO5.out, HB5.out⟩
      case measure => simp [intOf]; omega
    · have q1 : ¬ ((m : Int) + 64 ≤ (buf.size : Int)) := by omega
      have q2 : (m : Int) ≤ (buf.size : Int) := by omega
      have hwn : IntKind.i64.wrap (n + (s.size : Int)) = n + (s.size : Int) := by rw [IntKind.wrap_i64]; omega
      have Tr := Lib.hid (Tk.out.next hnx)
      have Td := Lib.hid (Tr.out.next ((Below.refl _ wr).drew))
      have cd := Td.out.v.c2
      have H4 := Lib.hid (specBytes_any gs cs _ hw (by omega) wr.drew (fun j hj => hcs j (by omega)) hgs)
      have hk64 : k = (rest.size + s.size) / 64 := by have := HM.out; have := HBZ.out; omega
      have e3 : eatUp S0 buf.data.toList k = moreState st rest s := by unfold moreState; rw [← hk64, HS0.out, HBUF.out, join_bytes]
      have e4 : (⟨(moreRest rest s).toArray⟩ : ByteArray) = buf.extract m buf.size := by
        have hm := HM.out
        unfold moreRest
        rw [← hk64, ← hm]
        have : buf.data.toList = rest.data.toList ++ s.data.toList := by rw [HBUF.out, join_bytes]
        rw [← this]
        exact extract_end buf m
      rw [hl, e3] at H4
      have E4 := Lib.hid e4
      clear hcs hnx hown e3 e4 hw hl
      go_wp2_with fail
      go_region_held3 (fun X => X.cell? ⟨w.heap.size, 2, none⟩ = some (.int .i64 n)) (first | assumption | go_keep) (first | (go_at_call 106; refine (H4.out).mono ?_; rintro e v1 ⟨rfl, hb6⟩; have Tv := Td.out.next hb6; have s1 := Tv.v.c2; have r0 := Tv.r.c0; have r1 := Tv.r.c1; have r2 := Tv.r.c2; have f0 := Tv.r.free 0; have f1 := Tv.r.free 1; have f2 := Tv.r.free 2; have hTv := Lib.hid Tv; clear Tv hb6))
      all_goals
        go_wp2_with fail
        have V3 := hTv.out.r.set3 (.string ⟨(bytesOf (moreState st rest s)).toArray⟩) (.string (buf.extract m buf.size)) (.int .i64 (n + (s.size : Int)))
        have d0 := V3.c0
        have d1 := V3.c1
        have d2 := V3.c2
        refine bodyPost_ret (v := .agg #[.string ⟨(bytesOf (moreState st rest s)).toArray⟩, .string (buf.extract m buf.size), .int .i64 (n + (s.size : Int))]) (by simp [results, Tryz.results74, go_sem, d0, d1, d2]) rfl ⟨by rw [E4.out], ?_⟩
        exact Below.set3 hTv.out.below (by omega) _ _ _

end Go.Proofs.YtoaifgblbfdncaaGreatDoor
