/-
  Proved: at every drawn number and text what chapter 1 writes it reads back, and the call leaves what was there as it was; the library's tables start as the program's text lays them (the card ties them).
-/
import Derived.Test.YtcnnmpenahihnaaDoorCards
import Derived.Test.YtcnnmpenahihnaaDoorTie
import Derived.Test.YtcnnmpenahihnaaDoorDrawNumber
import Derived.Test.YtcnnmpenahihnaaDoorNumbersImpl
import Derived.ProofKit
import Derived.OpenShut
import Derived.Deep.DeepHandedRow
import Derived.Lib.LaidTab
import Derived.Stop.LaidErr
import Derived.Lib.AppendIntMem
import Derived.Carry
import Derived.Below
namespace Go.Proofs.YtcnnmpenahihnaaDoor
open Go.ChangeShapes Go.WideShapes Go.ChangeAt Go.RowKit

theorem own : ownKnob Tryd.prog.godebug = none := by kernel_rfl
theorem gTab : Tryd.prog.globalNamed "internal/strconv.uint64pow10" = some 0 := by kernel_rfl
theorem gTabType : (Tryd.prog.globals[0]?).map (·.type) = some 61 := by kernel_rfl
theorem cellsTab : Tryd.prog.cellsOf 61 = 20 := by kernel_rfl
theorem cellsNum : Tryd.prog.cellsOf 54 = 1 := by kernel_rfl

theorem pow10_list : Lib.pow10Tab = [1, 10, 100, 1000, 10000, 100000, 1000000, 10000000, 100000000, 1000000000, 10000000000, 100000000000, 1000000000000, 10000000000000, 100000000000000, 1000000000000000, 10000000000000000, 100000000000000000, 1000000000000000000, 10000000000000000000] := by decide

/-- What the row's list gives: the table's cells hold the powers of ten. -/
theorem table {W : World} (h : laidMetH Tryd.prog Rows.fnNumbersRow.laid W) : Lib.TabIs Tryd.prog W "internal/strconv.uint64pow10" .u64 Lib.pow10Tab := by
  have h1 : laidMet Tryd.prog Rows.fnNumbersRow.laid W := h
  have h2 := laidMet.tail (laidMet.tail h1)
  rw [pow10_list]
  exact Lib.tabIs_of_head (rest := []) gTab gTabType Tryd.underlying61 Tryd.underlying54 cellsNum cellsTab h2

theorem table_below {W W' : World} (h : Lib.TabIs Tryd.prog W "internal/strconv.uint64pow10" .u64 Lib.pow10Tab) (hb : Below W.heap.size W W') : Lib.TabIs Tryd.prog W' "internal/strconv.uint64pow10" .u64 Lib.pow10Tab := by
  have hlt : 0 < W.heap.size := by
    rcases Nat.lt_or_ge 0 W.heap.size with h' | h'
    · exact h'
    · exfalso
      unfold Lib.TabIs World.var? at h
      rw [gTab] at h
      simp [Array.getElem?_eq_none h'] at h
  exact var?_below hb gTab hlt h

theorem implDecimal_any (n : Int) (h0 : -9223372036854775808 ≤ n) (h1 : n ≤ 9223372036854775807) (w : World) (ht : Lib.TabIs Tryd.prog w "internal/strconv.uint64pow10" .u64 Lib.pow10Tab) :
    Calls Tryd.prog 9 #[.int .i64 n] w fun e w' => e = .returned (.string ⟨(Lib.itoa n).toArray⟩) ∧ Below w.heap.size w w' := by
  have HT := Lib.hid ht
  clear ht
  go_enter Tryd.func9, Tryd.ntmps9
  go_wp2_with fail
  refine (Tryd.strconv_Itoa n h0 h1 _ HT.out).mono ?_
  rintro e w1 ⟨rfl, k, os, hw⟩
  have hb : Below w.heap.size w w1 := by rw [hw]; exact Lib.below_grow _ _ (Nat.le_refl _) k os
  clear hw
  go_wp2
  go_ret
  exact ⟨rfl, hb⟩

theorem big_any (a : Option Addr) (len cap : Nat) (w : World) :
    Calls Tryd.prog 4 #[.slice a len cap] w fun e w' => e = .returned (.bool (decide (1048576 < (len : Int)))) ∧ w' = w := by
  go_enter Tryd.func4, Tryd.ntmps4
  go_wp2_with fail
  go_ret
  exact ⟨rfl, rfl⟩

theorem lawNumbers_big (a : Option Addr) (len cap : Nat) (h : 1048576 < len) (w : World) :
    Calls Tryd.prog 3 #[.slice a len cap] w fun e w' => e = .returned (.bool true) ∧ Below w.heap.size w w' := by
  have hd : decide (1048576 < (len : Int)) = true := decide_eq_true (by omega)
  have HB := Lib.hid (fun w => big_any a len cap w)
  rw [hd] at HB
  go_enter Tryd.func3, Tryd.ntmps3
  go_wp2_with fail
  refine (HB.out _).mono ?_
  rintro e w1 ⟨rfl, rfl⟩
  go_wp2
  go_ret
  exact ⟨rfl, Below.refl _ _⟩

theorem x_size (l : List UInt8) : (⟨#[120]⟩ ++ (⟨l.toArray⟩ : ByteArray) : ByteArray).size = 1 + l.length := by rw [ByteArray.size_append]; rfl
theorem xy_size (l : List UInt8) : (⟨#[120]⟩ ++ (⟨l.toArray⟩ : ByteArray) ++ ⟨#[121]⟩ : ByteArray).size = 1 + l.length + 1 := by rw [ByteArray.size_append, x_size]; rfl
theorem xy_list (l : List UInt8) : (⟨#[120]⟩ ++ (⟨l.toArray⟩ : ByteArray) ++ ⟨#[121]⟩ : ByteArray).data.toList = [120] ++ (l ++ [121]) := by simp

theorem readVar_at (s : ByteArray) (hs : s.size ≤ 1048576) (p r l : List UInt8) (n : Nat) (a k : Int) (ha : a = (p.length : Int)) (hk : k = a + (l.length : Int)) (hn : n ≤ 1000000000) (hv : l = var n) (h : s.data.toList = p ++ (l ++ r)) (w : World) :
    Calls Tryd.prog 7 #[.string s, .int .i64 a] w fun e w' => e = .returned (.tuple #[.int .i64 n,   .int .i64 k, .bool true]) ∧ Below w.heap.size w w' := by
  subst hk
  subst ha
  subst hv
  exact readVar_back s hs p r n hn h w

theorem numbers_var (n : Nat) (hn : n ≤ 1000000000) : ∃ s : ByteArray, s.size ≤ 5 ∧ (⟨#[120]⟩ ++ s : ByteArray).size ≤ 6 ∧
    (∀ w, Calls Tryd.prog 6 #[.int .i64 n] w fun e w' => e = .returned (.tuple #[.string s, .bool true]) ∧ Below w.heap.size w w') ∧
    (∀ w, Calls Tryd.prog 7 #[.string (⟨#[120]⟩ ++ s ++ ⟨#[121]⟩), .int .i64 1] w fun e w' => e = .returned (.tuple #[.int .i64 n, .int .i64 (1 + (s.size : Int)), .bool true]) ∧ Below w.heap.size w w') := by
  have hl := var_len 4 n (by have : (128 : Nat) ^ 5 = 34359738368 := by decide
                             omega)
  have h1 := implVarText_yes n hn
  generalize hv : var n = l at hl h1
  exact ⟨⟨l.toArray⟩, hl, by rw [x_size]; omega, h1, fun w => readVar_at (⟨#[120]⟩ ++ ⟨l.toArray⟩ ++ ⟨#[121]⟩) (by rw [xy_size]; omega) [120] [121] l n 1 (1 + ((⟨l.toArray⟩ : ByteArray).size : Int)) rfl (by rw [size_list]) hn hv.symm (xy_list l) w⟩

theorem numbers_dec (n : Nat) (hn : n ≤ 1000000000) : ∃ d : ByteArray,
    (∀ w, Lib.TabIs Tryd.prog w "internal/strconv.uint64pow10" .u64 Lib.pow10Tab → Calls Tryd.prog 9 #[.int .i64 n] w fun e w' => e = .returned (.string d) ∧ Below w.heap.size w w') ∧
    (∀ w, Calls Tryd.prog 8 #[.string d] w fun e w' => e = .returned (.tuple #[.int .i64 n, .bool true]) ∧ Below w.heap.size w w') :=
  ⟨⟨(Lib.itoa (n : Int)).toArray⟩, fun w h => implDecimal_any (n : Int) (by omega) (by omega) w h, readDec_back n hn⟩

theorem numbers_short (t : ByteArray) (ht : t.size ≤ 300) : ∃ u : ByteArray,
    (∀ w, Calls Tryd.prog 11 #[.string t] w fun e w' => e = .returned (.tuple #[.string u, .bool true]) ∧ Below w.heap.size w w') ∧
    (∀ w, Calls Tryd.prog 12 #[.string u, .int .i64 0] w fun e w' => e = .returned (.tuple #[.string t, .int .i64 (u.size : Nat), .bool true]) ∧ Below w.heap.size w w') :=
  ⟨_, implShortText_yes t (by omega), readShort_back t (by omega)⟩

theorem numbers_hex (t : ByteArray) (ht : t.size ≤ 300) : ∃ h : ByteArray,
    (∀ w, Calls Tryd.prog 13 #[.string t] w fun e w' => e = .returned (.tuple #[.string h, .bool true]) ∧ Below w.heap.size w w') ∧
    (∀ w, Calls Tryd.prog 14 #[.string h] w fun e w' => e = .returned (.tuple #[.string t, .bool true]) ∧ Below w.heap.size w w') :=
  ⟨_, implHex_yes t (by omega), fun w => unhex_back t.data.toList (by simp; omega) w⟩

set_option maxRecDepth 100000 in
set_option maxHeartbeats 1600000 in
theorem lawNumbers (a : Option Addr) (len cap : Nat) (w : World) (H : Src a len w) (ht : Lib.TabIs Tryd.prog w "internal/strconv.uint64pow10" .u64 Lib.pow10Tab) :
    Calls Tryd.prog 3 #[.slice a len cap] w fun e w' => e = .returned (.bool true) ∧ Below w.heap.size w w' := by
  have hd : decide (1048576 < (len : Int)) = false := decide_eq_false (by have := H.few; omega)
  have HB := Lib.hid (fun w => big_any a len cap w)
  rw [hd] at HB
  have HS := Lib.hid H
  have HT := Lib.hid ht
  clear H ht hd
  go_enter Tryd.func3, Tryd.ntmps3
  go_wp2_with fail
  refine (HB.out _).mono ?_
  rintro e w1 ⟨rfl, rfl⟩
  go_wp2_with fail
  refine (drawVarText_any a len cap _ HS.out).mono ?_
  rintro e w2 ⟨x, ⟨x0, x1⟩, rfl, hb2⟩
  have HB2 := Lib.hid hb2
  clear hb2
  go_upto_region 4 with fail
  go_cut [30] (fun v wx => ∃ b : Bool, v = .bool b ∧ (b = false → 0 ≤ x ∧ x ≤ 1000000000) ∧ wx = w2)
  case first =>
    go_wp2_with fail
    · go_meet
      exact ⟨_, rfl, fun h => by simp at h; omega, rfl⟩
    · go_meet
      exact ⟨_, rfl, fun h => by simp at h, rfl⟩
  obtain ⟨b, rfl, hbx, rfl⟩ := hcut
  go_upto_if 30 with fail
  go_cut [3] (fun v wx => ∃ N : Nat, N ≤ 1000000000 ∧ v = .int .i64 N ∧ wx = wc)
  case first =>
    cases b with
    | true =>
      clear hbx
      go_wp2_with fail
      go_meet
      exact ⟨12345, by omega, rfl, rfl⟩
    | false =>
      obtain ⟨y0, y1⟩ := hbx rfl
      obtain ⟨m, rfl⟩ := Int.eq_ofNat_of_zero_le y0
      go_wp2_with fail
      go_meet
      exact ⟨m, by omega, rfl, rfl⟩
  case rest =>
    clear hbx x0 x1
    obtain ⟨N, hN, rfl, rfl⟩ := hcut
    obtain ⟨s, hs5, hs6, h1, h2⟩ := numbers_var N hN
    obtain ⟨d, h3, h4⟩ := numbers_dec N hN
    have H1 := Lib.hid h1
    have H2 := Lib.hid h2
    have H3 := Lib.hid h3
    have H4 := Lib.hid h4
    clear h1 h2 h3 h4
    go_wp2_with fail
    refine (H1.out _).mono ?_
    rintro e w3 ⟨rfl, hb3⟩
    have HB3 := Lib.hid (HB2.out.trans (hb3.mono HB2.out.size))
    clear hb3 HB2
    go_wp2_with fail
    refine (H2.out _).mono ?_
    rintro e w4 ⟨rfl, hb4⟩
    have HB4 := Lib.hid (HB3.out.trans (hb4.mono HB3.out.size))
    clear hb4 HB3
    go_wp2_with fail
    refine (H3.out _ (table_below HT.out HB4.out)).mono ?_
    rintro e w5 ⟨rfl, hb5⟩
    have HB5 := Lib.hid (HB4.out.trans (hb5.mono HB4.out.size))
    clear hb5 HB4
    go_wp2_with fail
    refine (H4.out _).mono ?_
    rintro e w6 ⟨rfl, hb6⟩
    have HB6 := Lib.hid (HB5.out.trans (hb6.mono HB5.out.size))
    clear hb6 HB5
    go_wp2_with fail
    refine (drawHex_any a len cap _ (HS.out.below HB6.out)).mono ?_
    rintro e w7 ⟨l, hl, rfl, hb7⟩
    have HB7 := Lib.hid (HB6.out.trans (hb7.mono HB6.out.size))
    clear hb7 HB6
    obtain ⟨t, ht⟩ : ∃ t : ByteArray, t = ⟨l.toArray⟩ := ⟨_, rfl⟩
    rw [← ht]
    clear ht hl
    go_upto_if 54 with fail
    go_cut [11] (fun v wx => ∃ t : ByteArray, t.size ≤ 300 ∧ v = .string t ∧ wx = w7)
    case first =>
      by_cases h300 : 300 < (t.size : Int)
      · go_wp2_with fail
        go_meet
        exact ⟨⟨#[97, 98, 99]⟩, by decide, rfl, rfl⟩
      · go_wp2_with fail
        go_meet
        exact ⟨t, by omega, rfl, rfl⟩
    case rest =>
      clear t
      obtain ⟨t, ht, rfl, rfl⟩ := hcut
      obtain ⟨u, h1, h2⟩ := numbers_short t ht
      obtain ⟨f, h3, h4⟩ := numbers_hex t ht
      have G1 := Lib.hid h1
      have G2 := Lib.hid h2
      have G3 := Lib.hid h3
      have G4 := Lib.hid h4
      clear h1 h2 h3 h4
      go_wp2_with fail
      refine (G1.out _).mono ?_
      rintro e w8 ⟨rfl, hb8⟩
      have HB8 := Lib.hid (HB7.out.trans (hb8.mono HB7.out.size))
      clear hb8 HB7
      go_wp2_with fail
      refine (G2.out _).mono ?_
      rintro e w9 ⟨rfl, hb9⟩
      have HB9 := Lib.hid (HB8.out.trans (hb9.mono HB8.out.size))
      clear hb9 HB8
      go_wp2_with fail
      refine (G3.out _).mono ?_
      rintro e w10 ⟨rfl, hb10⟩
      have HB10 := Lib.hid (HB9.out.trans (hb10.mono HB9.out.size))
      clear hb10 HB9
      go_wp2_with fail
      refine (G4.out _).mono ?_
      rintro e w11 ⟨rfl, hb11⟩
      have HB11 := Lib.hid (HB10.out.trans (hb11.mono HB10.out.size))
      clear hb11 HB10
      go_wp2_with fail
      go_ret
      exact ⟨rfl, HB11.out⟩

theorem laidOut : laidOutB Tryd.prog = true := by kernel_rfl
theorem cellsOne : Tryd.prog.cellsOf 5 = 1 := by kernel_rfl

/-- What the walk gives, for every argument and every world that holds the tables. -/
theorem contract (H : Type) (enc : TypeId × Value → H) (W : World) (base : Nat) (args : Array Value) (ds gs : List (DataW H)) (before : List MemPlace)
    (hval : ∀ (j : Nat) t v, Tryd.f3.params[j]? = some t → args[j]? = some v → Value.okWide Tryd.prog W .any base t v)
    (hW : DataW.Whole enc Tryd.prog Tryd.f3.params.toList Rows.fnNumbersSpec.vars false W args.toList ds gs before) (hL : laidMetH Tryd.prog Rows.fnNumbersRow.laid W) :
    Calls Tryd.prog 3 args W fun e W' => ∃ v, e = .returned v ∧ Rows.fnNumbersSpec.post enc Tryd.prog Tryd.f3 false true false false W args v W' := by
  have hW' := hW
  obtain ⟨p, q, hA0, hV, rfl, hfz, hnd⟩ := hW
  have hA : DataW.TrodAll enc Tryd.prog W 0 (fun _ => true) true Tryd.f3.params.toList args.toList ds p := hA0
  rw [Tryd.params3] at hA hval
  obtain ⟨v0, vs0, d0, ds0, p0, q0, hargs, rfl, rfl, h0, r0⟩ := trodAll_cons hA
  obtain ⟨rfl, rfl, rfl⟩ := trodAll_nil r0
  obtain rfl : args = #[v0] := by cases args; simp_all
  obtain ⟨rfl, rfl⟩ := trodVars_none hV
  obtain ⟨a0, len0, cap0, rfl⟩ := okWide_slice Tryd.underlying22 (hval 0 22 v0 rfl rfl)
  have k0 := h0
  have lt0 : ∀ x ∈ p0, x.block < W.heap.size := by obtain ⟨m, hm⟩ := k0; exact DataW.trod_lt m _ _ _ hm
  have hsrc : len0 ≤ 1048576 → Src a0 len0 W := by
    intro hfew
    obtain ⟨fuel, hf⟩ := h0
    rcases open_ints Tryd.underlying22 Tryd.underlying5 cellsOne hf with ⟨hcs, _⟩ | ⟨x, l, c, zs, hcs, _, hl, hm, hz, _, hcell, hwz⟩
    · simp [Value.cells] at hcs
      obtain ⟨rfl, rfl, rfl⟩ := hcs
      exact ⟨hfew, fun j hj => absurd hj (by omega)⟩
    · simp [Value.cells] at hcs
      obtain ⟨rfl, rfl, rfl⟩ := hcs
      have hz' : zs.length = cap0 := by simpa using hz
      refine ⟨hfew, fun j hj => ?_⟩
      obtain ⟨b, off, spot⟩ := x
      have hspot : spot = none := by simpa [Addr.add] using World.cell?_spot (hcell 0 (by omega))
      subst hspot
      have hcj := hcell j (by omega)
      rw [add_plain] at hcj
      have hw := hwz (zs.getD j 0) (by rw [List.getD_eq_getElem?_getD, List.getElem?_eq_getElem (by omega)]; exact List.getElem_mem _)
      have hr := bounds_u8 hw
      exact ⟨b, off, zs.getD j 0, rfl, cell_size (p := ⟨b, off + j, none⟩) hcj, hcj, hr.1, hr.2⟩
  clear hA0
  have hlaw : Calls Tryd.prog 3 #[.slice a0 len0 cap0] W fun e w' => e = .returned (.bool true) ∧ Below W.heap.size W w' := by
    rcases Nat.lt_or_ge 1048576 len0 with hbig | hfew
    · exact lawNumbers_big a0 len0 cap0 hbig W
    · exact lawNumbers a0 len0 cap0 W (hsrc hfew) (table hL)
  refine hlaw.mono fun e W' ⟨he, bel⟩ => ?_
  subst he
  exact ⟨_, rfl, _, _, _, [], _, [], hW', trodAll_mk1 (shut_bool Tryd.underlying4 _), (trodAll_cons_mk (Below.trod laidOut (by kernel_rfl) (of_decide_eq_true (by kernel_rfl)) k0 bel lt0) trodAll_mk0), rfl, bel.frame _, fun h => by cases h⟩

/-- An object whose cells are these. -/
def fill (cs : Array Value) : Obj → Obj
  | .cells _ t frozen => .cells cs t frozen
  | o => o
/-- For the witness: each table holding what its initialiser lays. -/
def laidHeap (h : Array Obj) : Array Obj :=
  ((h.modify 0 (fill (Lib.pow10Tab.map (Value.int .u64)).toArray)).modify 1 (fill #[.int .u8 0, .int .u8 1, .int .u8 28, .int .u8 2, .int .u8 29, .int .u8 14, .int .u8 24, .int .u8 3, .int .u8 30, .int .u8 22, .int .u8 20, .int .u8 15, .int .u8 25, .int .u8 17, .int .u8 4, .int .u8 8, .int .u8 31, .int .u8 27, .int .u8 13, .int .u8 23, .int .u8 21, .int .u8 19, .int .u8 16, .int .u8 7, .int .u8 26, .int .u8 12, .int .u8 18, .int .u8 6, .int .u8 11, .int .u8 5, .int .u8 10, .int .u8 9])).modify 2 (fill #[.int .u8 0, .int .u8 1, .int .u8 56, .int .u8 2, .int .u8 57, .int .u8 49, .int .u8 28, .int .u8 3, .int .u8 61, .int .u8 58, .int .u8 42, .int .u8 50, .int .u8 38, .int .u8 29, .int .u8 17, .int .u8 4, .int .u8 62, .int .u8 47, .int .u8 59, .int .u8 36, .int .u8 45, .int .u8 43, .int .u8 51, .int .u8 22, .int .u8 53, .int .u8 39, .int .u8 33, .int .u8 30, .int .u8 24, .int .u8 18, .int .u8 12, .int .u8 5, .int .u8 63, .int .u8 55, .int .u8 48, .int .u8 27, .int .u8 60, .int .u8 41, .int .u8 37, .int .u8 16, .int .u8 46, .int .u8 35, .int .u8 44, .int .u8 21, .int .u8 52, .int .u8 32, .int .u8 23, .int .u8 11, .int .u8 54, .int .u8 26, .int .u8 40, .int .u8 15, .int .u8 34, .int .u8 20, .int .u8 31, .int .u8 10, .int .u8 25, .int .u8 14, .int .u8 19, .int .u8 9, .int .u8 13, .int .u8 8, .int .u8 7, .int .u8 6])
theorem laid_met (os : Os) : laidMet Tryd.prog Rows.fnNumbersRow.laid (({ World.holding Tryd.prog os ⟨#[], #[], []⟩ with heap := laidHeap (World.holding Tryd.prog os ⟨#[], #[], []⟩).heap } : World).forCall (fun _ _ => 0) ⟨#[], #[.slice none 0 0], []⟩).memory :=
  laidMet_of_run' 8 (by kernel_rfl) (by kernel_rfl)
theorem reads (os : Os) {H : Type} (enc : TypeId × Value → H) : ∃ places, DataW.whole enc Tryd.prog (({ World.holding Tryd.prog os ⟨#[], #[], []⟩ with heap := laidHeap (World.holding Tryd.prog os ⟨#[], #[], []⟩).heap } : World).forCall (fun _ _ => 0) ⟨#[], #[.slice none 0 0], []⟩).memory Tryd.f3.params.toList Rows.fnNumbersSpec.vars false #[Value.slice none 0 0].toList 8 = some ([.nil], [], places) :=
  ⟨[], by kernel_rfl⟩

set_option maxRecDepth 100000 in
theorem lifted (os : Os) (started : os.Started) (H : Type) (enc : TypeId × Value → H) (F : Stop.Interp) :
    ReturnsInHanded {} Tryd.checked os 3 .any ((OpenSpec.ofChange Rows.fnNumbersSpec).preRow enc Tryd.prog Tryd.f3 Rows.fnNumbersRow.domain false Rows.fnNumbersRow.laid) (((OpenSpec.ofChange Rows.fnNumbersSpec).at F).post enc Tryd.prog Tryd.f3 false true false false) := by
  obtain ⟨places, hx⟩ := reads os enc
  refine returnsInHanded_of_row (C := Tryd.checked) (s := OpenSpec.ofChange Rows.fnNumbersSpec) own started (by kernel_rfl) Tryd.func3
    (witness_row_at (enc := enc) (C := Tryd.checked) false ({ World.holding Tryd.prog os ⟨#[], #[], []⟩ with heap := laidHeap (World.holding Tryd.prog os ⟨#[], #[], []⟩).heap } : World) #[.slice none 0 0] rfl (by kernel_rfl) (by kernel_rfl) (by kernel_rfl)
      (OpenSpec.preRow_of_cond 8 hx (by kernel_rfl) (fun k hk => by cases hk) (by kernel_rfl) (laid_met os))) ?_
  intro W base args ds gs before hval hW _ _ _ hL _ _
  exact contract H enc W base args ds gs before hval hW hL

theorem said : Rows.FnNumbersSaid :=
  OpenClaim.holds_of_cond 3 Tryd.f3 rfl rfl rfl rfl rfl rfl rfl ⟨rfl, rfl, rfl, rfl, rfl⟩ rfl rfl rfl rfl rfl (by kernel_rfl) Tryd.func3 (by kernel_rfl)
    (of_decide_eq_true (by kernel_rfl)) (by unfold Func.isWrapper; first | (rw [if_pos (by decide +kernel)]; kernel_rfl) | (rw [if_neg (by decide +kernel)]; exact ⟨rfl, rfl⟩))
    (fun os started H enc _ F => by rw [OpenClaim.pre_eq_preRow]; exact lifted os started H enc F)

/-- No parameter wants a stand-in; the program's own looks are off. -/
theorem plain (f : FuncId) (fn : Func) (hf : Tryd.pinned.checked.prog.funcNamed "loop.example/g00193/laws.FnNumbers" = some f) (hfn : Tryd.pinned.checked.prog.funcs[f]? = some fn) :
    false = Tryd.pinned.checked.prog.looks [] ∧ ∀ (j : Nat) t, fn.params[j]? = some t → Tryd.pinned.checked.prog.wantsStandIn t = false := by
  obtain rfl : f = 3 := Option.some.inj ((show Tryd.prog.funcNamed "loop.example/g00193/laws.FnNumbers" = some 3 by kernel_rfl).symm.trans hf) |>.symm
  obtain rfl : fn = Tryd.f3 := (Option.some.inj (Tryd.func3.symm.trans hfn)).symm
  refine ⟨by kernel_rfl, fun j t ht => ?_⟩
  rw [Tryd.params3] at ht
  obtain rfl : t = 22 := by simpa using Array.mem_of_getElem? ht
  exact (show Tryd.prog.wantsStandIn 22 = false by kernel_rfl)

theorem FnNumbers_card : Rows.FnNumbersCardSaid :=
  Claim7.holds_tied_plain_at .later [] _ _ _ _ said (fun _ h => by cases h) (by kernel_rfl) (fun _ h => by cases h) fnNumbers_row_tie rfl ⟨rfl, rfl⟩ (by kernel_rfl) rfl plain (by kernel_rfl)

#print axioms FnNumbers_card
end Go.Proofs.YtcnnmpenahihnaaDoor
