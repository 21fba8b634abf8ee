/-
  The given Decimal by what it answers at every number.
  The library's contracts laid at this translation, in plain words: each is one application.
  The library's table of powers of ten; the program's Decimal by it.
-/
import Derived.Test.YtmgdhlodifkemasDoorJ01
import Derived.Shelf.Strings.Builder1
import Derived.Shelf.Strings.Builder2
import Derived.Shelf.Strings.OnBuilder
import Derived.Shelf.Strings.BuilderF
import Derived.Shelf.Strings.BuilderK
import Derived.Shelf.Strings.Builder2Cap
import Derived.Shelf.Strconv.Itoa0
import Derived.Shelf.Strconv.Itoa1
import Derived.Shelf.LaysM
import Derived.Shelf.Strconv.Itoa2
import Derived.Shelf.Strconv.Itoa3
import Derived.Shelf.Strings.BuilderCap
import Derived.Test.YtmgdhlodifkemasDoorProg
import Derived.ProofKit
import Derived.Lib.LaidTab
import Derived.Lib.AppendIntMem
import Derived.Below
namespace Go.Proofs.YtmgdhlodifkemasDoor
open Go.RowKit

set_option maxRecDepth 100000 in
set_option maxHeartbeats 400000 in
theorem specDecimal_pos (N : Nat) (h1 : 1 ≤ N) (h2 : N ≤ 9223372036854775807) (w : World) :
    Calls Tryd.prog 11 #[.int .i64 N] w fun e w' => e = .returned (.string ⟨(Lib.decDigits N).toArray⟩) ∧ Below w.heap.size w w' := by
  have g0 : ((N : Int) == 0) = false := beq_eq_false_iff_ne.2 (by omega)
  have gN : decide ((N : Int) < 0) = false := decide_eq_false (by omega)
  have hdl := digs_length N (by omega)
  go_enter Tryd.func11, Tryd.ntmps11
  go_wp2
  go_loopw [0, 4, 5] (fun n s d wr => ∃ (m : Nat) (t : List UInt8), m ≤ N ∧ n = .int .i64 m ∧ s = .string ⟨t.toArray⟩ ∧ Hid (digs m ++ t = digs N) ∧ t.length ≤ 21 ∧ Below w.heap.size w wr) (fun n _ _ _ => (intOf n).toNat)
  case atStart => exact ⟨N, [], Nat.le_refl _, rfl, rfl, List.append_nil _, by simp, Below.refl _ _⟩
  case round =>
    obtain ⟨m, t, hm, rfl, rfl, HD, htl, hnx⟩ := hrel
    have hsz := hnx.size
    by_cases hm0 : m = 0
    · subst hm0
      go_wp2
      go_ret
      have := HD.out
      exact ⟨ret_str (by rw [← digs_pos N h1, ← HD.out]; rfl), hnx⟩
    · have g1 : ((m : Int) != 0) = true := by rw [bne_iff_ne]; omega
      have hst := digs_step m (by omega)
      have hz := size_list t
      have hcv := fun b => run_string_one (P := Tryd.prog) wr 42 9 5 Tryd.underlying42 Tryd.underlying5 Tryd.underlying9 b
      have hz1 := fun b => size_list [b]
      obtain ⟨r, hr, hr16, HR⟩ : ∃ r : Nat, (m : Int) % 10 = (r : Int) ∧ (r : Int) < 16 ∧ Hid (r = m % 10) := ⟨m % 10, by omega, by omega, rfl⟩
      have HS := Lib.hid hst
      clear hst
      have gr : decide ((r : Int) < 0) = false := decide_eq_false (by omega)
      go_wp2_with fail
      refine (l01Figure_any r hr16 _).mono ?_
      rintro e w' ⟨rfl, rfl⟩
      go_wp2
      go_roundw
      case rel =>
        have hn := HD.out
        rw [HS.out, List.append_assoc] at hn
        refine ⟨m / 10, fig r :: t, by omega, int_eq (by omega), congrArg Value.string (cat_list [fig r] t), ?_, ?_, hnx.alloc hsz _⟩
        · rw [HR.out]; exact hn
        · have h3 := congrArg List.length hn
          simp only [List.length_append, List.length_cons, List.length_nil] at h3 ⊢
          omega
      case measure => simp [intOf]; omega

set_option maxRecDepth 100000 in
set_option maxHeartbeats 400000 in
theorem specDecimal_neg (N : Nat) (h1 : 1 ≤ N) (h2 : N ≤ 9223372036854775808) (w : World) :
    Calls Tryd.prog 11 #[.int .i64 (-(N : Int))] w fun e w' => e = .returned (.string ⟨(45 :: Lib.decDigits N).toArray⟩) ∧ Below w.heap.size w w' := by
  obtain ⟨Z, hZ0, hZ1, HZ⟩ : ∃ Z : Int, Z < 0 ∧ -9223372036854775808 ≤ Z ∧ Hid (Z = -(N : Int)) := ⟨_, by omega, by omega, rfl⟩
  rw [← HZ.out]
  have g0 : (Z == 0) = false := beq_eq_false_iff_ne.2 (by omega)
  have gN : decide (Z < 0) = true := decide_eq_true (by omega)
  have hdl := digs_length N (by omega)
  have hz45 := size_list [45]
  go_enter Tryd.func11, Tryd.ntmps11
  go_wp2
  go_loopw [0, 4, 5] (fun n s d wr => ∃ (m : Nat) (z : Int) (t : List UInt8), z ≤ 0 ∧ -9223372036854775808 ≤ z ∧ Hid (z = -(m : Int)) ∧ m ≤ N ∧ n = .int .i64 z ∧ s = .string ⟨t.toArray⟩ ∧ Hid (digs m ++ t = digs N) ∧ t.length ≤ 21 ∧ Below w.heap.size w wr) (fun n _ _ _ => (-(intOf n)).toNat)
  case atStart => exact ⟨N, Z, [], by omega, hZ1, HZ, Nat.le_refl _, rfl, rfl, List.append_nil _, by simp, Below.refl _ _⟩
  case round =>
    obtain ⟨m, z, t, hz0, hz1', HM, hm, rfl, rfl, HD, htl, hnx⟩ := hrel
    have hsz := hnx.size
    have hz := size_list t
    by_cases hm0 : z = 0
    · subst hm0
      go_wp2
      go_ret
      have hmz : m = 0 := by have := HM.out; omega
      have hd := HD.out
      rw [hmz] at hd
      refine ⟨?_, hnx⟩
      rw [← digs_pos N h1, ← hd]
      exact congrArg (fun x => Ending.returned (Value.string x)) (cat_list [45] t)
    · have g1 : (z != 0) = true := by rw [bne_iff_ne]; exact hm0
      have hst := digs_step m (by have := HM.out; omega)
      have hcv := fun b => run_string_one (P := Tryd.prog) wr 42 9 5 Tryd.underlying42 Tryd.underlying5 Tryd.underlying9 b
      have hz1 := fun b => size_list [b]
      have em : z.tmod 10 = -((m % 10 : Nat) : Int) := by rw [HM.out]; exact neg_tmod10 m
      have eq : z.tdiv 10 = -((m / 10 : Nat) : Int) := by rw [HM.out]; exact neg_tdiv10 m
      have hmb : (m : Int) ≤ 9223372036854775808 := by omega
      obtain ⟨d, hd, hd0, hd1, HR⟩ : ∃ d : Int, z.tmod 10 = d ∧ d ≤ 0 ∧ -9 ≤ d ∧ Hid (d = -((m % 10 : Nat) : Int)) := ⟨_, em, by omega, by omega, rfl⟩
      obtain ⟨q, hq, hq0, hq1, HQ⟩ : ∃ q : Int, z.tdiv 10 = q ∧ q ≤ 0 ∧ -922337203685477581 ≤ q ∧ Hid (q = -((m / 10 : Nat) : Int)) := ⟨_, eq, by omega, by omega, rfl⟩
      clear em eq hmb
      have HS := Lib.hid hst
      clear hst hm0
      by_cases hdz : d = 0
      · subst hdz
        go_wp2_with fail
        refine (l01Figure_any 0 (by decide) _).mono ?_
        rintro e w' ⟨rfl, rfl⟩
        go_wp2
        go_roundw
        case rel =>
          have hn := HD.out
          rw [HS.out, List.append_assoc] at hn
          have hr : m % 10 = 0 := by have := HR.out; omega
          rw [hr] at hn
          refine ⟨m / 10, q, fig 0 :: t, hq0, by omega, HQ, by omega, rfl, congrArg Value.string (cat_list [fig 0] t), hn, ?_, hnx.alloc hsz _⟩
          have h3 := congrArg List.length hn
          simp only [List.length_append, List.length_cons, List.length_nil] at h3 ⊢
          omega
        case measure =>
          have h3 := HM.out
          have h4 := HQ.out
          have h5 : z ≠ 0 := by simpa using g1
          simp [intOf]
          omega
      · have gd : decide (d < 0) = true := decide_eq_true (by omega)
        have hn0 : 0 ≤ -d := by omega
        have hn1 : -d < 16 := by omega
        clear hdz
        go_wp2_with fail
        refine (l01Figure_int (-d) hn0 hn1 _).mono ?_
        rintro e w' ⟨rfl, rfl⟩
        go_wp2
        go_roundw
        case rel =>
          have hn := HD.out
          rw [HS.out, List.append_assoc] at hn
          have hr : m % 10 = (-d).toNat := by have := HR.out; omega
          rw [hr] at hn
          refine ⟨m / 10, q, fig (-d).toNat :: t, hq0, by omega, HQ, by omega, rfl, congrArg Value.string (cat_list [fig (-d).toNat] t), hn, ?_, hnx.alloc hsz _⟩
          have h3 := congrArg List.length hn
          simp only [List.length_append, List.length_cons, List.length_nil] at h3 ⊢
          omega
        case measure =>
          have h3 := HM.out
          have h4 := HQ.out
          have h5 : z ≠ 0 := by simpa using g1
          simp [intOf]
          omega

theorem specDecimal_zero (w : World) :
    Calls Tryd.prog 11 #[.int .i64 0] w fun e w' => e = .returned (.string ⟨(Lib.decDigits 0).toArray⟩) ∧ Below w.heap.size w w' := by
  have hd : Lib.decDigits 0 = [48] := Lib.decDigits_one (by omega)
  rw [hd]
  go_enter Tryd.func11, Tryd.ntmps11
  go_wp2
  go_ret
  exact ⟨rfl, Below.refl _ _⟩

/-- Every int. -/
theorem specDecimal_any (n : Int) (h0 : -9223372036854775808 ≤ n) (h1 : n ≤ 9223372036854775807) (w : World) :
    Calls Tryd.prog 11 #[.int .i64 n] w fun e w' => e = .returned (.string ⟨(Lib.itoa n).toArray⟩) ∧ Below w.heap.size w w' := by
  by_cases hp : 0 ≤ n
  · obtain ⟨N, rfl⟩ := Int.eq_ofNat_of_zero_le hp
    rw [Lib.itoa_nonneg]
    by_cases hz : N = 0
    · subst hz
      exact specDecimal_zero w
    · exact specDecimal_pos N (by omega) (by omega) w
  · obtain ⟨N, hN⟩ : ∃ N : Nat, n = -(N : Int) := ⟨n.natAbs, by omega⟩
    subst hN
    rw [Lib.itoa_neg N (by omega)]
    exact specDecimal_neg N (by omega) (by omega) w

end Go.Proofs.YtmgdhlodifkemasDoor
namespace Go.Proofs
open Go.Shelf
def Tryd.lays156_ren : Go.Shelf.Ren := ⟨fun | 156 => 15 | 165 => 23 | 166 => 24 | 169 => 25 | 240 => 29 | 241 => 30 | 276 => 34 | 277 => 35 | n => n, fun | 31 => 22 | 9 => 9 | 3 => 3 | 4 => 4 | 0 => 0 | 20 => 20 | 72 => 46 | 76 => 50 | 70 => 44 | 37 => 42 | 75 => 49 | 127 => 53 | 164 => 57 | 5 => 5 | 80 => 52 | n => n, fun | n => n⟩
theorem Tryd.lays156 : Go.Proofs.Lays.n156 Tryd.prog Tryd.lays156_ren := {
  mixed := by kernel_rfl
  f156 := Tryd.func15.trans (congrArg some (by kernel_rfl))
  f165 := Tryd.func23.trans (congrArg some (by kernel_rfl))
  f166 := Tryd.func24.trans (congrArg some (by kernel_rfl))
  f169 := Tryd.func25.trans (congrArg some (by kernel_rfl))
  f240 := Tryd.func29.trans (congrArg some (by kernel_rfl))
  f241 := Tryd.func30.trans (congrArg some (by kernel_rfl))
  f276 := Tryd.func34.trans (congrArg some (by kernel_rfl))
  f277 := Tryd.func35.trans (congrArg some (by kernel_rfl))
  t0 := Tryd.underlying0
  a0 := Tryd.isAgg0
  z0 := Tryd.sizeOf0
  v0 := Tryd.zeroValue0
  t3 := Tryd.underlying3
  a3 := Tryd.isAgg3
  z3 := Tryd.sizeOf3
  v3 := Tryd.zeroValue3
  t4 := Tryd.underlying4
  a4 := Tryd.isAgg4
  z4 := Tryd.sizeOf4
  v4 := Tryd.zeroValue4
  t9 := Tryd.underlying9
  a9 := Tryd.isAgg9
  z9 := Tryd.sizeOf9
  v9 := Tryd.zeroValue9
  t20 := Tryd.underlying20
  a20 := Tryd.isAgg20
  z20 := Tryd.sizeOf20
  v20 := Tryd.zeroValue20
  t31 := Tryd.underlying22
  a31 := Tryd.isAgg22
  z31 := Tryd.sizeOf22
  v31 := Tryd.zeroValue22
  t37 := Tryd.underlying42
  a37 := Tryd.isAgg42
  z37 := Tryd.sizeOf42
  v37 := Tryd.zeroValue42
  t70 := Tryd.underlying44
  a70 := Tryd.isAgg44
  z70 := Tryd.sizeOf44
  v70 := Tryd.zeroValue44
  t72 := Tryd.underlying46
  a72 := Tryd.isAgg46
  z72 := Tryd.sizeOf46
  v72 := Tryd.zeroValue46
  t75 := Tryd.underlying49
  a75 := Tryd.isAgg49
  z75 := Tryd.sizeOf49
  v75 := Tryd.zeroValue49
  t76 := Tryd.underlying50
  a76 := Tryd.isAgg50
  z76 := Tryd.sizeOf50
  v76 := Tryd.zeroValue50
  t127 := Tryd.underlying53
  a127 := Tryd.isAgg53
  z127 := Tryd.sizeOf53
  v127 := Tryd.zeroValue53
  t164 := Tryd.underlying57
  a164 := Tryd.isAgg57
  z164 := Tryd.sizeOf57
  v164 := Tryd.zeroValue57 }
theorem Tryd.Builder_Extra_156 : Builder.Extra Tryd.prog Tryd.lays156_ren := {
  sizeBuilder := by kernel_rfl
  liesBuilder := by kernel_rfl
  t5 := Tryd.underlying5
  a5 := Tryd.isAgg5
  z5 := Tryd.sizeOf5
  v5 := Tryd.zeroValue5
  infoByte := by kernel_rfl
  cellsByte := by kernel_rfl
  sizeByte := by kernel_rfl
  neB5 := by decide }
open Go.RowKit in
theorem Tryd.strings_Join (bk o c : Nat) (xs : List ByteArray) (sep : ByteArray) (w : World) (hcells : ∀ (j : Nat) x, xs[j]? = some x → w.cell? ⟨bk, o + j, none⟩ = some (.string x)) (hbk : bk < w.heap.size) (hN : xs.length ≤ 140737488355328) (hcap : xs.length ≤ c) (hlen : (Lib.join (xs.map (·.data.toList)) sep.data.toList).length ≤ 140737488355328) :
    Calls Tryd.prog 15 #[.slice (some ⟨bk, o, none⟩) xs.length c, .string sep] w fun e w' => e = .returned (.string ⟨(Lib.join (xs.map (·.data.toList)) sep.data.toList).toArray⟩) ∧ Below w.heap.size w w' := Any.strings_Join Tryd.lays156 Tryd.Builder_Extra_156 bk o c xs sep w hcells hbk hN hcap hlen
def Tryd.laysM171_ren : Go.Shelf.Ren := ⟨fun | 171 => 22 | 243 => 28 | 246 => 33 | 283 => 36 | 284 => 37 | 285 => 38 | 286 => 39 | 129 => 41 | 317 => 40 | 318 => 42 | 319 => 43 | 320 => 44 | 337 => 45 | 338 => 46 | n => n, fun | 3 => 3 | 9 => 9 | 2 => 2 | 4 => 4 | 171 => 60 | 0 => 0 | 53 => 61 | 37 => 42 | 5 => 5 | 173 => 64 | 212 => 68 | 51 => 69 | 20 => 20 | 213 => 70 | 46 => 72 | 232 => 75 | 233 => 76 | n => n, fun | 17 => 1 | 18 => 2 | 19 => 3 | n => n⟩
theorem Tryd.laysM171 : Go.Proofs.LaysM.n171 Tryd.prog Tryd.laysM171_ren := {
  mixed := by kernel_rfl
  f129 := Tryd.func41.trans (congrArg some (by kernel_rfl))
  f171 := Tryd.func22.trans (congrArg some (by kernel_rfl))
  f243 := Tryd.func28.trans (congrArg some (by kernel_rfl))
  f246 := Tryd.func33.trans (congrArg some (by kernel_rfl))
  f283 := Tryd.func36.trans (congrArg some (by kernel_rfl))
  f284 := Tryd.func37.trans (congrArg some (by kernel_rfl))
  f285 := Tryd.func38.trans (congrArg some (by kernel_rfl))
  f286 := Tryd.func39.trans (congrArg some (by kernel_rfl))
  f317 := Tryd.func40.trans (congrArg some (by kernel_rfl))
  f318 := Tryd.func42.trans (congrArg some (by kernel_rfl))
  f319 := Tryd.func43.trans (congrArg some (by kernel_rfl))
  f320 := Tryd.func44.trans (congrArg some (by kernel_rfl))
  f337 := Tryd.func45.trans (congrArg some (by kernel_rfl))
  f338 := Tryd.func46.trans (congrArg some (by kernel_rfl))
  t0 := Tryd.underlying0
  a0 := Tryd.isAgg0
  z0 := Tryd.sizeOf0
  v0 := Tryd.zeroValue0
  t2 := Tryd.underlying2
  a2 := Tryd.isAgg2
  z2 := Tryd.sizeOf2
  v2 := Tryd.zeroValue2
  t3 := Tryd.underlying3
  a3 := Tryd.isAgg3
  z3 := Tryd.sizeOf3
  v3 := Tryd.zeroValue3
  t4 := Tryd.underlying4
  a4 := Tryd.isAgg4
  z4 := Tryd.sizeOf4
  v4 := Tryd.zeroValue4
  t5 := Tryd.underlying5
  a5 := Tryd.isAgg5
  z5 := Tryd.sizeOf5
  v5 := Tryd.zeroValue5
  t9 := Tryd.underlying9
  a9 := Tryd.isAgg9
  z9 := Tryd.sizeOf9
  v9 := Tryd.zeroValue9
  t20 := Tryd.underlying20
  a20 := Tryd.isAgg20
  z20 := Tryd.sizeOf20
  v20 := Tryd.zeroValue20
  t37 := Tryd.underlying42
  a37 := Tryd.isAgg42
  z37 := Tryd.sizeOf42
  v37 := Tryd.zeroValue42
  t46 := Tryd.underlying72
  a46 := Tryd.isAgg72
  z46 := Tryd.sizeOf72
  v46 := Tryd.zeroValue72
  t51 := Tryd.underlying69
  a51 := Tryd.isAgg69
  z51 := Tryd.sizeOf69
  v51 := Tryd.zeroValue69
  t53 := Tryd.underlying61
  a53 := Tryd.isAgg61
  z53 := Tryd.sizeOf61
  v53 := Tryd.zeroValue61
  t171 := Tryd.underlying60
  a171 := Tryd.isAgg60
  z171 := Tryd.sizeOf60
  v171 := Tryd.zeroValue60
  t173 := Tryd.underlying64
  a173 := Tryd.isAgg64
  z173 := Tryd.sizeOf64
  v173 := Tryd.zeroValue64
  t212 := Tryd.underlying68
  a212 := Tryd.isAgg68
  z212 := Tryd.sizeOf68
  v212 := Tryd.zeroValue68
  t213 := Tryd.underlying70
  a213 := Tryd.isAgg70
  z213 := Tryd.sizeOf70
  t232 := Tryd.underlying75
  a232 := Tryd.isAgg75
  z232 := Tryd.sizeOf75
  v232 := Tryd.zeroValue75
  t233 := Tryd.underlying76
  a233 := Tryd.isAgg76
  z233 := Tryd.sizeOf76
  v233 := Tryd.zeroValue76
  g17 := by kernel_rfl
  g18 := by kernel_rfl
  g19 := by kernel_rfl
  i0 := by kernel_rfl
  i2 := by kernel_rfl
  i3 := by kernel_rfl
  i4 := by kernel_rfl
  i5 := by kernel_rfl
  i9 := by kernel_rfl
  i20 := by kernel_rfl
  i37 := by kernel_rfl
  i46 := by kernel_rfl
  i51 := by kernel_rfl
  i53 := by kernel_rfl
  i171 := by kernel_rfl
  i173 := by kernel_rfl
  i212 := by kernel_rfl
  i232 := by kernel_rfl
  i233 := by kernel_rfl
  m17 := by kernel_rfl
  m18 := by kernel_rfl
  m19 := by kernel_rfl }
open Go.RowKit Go.Sort Go.Lib in
theorem Tryd.strconv_Itoa (n : Int) (h0 : -9223372036854775808 ≤ n) (h1 : n ≤ 9223372036854775807) (w : World) (htab : Lib.TabIs Tryd.prog w "internal/strconv.uint64pow10" .u64 Lib.pow10Tab) :
    Calls Tryd.prog 22 #[.int .i64 n] w fun e w' => e = .returned (.string ⟨(Lib.itoa n).toArray⟩) ∧ ∃ k os, w' = grow (w.drewN k) os := Any.strconv_Itoa Tryd.laysM171 n h0 h1 w htab
end Go.Proofs
namespace Go.Proofs.YtmgdhlodifkemasDoor
open Go.RowKit

theorem gTab : Tryd.prog.globalNamed "internal/strconv.uint64pow10" = some 1 := by kernel_rfl
theorem gTabType : (Tryd.prog.globals[1]?).map (·.type) = some 68 := by kernel_rfl
theorem cellsTab : Tryd.prog.cellsOf 68 = 20 := by kernel_rfl
theorem cellsNum : Tryd.prog.cellsOf 61 = 1 := by kernel_rfl

theorem pow10_list : Lib.pow10Tab = [1, 10, 100, 1000, 10000, 100000, 1000000, 10000000, 100000000, 1000000000, 10000000000, 100000000000, 1000000000000, 10000000000000, 100000000000000, 1000000000000000, 10000000000000000, 100000000000000000, 1000000000000000000, 10000000000000000000] := by decide

theorem table_below {W W' : World} (h : Lib.TabIs Tryd.prog W "internal/strconv.uint64pow10" .u64 Lib.pow10Tab) (hb : Below W.heap.size W W') : Lib.TabIs Tryd.prog W' "internal/strconv.uint64pow10" .u64 Lib.pow10Tab := by
  have hlt : 1 < W.heap.size := by
    rcases Nat.lt_or_ge 1 W.heap.size with h' | h'
    · exact h'
    · exfalso
      unfold Lib.TabIs World.var? at h
      rw [gTab] at h
      simp [Array.getElem?_eq_none h'] at h
  exact var?_below hb gTab hlt h

theorem implDecimal_any (n : Int) (h0 : -9223372036854775808 ≤ n) (h1 : n ≤ 9223372036854775807) (w : World) (ht : Lib.TabIs Tryd.prog w "internal/strconv.uint64pow10" .u64 Lib.pow10Tab) :
    Calls Tryd.prog 14 #[.int .i64 n] w fun e w' => e = .returned (.string ⟨(Lib.itoa n).toArray⟩) ∧ Below w.heap.size w w' := by
  have HT := Lib.hid ht
  clear ht
  go_enter Tryd.func14, Tryd.ntmps14
  go_wp2_with fail
  refine (Tryd.strconv_Itoa n h0 h1 _ HT.out).mono ?_
  rintro e w1 ⟨rfl, k, os, hw⟩
  have hb : Below w.heap.size w w1 := by rw [hw]; exact Lib.below_grow _ _ (Nat.le_refl _) k os
  clear hw
  go_wp2
  go_ret
  exact ⟨rfl, hb⟩

/-- The table of powers of ten lies as it is laid. -/
def LaidT (w : World) : Prop := Lib.TabIs Tryd.prog w "internal/strconv.uint64pow10" .u64 Lib.pow10Tab
theorem LaidT.stays {W W' : World} (h : LaidT W) (hb : Below W.heap.size W W') : LaidT W' := table_below h hb
theorem LaidT.all : ∀ X Y : World, LaidT X → Below X.heap.size X Y → LaidT Y := fun _ _ h hb => h.stays hb

end Go.Proofs.YtmgdhlodifkemasDoor
