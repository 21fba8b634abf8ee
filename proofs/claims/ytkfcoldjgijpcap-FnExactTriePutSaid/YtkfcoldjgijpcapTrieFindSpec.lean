/-
  The given TrieFind, and the bit of an address.
-/
import Derived.Test.YtkfcoldjgijpcapTrieOkSpec
import Derived.Test.YtkfcoldjgijpcapPlainTrieLook
import Derived.Test.YtkfcoldjgijpcapAddrSpec
namespace Go.Proofs.Ytkfcoldjgijpcap
open Go.RowKit

theorem half_size (i : Nat) (hi : i < 32) : sizeP i / 2 = 2 ^ (31 - i) := by
  unfold sizeP
  rw [show 32 - i = (31 - i) + 1 by omega, Nat.pow_succ]
  omega

set_option maxRecDepth 100000 in
set_option maxHeartbeats 400000 in
theorem specBit_any (a i : Nat) (ha : a ≤ 4294967295) (hi : i < 32) (w : World) :
    Calls Try.prog 35 #[.int .i64 a, .int .i64 i] w fun e w' => e = .returned (.int .i64 (bitP a i : Nat)) ∧ w' = w := by
  have H1 := specSize_any i (by omega)
  have hz := half_size i hi
  have hzl := sizeP_le i
  have hy : 0 < 2 ^ (31 - i) := Nat.two_pow_pos _
  have hyl : 2 ^ (31 - i) ≤ 2 ^ 31 := Nat.pow_le_pow_right (by omega) (by omega)
  unfold bitP
  generalize sizeP i = z at *
  generalize 2 ^ (31 - i) = y at *
  have HC := Lib.hid H1
  have f1 : Int.tdiv (z : Int) 2 = (y : Int) := by rw [Int.tdiv_eq_ediv_of_nonneg (by omega)]; omega
  have f1' : (z : Int) / 2 = (y : Int) := by omega
  have f2 : ¬ (y = 0) := by omega
  have f3 : Int.tdiv (a : Int) (y : Int) = ((a / y : Nat) : Int) := by rw [Int.tdiv_eq_ediv_of_nonneg (by omega)]; rfl
  have f3' : (a : Int) / (y : Int) = ((a / y : Nat) : Int) := rfl
  have hd : a / y ≤ a := Nat.div_le_self _ _
  generalize a / y = d at *
  have f4 : Int.tmod (d : Int) 2 = ((d % 2 : Nat) : Int) := by rw [Int.tmod_eq_emod_of_nonneg (by omega)]; rfl
  clear H1 hz
  go_enter Try.func35, Try.ntmps35
  go_wp2_with fail
  refine (HC.out _).mono ?_
  rintro e w1 ⟨rfl, rfl⟩
  go_wp2_with fail
  go_ret
  exact ⟨rfl, rfl⟩
theorem bits_drop (a i : Nat) (hi : i < 32) : (bitsP a 32).drop i = bitP a i :: (bitsP a 32).drop (i + 1) := by
  have hl : i < (bitsP a 32).length := by rw [bitsP_length]; exact hi
  rw [List.drop_eq_getElem_cons hl]
  congr 1
  simp [bitsP]
theorem bitP_two (a i : Nat) : bitP a i < 2 := Nat.mod_lt _ (by decide)
theorem at_get (t : List Tw) (k : Nat) (hk : k < t.length) : t[k]? = some (atT t k) := by unfold atT; rw [List.getD_eq_getElem?_getD, List.getElem?_eq_getElem hk]; rfl

set_option maxRecDepth 100000 in
set_option maxHeartbeats 800000 in
theorem specTrieFind_no (v : Value) (t : List Tw) (a : Int) (w : World) (h : layTwigS.rd w [v] t) (hl : t.length ≤ 100000000) (hn : ¬ TrieOkP t ∨ (a < 0 ∨ 4294967295 < a)) :
    Calls Try.prog 20 #[.agg #[v], .int .i64 a] w fun e w' => e = .returned (.int .i64 0) ∧ Below w.heap.size w w' := by
  obtain ⟨ao, cp, rfl⟩ := rows_form h
  have A0 := Lib.hid (VarA.new w 24 #[.slice ao t.length cp])
  have BY := Lib.hid ((Below.refl w.heap.size w).alloc (Nat.le_refl _) (.cells #[.slice ao t.length cp] 24))
  have H1 := Lib.hid (specTrieOk_any _ t _ (layTwigS.below h BY.out) hl)
  have HN := Lib.hid hn
  clear h hn
  go_enter Try.func20, Try.ntmps20
  go_upto_region 1 with fail
  generalize w.alloc (.cells #[.slice ao t.length cp] 24) = Y0 at *
  have c0 : Y0.cell? ⟨w.heap.size, 0, none⟩ = some (.slice ao t.length cp) := A0.out.cell 0
  go_wp2_with fail
  refine (H1.out).mono ?_
  rintro e Y ⟨⟨hk, rfl⟩ | ⟨hk, rfl⟩, hb⟩
  · have H2 := Lib.hid (specAddrOk_no a (HN.out.resolve_left (fun h => h hk)))
    have HB := Lib.hid (BY.out.trans (hb.mono BY.out.size))
    clear hb hk
    go_wp2_with fail
    refine (H2.out _).mono ?_
    rintro e Y1 ⟨rfl, rfl⟩
    go_wp2_with fail
    go_ret
    exact ⟨rfl, HB.out⟩
  · have HB := Lib.hid (BY.out.trans (hb.mono BY.out.size))
    clear hb hk
    go_wp2_with fail
    go_ret
    exact ⟨rfl, HB.out⟩

set_option maxRecDepth 100000 in
set_option maxHeartbeats 1600000 in
theorem specTrieFind_yes (v : Value) (t : List Tw) (a : Nat) (w : World) (h : layTwigS.rd w [v] t) (ht : TrieOkP t) (ha : a ≤ 4294967295) :
    Calls Try.prog 20 #[.agg #[v], .int .i64 a] w fun e w' => e = .returned (.int .i64 (findP t a)) ∧ Below w.heap.size w w' := by
  obtain ⟨ao, cp, rfl⟩ := rows_form h
  have A0 := Lib.hid (VarA.new w 24 #[.slice ao t.length cp])
  have BY := Lib.hid ((Below.refl w.heap.size w).alloc (Nat.le_refl _) (.cells #[.slice ao t.length cp] 24))
  have H1 := Lib.hid (specTrieOk_any _ t _ (layTwigS.below h BY.out) (by have := ht.2; omega))
  have H2 := Lib.hid (specAddrOk_yes (a : Int) (by omega) (by omega))
  have HT := Lib.hid ht
  have HR := Lib.hid h
  have htl : t.length ≤ 400 := ht.2
  have htp : 1 ≤ t.length := ht.1.pos
  obtain ⟨f, F⟩ : ∃ f, Hid (f = findP t a) := ⟨_, rfl⟩
  rw [← F.out]
  clear h ht
  go_enter Try.func20, Try.ntmps20
  go_upto_region 1 with fail
  generalize w.alloc (.cells #[.slice ao t.length cp] 24) = Y0 at *
  have c0 : Y0.cell? ⟨w.heap.size, 0, none⟩ = some (.slice ao t.length cp) := A0.out.cell 0
  go_wp2_with fail
  refine (H1.out).mono ?_
  rintro e Y ⟨⟨hk, rfl⟩ | ⟨hk, rfl⟩, hb⟩
  · replace A0 := Lib.hid (A0.out.next hb)
    have HB := Lib.hid (BY.out.trans (hb.mono BY.out.size))
    clear hb hk c0
    go_wp2_with fail
    refine (H2.out _).mono ?_
    rintro e Y1 ⟨rfl, rfl⟩
    have c0 : Y1.cell? ⟨w.heap.size, 0, none⟩ = some (.slice ao t.length cp) := A0.out.cell 0
    have HE : Hid (∀ k, k < t.length → ∃ g off, ao = some ⟨g, off, none⟩ ∧ Y1.cell? ⟨g, off + k * 3, none⟩ = some (.int .i64 (atT t k).1) ∧ Y1.cell? ⟨g, off + k * 3 + 1, none⟩ = some (.int .i64 (atT t k).2.1) ∧ Y1.cell? ⟨g, off + k * 3 + 2, none⟩ = some (.int .i64 (atT t k).2.2)) := fun k hk => by
      obtain ⟨g, off, cs, rfl, hg, hr, hc⟩ := rows_elem (layTwigS.below HR.out HB.out) k _ (at_get t k hk)
      rw [layTwig_rd] at hr
      subst hr
      exact ⟨g, off, rfl, hc 0 _ rfl, hc 1 _ rfl, hc 2 _ rfl⟩
    obtain ⟨g, off, rfl, _, _, r2⟩ := HE.out 0 (by omega)
    replace r2 : Y1.cell? ⟨g, off + 2, none⟩ = some (.int .i64 (atT t 0).2.2) := by simpa using r2
    have HK : Hid (∀ k, k < t.length → Y1.cell? ⟨g, off + k * 3, none⟩ = some (.int .i64 (atT t k).1) ∧ Y1.cell? ⟨g, off + k * 3 + 1, none⟩ = some (.int .i64 (atT t k).2.1) ∧ Y1.cell? ⟨g, off + k * 3 + 2, none⟩ = some (.int .i64 (atT t k).2.2)) := fun k hk => by
      obtain ⟨g', off', e, h0⟩ := HE.out k hk
      simp only [Option.some.injEq, Addr.mk.injEq, and_true] at e
      obtain ⟨rfl, rfl⟩ := e
      exact h0
    have hpos : (0 : Int) < (t.length : Int) := by omega
    clear HE
    go_wp2_with fail
    go_loopw [5, 6, 7] (fun o p c wr => ∃ (i k : Nat) (cur : Int), i ≤ 32 ∧ k < t.length ∧ o = .int .i64 cur ∧ p = .int .i64 k ∧ c = .int .i64 i ∧ Hid (findT t k cur ((bitsP a 32).drop i) = f) ∧ wr = Y1) (fun _ _ c _ => 32 - (intOf c).toNat)
    case atStart => exact ⟨0, 0, _, by omega, by omega, rfl, rfl, rfl, F.out.symm, by first | trivial | rfl⟩
    case round =>
      obtain ⟨i, k, cur, hi, hk, rfl, rfl, rfl, HF, rfl⟩ := hrel
      by_cases hlt : i < 32
      · have hlt' : (i : Int) < 32 := by omega
        have HBit := Lib.hid (specBit_any a i ha hlt)
        obtain ⟨r0, r1, r3⟩ := HK.out k hk
        have hk' : (k : Int) < (t.length : Int) := by omega
        have hb2 := bitP_two a i
        have HF2 := HF.out
        rw [bits_drop a i hlt] at HF2
        have hkid := HT.out.1.kids k hk (bitP a i)
        have kz : bitP a i = 0 → kidOf (atT t k) (bitP a i) = (atT t k).1 := fun e => by rw [e]; rfl
        have ko : bitP a i = 1 → kidOf (atT t k) (bitP a i) = (atT t k).2.1 := fun e => by rw [e]; rfl
        rw [findT] at HF2
        generalize (atT t k).1 = n0 at *
        generalize (atT t k).2.1 = n1 at *
        generalize bitP a i = b at *
        generalize kidOf (atT t k) b = nx at *
        rcases hkid with hz | ⟨m, hm, hkm, hml⟩
        · rw [if_pos hz] at HF2
          have HFF := Lib.hid HF2
          clear HF2 HF r3
          by_cases hb1 : b = 1
          · have en : n1 = 0 := by rw [← ko hb1, hz]
            subst hb1 en
            clear kz ko hz
            go_wp2_with fail
            refine (HBit.out _).mono ?_
            rintro e Y2 ⟨rfl, rfl⟩
            go_wp2_with fail
            go_ret
            exact ⟨by have h := HFF.out; subst h; rfl, HB.out⟩
          · have hb0 : b = 0 := by omega
            have en : n0 = 0 := by rw [← kz hb0, hz]
            subst hb0 en
            clear kz ko hz hb1
            go_wp2_with fail
            refine (HBit.out _).mono ?_
            rintro e Y2 ⟨rfl, rfl⟩
            go_wp2_with fail
            go_ret
            exact ⟨by have h := HFF.out; subst h; rfl, HB.out⟩
        · rw [if_neg (by omega), hm, Int.toNat_natCast] at HF2
          obtain ⟨_, _, q2⟩ := HK.out m hml
          have hm' : (m : Int) < (t.length : Int) := by omega
          have gz : ((m : Int) == 0) = false := by rw [beq_eq_false_iff_ne]; omega
          generalize (atT t m).2.2 = d at *
          have hd : ∃ cur', (if d = 0 then cur else d) = cur' := ⟨_, rfl⟩
          by_cases hd0 : d = 0
          · rw [if_pos hd0] at HF2
            have HFF := Lib.hid HF2
            subst hd0
            clear HF2 HF r3 hd
            by_cases hb1 : b = 1
            · have en : n1 = (m : Int) := by rw [← ko hb1, hm]
              subst hb1 en
              clear kz ko hm
              go_wp2_with fail
              refine (HBit.out _).mono ?_
              rintro e Y2 ⟨rfl, rfl⟩
              go_wp2_with fail
              go_roundw
              case rel => exact ⟨i + 1, m, cur, by omega, hml, rfl, rfl, by go_num, HFF.out, by first | trivial | rfl⟩
              case measure => simp [intOf]; omega
            · have hb0 : b = 0 := by omega
              have en : n0 = (m : Int) := by rw [← kz hb0, hm]
              subst hb0 en
              clear kz ko hm hb1
              go_wp2_with fail
              refine (HBit.out _).mono ?_
              rintro e Y2 ⟨rfl, rfl⟩
              go_wp2_with fail
              go_roundw
              case rel => exact ⟨i + 1, m, cur, by omega, hml, rfl, rfl, by go_num, HFF.out, by first | trivial | rfl⟩
              case measure => simp [intOf]; omega
          · rw [if_neg hd0] at HF2
            have gd : (d != 0) = true := by rw [bne_iff_ne]; exact hd0
            have HFF := Lib.hid HF2
            clear HF2 HF r3 hd hd0
            by_cases hb1 : b = 1
            · have en : n1 = (m : Int) := by rw [← ko hb1, hm]
              subst hb1 en
              clear kz ko hm
              go_wp2_with fail
              refine (HBit.out _).mono ?_
              rintro e Y2 ⟨rfl, rfl⟩
              go_wp2_with fail
              go_roundw
              case rel => exact ⟨i + 1, m, d, by omega, hml, rfl, rfl, by go_num, HFF.out, by first | trivial | rfl⟩
              case measure => simp [intOf]; omega
            · have hb0 : b = 0 := by omega
              have en : n0 = (m : Int) := by rw [← kz hb0, hm]
              subst hb0 en
              clear kz ko hm hb1
              go_wp2_with fail
              refine (HBit.out _).mono ?_
              rintro e Y2 ⟨rfl, rfl⟩
              go_wp2_with fail
              go_roundw
              case rel => exact ⟨i + 1, m, d, by omega, hml, rfl, rfl, by go_num, HFF.out, by first | trivial | rfl⟩
              case measure => simp [intOf]; omega
      · have hlt' : ¬ ((i : Int) < 32) := by omega
        have h32 : i = 32 := by omega
        subst h32
        have HFF : Hid (cur = f) := by
          have h := HF.out
          rw [List.drop_of_length_le (by rw [bitsP_length]; exact Nat.le_refl _)] at h
          exact h
        go_wp2_with fail
        go_ret
        exact ⟨by have h := HFF.out; subst h; rfl, HB.out⟩
  · exact absurd HT.out hk

end Go.Proofs.Ytkfcoldjgijpcap
