/-
  The given HashEnd, by what it answers.
  Plain mathematics of sums under a key; no program is spoken of here.
-/
import Derived.Test.YtoaifgblbfdncabGreatDoorJ06
import Derived.Test.YtoaifgblbfdncabGreatDoorJ07
namespace Go.Proofs.YtoaifgblbfdncabGreatDoor
open Go.RowKit

theorem zeros_more (r j : Nat) (h : r < 64) (hj : j < zerosFor r) : (r + 1 + j) % 64 ≠ 56 := by unfold zerosFor at hj; omega
theorem pow_step (b j : Nat) : b / 256 ^ j / 256 = b / 256 ^ (j + 1) := by rw [Nat.div_div_eq_div_mul, Nat.pow_succ]
theorem zeros_done (r : Nat) (h : r < 64) : (r + 1 + zerosFor r) % 64 = 56 := by unfold zerosFor; omega

/-- The parameter in a block of its own; what was there ahead of w is as it was. -/
structure OneVar (w : World) (t : TypeId) (a b c : Value) (X : World) : Prop where
  v : Var3 w.heap.size t a b c X
  below : Below w.heap.size w X
theorem OneVar.next {w : World} {t : TypeId} {a b c : Value} {X Y : World} (h : OneVar w t a b c X) (hb : Below X.heap.size X Y) : OneVar w t a b c Y :=
  ⟨h.v.next hb, h.below.trans (hb.mono h.below.size)⟩
theorem OneVar.new (w : World) (t : TypeId) (a b c : Value) : OneVar w t a b c (w.alloc (.cells #[a, b, c] t)) := ⟨Var3.new w t a b c, (Below.refl _ _).alloc (Nat.le_refl _) _⟩
theorem OneVar.later {w : World} {t : TypeId} {a b c : Value} {X Y : World} {B : Nat} (h : OneVar w t a b c X) (hB : w.heap.size < B) (hb : Below B X Y) : OneVar w t a b c Y :=
  ⟨⟨by rw [hb.block _ hB]; exact h.v.row⟩, h.below.trans (hb.mono (by omega))⟩

set_option maxRecDepth 100000 in
set_option maxHeartbeats 1600000 in
theorem specHashEnd_yes (st rest : ByteArray) (N : Nat) (h : HOk st rest N) (w : World) :
    Calls Tryz.prog 91 #[.agg #[.string st, .string rest, .int .i64 N]] w fun e w' => e = .returned (.string ⟨(endOf st rest N).toArray⟩) ∧ Below w.heap.size w w' := by
  obtain ⟨i0, hi, hz0, hz1, hz2⟩ := info_parts infoByteS
  have H0 := Lib.hid (specHasherOk_yes st rest N h)
  obtain ⟨h1, h2, h3, h4, h5⟩ := h
  have H1 := Lib.hid (specWords_any st (by omega))
  have H2 := Lib.hid specK_any
  have O0 := Lib.hid (OneVar.new w 118 (.string st) (.string rest) (.int .i64 N))
  go_enter Tryz.func91, Tryz.ntmps91
  go_wp2_with fail
  refine (H0.out _).mono ?_
  rintro e w1 ⟨rfl, hb1⟩
  have O1 := Lib.hid (O0.out.next hb1)
  have a1 := O1.out.v.c1
  have hB1 : w.heap.size < w1.heap.size := lt_of_block O1.out.v.row
  have hcv := Lib.run_convert_string_bytes (P := Tryz.prog) w1 9 94 5 rest Tryz.underlying9 Tryz.underlying94 Tryz.underlying5
  have hown := OwnM.ofBytes w1 5 rest (grownCap_le_maxLen w1 rest.size 0 5 (by unfold maxLen; omega))
  have hbw : Below w1.heap.size w1 (Lib.bytesWorld w1 5 rest) := ⟨rfl, rfl, rfl, by rw [Lib.bytesWorld_size]; omega, fun k hk => Lib.bytesWorld_at_old w1 _ rest k hk⟩
  have hl0 : rest.data.toList.length = rest.size := by simp
  rw [hl0] at hown
  obtain ⟨W2, HW2⟩ : ∃ W2, Hid (W2 = Lib.bytesWorld w1 5 rest) := ⟨_, rfl⟩
  rw [← HW2.out] at hcv hown hbw
  generalize grownCap w1 rest.size 0 5 = cp0 at hcv hown
  have hsz2 := hbw.size
  have HB2 := Lib.hid hbw
  clear hb1 O0 H0 hbw HW2
  go_wp2_with (at_builtin; refine wpList_pushM _ rfl _ _ 94 rfl w1.heap.size 5 i0 Tryz.underlying94 hi hz0 hz1 hz2 _ _ rfl hown 128 _ rfl rfl (by omega) hsz2 ?_)
  intro v3 w3 hown3 hb3
  have HO3 := Lib.hid hown3
  have HB3 := Lib.hid (HB2.out.trans hb3)
  clear hown3 hb3 hown hcv HB2 hsz2 a1
  go_wp2_with fail
  obtain ⟨A, HA⟩ : ∃ A : List UInt8, Hid (A = rest.data.toList ++ [128]) := ⟨rest.data.toList ++ [128], rfl⟩
  have lA : A.length = rest.size + 1 := by rw [HA.out, List.length_append, hl0]; rfl
  rw [← HA.out] at HO3
  go_loopw [3] (fun v wr => ∃ j : Nat, j ≤ zerosFor rest.size ∧ OwnM wr w1.heap.size 5 v (A ++ List.replicate j 0) ∧ Below w1.heap.size w1 wr) (fun v _ => 200 - (match v with | .slice _ n _ => n | _ => 0))
  case atStart =>
    exact ⟨0, by omega, by simpa using HO3.out, HB3.out⟩
  case round =>
    obtain ⟨j, hj, hown, hnx⟩ := hrel
    have hlj : (A ++ List.replicate j 0).length = rest.size + 1 + j := by rw [List.length_append, lA, List.length_replicate]
    have hzl : zerosFor rest.size < 64 := Nat.mod_lt _ (by decide)
    obtain ⟨m, hm, HM⟩ : ∃ m : Nat, m ≤ 200 ∧ Hid (m = rest.size + 1 + j) := ⟨_, by omega, rfl⟩
    obtain ⟨g, cap, rfl, hg0, hg1, hcap, hcell⟩ := hown.form
    rw [hlj, ← HM.out] at hown ⊢
    have hsz := hnx.size
    have HN := Lib.hid hnx
    by_cases hlt : j < zerosFor rest.size
    · have q1 : ((m : Int).tmod 64 != 56) = true := by
        have := zeros_more rest.size j h2 hlt
        rw [Int.tmod_eq_emod_of_nonneg (by omega)]
        exact bne_iff_ne.2 (by have := HM.out; omega)
      have q2 : ((m : Int) % 64 != 56) = true := by
        have := zeros_more rest.size j h2 hlt
        exact bne_iff_ne.2 (by have := HM.out; omega)
      clear hnx hcell
      go_wp2_with (at_builtin; refine wpList_pushM _ rfl _ _ 94 rfl w1.heap.size 5 i0 Tryz.underlying94 hi hz0 hz1 hz2 _ _ rfl hown 0 _ rfl rfl (by omega) hsz ?_)
      intro v' w4 hown4 hnx4
      obtain ⟨g', cap', rfl, _, _, _, _⟩ := hown4.form
      go_wp2_with fail
      go_roundw
      case rel =>
        refine ⟨j + 1, by omega, ?_, HN.out.trans hnx4⟩
        rw [List.replicate_succ']
        exact hown4
      case measure => have := HM.out; simp; omega
    · obtain rfl : j = zerosFor rest.size := by omega
      have q1 : ((m : Int).tmod 64 != 56) = false := by
        have := zeros_done rest.size h2
        rw [Int.tmod_eq_emod_of_nonneg (by omega)]
        exact bne_eq_false_iff_eq.2 (by have := HM.out; omega)
      have q2 : ((m : Int) % 64 != 56) = false := by
        have := zeros_done rest.size h2
        exact bne_eq_false_iff_eq.2 (by have := HM.out; omega)
      have O5 := Lib.hid (O1.out.later hB1 hnx)
      have a2 := O5.out.v.c2
      obtain ⟨w5, e5⟩ : ∃ w5, w5 = wr := ⟨_, rfl⟩
      subst e5
      obtain ⟨A2, HA2⟩ : ∃ A2 : List UInt8, Hid (A2 = A ++ List.replicate (zerosFor rest.size) 0) := ⟨A ++ List.replicate (zerosFor rest.size) 0, rfl⟩
      rw [← HA2.out] at hown hlj
      have HO5 := Lib.hid hown
      have hN8 : (N : Int) ≤ 1000000000 := h4
      have HB5 := Lib.hid hnx
      clear hnx hcell hown HO3 HB3
      go_wp2_with fail
      obtain ⟨b, hb8, lb8, B8⟩ : ∃ b : Nat, (8 : Int) * (N : Int) = (b : Int) ∧ b ≤ 8000000000 ∧ Hid (b = 8 * N) := ⟨8 * N, by omega, by omega, rfl⟩
      simp only [hb8]
      clear a2
      go_loopw [3, 5] (fun v i wr => ∃ k : Nat, k ≤ 8 ∧ i = .int .i64 (7 - (k : Int)) ∧ OwnM wr w1.heap.size 5 v (A2 ++ beUp b k) ∧ Below w1.heap.size w1 wr) (fun _ i _ => ((intOf i) + 1).toNat)
      case atStart =>
        exact ⟨0, by omega, rfl, by simpa [beUp] using HO5.out, HB5.out⟩
      case round =>
        obtain ⟨k, hk, rfl, hown, hnx⟩ := hrel
        have hlk : (A2 ++ beUp b k).length = m + k := by rw [List.length_append, beUp_length, hlj, HM.out]
        obtain ⟨g2, cap2, rfl, hg20, hg21, hcap2, hcell⟩ := hown.form
        rw [hlk] at hown ⊢
        have hsz := hnx.size
        have HN := Lib.hid hnx
        by_cases hk8 : k < 8
        · obtain ⟨p, hp, HP⟩ : ∃ p : Nat, (7 : Int) - (k : Int) = (p : Int) ∧ Hid (p = 7 - k) := ⟨7 - k, by omega, rfl⟩
          have hp7 : p ≤ 7 := by have := HP.out; omega
          have HOW := Lib.hid hown
          clear hnx hcell hown
          simp only [hp]
          obtain ⟨w6, e6⟩ : ∃ w6, w6 = wr := ⟨_, rfl⟩
          subst e6
          go_wp2_with fail
          go_loopw [6, 7] (fun x c wr => ∃ j : Nat, j ≤ p ∧ c = .int .i64 (j : Int) ∧ x = .int .i64 ((b / 256 ^ j : Nat) : Int) ∧ wr = w6) (fun _ c _ => p - (intOf c).toNat)
          case atStart =>
            exact ⟨0, by omega, rfl, by simp, rfl⟩
          case round =>
            obtain ⟨j, hjp, rfl, rfl, rfl⟩ := hrel
            have hb1 : b / 256 ^ j ≤ b := Nat.div_le_self _ _
            have HPS := Lib.hid (pow_step b j)
            by_cases hjlt : (j : Int) < (p : Int)
            · generalize b / 256 ^ j = y at *
              go_wp2_with fail
              go_roundw
              case rel =>
                refine ⟨j + 1, by omega, by go_num, ?_, trivial⟩
                rw [← HPS.out]
                go_num
              case measure => simp [intOf]; omega
            · obtain rfl : j = p := by omega
              have hown := HOW.out
              have HBE : Hid (beUp b (k + 1) = beUp b k ++ [UInt8.ofNat (b / 256 ^ j % 256)]) := by
                show _ = _
                rw [beUp, HP.out]
              generalize b / 256 ^ j = y at *
              have hy : (y : Int) % 256 = ((UInt8.ofNat (y % 256)).toNat : Int) := by rw [UInt8.toNat_ofNat']; omega
              have HY := Lib.hid hy
              clear hy HOW
              go_wp2_with (at_builtin; refine wpList_pushM _ rfl _ _ 94 rfl w1.heap.size 5 i0 Tryz.underlying94 hi hz0 hz1 hz2 _ _ rfl hown _ _ rfl HY.out (by omega) hsz ?_)
              intro v' w7 hown7 hnx7
              go_wp2_with fail
              go_roundw
              case rel =>
                refine ⟨k + 1, by omega, ?_, ?_, HN.out.trans hnx7⟩
                · have := HP.out
                  go_num
                · rw [HBE.out]
                  first | exact hown7 | (rw [← List.append_assoc]; exact hown7)
              case measure => simp [intOf] <;> omega
        · obtain rfl : k = 8 := by omega
          obtain ⟨T, HT⟩ : ∃ T : List UInt8, Hid (T = A2 ++ beUp b 8) := ⟨A2 ++ beUp b 8, rfl⟩
          rw [← HT.out] at hown hlk hcell hcap2
          rw [hlk] at hcap2
          have hTT : T = tailOf rest.data.toList N := by
            unfold tailOf
            rw [HT.out, HA2.out, HA.out, B8.out, hl0]
          have hT64 : T.length = 64 ∨ T.length = 128 := by rw [hTT]; exact tailOf_length _ N (by rw [hl0]; exact h2)
          have HTT := Lib.hid hTT
          clear hTT
          obtain ⟨w7, e7⟩ : ∃ w7, w7 = wr := ⟨_, rfl⟩
          subst e7
          have O7 := Lib.hid (O1.out.later hB1 hnx)
          have a0 := O7.out.v.c0
          obtain ⟨L, hL, HL⟩ : ∃ L : Nat, m + 8 = L ∧ Hid (L = T.length) := ⟨m + 8, rfl, by show _ = _; rw [hlk]⟩
          have hL64 : L = 64 ∨ L = 128 := by rw [HL.out]; exact hT64
          rw [hL] at hown hlk hcap2 ⊢
          have HOT := Lib.hid hown
          have q7 : ¬ (0 ≤ (7 : Int) - ((8 : Nat) : Int)) := by omega
          have HCT := Lib.hid hcell
          clear hown hcell hnx HO5 HB5 hlj HM hm
          go_wp2_with fail
          refine (H1.out _).mono ?_
          rintro e w8 ⟨v, rfl, hown8, hb8'⟩
          have O8 := Lib.hid (O7.out.next hb8')
          have HO8 := Lib.hid (hown8.mono (O7.out.below.size))
          have HT8 := Lib.hid (HOT.out.below hb8')
          clear hown8 hb8' O7 HOT a0 H1
          go_wp2_with fail
          refine (H2.out _).mono ?_
          rintro e wk ⟨gk, ck, rfl, hgk, hck, hbk⟩
          have Ok := Lib.hid (O8.out.next hbk)
          have HOk := Lib.hid (HO8.out.below hbk)
          have HTk := Lib.hid (HT8.out.below hbk)
          have HCK := Lib.hid hck
          clear hbk hck O8 HO8 HT8 H2
          obtain ⟨S0, HS0⟩ : ∃ S0, Hid (S0 = wordsOf st.data.toList) := ⟨wordsOf st.data.toList, rfl⟩
          have hs8 : S0.length = 8 := by rw [HS0.out, wordsOf_length]; simp; omega
          have hsw : Words S0 := by rw [HS0.out]; exact wordsOf_words _
          rw [← HS0.out] at HOk
          go_wp2_with fail
          go_loopw [8, 10] (fun v i wr => ∃ k : Nat, 64 * k ≤ L ∧ i = .int .i64 ((64 * k : Nat) : Int) ∧ OwnW wr w.heap.size 121 v (eatUp S0 T k) ∧ Below wk.heap.size wk wr) (fun _ i _ => L - (intOf i).toNat)
          case atStart =>
            exact ⟨0, by omega, rfl, HOk.out, Below.refl _ _⟩
          case round =>
            obtain ⟨k, hk, rfl, hown, hnx⟩ := hrel
            have hl := eatUp_length S0 T hs8 k
            have hw := eatUp_words S0 T hsw k
            obtain ⟨m', HM'⟩ : ∃ m' : Nat, Hid (m' = 64 * k) := ⟨64 * k, rfl⟩
            rw [← HM'.out] at hk ⊢
            obtain ⟨gs, cs, rfl, hgs0, hgs, hcs⟩ := hown.form (by omega)
            rw [hl] at hcs ⊢
            have hgk2 : gk < wr.heap.size := Nat.lt_of_lt_of_le hgk hnx.size
            have HN' := Lib.hid hnx
            by_cases hlt : (m' : Int) < (L : Int)
            · have q1 : (m' : Int) + 64 ≤ (L : Int) := by have := HM'.out; omega
              have q2 : (m' : Int) + 64 ≤ (cap2 : Int) := by omega
              have hck2 : ∀ j, j < 64 → wr.cell? ⟨gk, j, none⟩ = some (.int .u32 (kTab.getD j 0 : Nat)) := fun j hj => by rw [hnx.cell (p := ⟨gk, j, none⟩) hgk]; exact HCK.out j hj
              obtain ⟨gt, ct, hvt, _, hgt, _, hct⟩ := HTk.out.form
              have hvt' : gt = g2 := by injection hvt with h1 _ _; injection h1 with h1; injection h1 with h1 _; exact h1.symm
              subst hvt'
              have hbl := blockAt_length T k (by have := HM'.out; have := HL.out; omega)
              have hcv := run_convert_bytes_back (P := Tryz.prog) wr 94 9 5 ⟨gt, m', none⟩ (cap2 - m') (blockAt T k) Tryz.underlying94 Tryz.underlying5 Tryz.underlying9 (fun j hj => by
                have e : (⟨gt, m', none⟩ : Addr).add j = ⟨gt, m' + j, none⟩ := by unfold Addr.add; split <;> simp_all
                have hj2 : m' + j < T.length := by have := HL.out; omega
                rw [e, hnx.cell (p := ⟨gt, m' + j, none⟩) hgt, hct (m' + j) hj2]
                have e2 : T.getD (m' + j) 0 = (blockAt T k)[j] := by
                  have h1 : (blockAt T k)[j]? = T[m' + j]? := by
                    unfold blockAt
                    rw [List.getElem?_take, if_pos (by omega), List.getElem?_drop, HM'.out]
                  rw [List.getElem?_eq_getElem hj] at h1
                  rw [List.getD_eq_getElem?_getD, ← h1]
                  rfl
                rw [e2])
              rw [hbl] at hcv
              have H3 := Lib.hid (specRound_any gs cs gk ck _ hw hl ⟨(blockAt T k).toArray⟩ hbl wr hcs hck2 hgs hgk2)
              clear hck2 hcs hnx hown hct hvt hbl
              go_wp2_with fail
              refine (H3.out).mono ?_
              rintro e w5' ⟨v', rfl, hown5, hb5⟩
              have hm5 : w.heap.size ≤ wr.heap.size := Nat.le_trans Ok.out.below.size HN'.out.size
              have HO5 := Lib.hid (hown5.mono hm5)
              have HB5 := Lib.hid (HN'.out.trans (hb5.mono HN'.out.size))
              clear hown5 hb5
              go_wp2_with fail
              go_roundw
              case rel =>
                refine ⟨k + 1, by have := HM'.out; omega, by have := HM'.out; go_num, HO5.out, HB5.out⟩
              case measure => simp [intOf] <;> omega
            · have q1 : ¬ (m' : Int) < (L : Int) := hlt
              have H4 := Lib.hid (specBytes_any gs cs _ hw (by omega) wr (fun j hj => hcs j (by omega)) hgs)
              rw [hl] at H4
              have hkL : k = T.length / 64 := by have := HM'.out; have := HL.out; omega
              have HE : Hid (eatUp S0 T k = endState st rest N) := by
                show _ = _
                unfold endState
                rw [HS0.out, ← HTT.out, ← hkL]
              rw [HE.out] at H4
              have HO9 := Lib.hid (Ok.out.below.trans (hnx.mono Ok.out.below.size))
              clear hcs hnx hown hw hl
              go_wp2_with fail
              refine (H4.out).mono ?_
              rintro e w9 ⟨rfl, hb9⟩
              go_wp2_with fail
              go_ret
              exact ⟨rfl, HO9.out.trans (hb9.mono HO9.out.size)⟩

set_option maxRecDepth 100000 in
set_option maxHeartbeats 400000 in
theorem specDigestOf_any (s : ByteArray) (hs : s.size ≤ 500000000) (w : World) :
    Calls Tryz.prog 83 #[.string s] w fun e w' => e = .returned (.string ⟨(endOf ⟨(bytesOf (moreState ⟨(bytesOf firstState).toArray⟩ ⟨#[]⟩ s)).toArray⟩ ⟨(moreRest ⟨#[]⟩ s).toArray⟩ s.size).toArray⟩) ∧ Below w.heap.size w w' := by
  have hk0 : HOk ⟨(bytesOf firstState).toArray⟩ ⟨#[]⟩ 0 := ⟨by decide, by decide, by decide, by decide, by decide⟩
  have H0 := Lib.hid specHasherNew_any
  have H1 := Lib.hid (specHashMore_yes ⟨(bytesOf firstState).toArray⟩ ⟨#[]⟩ 0 s hk0 (by omega) hs)
  have hk1 : HOk ⟨(bytesOf (moreState ⟨(bytesOf firstState).toArray⟩ ⟨#[]⟩ s)).toArray⟩ ⟨(moreRest ⟨#[]⟩ s).toArray⟩ (s.size : Nat) := by
    have e1 : (moreRest ⟨#[]⟩ s).length = s.size - 64 * (s.size / 64) := by
      have h0 : (⟨#[]⟩ : ByteArray).size = 0 := rfl
      unfold moreRest
      rw [List.length_drop, List.length_append, h0, Nat.zero_add]
      simp
    refine ⟨?_, ?_, by omega, by omega, ?_⟩
    · show (bytesOf _).toArray.size = 32
      rw [List.size_toArray, bytesOf_length]
      unfold moreState
      rw [eatUp_length _ _ (by decide)]
    · show (moreRest ⟨#[]⟩ s).toArray.size < 64
      rw [List.size_toArray, e1]
      omega
    · show _ = (((moreRest ⟨#[]⟩ s).toArray.size : Nat) : Int)
      rw [List.size_toArray, e1]
      omega
  have H2 := Lib.hid (specHashEnd_yes _ _ s.size hk1)
  rw [Int.zero_add] at H1
  go_enter Tryz.func83, Tryz.ntmps83
  go_wp2_with fail
  refine (H0.out _).mono ?_
  rintro e w1 ⟨rfl, hb1⟩
  go_wp2_with fail
  refine (H1.out _).mono ?_
  rintro e w2 ⟨rfl, hb2⟩
  go_wp2_with fail
  refine (H2.out _).mono ?_
  rintro e w3 ⟨rfl, hb3⟩
  go_wp2_with fail
  go_ret
  exact ⟨rfl, (hb1.trans (hb2.mono hb1.size)).trans (hb3.mono (Nat.le_trans hb1.size hb2.size))⟩

end Go.Proofs.YtoaifgblbfdncabGreatDoor
namespace Go.Proofs.YtoaifgblbfdncabGreatDoor
open Go.RowKit

/-- The digest of a text. -/
def digP (s : ByteArray) : ByteArray := ⟨(endOf ⟨(bytesOf (moreState ⟨(bytesOf firstState).toArray⟩ ⟨#[]⟩ s)).toArray⟩ ⟨(moreRest ⟨#[]⟩ s).toArray⟩ s.size).toArray⟩
theorem digP_size (s : ByteArray) : (digP s).size = 32 := by
  have h0 : (wordsOf (bytesOf firstState)).length = 8 := by rw [wordsOf_bytesOf _ firstState_words]; rfl
  have h1 : (moreState ⟨(bytesOf firstState).toArray⟩ ⟨#[]⟩ s).length = 8 := eatUp_length _ _ h0 _
  have h2 : Words (moreState ⟨(bytesOf firstState).toArray⟩ ⟨#[]⟩ s) := eatUp_words _ _ (wordsOf_words _) _
  have h3 : (wordsOf (bytesOf (moreState ⟨(bytesOf firstState).toArray⟩ ⟨#[]⟩ s))).length = 8 := by rw [wordsOf_bytesOf _ h2]; exact h1
  show (bytesOf (endState _ _ _)).toArray.size = 32
  rw [List.size_toArray, bytesOf_length]
  unfold endState
  rw [eatUp_length _ _ h3]
/-- A key as it counts: a long one is its digest. -/
def keyP (k : ByteArray) : ByteArray := if 64 < k.size then digP k else k
theorem keyP_size (k : ByteArray) : (keyP k).size ≤ 64 := by
  unfold keyP
  split
  · rw [digP_size]; decide
  · omega
/-- A key, filled with zeros, each byte's exclusive or with a number: the first n bytes, then zeros. -/
def padUp (k : List UInt8) (x : UInt8) (n : Nat) : List UInt8 := (List.range n).map (fun i => k.getD i 0 ^^^ x) ++ List.replicate (64 - n) 0
def padP (k : ByteArray) (x : UInt8) : ByteArray := ⟨(padUp (keyP k).data.toList x 64).toArray⟩
theorem padUp_length (k : List UInt8) (x : UInt8) (n : Nat) (h : n ≤ 64) : (padUp k x n).length = 64 := by unfold padUp; simp; omega
theorem padP_size (k : ByteArray) (x : UInt8) : (padP k x).size = 64 := by
  show (padUp _ x 64).toArray.size = 64
  rw [List.size_toArray, padUp_length _ _ _ (Nat.le_refl _)]
theorem padUp_set (k : List UInt8) (x : UInt8) (n : Nat) (h : n < 64) : (padUp k x n).set n (k.getD n 0 ^^^ x) = padUp k x (n + 1) := by
  unfold padUp
  have e : 64 - n = (64 - (n + 1)) + 1 := by omega
  rw [e, List.replicate_succ, List.set_append_right _ _ (by simp), List.length_map, List.length_range, Nat.sub_self, List.set_cons_zero, List.range_succ, List.map_append, List.append_assoc]
  rfl
theorem padUp_at (k : List UInt8) (x : UInt8) (n : Nat) (h : n < 64) : (padUp k x n).getD n 0 = 0 := by
  unfold padUp
  rw [List.getD_eq_getElem?_getD, List.getElem?_append_right (by simp), List.length_map, List.length_range, Nat.sub_self]
  have e : 64 - n = (64 - (n + 1)) + 1 := by omega
  rw [e, List.replicate_succ]
  rfl
def macP (k s : ByteArray) : ByteArray := digP (padP k 92 ++ digP (padP k 54 ++ s))
theorem macP_size (k s : ByteArray) : (macP k s).size = 32 := digP_size _

end Go.Proofs.YtoaifgblbfdncabGreatDoor
