/-
  container/heap's up and down over the program's heap.
  container/heap's down over the program's heap.
-/
import Derived.Test.YtphmomlgmnllkaqJ08
namespace Go.Proofs.Ytphmomlgmnllkaq
open Go.RowKit

def keyN (nd : Nat → Hd) (p : Nat) : Int := (nd p).1.1

set_option maxRecDepth 100000 in
set_option maxHeartbeats 1600000 in
theorem up_any {base b : Nat} {nd : Nat → Hd} {v : Value} {ps : List Nat} {w : World} (H : HeapW w base b nd v ps) (n j : Nat) (hn : n ≤ ps.length) (hj : j < n) (hl : ps.length ≤ 2000000) (hk : ∀ p ∈ ps, ∀ q ∈ ps, keyN nd p = keyN nd q → p = q) (hU : UpK (keyL (keyN nd) ps) n j) :
    Calls Try.prog 65 #[.iface HqT (.pointer (some ⟨b, 0, none⟩)), .int .i64 j] w fun e w' => e = .returned (.tuple #[]) ∧ ∃ qs, HeapW w' base b nd v qs ∧ Moved ps qs n ∧ HeapK (keyL (keyN nd) qs) n ∧ Chg (blk v) w w' := by
  have H0 := Lib.hid H
  have HK := Lib.hid hk
  have HU := Lib.hid hU
  clear H hk hU
  go_enter Try.func65, Try.ntmps65
  go_wp2_with fail
  go_loopw [1] (fun c wr => ∃ (j : Nat) (qs : List Nat), j < n ∧ c = .int .i64 j ∧ HeapW wr base b nd v qs ∧ Moved ps qs n ∧ UpK (keyL (keyN nd) qs) n j ∧ Chg (blk v) w wr) (fun c _ => (intOf c).toNat)
  case atStart => exact ⟨j, ps, hj, rfl, H0.out, Moved.refl _ _, HU.out, Chg.refl _ _⟩
  case round =>
    clear H0 HU hj j
    obtain ⟨j, qs, hj, rfl, hH, hM, hU, hC⟩ := hrel
    have HH := Lib.hid hH
    have HM := Lib.hid hM
    have HU := Lib.hid hU
    have HC := Lib.hid hC
    clear hH hM hU hC
    have hlq : qs.length = ps.length := HM.out.len
    by_cases h0 : j = 0
    · subst h0
      have HE : Hid (HeapK (keyL (keyN nd) qs) n) := HU.out.done (.inl rfl)
      go_wp2_with fail
      refine bodyPost_end (results_none rfl _ _ _) rfl ?_
      exact ⟨rfl, qs, HH.out, HM.out, HE.out, HC.out⟩
    · have hp : (0 : Int) < (j : Int) := by omega
      obtain ⟨i, HI⟩ : ∃ i, Hid (i = (j - 1) / 2) := ⟨_, rfl⟩
      have hq : ((j : Int) - 1) / 2 = (i : Int) := by have := HI.out; omega
      have hbe : ((i : Int) == (j : Int)) = false := by rw [beq_eq_false_iff_ne]; have := HI.out; omega
      have lj : j < qs.length := by omega
      have li : i < qs.length := by have := HI.out; omega
      have gj := List.getElem?_eq_getElem lj
      have gi := List.getElem?_eq_getElem li
      have kj := keyL_get (keyN nd) gj
      have ki := keyL_get (keyN nd) gi
      have HLS := Lib.hid (less_any HH.out j i _ _ gj gi (HK.out _ ((HM.out.mem _).1 (List.getElem_mem lj)) _ ((HM.out.mem _).1 (List.getElem_mem li))))
      have c0 : wr.cell? ⟨b, 0, none⟩ = some v := HH.out.var.cell 0
      have mL := fun F => meth_less F ⟨b, 0, none⟩ wr v c0
      have hi2 := HI.out
      by_cases hlt : keyL (keyN nd) qs j < keyL (keyN nd) qs i
      · have hd : decide ((nd qs[j]).1.1 < (nd qs[i]).1.1) = true := by rw [decide_eq_true_eq]; rw [kj, ki] at hlt; exact hlt
        rw [hd] at HLS
        have HS : Hid (UpK (keyL (keyN nd) (swapL qs i j)) n i) := by
          rw [keyL_swap _ _ li lj]
          subst hi2
          exact HU.out.step (by omega) hj hlt
        have HMS := Lib.hid (HM.out.trans (Moved.swap (n := n) li lj (by omega) hj))
        clear hd hlt kj ki gj gi hi2
        go_wp2_with fail
        refine HLS.out.mono ?_
        rintro e w1 ⟨rfl, hb1⟩
        have H1 := Lib.hid (HH.out.next hb1)
        have C1 := Lib.hid (HC.out.trans (Below.chg hb1 _))
        have c1 : w1.cell? ⟨b, 0, none⟩ = some v := H1.out.var.cell 0
        have mS := fun F => meth_swap F ⟨b, 0, none⟩ w1 v c1
        clear hb1 mL c0
        go_wp2_with fail
        refine (swap_any H1.out i j li lj).mono ?_
        rintro e w2 ⟨rfl, h2, hc2⟩
        have C2 := C1.out.trans hc2
        clear hc2 mS c1
        go_wp2_with fail
        go_roundw
        case rel => exact ⟨i, swapL qs i j, by have := HI.out; omega, rfl, h2, HMS.out, HS.out, C2⟩
        case measure => simp [intOf]; have := HI.out; omega
      · have hd : decide ((nd qs[j]).1.1 < (nd qs[i]).1.1) = false := by rw [decide_eq_false_iff_not]; rw [kj, ki] at hlt; exact hlt
        rw [hd] at HLS
        have HE : Hid (HeapK (keyL (keyN nd) qs) n) := HU.out.done (.inr (by subst hi2; omega))
        clear hd hlt kj ki gj gi hi2
        go_wp2_with fail
        refine HLS.out.mono ?_
        rintro e w1 ⟨rfl, hb1⟩
        have H1 := Lib.hid (HH.out.next hb1)
        have C1 := Lib.hid (HC.out.trans (Below.chg hb1 _))
        clear hb1 mL c0
        go_wp2_with fail
        refine bodyPost_end (results_none rfl _ _ _) rfl ?_
        exact ⟨rfl, qs, H1.out, HM.out, HE.out, C1.out⟩

end Go.Proofs.Ytphmomlgmnllkaq
namespace Go.Proofs.Ytphmomlgmnllkaq
open Go.RowKit

/-- What down leaves. -/
def DownEnd (nd : Nat → Hd) (ps qs : List Nat) (n i : Nat) (mv : Bool) : Prop := (mv = true ∧ HeapK (keyL (keyN nd) qs) n) ∨ (mv = false ∧ qs = ps ∧ UpK (keyL (keyN nd) qs) n i)
/-- While it goes down. -/
def DownI (nd : Nat → Hd) (ps qs : List Nat) (n i m : Nat) : Prop := (m = i ∧ qs = ps) ∨ (i < m ∧ m < n ∧ DownK (keyL (keyN nd) qs) n m)
theorem DownI.but {nd : Nat → Hd} {ps qs : List Nat} {n i m : Nat} (h : DownI nd ps qs n i m) (hB : ButK (keyL (keyN nd) ps) n i) : ButK (keyL (keyN nd) qs) n m := by
  rcases h with ⟨rfl, rfl⟩ | ⟨_, _, h⟩
  · exact hB
  · exact h.1
theorem DownI.end {nd : Nat → Hd} {ps qs : List Nat} {n i m : Nat} (h : DownI nd ps qs n i m) (hB : ButK (keyL (keyN nd) ps) n i) (hm : ∀ c, 0 < c → c < n → (c - 1) / 2 = m → keyL (keyN nd) qs m ≤ keyL (keyN nd) qs c) : DownEnd nd ps qs n i (decide (i < m)) := by
  rcases h with ⟨rfl, rfl⟩ | ⟨h1, _, h⟩
  · exact .inr ⟨by simp, rfl, hB.done hm⟩
  · exact .inl ⟨by simp; omega, h.done hm⟩
theorem DownI.step {nd : Nat → Hd} {ps qs : List Nat} {n i m j : Nat} (h : DownI nd ps qs n i m) (hB : ButK (keyL (keyN nd) ps) n i) (lm : m < qs.length) (lj : j < qs.length) (hj : (j - 1) / 2 = m) (j0 : 0 < j) (hn : j < n) (hlt : keyL (keyN nd) qs j < keyL (keyN nd) qs m) (hm : ∀ c, 0 < c → c < n → (c - 1) / 2 = m → keyL (keyN nd) qs j ≤ keyL (keyN nd) qs c) : DownI nd ps (swapL qs m j) n i j := by
  have h2 : DownK (keyL (keyN nd) (swapL qs m j)) n j := by
    rw [keyL_swap _ _ lm lj]
    exact (h.but hB).step hj j0 hn hlt hm
  refine .inr ⟨?_, hn, h2⟩
  rcases h with ⟨rfl, _⟩ | ⟨h1, _, _⟩ <;> omega

set_option maxRecDepth 100000 in
set_option maxHeartbeats 3200000 in
theorem down_any {base b : Nat} {nd : Nat → Hd} {v : Value} {ps : List Nat} {w : World} (H : HeapW w base b nd v ps) (n i : Nat) (hn : n ≤ ps.length) (hi : i ≤ n) (hl : ps.length ≤ 2000000) (hk : ∀ p ∈ ps, ∀ q ∈ ps, keyN nd p = keyN nd q → p = q) (hB : ButK (keyL (keyN nd) ps) n i) :
    Calls Try.prog 66 #[.iface HqT (.pointer (some ⟨b, 0, none⟩)), .int .i64 i, .int .i64 n] w fun e w' => ∃ (mv : Bool) (qs : List Nat), e = .returned (.bool mv) ∧ HeapW w' base b nd v qs ∧ Moved ps qs n ∧ DownEnd nd ps qs n i mv ∧ Chg (blk v) w w' := by
  have H0 := Lib.hid H
  have HK := Lib.hid hk
  have HB := Lib.hid hB
  clear H hk hB
  go_enter Try.func66, Try.ntmps66
  go_wp2_with fail
  go_loopw [7] (fun c wr => ∃ (m : Nat) (qs : List Nat), m ≤ n ∧ c = .int .i64 m ∧ HeapW wr base b nd v qs ∧ Moved ps qs n ∧ DownI nd ps qs n i m ∧ Chg (blk v) w wr) (fun c _ => n - (intOf c).toNat)
  case atStart => exact ⟨i, ps, hi, rfl, H0.out, Moved.refl _ _, .inl ⟨rfl, rfl⟩, Chg.refl _ _⟩
  case round =>
    clear H0
    obtain ⟨m, qs, hm, rfl, hH, hM, hU, hC⟩ := hrel
    have HH := Lib.hid hH
    have HM := Lib.hid hM
    have HU := Lib.hid hU
    have HC := Lib.hid hC
    clear hH hM hU hC
    have HLQ : Hid (qs.length = ps.length) := HM.out.len
    have hm2 : m ≤ 2000000 := by omega
    obtain ⟨r, HR⟩ : ∃ r, Hid (r = 2 * m + 1) := ⟨_, rfl⟩
    have hr0 : (2 : Int) * (m : Int) + 1 = (r : Int) := by have := HR.out; omega
    have hrb : r ≤ 4000001 := by have := HR.out; omega
    by_cases hr : r < n
    · have h1 : ¬ ((n : Int) ≤ (r : Int)) := by omega
      have h2 : ¬ ((r : Int) < 0) := by omega
      have lr : r < qs.length := by have := HLQ.out; omega
      have lm : m < qs.length := by have := HLQ.out; have := HR.out; omega
      have gr := List.getElem?_eq_getElem lr
      have gm := List.getElem?_eq_getElem lm
      have KR := Lib.hid (keyL_get (keyN nd) gr)
      have KM := Lib.hid (keyL_get (keyN nd) gm)
      have c0 : wr.cell? ⟨b, 0, none⟩ = some v := HH.out.var.cell 0
      have mL := fun F => meth_less F ⟨b, 0, none⟩ wr v c0
      obtain ⟨s, HS⟩ : ∃ s, Hid (s = r + 1) := ⟨_, rfl⟩
      have hs0 : (r : Int) + 1 = (s : Int) := by have := HS.out; omega
      by_cases hs : s < n
      · have h3 : (s : Int) < (n : Int) := by omega
        have ls : s < qs.length := by have := HLQ.out; omega
        have gs := List.getElem?_eq_getElem ls
        have KS := Lib.hid (keyL_get (keyN nd) gs)
        have HL1 := Lib.hid (less_any HH.out s r _ _ gs gr (HK.out _ ((HM.out.mem _).1 (List.getElem_mem ls)) _ ((HM.out.mem _).1 (List.getElem_mem lr))))
        by_cases hlt : keyL (keyN nd) qs s < keyL (keyN nd) qs r
        · have hd : decide ((nd qs[s]).1.1 < (nd qs[r]).1.1) = true := by rw [decide_eq_true_eq]; rw [KS.out, KR.out] at hlt; exact hlt
          rw [hd] at HL1
          have HMIN : Hid (∀ c, 0 < c → c < n → (c - 1) / 2 = m → keyL (keyN nd) qs s ≤ keyL (keyN nd) qs c) := fun c c0 cn hc => by
            have e1 := HR.out
            have e2 := HS.out
            have : c = r ∨ c = s := by omega
            rcases this with rfl | rfl
            · omega
            · exact Int.le_refl _
          clear hd hlt
          go_wp2_with fail
          refine HL1.out.mono ?_
          rintro e w1 ⟨rfl, hb1⟩
          have H1 := Lib.hid (HH.out.next hb1)
          have C1 := Lib.hid (HC.out.trans (Below.chg hb1 _))
          have c1 : w1.cell? ⟨b, 0, none⟩ = some v := H1.out.var.cell 0
          have m2 := fun F => meth_less F ⟨b, 0, none⟩ w1 v c1
          clear hb1 mL c0 HL1
          have HL2 := Lib.hid (less_any H1.out s m _ _ gs gm (HK.out _ ((HM.out.mem _).1 (List.getElem_mem ls)) _ ((HM.out.mem _).1 (List.getElem_mem lm))))
          by_cases hlt2 : keyL (keyN nd) qs s < keyL (keyN nd) qs m
          · have hd2 : decide ((nd qs[s]).1.1 < (nd qs[m]).1.1) = true := by rw [decide_eq_true_eq]; rw [KS.out, KM.out] at hlt2; exact hlt2
            rw [hd2] at HL2
            have HN := Lib.hid (HU.out.step HB.out lm ls (j := s) (by have := HR.out; have := HS.out; omega) (by have := HR.out; have := HS.out; omega) (by omega) hlt2 HMIN.out)
            have HMS := Lib.hid (HM.out.trans (Moved.swap (n := n) lm ls (by have := HR.out; omega) (by omega)))
            clear hd2 hlt2 gr gm HMIN
            go_wp2_with fail
            refine HL2.out.mono ?_
            rintro e w2 ⟨rfl, hb2⟩
            have H2 := Lib.hid (H1.out.next hb2)
            have C2 := Lib.hid (C1.out.trans (Below.chg hb2 _))
            have c2 : w2.cell? ⟨b, 0, none⟩ = some v := H2.out.var.cell 0
            have mS := fun F => meth_swap F ⟨b, 0, none⟩ w2 v c2
            clear hb2 m2 HL2
            go_wp2_with fail
            refine (swap_any H2.out m s lm ls).mono ?_
            rintro e w3 ⟨rfl, h3s, hc3⟩
            have C3 := C2.out.trans hc3
            clear hc3 mS c2
            go_wp2_with fail
            go_roundw
            case rel => exact ⟨s, swapL qs m s, by omega, rfl, h3s, HMS.out, HN.out, C3⟩
            case measure => simp [intOf]; have := HR.out; have := HS.out; omega
          · have hd2 : decide ((nd qs[s]).1.1 < (nd qs[m]).1.1) = false := by rw [decide_eq_false_iff_not]; rw [KS.out, KM.out] at hlt2; exact hlt2
            rw [hd2] at HL2
            have HE := Lib.hid (HU.out.end HB.out (fun c c0 cn hc => by have := HMIN.out c c0 cn hc; omega))
            clear hd2 hlt2 gr gm HMIN
            go_wp2_with fail
            refine HL2.out.mono ?_
            rintro e w2 ⟨rfl, hb2⟩
            have H2 := Lib.hid (H1.out.next hb2)
            have C2 := Lib.hid (C1.out.trans (Below.chg hb2 _))
            clear hb2 m2 HL2
            go_wp2_with fail
            go_ret
            exact ⟨_, qs, rfl, H2.out, HM.out, HE.out, C2.out⟩
        · have hd : decide ((nd qs[s]).1.1 < (nd qs[r]).1.1) = false := by rw [decide_eq_false_iff_not]; rw [KS.out, KR.out] at hlt; exact hlt
          rw [hd] at HL1
          have HMIN : Hid (∀ c, 0 < c → c < n → (c - 1) / 2 = m → keyL (keyN nd) qs r ≤ keyL (keyN nd) qs c) := fun c c0 cn hc => by
            have e1 := HR.out
            have e2 := HS.out
            have : c = r ∨ c = s := by omega
            rcases this with rfl | rfl
            · exact Int.le_refl _
            · omega
          clear hd hlt
          go_wp2_with fail
          refine HL1.out.mono ?_
          rintro e w1 ⟨rfl, hb1⟩
          have H1 := Lib.hid (HH.out.next hb1)
          have C1 := Lib.hid (HC.out.trans (Below.chg hb1 _))
          have c1 : w1.cell? ⟨b, 0, none⟩ = some v := H1.out.var.cell 0
          have m2 := fun F => meth_less F ⟨b, 0, none⟩ w1 v c1
          clear hb1 mL c0 HL1
          have HL2 := Lib.hid (less_any H1.out r m _ _ gr gm (HK.out _ ((HM.out.mem _).1 (List.getElem_mem lr)) _ ((HM.out.mem _).1 (List.getElem_mem lm))))
          by_cases hlt2 : keyL (keyN nd) qs r < keyL (keyN nd) qs m
          · have hd2 : decide ((nd qs[r]).1.1 < (nd qs[m]).1.1) = true := by rw [decide_eq_true_eq]; rw [KR.out, KM.out] at hlt2; exact hlt2
            rw [hd2] at HL2
            have HN := Lib.hid (HU.out.step HB.out lm lr (j := r) (by have := HR.out; have := HS.out; omega) (by have := HR.out; have := HS.out; omega) (by omega) hlt2 HMIN.out)
            have HMS := Lib.hid (HM.out.trans (Moved.swap (n := n) lm lr (by have := HR.out; omega) (by omega)))
            clear hd2 hlt2 gr gm HMIN
            go_wp2_with fail
            refine HL2.out.mono ?_
            rintro e w2 ⟨rfl, hb2⟩
            have H2 := Lib.hid (H1.out.next hb2)
            have C2 := Lib.hid (C1.out.trans (Below.chg hb2 _))
            have c2 : w2.cell? ⟨b, 0, none⟩ = some v := H2.out.var.cell 0
            have mS := fun F => meth_swap F ⟨b, 0, none⟩ w2 v c2
            clear hb2 m2 HL2
            go_wp2_with fail
            refine (swap_any H2.out m r lm lr).mono ?_
            rintro e w3 ⟨rfl, h3s, hc3⟩
            have C3 := C2.out.trans hc3
            clear hc3 mS c2
            go_wp2_with fail
            go_roundw
            case rel => exact ⟨r, swapL qs m r, by omega, rfl, h3s, HMS.out, HN.out, C3⟩
            case measure => simp [intOf]; have := HR.out; have := HS.out; omega
          · have hd2 : decide ((nd qs[r]).1.1 < (nd qs[m]).1.1) = false := by rw [decide_eq_false_iff_not]; rw [KR.out, KM.out] at hlt2; exact hlt2
            rw [hd2] at HL2
            have HE := Lib.hid (HU.out.end HB.out (fun c c0 cn hc => by have := HMIN.out c c0 cn hc; omega))
            clear hd2 hlt2 gr gm HMIN
            go_wp2_with fail
            refine HL2.out.mono ?_
            rintro e w2 ⟨rfl, hb2⟩
            have H2 := Lib.hid (H1.out.next hb2)
            have C2 := Lib.hid (C1.out.trans (Below.chg hb2 _))
            clear hb2 m2 HL2
            go_wp2_with fail
            go_ret
            exact ⟨_, qs, rfl, H2.out, HM.out, HE.out, C2.out⟩
      · have h3 : ¬ ((s : Int) < (n : Int)) := by omega
        have HMIN : Hid (∀ c, 0 < c → c < n → (c - 1) / 2 = m → keyL (keyN nd) qs r ≤ keyL (keyN nd) qs c) := fun c c0 cn hc => by
          have e1 := HR.out
          have e2 := HS.out
          have : c = r := by omega
          subst this
          exact Int.le_refl _
        have H1 := HH
        have C1 := HC
        obtain ⟨w1, HW⟩ : ∃ w1, Hid (w1 = wr) := ⟨_, rfl⟩
        have HW1 := HW.out
        subst HW1
        have m2 := mL
        clear mL
        have HL2 := Lib.hid (less_any H1.out r m _ _ gr gm (HK.out _ ((HM.out.mem _).1 (List.getElem_mem lr)) _ ((HM.out.mem _).1 (List.getElem_mem lm))))
        by_cases hlt2 : keyL (keyN nd) qs r < keyL (keyN nd) qs m
        · have hd2 : decide ((nd qs[r]).1.1 < (nd qs[m]).1.1) = true := by rw [decide_eq_true_eq]; rw [KR.out, KM.out] at hlt2; exact hlt2
          rw [hd2] at HL2
          have HN := Lib.hid (HU.out.step HB.out lm lr (j := r) (by have := HR.out; have := HS.out; omega) (by have := HR.out; have := HS.out; omega) (by omega) hlt2 HMIN.out)
          have HMS := Lib.hid (HM.out.trans (Moved.swap (n := n) lm lr (by have := HR.out; omega) (by omega)))
          clear hd2 hlt2 gr gm HMIN
          go_wp2_with fail
          refine HL2.out.mono ?_
          rintro e w2 ⟨rfl, hb2⟩
          have H2 := Lib.hid (H1.out.next hb2)
          have C2 := Lib.hid (C1.out.trans (Below.chg hb2 _))
          have c2 : w2.cell? ⟨b, 0, none⟩ = some v := H2.out.var.cell 0
          have mS := fun F => meth_swap F ⟨b, 0, none⟩ w2 v c2
          clear hb2 m2 HL2
          go_wp2_with fail
          refine (swap_any H2.out m r lm lr).mono ?_
          rintro e w3 ⟨rfl, h3s, hc3⟩
          have C3 := C2.out.trans hc3
          clear hc3 mS c2
          go_wp2_with fail
          go_roundw
          case rel => exact ⟨r, swapL qs m r, by omega, rfl, h3s, HMS.out, HN.out, C3⟩
          case measure => simp [intOf]; have := HR.out; have := HS.out; omega
        · have hd2 : decide ((nd qs[r]).1.1 < (nd qs[m]).1.1) = false := by rw [decide_eq_false_iff_not]; rw [KR.out, KM.out] at hlt2; exact hlt2
          rw [hd2] at HL2
          have HE := Lib.hid (HU.out.end HB.out (fun c c0 cn hc => by have := HMIN.out c c0 cn hc; omega))
          clear hd2 hlt2 gr gm HMIN
          go_wp2_with fail
          refine HL2.out.mono ?_
          rintro e w2 ⟨rfl, hb2⟩
          have H2 := Lib.hid (H1.out.next hb2)
          have C2 := Lib.hid (C1.out.trans (Below.chg hb2 _))
          clear hb2 m2 HL2
          go_wp2_with fail
          go_ret
          exact ⟨_, qs, rfl, H2.out, HM.out, HE.out, C2.out⟩
    · have h1 : (n : Int) ≤ (r : Int) := by omega
      have HE := Lib.hid (HU.out.end HB.out (fun c c0 cn hc => absurd cn (by have := HR.out; omega)))
      go_wp2_with fail
      go_ret
      exact ⟨_, qs, rfl, HH.out, HM.out, HE.out, HC.out⟩

end Go.Proofs.Ytphmomlgmnllkaq
