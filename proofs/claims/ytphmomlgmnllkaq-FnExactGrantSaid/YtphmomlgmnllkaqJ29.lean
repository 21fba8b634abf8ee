/-
  The given l11Free.
-/
import Derived.Test.YtphmomlgmnllkaqJ27
namespace Go.Proofs.Ytphmomlgmnllkaq
open Go.RowKit

/-- The first address that is free, of so many from one on. -/
def freeFrom (ls : List Ls) (fs : List Fx) : Nat → Int → Int
  | 0, _ => 0
  | n + 1, a => if holderP ls a = 0 ∧ fixedP fs a = 0 then a else freeFrom ls fs n (a + 1)
/-- The address that one may have. -/
def freeP (pa pn : Int) (ls : List Ls) (fs : List Fx) (who : Int) : Int :=
  match ownP fs who with
  | some a => a
  | none => freeFrom ls fs (sizeP pn.toNat - 2) (pa + 1)
theorem own_at (fs : List Fx) (a : Int) : ∀ (k : Nat) (f : Fx), fs[k]? = some f → (∀ j, j < k → ∀ x, fs[j]? = some x → x.1 ≠ a) → f.1 = a → ownP fs a = some f.2 := by
  induction fs with
  | nil => intro k f h; simp at h
  | cons g fs ih =>
    intro k f hk hn hf
    cases k with
    | zero =>
      simp at hk
      subst hk
      rw [ownP, if_pos hf]
    | succ k =>
      rw [ownP, if_neg (hn 0 (by omega) g rfl)]
      exact ih k f (by simpa using hk) (fun j hj x hx => hn (j + 1) (by omega) x (by simpa using hx)) hf
theorem own_none (fs : List Fx) (a : Int) (hn : ∀ (j : Nat) (x : Fx), fs[j]? = some x → x.1 ≠ a) : ownP fs a = none := by
  induction fs with
  | nil => rfl
  | cons g fs ih =>
    rw [ownP, if_neg (hn 0 g rfl)]
    exact ih fun j x hx => hn (j + 1) x (by simpa using hx)
theorem free_next (ls : List Ls) (fs : List Fx) (z j : Nat) (b : Nat) (hj : j + 2 < z) (hn : ¬ (holderP ls ((b + 1 + j : Nat) : Int) = 0 ∧ fixedP fs ((b + 1 + j : Nat) : Int) = 0)) : freeFrom ls fs (z - 2 - j) ((b + 1 + j : Nat) : Int) = freeFrom ls fs (z - 2 - (j + 1)) ((b + 1 + (j + 1) : Nat) : Int) := by
  obtain ⟨d, hd⟩ : ∃ d, z - 2 - j = d + 1 := ⟨z - 2 - j - 1, by omega⟩
  rw [hd, freeFrom, if_neg hn, show z - 2 - (j + 1) = d by omega]
  rfl
theorem free_here (ls : List Ls) (fs : List Fx) (z j : Nat) (b : Nat) (hj : j + 2 < z) (hn : holderP ls ((b + 1 + j : Nat) : Int) = 0 ∧ fixedP fs ((b + 1 + j : Nat) : Int) = 0) : freeFrom ls fs (z - 2 - j) ((b + 1 + j : Nat) : Int) = ((b + 1 + j : Nat) : Int) := by
  obtain ⟨d, hd⟩ : ∃ d, z - 2 - j = d + 1 := ⟨z - 2 - j - 1, by omega⟩
  rw [hd, freeFrom, if_pos hn]

set_option maxRecDepth 100000 in
set_option maxHeartbeats 3200000 in
theorem specFree_any (pa pn : Int) (lv fv : Value) (ls : List Ls) (fs : List Fx) (who : Int) (hl : ls.length ≤ 100000000) (hfl : fs.length ≤ 100000000) (hp : PrefOk pa pn) (hn : pn ≤ 30) (w : World) (h : PoolR w lv fv ls fs) :
    Calls Try.prog 22 #[.agg #[.int .i64 pa, .int .i64 pn, lv, fv], .int .i64 who] w fun e w' => e = .returned (.int .i64 (freeP pa pn ls fs who)) ∧ Below w.heap.size w w' := by
  obtain ⟨la, lc, rfl⟩ := rows_form h.leases
  obtain ⟨fa, fc, rfl⟩ := rows_form h.fixes
  obtain ⟨b, n, rfl, rfl, hb32, hn32, _⟩ := hp.nats
  have hz4 : 4 ≤ sizeP n := Nat.pow_le_pow_right (n := 2) (by omega) (show 2 ≤ 32 - n by omega)
  have hz5 := sizeP_le n
  have K3 := Lib.hid (specSize_any n hn32)
  obtain ⟨z, Z⟩ : ∃ z, Hid (z = sizeP n) := ⟨_, rfl⟩
  rw [← Z.out] at K3 hz4 hz5
  have FP : Hid (∀ x, ownP fs who = some x → freeP b n ls fs who = x) := fun x hx => by unfold freeP; rw [hx]
  have FN : Hid (ownP fs who = none → freeP b n ls fs who = freeFrom ls fs (z - 2) ((b + 1 + 0 : Nat) : Int)) := fun hx => by unfold freeP; rw [hx, Z.out]; rfl
  obtain ⟨fp, HFP⟩ : ∃ fp, Hid (fp = freeP b n ls fs who) := ⟨_, rfl⟩
  rw [← HFP.out] at FP FN ⊢
  have hB0 : Below w.heap.size w (w.alloc (.cells #[.int .i64 b, .int .i64 n, .slice la ls.length lc, .slice fa fs.length fc] PoolT)) := (Below.refl _ _).alloc (Nat.le_refl _) _
  have P0 : Hid (PB w b n (.slice la ls.length lc) (.slice fa fs.length fc) ls fs (w.alloc (.cells #[.int .i64 b, .int .i64 n, .slice la ls.length lc, .slice fa fs.length fc] PoolT))) := ⟨VarA.new w PoolT _, h.next hB0, hB0⟩
  clear h hB0 hp Z HFP
  go_enter Try.func22, Try.ntmps22
  go_upto_region 1 with fail
  generalize w.alloc (.cells #[.int .i64 b, .int .i64 n, .slice la ls.length lc, .slice fa fs.length fc] PoolT) = X0 at *
  have c3 : X0.cell? ⟨w.heap.size, 3, none⟩ = some (.slice fa fs.length fc) := P0.out.box.cell 3
  go_wp2_with fail
  go_loopw [5] (fun c wr => ∃ k : Nat, k ≤ fs.length ∧ c = .int .i64 k ∧ Hid (∀ j, j < k → ∀ x, fs[j]? = some x → x.1 ≠ who) ∧ wr = X0) (fun c _ => fs.length - (intOf c).toNat)
  case atStart => exact ⟨0, Nat.zero_le _, rfl, fun j hj => absurd hj (by omega), by first | trivial | rfl⟩
  case round =>
    obtain ⟨k, hk, rfl, HN, rfl⟩ := hrel
    by_cases hlt : k < fs.length
    · have hlt' : (k : Int) < (fs.length : Int) := by omega
      have hget : fs[k]? = some fs[k] := List.getElem?_eq_getElem hlt
      obtain ⟨g, off, rfl, hg, d0, d1⟩ := fixed_cells P0.out.rd.fixes k _ hget
      generalize fs[k] = l at hget d0 d1
      obtain ⟨l0, l1⟩ := l
      by_cases hla : l0 = who
      · have hbq : (l0 == who) = true := by rw [beq_iff_eq]; exact hla
        have HE : Hid (fp = l1) := FP.out _ (own_at fs who k (l0, l1) hget HN.out hla)
        clear hla hget
        go_wp2_with fail
        go_ret
        exact ⟨congrArg (fun z => Ending.returned (Value.int .i64 z)) HE.out.symm, P0.out.below⟩
      · have hbq : (l0 == who) = false := by rw [beq_eq_false_iff_ne]; exact hla
        have HN2 : Hid (∀ j, j < k + 1 → ∀ x, fs[j]? = some x → x.1 ≠ who) := fun j hj x hx => by
          rcases Nat.lt_or_ge j k with h1 | h1
          · exact HN.out j h1 x hx
          · have : j = k := by omega
            subst this
            rw [hget] at hx
            cases hx
            exact hla
        clear hla hget
        go_wp2_with fail
        go_roundw
        case rel => exact ⟨k + 1, by omega, by go_num, HN2, by first | trivial | rfl⟩
        case measure => simp [intOf]; omega
    · have hlt' : ¬ ((k : Int) < (fs.length : Int)) := by omega
      have HE : Hid (fp = freeFrom ls fs (z - 2) ((b + 1 + 0 : Nat) : Int)) := FN.out (own_none fs who (fun j x hx => HN.out j (by have := (List.getElem?_eq_some_iff.1 hx).1; omega) x hx))
      have c0 : wr.cell? ⟨w.heap.size, 0, none⟩ = some (.int .i64 (b : Int)) := P0.out.box.cell 0
      clear FP FN HN
      go_wp2_with fail
      go_loopw [6] (fun c wv => ∃ j : Nat, j + 2 ≤ z ∧ c = .int .i64 ((b + 1 + j : Nat) : Int) ∧ Hid (fp = freeFrom ls fs (z - 2 - j) ((b + 1 + j : Nat) : Int)) ∧ PB w b n (.slice la ls.length lc) (.slice fa fs.length fc) ls fs wv) (fun c _ => b + z - (intOf c).toNat)
      case atStart => exact ⟨0, by omega, by go_num, HE, P0.out⟩
      case round =>
        obtain ⟨j, hj, rfl, HJ, hpb⟩ := hrel
        have PW := Lib.hid hpb
        clear hpb P0 c3 c0 HE
        have c0 : wr.cell? ⟨w.heap.size, 0, none⟩ = some (.int .i64 (b : Int)) := PW.out.box.cell 0
        have c1 : wr.cell? ⟨w.heap.size, 1, none⟩ = some (.int .i64 (n : Int)) := PW.out.box.cell 1
        by_cases hjz : j + 2 < z
        · have hjz' : ((b + 1 + j : Nat) : Int) < (b : Int) + (z : Int) - 1 := by omega
          go_wp2_with fail
          go_quiet ((go_at_call 46; exact Calls.quiet_of_same (K3.out _)))
          have PX := Lib.hid (PW.out.next (below_drewN (Below.refl _ wr) nq))
          have hd : decide ((b : Int) + 1 + (j : Int) < (b : Int) + (z : Int) - 1) = true := decide_eq_true (by omega)
          rw [hd]
          generalize wr.drewN nq = wx at *
          clear PW c0 c1 hd
          have HS := Lib.hid (free_next ls fs z j b hjz)
          have HH := Lib.hid (free_here ls fs z j b hjz)
          have H1 := Lib.hid (fun X hX => specHolderOf_any b n (.slice la ls.length lc) (.slice fa fs.length fc) ls fs ((b + 1 + j : Nat) : Int) hl X hX)
          have H2 := Lib.hid (fun X hX => specFixedFor_any b n (.slice la ls.length lc) (.slice fa fs.length fc) ls fs ((b + 1 + j : Nat) : Int) hfl X hX)
          generalize holderP ls ((b + 1 + j : Nat) : Int) = hv at *
          generalize fixedP fs ((b + 1 + j : Nat) : Int) = xv at *
          have c0 : wx.cell? ⟨w.heap.size, 0, none⟩ = some (.int .i64 (b : Int)) := PX.out.box.cell 0
          have c1 : wx.cell? ⟨w.heap.size, 1, none⟩ = some (.int .i64 (n : Int)) := PX.out.box.cell 1
          have c2 : wx.cell? ⟨w.heap.size, 2, none⟩ = some (.slice la ls.length lc) := PX.out.box.cell 2
          have c3 : wx.cell? ⟨w.heap.size, 3, none⟩ = some (.slice fa fs.length fc) := PX.out.box.cell 3
          go_wp2_with fail
          refine (H1.out wx PX.out.rd).mono ?_
          rintro e X1 ⟨rfl, hb1⟩
          have P1 := Lib.hid (PX.out.next hb1)
          clear hb1 PX c0 c1 c2 c3
          have c0 : X1.cell? ⟨w.heap.size, 0, none⟩ = some (.int .i64 (b : Int)) := P1.out.box.cell 0
          have c1 : X1.cell? ⟨w.heap.size, 1, none⟩ = some (.int .i64 (n : Int)) := P1.out.box.cell 1
          have c2 : X1.cell? ⟨w.heap.size, 2, none⟩ = some (.slice la ls.length lc) := P1.out.box.cell 2
          have c3 : X1.cell? ⟨w.heap.size, 3, none⟩ = some (.slice fa fs.length fc) := P1.out.box.cell 3
          by_cases hv0 : hv = 0
          · subst hv0
            go_wp2_with fail
            refine (H2.out X1 P1.out.rd).mono ?_
            rintro e X2 ⟨rfl, hb2⟩
            have P2 := Lib.hid (P1.out.next hb2)
            clear hb2 P1 c0 c1 c2 c3
            by_cases xv0 : xv = 0
            · subst xv0
              go_wp2_with fail
              go_ret
              exact ⟨congrArg (fun z => Ending.returned (Value.int .i64 z)) ((HJ.out.trans (HH.out (by simp))).symm), P2.out.below⟩
            · have hxq : (xv == 0) = false := by rw [beq_eq_false_iff_ne]; exact xv0
              have HX : Hid (fp = freeFrom ls fs (z - 2 - (j + 1)) ((b + 1 + (j + 1) : Nat) : Int)) := HJ.out.trans (HS.out fun h => xv0 h.2)
              clear xv0 HH HS
              go_wp2_with fail
              go_roundw
              case rel => exact ⟨j + 1, by omega, by go_num, HX, P2.out⟩
              case measure => simp [intOf]; omega
          · have hvq : (hv == 0) = false := by rw [beq_eq_false_iff_ne]; exact hv0
            have HX : Hid (fp = freeFrom ls fs (z - 2 - (j + 1)) ((b + 1 + (j + 1) : Nat) : Int)) := HJ.out.trans (HS.out fun h => hv0 h.1)
            clear hv0 HH HS
            go_wp2_with fail
            go_roundw
            case rel => exact ⟨j + 1, by omega, by go_num, HX, P1.out⟩
            case measure => simp [intOf]; omega
        · have hjz' : ¬ ((b + 1 + j : Nat) : Int) < (b : Int) + (z : Int) - 1 := by omega
          have HE : Hid (fp = 0) := by
            show _ = _
            rw [HJ.out, show z - 2 - j = 0 by omega]
            rfl
          go_wp2_with fail
          go_quiet ((go_at_call 46; exact Calls.quiet_of_same (K3.out _)))
          go_wp2_with fail
          go_ret
          exact ⟨congrArg (fun z => Ending.returned (Value.int .i64 z)) HE.out.symm, below_drewN PW.out.below _⟩

end Go.Proofs.Ytphmomlgmnllkaq
