/-
  The program's SeenOk.
  The program's span of numbers: a first one and bits.
-/
import Derived.Test.YtogninaejehinavJ08
import Derived.Test.YtogninaejehinavJ03
import Derived.Test.YtogninaejehinavJ05
import Derived.Deep.DeepCutAuto
import Derived.Deep.RegionHeld3
namespace Go.Proofs.Ytogninaejehinav
open Go.RowKit

/-- Right ones are few: no more than six are above the first less six. -/
theorem seenTo_few {xs : List Int} (h : SeenTo xs xs.length) : xs.length ≤ 6 := by
  have hd : DescZ xs := (desc_iff xs).2 fun i hi => (h (i + 1) hi hi).2.1 (by omega)
  have hm : ∀ x ∈ xs, topZ xs - 6 < x := fun x hx => by
    obtain ⟨i, hi, rfl⟩ := List.getElem_of_mem hx
    exact (h i hi hi).2.2
  have := desc_len hd hm
  omega
set_option maxRecDepth 100000 in
set_option maxHeartbeats 3200000 in
theorem implSeenOk_bool (xs : List Int) (v : Value) (b : Bool) (hb : b = true ↔ SeenP xs) (hl : xs.length ≤ 100000000) (_hwf : ∀ x ∈ xs, IntZ x) (w : World) (h : layIntS.rd w [v] xs) :
    Calls Try.prog 16 #[v] w fun e w' => e = .returned (.bool b) ∧ Below w.heap.size w w' := by
  rw [seenP_iff] at hb
  obtain ⟨ao, cp, rfl⟩ := rows_form h
  have HR := Lib.hid h
  have HB := Lib.hid hb
  have HF : Hid (¬ SeenTo xs xs.length → b = false) := Lib.hid (fun h => by
    cases b with
    | false => rfl
    | true => exact absurd (hb.1 rfl).1 h)
  clear h hb
  go_enter Try.func16, Try.ntmps16
  go_wp2_with fail
  go_loop [7] (fun c => ∃ j : Nat, j ≤ xs.length ∧ c = .int .i64 j ∧ Hid (SeenTo xs j)) (fun c => xs.length - (intOf c).toNat)
  case atStart => exact ⟨0, Nat.zero_le _, rfl, Lib.hid (fun i _ h => absurd h (by omega))⟩
  case round =>
    obtain ⟨j, hj, rfl, HA⟩ := hrel
    by_cases hlt : j < xs.length
    · have hlt' : (j : Int) < (xs.length : Int) := by omega
      have hl0 : (0 : Int) < (xs.length : Int) := by omega
      obtain ⟨g, off, c2, hv, -, c0⟩ := ints_get HR.out j hlt
      simp only [Value.slice.injEq] at hv
      obtain ⟨rfl, -, rfl⟩ := hv
      have d0 := ints_at HR.out (show 0 < xs.length by omega) rfl
      have d1 : w.cell? ⟨g, off, none⟩ = some (.int .i64 (xs[0]'(by omega))) := d0
      obtain ⟨p, hpe⟩ : ∃ p : Int, (hj2 : j - 1 < xs.length) → xs[j - 1] = p := ⟨xs.getD (j - 1) 0, fun h => by rw [List.getD_eq_getElem?_getD, List.getElem?_eq_getElem h]; rfl⟩
      have hpv : 0 < j → ∀ i : Nat, i = j - 1 → w.cell? ⟨g, off + i, none⟩ = some (.int .i64 p) := fun h0 i hi => by
        subst hi
        rw [← hpe (by omega)]
        exact ints_at HR.out (show j - 1 < xs.length by omega) rfl
      have htop : topZ xs = xs[0]'(by omega) := top_get (by omega)
      have hfirst : 0 < j → 1 ≤ xs[0]'(by omega) ∧ xs[0]'(by omega) ≤ 1000000000 := fun h0 => (HA.out 0 (by omega) h0).1
      have hzero : j = 0 → xs[0]'(by omega) = xs[j] := fun h0 => by subst h0; rfl
      have HX : Hid (¬ ((1 ≤ xs[j] ∧ xs[j] ≤ 1000000000) ∧ (0 < j → xs[j] < p) ∧ xs[0]'(by omega) - 6 < xs[j]) → b = false) := Lib.hid (fun h => HF.out fun hw => h (by rw [← htop]; have := hw j hlt hlt; exact ⟨this.1, fun h0 => by rw [← hpe (by omega)]; exact this.2.1 h0, this.2.2⟩))
      have HNX : Hid ((1 ≤ xs[j] ∧ xs[j] ≤ 1000000000) → (0 < j → xs[j] < p) → xs[0]'(by omega) - 6 < xs[j] → SeenTo xs (j + 1)) := Lib.hid (fun h1 h2 h3 => seenTo_next hlt HA.out h1 (fun h0 => by rw [hpe (by omega)]; exact h2 h0) (by rw [htop]; exact h3))
      clear htop hpe
      generalize (xs[0]'(by omega)) = t at *
      generalize xs[j] = x at *
      by_cases h1 : 1 ≤ x
      rotate_left
      · obtain rfl := HX.out (fun h => h1 h.1.1)
        have k1 : decide (x < 1) = true := decide_eq_true (by omega)
        clear HX HNX h1 hpv hfirst hzero
        go_wp2_with fail
        go_ret
        exact ⟨rfl, Below.refl _ _⟩
      have k1 : decide (x < 1) = false := decide_eq_false (by omega)
      by_cases h2 : x ≤ 1000000000
      rotate_left
      · obtain rfl := HX.out (fun h => h2 h.1.2)
        have k2 : decide (1000000000 < x) = true := decide_eq_true (by omega)
        clear HX HNX h1 h2 hpv hfirst hzero
        go_wp2_with fail
        go_ret
        exact ⟨rfl, Below.refl _ _⟩
      have k2 : decide (1000000000 < x) = false := decide_eq_false (by omega)
      have ht : 1 ≤ t ∧ t ≤ 1000000000 := by
        rcases Nat.eq_zero_or_pos j with h0 | h0
        · rw [hzero h0]; exact ⟨h1, h2⟩
        · exact hfirst h0
      have hwt : IntKind.i64.wrap (t - 6) = t - 6 := by rw [IntKind.wrap_i64]; omega
      by_cases hf : t - 6 < x
      rotate_left
      · obtain rfl := HX.out (fun h => hf h.2.2)
        have k3 : decide (x ≤ t - 6) = true := decide_eq_true (by omega)
        clear HX HNX h1 h2 hf hpv hfirst hzero
        go_wp2_with fail
        go_ret
        exact ⟨rfl, Below.refl _ _⟩
      have k3 : decide (x ≤ t - 6) = false := decide_eq_false (by omega)
      rcases Nat.eq_zero_or_pos j with h0 | h0
      · have h00 : ¬ ((0 : Int) < (j : Int)) := by omega
        have h01 : ¬ (0 < j) := by omega
        have HJ := Lib.hid (HNX.out ⟨h1, h2⟩ (fun h => absurd h (by omega)) hf)
        clear HX HNX hpv hfirst hzero h0
        go_wp2_with fail
        go_round
        case rel => exact ⟨j + 1, by omega, by go_num, HJ⟩
        case measure => simp [intOf]; omega
      · have h0' : (0 : Int) < (j : Int) := by omega
        obtain ⟨i, hi⟩ : ∃ i : Nat, i = j - 1 := ⟨_, rfl⟩
        have hwi : IntKind.i64.wrap ((j : Int) - 1) = (i : Int) := by rw [IntKind.wrap_i64]; omega
        have hil : (i : Int) < (xs.length : Int) := by omega
        have p0 := hpv h0 i hi
        clear hpv hfirst hzero hi
        by_cases hp : x < p
        rotate_left
        · obtain rfl := HX.out (fun h => hp (h.2.1 h0))
          have hp' : decide (p ≤ x) = true := decide_eq_true (by omega)
          clear HX HNX hp
          go_wp2_with fail
          go_ret
          exact ⟨rfl, Below.refl _ _⟩
        have hp' : decide (p ≤ x) = false := decide_eq_false (by omega)
        have HJ := Lib.hid (HNX.out ⟨h1, h2⟩ (fun _ => hp) hf)
        clear HX HNX
        go_wp2_with fail
        go_round
        case rel => exact ⟨j + 1, by omega, by go_num, HJ⟩
        case measure => simp [intOf]; omega
    · obtain rfl : j = xs.length := by omega
      have hge : ¬ ((xs.length : Int) < (xs.length : Int)) := by omega
      obtain rfl : b = true := HB.out.2 ⟨HA.out, seenTo_few HA.out⟩
      go_wp2_with fail
      go_ret
      exact ⟨rfl, Below.refl _ _⟩

end Go.Proofs.Ytogninaejehinav
namespace Go.Proofs.Ytogninaejehinav
open Go.RowKit

abbrev SpanT : TypeId := 50

set_option maxRecDepth 100000 in
theorem bitOf_any (r : Nat) (f n : Int) (k : Nat) (hk : k < 6) (he : f - n = (k : Int)) (w : World) (h : w.cell? ⟨r, 0, none⟩ = some (.int .i64 f)) :
    Calls Try.prog 40 #[.pointer (some ⟨r, 0, none⟩), .int .i64 n] w fun e w' => e = .returned (.int .u8 ((2 ^ k : Nat) : Int)) ∧ w' = w := by
  have h1 : IntKind.i64.wrap (f - n) = (k : Int) := by rw [he, IntKind.wrap_i64]; omega
  have h2 : (2 : Int) ^ k % 256 = ((2 ^ k : Nat) : Int) := by
    have h3 : (2 : Nat) ^ k < 2 ^ 6 := Nat.pow_lt_pow_right (by omega) hk
    have h4 : ((2 : Int) ^ k) = ((2 ^ k : Nat) : Int) := by simp
    rw [h4]
    generalize 2 ^ k = p at *
    omega
  have h5 : (0 : Int) ≤ (k : Int) := by omega
  generalize (2 ^ k : Nat) = p at h2 ⊢
  clear he
  go_enter Try.func40, Try.ntmps40
  go_wp2_with fail
  go_ret
  exact ⟨by rw [h2]; rfl, rfl⟩

set_option maxRecDepth 100000 in
set_option maxHeartbeats 800000 in
theorem standOf_any (r : Nat) (f n : Int) (b : Nat) (hf0 : 0 ≤ f) (hf : f ≤ 1000000000) (hb : b < 64) (w : World) (H : VarP r SpanT (.int .i64 f) (.int .u8 (b : Int)) w) :
    Calls Try.prog 34 #[.pointer (some ⟨r, 0, none⟩), .int .i64 n] w fun e w' => e = .returned (.int .i64 (standN f b n)) ∧ Below w.heap.size w w' := by
  have c0 := H.c0
  have c1 := H.c1
  have hw6 : IntKind.i64.wrap (f - 6) = f - 6 := by rw [IntKind.wrap_i64]; omega
  unfold standN
  go_enter Try.func34, Try.ntmps34
  by_cases h1 : n < 1
  · rw [if_pos (.inl h1)]
    go_wp2_with fail
    go_ret
    exact ⟨rfl, Below.refl _ _⟩
  by_cases h2 : 1000000000 < n
  · rw [if_pos (.inr h2)]
    go_wp2_with fail
    go_ret
    exact ⟨rfl, Below.refl _ _⟩
  rw [if_neg (by omega)]
  by_cases h3 : f < n
  · rw [if_pos h3]
    go_wp2_with fail
    go_ret
    exact ⟨rfl, Below.refl _ _⟩
  rw [if_neg h3]
  by_cases h4 : n ≤ f - 6
  · rw [if_pos h4]
    go_wp2_with fail
    go_ret
    exact ⟨rfl, Below.refl _ _⟩
  rw [if_neg h4]
  obtain ⟨k, hk⟩ : ∃ k : Nat, (f - n).toNat = k := ⟨_, rfl⟩
  rw [hk]
  have K := Lib.hid (fun (X : World) (h : X.cell? ⟨r, 0, none⟩ = some (.int .i64 f)) => bitOf_any r f n k (by omega) (by omega) X h)
  have ha := bits_and_u8_nat b (2 ^ k) (by omega) (by
    have : (2 : Nat) ^ k < 2 ^ 6 := Nat.pow_lt_pow_right (by omega) (by omega)
    omega)
  have hq := bit_asked b k
  generalize (b &&& 2 ^ k : Nat) = q at ha hq
  generalize (2 ^ k : Nat) = p at K ha
  clear hk
  cases hbt : b.testBit k with
  | true =>
    rw [hbt] at hq
    have hq0 : ((q : Int) == 0) = false := by rw [beq_eq_false_iff_ne]; intro h; have := hq.1 (by omega); cases this
    rw [if_pos rfl]
    clear hq hbt
    go_wp2_with fail
    go_quiet ((go_at_call 40; exact Calls.quiet_of_same (K.out _ (by assumption))))
    go_wp2_with fail
    go_ret
    exact ⟨rfl, below_drewN (Below.refl _ _) _⟩
  | false =>
    rw [hbt] at hq
    obtain rfl : q = 0 := hq.2 rfl
    rw [if_neg (by simp)]
    clear hq hbt
    go_wp2_with fail
    go_quiet ((go_at_call 40; exact Calls.quiet_of_same (K.out _ (by assumption))))
    go_wp2_with fail
    go_ret
    exact ⟨rfl, below_drewN (Below.refl _ _) _⟩

/-- What 'take' leaves: the variable, and nothing else changed. -/
def TakeEnd (r : Nat) (f : Int) (b : Nat) (t : Bool) (w : World) (e : Ending) (w' : World) : Prop := e = .returned (.bool t) ∧ VarP r SpanT (.int .i64 f) (.int .u8 (b : Int)) w' ∧ Chg [r] w w'

set_option maxRecDepth 100000 in
set_option maxHeartbeats 800000 in
theorem take_no (r : Nat) (f n : Int) (b : Nat) (hf0 : 0 ≤ f) (hf : f ≤ 1000000000) (hb : b < 64) (h : ¬ 3 ≤ standN f b n) (w : World) (H : VarP r SpanT (.int .i64 f) (.int .u8 (b : Int)) w) :
    Calls Try.prog 35 #[.pointer (some ⟨r, 0, none⟩), .int .i64 n] w fun e w' => TakeEnd r f b false w e w' := by
  obtain ⟨Q, HQ⟩ : ∃ Q : Ending → World → Prop, Hid (Q = fun e w' => TakeEnd r f b false w e w') := ⟨_, Lib.hid rfl⟩
  rw [← HQ.out]
  have K := Lib.hid (standOf_any r f n b hf0 hf hb w H)
  generalize standN f b n = s at *
  have q3 : (s == 3) = false := by rw [beq_eq_false_iff_ne]; omega
  have q4 : (s == 4) = false := by rw [beq_eq_false_iff_ne]; omega
  go_enter Try.func35, Try.ntmps35
  go_wp2_with fail
  refine (K.out).mono ?_
  rintro e Y ⟨rfl, hy⟩
  have E : Hid (Q (.returned (.bool false)) Y) := by
    rw [HQ.out]
    exact Lib.hid ⟨rfl, H.next hy, Below.chg hy _⟩
  clear K hy
  go_wp2_with fail
  exact E.out

set_option maxRecDepth 100000 in
set_option maxHeartbeats 800000 in
theorem take_yes (r : Nat) (f n : Int) (b : Nat) (hf0 : 0 ≤ f) (hf : f ≤ 1000000000) (hb : b < 64) (hn1 : 1 ≤ n) (hn2 : n ≤ 1000000000) (hn : f - 6 < n) (hbt : ¬ f < n → b.testBit (f - n).toNat = false) (w : World) (H : VarP r SpanT (.int .i64 f) (.int .u8 (b : Int)) w) :
    Calls Try.prog 35 #[.pointer (some ⟨r, 0, none⟩), .int .i64 n] w fun e w' => TakeEnd r (takeF f n) (takeB f b n) true w e w' := by
  obtain ⟨Q, HQ⟩ : ∃ Q : Ending → World → Prop, Hid (Q = fun e w' => TakeEnd r (takeF f n) (takeB f b n) true w e w') := ⟨_, Lib.hid rfl⟩
  rw [← HQ.out]
  have K := Lib.hid (standOf_any r f n b hf0 hf hb w H)
  by_cases hlt : f < n
  · rw [stand_four hn1 hn2 hlt] at K
    obtain ⟨d, hd⟩ : ∃ d : Nat, (n - f).toNat = d := ⟨_, rfl⟩
    rw [show takeF f n = n from if_pos hlt, takeB_up hlt hd] at HQ
    have ho := bits_or_one (b * 2 ^ min d 8 % 64) (by omega)
    have K0 := Lib.hid (fun (X : World) (h : X.cell? ⟨r, 0, none⟩ = some (.int .i64 n)) => bitOf_any r n n 0 (by omega) (by omega) X h)
    have hsub : IntKind.i64.wrap (n - f) = (d : Int) := by rw [IntKind.wrap_i64]; omega
    have hd0 : (0 : Int) ≤ (d : Int) := by omega
    have hm2 : (b : Int) * 2 ^ min d 8 % 256 % 64 = ((b * 2 ^ min d 8 % 64 : Nat) : Int) := by
      rw [show (b : Int) * 2 ^ min d 8 = ((b * 2 ^ min d 8 : Nat) : Int) by simp]
      omega
    generalize b * 2 ^ min d 8 % 64 = p at hm2 ho HQ
    generalize (p ||| 1 : Nat) = q at ho HQ
    clear hbt hd
    go_enter Try.func35, Try.ntmps35
    go_wp2_with fail
    refine (K.out).mono ?_
    rintro e Y ⟨rfl, hy⟩
    have HY := Lib.hid (H.next hy)
    have HC := Lib.hid (Below.chg hy [r])
    have c0 := HY.out.c0
    have c1 := HY.out.c1
    have s1 := HY.out.free 1
    have s0 := HY.out.free 0
    clear K hy H
    go_wp2_with fail
    go_region
    all_goals
      rw [hm2]
      have HZ : Hid (VarP r SpanT (.int .i64 n) (.int .u8 (p : Int)) (((Y.setCell ⟨r, 1, none⟩ (.int .u8 (p : Int))).setCell ⟨r, 0, none⟩ (.int .i64 n)).drew)) := Lib.hid ((HY.out.set1 _).set0 _).drew
      have HD : Hid (Chg [r] w (((Y.setCell ⟨r, 1, none⟩ (.int .u8 (p : Int))).setCell ⟨r, 0, none⟩ (.int .i64 n)).drew)) := Lib.hid ((HC.out.trans ((Chg.cell Y r 1 _).trans (Chg.cell _ r 0 _))).trans (Below.chg (Below.drew (Below.refl _ _)) _))
      go_upto_region 6 with fail
      clear c0 c1 s0 s1 HY HC
      generalize ((Y.setCell ⟨r, 1, none⟩ (.int .u8 (p : Int))).setCell ⟨r, 0, none⟩ (.int .i64 n)).drew = Z at *
      have c0 := HZ.out.c0
      have c1 := HZ.out.c1
      have s1 := HZ.out.free 1
      have D := Lib.hid (HZ.out.drew)
      have DC : Hid (Chg [r] w Z.drew) := Lib.hid (HD.out.trans (Below.chg (Below.drew (Below.refl _ _)) _))
      have d0 := D.out.c0
      have d1 := D.out.c1
      have s9 := D.out.free 1
      clear HZ HD
      go_wp2_with fail
      go_region_with (first | (go_at_call 40; refine (K0.out _ (by assumption)).mono ?_; rintro e X ⟨rfl, rfl⟩))
      all_goals
        have E : Hid (Q (.returned (.bool true)) ((Z.setCell ⟨r, 1, none⟩ (.int .u8 (q : Int))).drew)) := Lib.hid (by
          rw [HQ.out]
          exact ⟨rfl, (D.out.set1 _), DC.out.trans (Chg.cell _ r 1 _)⟩)
        go_wp2_with fail
        exact E.out
  · obtain ⟨k, hk⟩ : ∃ k : Nat, (f - n).toNat = k := ⟨_, rfl⟩
    rw [show takeF f n = f from if_neg hlt, takeB_at hlt hk] at HQ
    rw [stand_three hn1 hn2 hlt hn (hbt hlt)] at K
    have hk6 : k < 6 := by omega
    have hp2 : (2 : Nat) ^ k < 2 ^ 6 := Nat.pow_lt_pow_right (by omega) hk6
    have ho := bits_or_u8_nat b (2 ^ k) (by omega) (by omega)
    have K0 := Lib.hid (fun (X : World) (h : X.cell? ⟨r, 0, none⟩ = some (.int .i64 f)) => bitOf_any r f n k hk6 (by omega) X h)
    generalize (b ||| 2 ^ k : Nat) = q at ho HQ
    generalize (2 ^ k : Nat) = p at ho K0
    clear hbt hk hp2
    go_enter Try.func35, Try.ntmps35
    go_wp2_with fail
    refine (K.out).mono ?_
    rintro e Z ⟨rfl, hy⟩
    have D := Lib.hid ((H.next hy).drew)
    have DC : Hid (Chg [r] w Z.drew) := Lib.hid ((Below.chg hy [r]).trans (Below.chg (Below.drew (Below.refl _ _)) _))
    have d0 := D.out.c0
    have d1 := D.out.c1
    have s1 := D.out.free 1
    have c0 := (H.next hy).c0
    have c1 := (H.next hy).c1
    have s2 := (H.next hy).free 1
    clear K hy H
    go_wp2_with fail
    go_region_with (first | (go_at_call 40; refine (K0.out _ (by assumption)).mono ?_; rintro e X ⟨rfl, rfl⟩))
    all_goals
      have E : Hid (Q (.returned (.bool true)) ((Z.setCell ⟨r, 1, none⟩ (.int .u8 (q : Int))).drew)) := Lib.hid (by
        rw [HQ.out]
        exact ⟨rfl, (D.out.set1 _), DC.out.trans (Chg.cell _ r 1 _)⟩)
      go_wp2_with fail
      exact E.out

end Go.Proofs.Ytogninaejehinav
