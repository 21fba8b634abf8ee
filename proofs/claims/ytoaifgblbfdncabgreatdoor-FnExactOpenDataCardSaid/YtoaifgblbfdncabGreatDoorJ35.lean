/-
  The program's span of numbers: a first one and bits.
  The program's spanOf: right numbers as a first one and bits.
  The program's IsFresh (and SeenOk).
-/
import Derived.Test.YtoaifgblbfdncabGreatDoorJ34
import Derived.Test.YtoaifgblbfdncabGreatDoorJ31
import Derived.Deep.DeepCutAuto
import Derived.Deep.RegionHeld3
import Derived.Test.YtoaifgblbfdncabGreatDoorJ15
namespace Go.Proofs.YtoaifgblbfdncabGreatDoor
open Go.RowKit

abbrev SpanT : TypeId := 85

set_option maxRecDepth 100000 in
theorem bitOf_any (r : Nat) (f n : Int) (k : Nat) (hk : k < 6) (he : f - n = (k : Int)) (w : World) (h : w.cell? ⟨r, 0, none⟩ = some (.int .i64 f)) :
    Calls Tryz.prog 77 #[.pointer (some ⟨r, 0, none⟩), .int .i64 n] w fun e w' => e = .returned (.int .u8 ((2 ^ k : Nat) : Int)) ∧ w' = w := by
  have h1 : IntKind.i64.wrap (f - n) = (k : Int) := by rw [he, IntKind.wrap_i64]; omega
  have h2 : (2 : Int) ^ k % 256 = ((2 ^ k : Nat) : Int) := by
    have h3 : (2 : Nat) ^ k < 2 ^ 6 := Nat.pow_lt_pow_right (by omega) hk
    have h4 : ((2 : Int) ^ k) = ((2 ^ k : Nat) : Int) := by simp
    rw [h4]
    generalize 2 ^ k = p at *
    omega
  have h5 : (0 : Int) ≤ (k : Int) := by omega
  generalize (2 ^ k : Nat) = p at h2 ⊢
  clear he
  go_enter Tryz.func77, Tryz.ntmps77
  go_wp2_with fail
  go_ret
  exact ⟨by rw [h2]; rfl, rfl⟩

set_option maxRecDepth 100000 in
set_option maxHeartbeats 800000 in
theorem standOf_any (r : Nat) (f n : Int) (b : Nat) (hf0 : 0 ≤ f) (hf : f ≤ 1000000000) (hb : b < 64) (w : World) (H : VarP r SpanT (.int .i64 f) (.int .u8 (b : Int)) w) :
    Calls Tryz.prog 64 #[.pointer (some ⟨r, 0, none⟩), .int .i64 n] w fun e w' => e = .returned (.int .i64 (standN f b n)) ∧ Below w.heap.size w w' := by
  have c0 := H.c0
  have c1 := H.c1
  have hw6 : IntKind.i64.wrap (f - 6) = f - 6 := by rw [IntKind.wrap_i64]; omega
  unfold standN
  go_enter Tryz.func64, Tryz.ntmps64
  by_cases h1 : n < 1
  · rw [if_pos (.inl h1)]
    go_wp2_with fail
    go_ret
    exact ⟨rfl, Below.refl _ _⟩
  by_cases h2 : 1000000000 < n
  · rw [if_pos (.inr h2)]
    go_wp2_with fail
    go_ret
    exact ⟨rfl, Below.refl _ _⟩
  rw [if_neg (by omega)]
  by_cases h3 : f < n
  · rw [if_pos h3]
    go_wp2_with fail
    go_ret
    exact ⟨rfl, Below.refl _ _⟩
  rw [if_neg h3]
  by_cases h4 : n ≤ f - 6
  · rw [if_pos h4]
    go_wp2_with fail
    go_ret
    exact ⟨rfl, Below.refl _ _⟩
  rw [if_neg h4]
  obtain ⟨k, hk⟩ : ∃ k : Nat, (f - n).toNat = k := ⟨_, rfl⟩
  rw [hk]
  have K := Lib.hid (fun (X : World) (h : X.cell? ⟨r, 0, none⟩ = some (.int .i64 f)) => bitOf_any r f n k (by omega) (by omega) X h)
  have ha := bits_and_u8_nat b (2 ^ k) (by omega) (by
    have : (2 : Nat) ^ k < 2 ^ 6 := Nat.pow_lt_pow_right (by omega) (by omega)
    omega)
  have hq := bit_asked b k
  generalize (b &&& 2 ^ k : Nat) = q at ha hq
  generalize (2 ^ k : Nat) = p at K ha
  clear hk
  cases hbt : b.testBit k with
  | true =>
    rw [hbt] at hq
    have hq0 : ((q : Int) == 0) = false := by rw [beq_eq_false_iff_ne]; intro h; have := hq.1 (by omega); cases this
    rw [if_pos rfl]
    clear hq hbt
    go_wp2_with fail
    go_quiet ((go_at_call 77; exact Calls.quiet_of_same (K.out _ (by assumption))))
    go_wp2_with fail
    go_ret
    exact ⟨rfl, below_drewN (Below.refl _ _) _⟩
  | false =>
    rw [hbt] at hq
    obtain rfl : q = 0 := hq.2 rfl
    rw [if_neg (by simp)]
    clear hq hbt
    go_wp2_with fail
    go_quiet ((go_at_call 77; exact Calls.quiet_of_same (K.out _ (by assumption))))
    go_wp2_with fail
    go_ret
    exact ⟨rfl, below_drewN (Below.refl _ _) _⟩

/-- What 'take' leaves: the variable, and nothing else changed. -/
def TakeEnd (r : Nat) (f : Int) (b : Nat) (t : Bool) (w : World) (e : Ending) (w' : World) : Prop := e = .returned (.bool t) ∧ VarP r SpanT (.int .i64 f) (.int .u8 (b : Int)) w' ∧ Chg [r] w w'

set_option maxRecDepth 100000 in
set_option maxHeartbeats 800000 in
theorem take_no (r : Nat) (f n : Int) (b : Nat) (hf0 : 0 ≤ f) (hf : f ≤ 1000000000) (hb : b < 64) (h : ¬ 3 ≤ standN f b n) (w : World) (H : VarP r SpanT (.int .i64 f) (.int .u8 (b : Int)) w) :
    Calls Tryz.prog 71 #[.pointer (some ⟨r, 0, none⟩), .int .i64 n] w fun e w' => TakeEnd r f b false w e w' := by
  obtain ⟨Q, HQ⟩ : ∃ Q : Ending → World → Prop, Hid (Q = fun e w' => TakeEnd r f b false w e w') := ⟨_, Lib.hid rfl⟩
  rw [← HQ.out]
  have K := Lib.hid (standOf_any r f n b hf0 hf hb w H)
  generalize standN f b n = s at *
  have q3 : (s == 3) = false := by rw [beq_eq_false_iff_ne]; omega
  have q4 : (s == 4) = false := by rw [beq_eq_false_iff_ne]; omega
  go_enter Tryz.func71, Tryz.ntmps71
  go_wp2_with fail
  refine (K.out).mono ?_
  rintro e Y ⟨rfl, hy⟩
  have E : Hid (Q (.returned (.bool false)) Y) := by
    rw [HQ.out]
    exact Lib.hid ⟨rfl, H.next hy, Below.chg hy _⟩
  clear K hy
  go_wp2_with fail
  exact E.out

set_option maxRecDepth 100000 in
set_option maxHeartbeats 800000 in
theorem take_yes (r : Nat) (f n : Int) (b : Nat) (hf0 : 0 ≤ f) (hf : f ≤ 1000000000) (hb : b < 64) (hn1 : 1 ≤ n) (hn2 : n ≤ 1000000000) (hn : f - 6 < n) (hbt : ¬ f < n → b.testBit (f - n).toNat = false) (w : World) (H : VarP r SpanT (.int .i64 f) (.int .u8 (b : Int)) w) :
    Calls Tryz.prog 71 #[.pointer (some ⟨r, 0, none⟩), .int .i64 n] w fun e w' => TakeEnd r (takeF f n) (takeB f b n) true w e w' := by
  obtain ⟨Q, HQ⟩ : ∃ Q : Ending → World → Prop, Hid (Q = fun e w' => TakeEnd r (takeF f n) (takeB f b n) true w e w') := ⟨_, Lib.hid rfl⟩
  rw [← HQ.out]
  have K := Lib.hid (standOf_any r f n b hf0 hf hb w H)
  by_cases hlt : f < n
  · rw [stand_four hn1 hn2 hlt] at K
    obtain ⟨d, hd⟩ : ∃ d : Nat, (n - f).toNat = d := ⟨_, rfl⟩
    rw [show takeF f n = n from if_pos hlt, takeB_up hlt hd] at HQ
    have ho := bits_or_one (b * 2 ^ min d 8 % 64) (by omega)
    have K0 := Lib.hid (fun (X : World) (h : X.cell? ⟨r, 0, none⟩ = some (.int .i64 n)) => bitOf_any r n n 0 (by omega) (by omega) X h)
    have hsub : IntKind.i64.wrap (n - f) = (d : Int) := by rw [IntKind.wrap_i64]; omega
    have hd0 : (0 : Int) ≤ (d : Int) := by omega
    have hm2 : (b : Int) * 2 ^ min d 8 % 256 % 64 = ((b * 2 ^ min d 8 % 64 : Nat) : Int) := by
      rw [show (b : Int) * 2 ^ min d 8 = ((b * 2 ^ min d 8 : Nat) : Int) by simp]
      omega
    generalize b * 2 ^ min d 8 % 64 = p at hm2 ho HQ
    generalize (p ||| 1 : Nat) = q at ho HQ
    clear hbt hd
    go_enter Tryz.func71, Tryz.ntmps71
    go_wp2_with fail
    refine (K.out).mono ?_
    rintro e Y ⟨rfl, hy⟩
    have HY := Lib.hid (H.next hy)
    have HC := Lib.hid (Below.chg hy [r])
    have c0 := HY.out.c0
    have c1 := HY.out.c1
    have s1 := HY.out.free 1
    have s0 := HY.out.free 0
    clear K hy H
    go_wp2_with fail
    go_region
    all_goals
      rw [hm2]
      have HZ : Hid (VarP r SpanT (.int .i64 n) (.int .u8 (p : Int)) (((Y.setCell ⟨r, 1, none⟩ (.int .u8 (p : Int))).setCell ⟨r, 0, none⟩ (.int .i64 n)).drew)) := Lib.hid ((HY.out.set1 _).set0 _).drew
      have HD : Hid (Chg [r] w (((Y.setCell ⟨r, 1, none⟩ (.int .u8 (p : Int))).setCell ⟨r, 0, none⟩ (.int .i64 n)).drew)) := Lib.hid ((HC.out.trans ((Chg.cell Y r 1 _).trans (Chg.cell _ r 0 _))).trans (Below.chg (Below.drew (Below.refl _ _)) _))
      go_upto_region 6 with fail
      clear c0 c1 s0 s1 HY HC
      generalize ((Y.setCell ⟨r, 1, none⟩ (.int .u8 (p : Int))).setCell ⟨r, 0, none⟩ (.int .i64 n)).drew = Z at *
      have c0 := HZ.out.c0
      have c1 := HZ.out.c1
      have s1 := HZ.out.free 1
      have D := Lib.hid (HZ.out.drew)
      have DC : Hid (Chg [r] w Z.drew) := Lib.hid (HD.out.trans (Below.chg (Below.drew (Below.refl _ _)) _))
      have d0 := D.out.c0
      have d1 := D.out.c1
      have s9 := D.out.free 1
      clear HZ HD
      go_wp2_with fail
      go_region_with (first | (go_at_call 77; refine (K0.out _ (by assumption)).mono ?_; rintro e X ⟨rfl, rfl⟩))
      all_goals
        have E : Hid (Q (.returned (.bool true)) ((Z.setCell ⟨r, 1, none⟩ (.int .u8 (q : Int))).drew)) := Lib.hid (by
          rw [HQ.out]
          exact ⟨rfl, (D.out.set1 _), DC.out.trans (Chg.cell _ r 1 _)⟩)
        go_wp2_with fail
        exact E.out
  · obtain ⟨k, hk⟩ : ∃ k : Nat, (f - n).toNat = k := ⟨_, rfl⟩
    rw [show takeF f n = f from if_neg hlt, takeB_at hlt hk] at HQ
    rw [stand_three hn1 hn2 hlt hn (hbt hlt)] at K
    have hk6 : k < 6 := by omega
    have hp2 : (2 : Nat) ^ k < 2 ^ 6 := Nat.pow_lt_pow_right (by omega) hk6
    have ho := bits_or_u8_nat b (2 ^ k) (by omega) (by omega)
    have K0 := Lib.hid (fun (X : World) (h : X.cell? ⟨r, 0, none⟩ = some (.int .i64 f)) => bitOf_any r f n k hk6 (by omega) X h)
    generalize (b ||| 2 ^ k : Nat) = q at ho HQ
    generalize (2 ^ k : Nat) = p at ho K0
    clear hbt hk hp2
    go_enter Tryz.func71, Tryz.ntmps71
    go_wp2_with fail
    refine (K.out).mono ?_
    rintro e Z ⟨rfl, hy⟩
    have D := Lib.hid ((H.next hy).drew)
    have DC : Hid (Chg [r] w Z.drew) := Lib.hid ((Below.chg hy [r]).trans (Below.chg (Below.drew (Below.refl _ _)) _))
    have d0 := D.out.c0
    have d1 := D.out.c1
    have s1 := D.out.free 1
    have c0 := (H.next hy).c0
    have c1 := (H.next hy).c1
    have s2 := (H.next hy).free 1
    clear K hy H
    go_wp2_with fail
    go_region_with (first | (go_at_call 77; refine (K0.out _ (by assumption)).mono ?_; rintro e X ⟨rfl, rfl⟩))
    all_goals
      have E : Hid (Q (.returned (.bool true)) ((Z.setCell ⟨r, 1, none⟩ (.int .u8 (q : Int))).drew)) := Lib.hid (by
        rw [HQ.out]
        exact ⟨rfl, (D.out.set1 _), DC.out.trans (Chg.cell _ r 1 _)⟩)
      go_wp2_with fail
      exact E.out

end Go.Proofs.YtoaifgblbfdncabGreatDoor
namespace Go.Proofs.YtoaifgblbfdncabGreatDoor
open Go.RowKit

/-- The span that is made, in its variable, and the result's variable. -/
structure SP (w : World) (f : Int) (b : Nat) (X : World) : Prop where
  r : VarP w.heap.size SpanT (.int .i64 0) (.int .u8 0) X
  v : VarP (w.heap.size + 1) SpanT (.int .i64 f) (.int .u8 (b : Int)) X
  below : Below w.heap.size w X
theorem SP.next {w : World} {f : Int} {b : Nat} {X Y : World} (h : SP w f b X) (hb : Below X.heap.size X Y) : SP w f b Y := ⟨h.r.next hb, h.v.next hb, h.below.trans (hb.mono h.below.size)⟩
theorem SP.set0 {w : World} {f : Int} {b : Nat} {X : World} (h : SP w f b X) (x : Int) : SP w x b (X.setCell ⟨w.heap.size + 1, 0, none⟩ (.int .i64 x)) := ⟨h.r.only (Only.setCell 0 _) (by omega), h.v.set0 _, h.below.setCell (p := ⟨w.heap.size + 1, 0, none⟩) (by show w.heap.size ≤ w.heap.size + 1; omega) _⟩
theorem SP.set1 {w : World} {f : Int} {b : Nat} {X : World} (h : SP w f b X) (x : Nat) : SP w f x (X.setCell ⟨w.heap.size + 1, 1, none⟩ (.int .u8 (x : Int))) := ⟨h.r.only (Only.setCell 1 _) (by omega), h.v.set1 _, h.below.setCell (p := ⟨w.heap.size + 1, 1, none⟩) (by show w.heap.size ≤ w.heap.size + 1; omega) _⟩

/-- The next number in its place among the bits. -/
theorem span_next {xs : List Int} (hs : SeenP xs) {j : Nat} (hj : j < xs.length) {f f2 : Int} {b k : Nat} (h : SpanIs (xs.take j) f b) (h0 : j = 0 → f2 = xs[j]) (h1 : 0 < j → f2 = f) (hk : (f2 - xs[j]).toNat = k) : SpanIs (xs.take (j + 1)) f2 (b ||| 2 ^ k) ∧ k < 6 ∧ f2 - xs[j] = (k : Int) ∧ 0 ≤ f2 ∧ f2 ≤ 1000000000 := by
  have hx := hs.2.1 _ (List.getElem_mem hj)
  rcases Nat.eq_zero_or_pos j with e | e
  · subst e
    have h2 := h0 rfl
    obtain rfl : k = 0 := by omega
    obtain ⟨-, rfl⟩ := span_none (by rw [List.take_zero] at h; exact h)
    refine ⟨?_, by omega, by omega, by omega, by omega⟩
    rw [List.take_add_one, List.take_zero, List.getElem?_eq_getElem hj, h2]
    exact span_one _
  · have h2 := h1 e
    have hne : xs.take j ≠ [] := by
      intro h3
      have h4 := congrArg List.length h3
      rw [List.length_take, List.length_nil] at h4
      omega
    have hmem := top_mem hne
    have ht := h.top
    have h8 := List.length_pos_iff.2 hne
    have h3 := hs.2.1 _ (List.mem_of_mem_take hmem)
    have h5 : topZ (xs.take j) = topZ xs := by
      cases xs with
      | nil => exact absurd hj (by simp)
      | cons y l =>
        cases j with
        | zero => omega
        | succ j => rfl
    have h6 := top_most hs.2.2.1 _ (List.getElem_mem hj)
    have h7 := hs.2.2.2 _ (List.getElem_mem hj)
    subst h2
    refine ⟨?_, by omega, by omega, by omega, by omega⟩
    rw [List.take_add_one, List.getElem?_eq_getElem hj, ← hk]
    exact span_snoc h hne (by omega) (by omega)

set_option maxRecDepth 100000 in
set_option maxHeartbeats 1600000 in
theorem spanOf_any (xs : List Int) (v : Value) (hs : SeenP xs) (w : World) (h : layIntS.rd w [v] xs) :
    Calls Tryz.prog 63 #[v] w fun e w' => ∃ (f : Int) (b : Nat), e = .returned (.agg #[.int .i64 f, .int .u8 (b : Int)]) ∧ SpanIs xs f b ∧ (0 ≤ f ∧ f ≤ 1000000000) ∧ Below w.heap.size w w' := by
  obtain ⟨ao, cp, rfl⟩ := rows_form h
  have HR := Lib.hid h
  have HS := Lib.hid hs
  have hl : xs.length ≤ 6 := hs.1
  clear h hs
  obtain ⟨Q, HQ⟩ : ∃ Q : Ending → World → Prop, Hid (Q = fun e w' => ∃ (f : Int) (b : Nat), e = .returned (.agg #[.int .i64 f, .int .u8 (b : Int)]) ∧ SpanIs xs f b ∧ (0 ≤ f ∧ f ≤ 1000000000) ∧ Below w.heap.size w w') := ⟨_, Lib.hid rfl⟩
  rw [← HQ.out]
  go_enter Tryz.func63, Tryz.ntmps63
  have S0 : Hid (SP w 0 0 ((w.alloc (.cells #[.int .i64 0, .int .u8 0] SpanT)).alloc (.cells #[.int .i64 0, .int .u8 0] SpanT))) := Lib.hid ⟨(VarP.new w SpanT _ _).next ((Below.refl _ _).alloc (Nat.le_refl _) _), (by
    have h1 := VarP.new (w.alloc (.cells #[.int .i64 0, .int .u8 0] SpanT)) SpanT (.int .i64 0) (.int .u8 0)
    rwa [show (w.alloc (.cells #[.int .i64 0, .int .u8 0] SpanT)).heap.size = w.heap.size + 1 by simp] at h1), ((Below.refl w.heap.size w).alloc (Nat.le_refl _) _).alloc (by simp) _⟩
  go_upto_region 2 with fail
  generalize (w.alloc (.cells #[.int .i64 0, .int .u8 0] SpanT)).alloc (.cells #[.int .i64 0, .int .u8 0] SpanT) = Y1 at *
  go_wp2_with fail
  go_loopw [9] (fun c wr => ∃ (j : Nat) (f : Int) (b : Nat), j ≤ xs.length ∧ c = .int .i64 j ∧ 0 ≤ f ∧ f ≤ 1000000000 ∧ Hid (SpanIs (xs.take j) f b) ∧ Hid (SP w f b wr)) (fun c _ => xs.length - (intOf c).toNat)
  case atStart => exact ⟨0, 0, 0, Nat.zero_le _, rfl, by omega, by omega, Lib.hid (by rw [List.take_zero]; exact span_nil), S0⟩
  case round =>
    obtain ⟨j, f, b, hj, rfl, hf0, hf1, HI, HP⟩ := hrel
    clear S0
    by_cases hlt : j < xs.length
    · have hlt' : (j : Int) < (xs.length : Int) := by omega
      obtain ⟨g, off, c2, hv, -, x0⟩ := ints_get (layIntS.below HR.out HP.out.below) j hlt
      simp only [Value.slice.injEq] at hv
      obtain ⟨rfl, -, rfl⟩ := hv
      have hb := HI.out.lt
      rcases Nat.eq_zero_or_pos j with h0 | h0
      · obtain ⟨k, hk⟩ : ∃ k : Nat, (xs[j] - xs[j]).toNat = k := ⟨_, rfl⟩
        obtain ⟨hN, hk6, hfx, hf0', hf1'⟩ := span_next HS.out hlt HI.out (f2 := xs[j]) (fun _ => rfl) (fun e => by omega) hk
        have HN := Lib.hid hN
        have hp2 : (2 : Nat) ^ k < 2 ^ 6 := Nat.pow_lt_pow_right (by omega) hk6
        have ho := bits_or_u8_nat b (2 ^ k) (by omega) (by omega)
        have K0 := Lib.hid (fun (X : World) (h : X.cell? ⟨w.heap.size + 1, 0, none⟩ = some (.int .i64 (xs[j]))) => bitOf_any (w.heap.size + 1) (xs[j]) (xs[j]) k hk6 hfx X h)
        have hj0 : ((j : Int) == 0) = true := by rw [beq_iff_eq]; omega
        clear hN hk hfx HI h0
        generalize (b ||| 2 ^ k : Nat) = q at ho HN
        generalize (2 ^ k : Nat) = p at ho K0 hp2
        generalize xs[j] = x at *
        have HP2 := Lib.hid (HP.out.set0 x)
        have c0 := HP.out.v.c0
        have s0 := HP.out.v.free 0
        go_upto_region 7 with fail
        generalize wr.setCell ⟨w.heap.size + 1, 0, none⟩ (.int .i64 x) = Z at *
        have D : Hid (SP w x b Z.drew) := Lib.hid (HP2.out.next (Below.drew (Below.refl _ _)))
        have d0 := D.out.v.c0
        have d1 := D.out.v.c1
        have s1 := D.out.v.free 1
        have e0 := HP2.out.v.c0
        have e1 := HP2.out.v.c1
        have s2 := HP2.out.v.free 1
        have HF : Hid (SP w x q ((Z.setCell ⟨w.heap.size + 1, 1, none⟩ (.int .u8 (q : Int))).drew)) := Lib.hid (by
          have := D.out.set1 q
          exact this)
        clear HP HP2 D hp2 c0 s0 x0
        go_wp2_with fail
        go_region_with (first | (go_at_call 77; refine (K0.out _ (by assumption)).mono ?_; rintro e X ⟨rfl, rfl⟩))
        all_goals
          go_wp2_with fail
          go_roundw
          case rel => exact ⟨j + 1, x, q, by omega, by go_num, hf0', hf1', HN, HF⟩
          case measure => simp [intOf]; omega
      · obtain ⟨k, hk⟩ : ∃ k : Nat, (f - xs[j]).toNat = k := ⟨_, rfl⟩
        obtain ⟨hN, hk6, hfx, hf0', hf1'⟩ := span_next HS.out hlt HI.out (f2 := f) (fun e => by omega) (fun _ => rfl) hk
        have HN := Lib.hid hN
        have hp2 : (2 : Nat) ^ k < 2 ^ 6 := Nat.pow_lt_pow_right (by omega) hk6
        have ho := bits_or_u8_nat b (2 ^ k) (by omega) (by omega)
        have K0 := Lib.hid (fun (X : World) (h : X.cell? ⟨w.heap.size + 1, 0, none⟩ = some (.int .i64 f)) => bitOf_any (w.heap.size + 1) f (xs[j]) k hk6 hfx X h)
        have hj0 : ((j : Int) == 0) = false := by rw [beq_eq_false_iff_ne]; omega
        clear hN hk hfx hf0' hf1' HI
        generalize (b ||| 2 ^ k : Nat) = q at ho HN
        generalize (2 ^ k : Nat) = p at ho K0 hp2
        generalize xs[j] = x at *
        have D : Hid (SP w f b wr.drew) := Lib.hid (HP.out.next (Below.drew (Below.refl _ _)))
        have d0 := D.out.v.c0
        have d1 := D.out.v.c1
        have s1 := D.out.v.free 1
        have c0 := HP.out.v.c0
        have c1 := HP.out.v.c1
        have s2 := HP.out.v.free 1
        have HF : Hid (SP w f q ((wr.setCell ⟨w.heap.size + 1, 1, none⟩ (.int .u8 (q : Int))).drew)) := Lib.hid (by
          have := D.out.set1 q
          exact this)
        clear HP D hp2
        go_wp2_with fail
        go_region_with (first | (go_at_call 77; refine (K0.out _ (by assumption)).mono ?_; rintro e X ⟨rfl, rfl⟩))
        all_goals
          go_wp2_with fail
          go_roundw
          case rel => exact ⟨j + 1, f, q, by omega, by go_num, hf0, hf1, HN, HF⟩
          case measure => simp [intOf]; omega
    · have hlt' : ¬ ((j : Int) < (xs.length : Int)) := by omega
      obtain rfl : j = xs.length := by omega
      have E : Hid (Q (.returned (.agg #[.int .i64 f, .int .u8 (b : Int)])) ((wr.setCell ⟨w.heap.size, 0, none⟩ (.int .i64 f)).setCell ⟨w.heap.size, 1, none⟩ (.int .u8 (b : Int)))) := by
        rw [HQ.out]
        refine Lib.hid ⟨f, b, rfl, (by have := HI.out; rwa [List.take_length] at this), ⟨hf0, hf1⟩, (HP.out.below.setCell (p := ⟨w.heap.size, 0, none⟩) (Nat.le_refl _) _).setCell (p := ⟨w.heap.size, 1, none⟩) (Nat.le_refl _) _⟩
      have c0 := HP.out.v.c0
      have c1 := HP.out.v.c1
      have e0 := HP.out.r.c0
      have e1 := HP.out.r.c1
      have s0 := HP.out.r.free 0
      have s1 := HP.out.r.free 1
      have r0 := (HP.out.r.set2 (.int .i64 f) (.int .u8 (b : Int))).c0
      have r1 := (HP.out.r.set2 (.int .i64 f) (.int .u8 (b : Int))).c1
      clear HP HI
      go_wp2_with fail
      exact bodyPost_ret (v := .agg #[.int .i64 f, .int .u8 (b : Int)]) (by simp [results, Tryz.results63, go_sem, r0, r1]) rfl E.out

end Go.Proofs.YtoaifgblbfdncabGreatDoor
namespace Go.Proofs.YtoaifgblbfdncabGreatDoor
open Go.RowKit

theorem span_range {xs : List Int} {f : Int} {b : Nat} (hs : SeenP xs) (h : SpanIs xs f b) : 0 ≤ f ∧ f ≤ 1000000000 := by
  have ht := h.top
  by_cases e : xs = []
  · subst e
    have : topZ [] = 0 := rfl
    omega
  · have := hs.2.1 _ (top_mem e)
    omega

set_option maxRecDepth 100000 in
set_option maxHeartbeats 1600000 in
theorem implIsFresh_bool (xs : List Int) (n : Int) (v : Value) (b : Bool) (hb : b = true ↔ FreshP xs n) (hl : xs.length ≤ 100000000) (hwf : ∀ x ∈ xs, IntZ x) (_hwn : IntZ n) (w : World) (h : layIntS.rd w [v] xs) :
    Calls Tryz.prog 47 #[v, .int .i64 n] w fun e w' => e = .returned (.bool b) ∧ Below w.heap.size w w' := by
  obtain ⟨ao, cp, rfl⟩ := rows_form h
  have HF : Hid (¬ FreshP xs n → b = false) := Lib.hid (fun h => by
    cases b with
    | false => rfl
    | true => exact absurd (hb.1 rfl) h)
  go_enter Tryz.func47, Tryz.ntmps47
  by_cases hs : SeenP xs
  rotate_left
  · obtain rfl := HF.out (fun h => hs h.1)
    have K := Lib.hid (implSeenOk_bool xs _ false ⟨fun e => (by cases e), fun e => absurd e hs⟩ hl hwf w h)
    clear h hb HF hs hwf
    go_wp2_with fail
    refine (K.out).mono ?_
    rintro e Y ⟨rfl, hy⟩
    have B := Lib.hid hy
    clear hy K
    go_wp2_with fail
    go_ret
    exact ⟨rfl, B.out⟩
  have K := Lib.hid (implSeenOk_bool xs _ true ⟨fun _ => hs, fun _ => rfl⟩ hl hwf w h)
  have HR := Lib.hid h
  have HS := Lib.hid hs
  have HBF := Lib.hid hb
  clear h hwf HF hs hb
  go_wp2_with fail
  refine (K.out).mono ?_
  rintro e Y ⟨rfl, hy⟩
  have B := Lib.hid hy
  have K2 := Lib.hid (spanOf_any xs _ HS.out Y (layIntS.below HR.out hy))
  clear hy K HR
  go_wp2_with fail
  refine (K2.out).mono ?_
  rintro e Z ⟨f, c, rfl, hI, ⟨hf0, hf1⟩, hz⟩
  have B2 := Lib.hid (B.out.trans (hz.mono B.out.size))
  have HFR := Lib.hid (stand_fresh (n := n) HS.out hI)
  have hc := hI.lt
  clear hI hz K2 B
  have HV : Hid (VarP Z.heap.size SpanT (.int .i64 f) (.int .u8 (c : Int)) (Z.alloc (.cells #[.int .i64 f, .int .u8 (c : Int)] SpanT))) := Lib.hid (VarP.new Z SpanT _ _)
  have B3 : Hid (Below w.heap.size w (Z.alloc (.cells #[.int .i64 f, .int .u8 (c : Int)] SpanT))) := Lib.hid (B2.out.alloc B2.out.size _)
  go_upto_region 4 with fail
  generalize Z.alloc (.cells #[.int .i64 f, .int .u8 (c : Int)] SpanT) = X at *
  have K3 := Lib.hid (standOf_any Z.heap.size f n c hf0 hf1 hc X HV.out)
  have hst : decide (3 ≤ standN f c n) = b := by
    cases b with
    | true => exact decide_eq_true (HFR.out.2 (HBF.out.1 rfl))
    | false => exact decide_eq_false (fun h => by have := HBF.out.2 (HFR.out.1 h); cases this)
  clear HV HFR HBF B2
  generalize standN f c n = s at *
  go_wp2_with fail
  refine (K3.out).mono ?_
  rintro e X2 ⟨rfl, hx⟩
  have E := Lib.hid (B3.out.trans (hx.mono B3.out.size))
  clear K3 hx B3
  go_wp2_with fail
  go_ret
  exact ⟨rfl, E.out⟩

end Go.Proofs.YtoaifgblbfdncabGreatDoor
