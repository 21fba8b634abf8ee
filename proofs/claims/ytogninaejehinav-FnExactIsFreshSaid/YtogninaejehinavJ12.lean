/-
  The program's spanOf: right numbers as a first one and bits.
  The program's IsFresh (and SeenOk).
  The test package's functions over rows of ints: held against each other, marked, found marked.
-/
import Derived.Test.YtogninaejehinavJ09
import Derived.Test.YtogninaejehinavJ11
import Derived.Test.YtogninaejehinavJ08
import Derived.Test.YtogninaejehinavJ10
import Derived.BigQuiet
import Derived.Deep.QuietTactic
namespace Go.Proofs.Ytogninaejehinav
open Go.RowKit

/-- The span that is made, in its variable, and the result's variable. -/
structure SP (w : World) (f : Int) (b : Nat) (X : World) : Prop where
  r : VarP w.heap.size SpanT (.int .i64 0) (.int .u8 0) X
  v : VarP (w.heap.size + 1) SpanT (.int .i64 f) (.int .u8 (b : Int)) X
  below : Below w.heap.size w X
theorem SP.next {w : World} {f : Int} {b : Nat} {X Y : World} (h : SP w f b X) (hb : Below X.heap.size X Y) : SP w f b Y := ⟨h.r.next hb, h.v.next hb, h.below.trans (hb.mono h.below.size)⟩
theorem SP.set0 {w : World} {f : Int} {b : Nat} {X : World} (h : SP w f b X) (x : Int) : SP w x b (X.setCell ⟨w.heap.size + 1, 0, none⟩ (.int .i64 x)) := ⟨h.r.only (Only.setCell 0 _) (by omega), h.v.set0 _, h.below.setCell (p := ⟨w.heap.size + 1, 0, none⟩) (by show w.heap.size ≤ w.heap.size + 1; omega) _⟩
theorem SP.set1 {w : World} {f : Int} {b : Nat} {X : World} (h : SP w f b X) (x : Nat) : SP w f x (X.setCell ⟨w.heap.size + 1, 1, none⟩ (.int .u8 (x : Int))) := ⟨h.r.only (Only.setCell 1 _) (by omega), h.v.set1 _, h.below.setCell (p := ⟨w.heap.size + 1, 1, none⟩) (by show w.heap.size ≤ w.heap.size + 1; omega) _⟩

/-- The next number in its place among the bits. -/
theorem span_next {xs : List Int} (hs : SeenP xs) {j : Nat} (hj : j < xs.length) {f f2 : Int} {b k : Nat} (h : SpanIs (xs.take j) f b) (h0 : j = 0 → f2 = xs[j]) (h1 : 0 < j → f2 = f) (hk : (f2 - xs[j]).toNat = k) : SpanIs (xs.take (j + 1)) f2 (b ||| 2 ^ k) ∧ k < 6 ∧ f2 - xs[j] = (k : Int) ∧ 0 ≤ f2 ∧ f2 ≤ 1000000000 := by
  have hx := hs.2.1 _ (List.getElem_mem hj)
  rcases Nat.eq_zero_or_pos j with e | e
  · subst e
    have h2 := h0 rfl
    obtain rfl : k = 0 := by omega
    obtain ⟨-, rfl⟩ := span_none (by rw [List.take_zero] at h; exact h)
    refine ⟨?_, by omega, by omega, by omega, by omega⟩
    rw [List.take_add_one, List.take_zero, List.getElem?_eq_getElem hj, h2]
    exact span_one _
  · have h2 := h1 e
    have hne : xs.take j ≠ [] := by
      intro h3
      have h4 := congrArg List.length h3
      rw [List.length_take, List.length_nil] at h4
      omega
    have hmem := top_mem hne
    have ht := h.top
    have h8 := List.length_pos_iff.2 hne
    have h3 := hs.2.1 _ (List.mem_of_mem_take hmem)
    have h5 : topZ (xs.take j) = topZ xs := by
      cases xs with
      | nil => exact absurd hj (by simp)
      | cons y l =>
        cases j with
        | zero => omega
        | succ j => rfl
    have h6 := top_most hs.2.2.1 _ (List.getElem_mem hj)
    have h7 := hs.2.2.2 _ (List.getElem_mem hj)
    subst h2
    refine ⟨?_, by omega, by omega, by omega, by omega⟩
    rw [List.take_add_one, List.getElem?_eq_getElem hj, ← hk]
    exact span_snoc h hne (by omega) (by omega)

set_option maxRecDepth 100000 in
set_option maxHeartbeats 1600000 in
theorem spanOf_any (xs : List Int) (v : Value) (hs : SeenP xs) (w : World) (h : layIntS.rd w [v] xs) :
    Calls Try.prog 33 #[v] w fun e w' => ∃ (f : Int) (b : Nat), e = .returned (.agg #[.int .i64 f, .int .u8 (b : Int)]) ∧ SpanIs xs f b ∧ (0 ≤ f ∧ f ≤ 1000000000) ∧ Below w.heap.size w w' := by
  obtain ⟨ao, cp, rfl⟩ := rows_form h
  have HR := Lib.hid h
  have HS := Lib.hid hs
  have hl : xs.length ≤ 6 := hs.1
  clear h hs
  obtain ⟨Q, HQ⟩ : ∃ Q : Ending → World → Prop, Hid (Q = fun e w' => ∃ (f : Int) (b : Nat), e = .returned (.agg #[.int .i64 f, .int .u8 (b : Int)]) ∧ SpanIs xs f b ∧ (0 ≤ f ∧ f ≤ 1000000000) ∧ Below w.heap.size w w') := ⟨_, Lib.hid rfl⟩
  rw [← HQ.out]
  go_enter Try.func33, Try.ntmps33
  have S0 : Hid (SP w 0 0 ((w.alloc (.cells #[.int .i64 0, .int .u8 0] SpanT)).alloc (.cells #[.int .i64 0, .int .u8 0] SpanT))) := Lib.hid ⟨(VarP.new w SpanT _ _).next ((Below.refl _ _).alloc (Nat.le_refl _) _), (by
    have h1 := VarP.new (w.alloc (.cells #[.int .i64 0, .int .u8 0] SpanT)) SpanT (.int .i64 0) (.int .u8 0)
    rwa [show (w.alloc (.cells #[.int .i64 0, .int .u8 0] SpanT)).heap.size = w.heap.size + 1 by simp] at h1), ((Below.refl w.heap.size w).alloc (Nat.le_refl _) _).alloc (by simp) _⟩
  go_upto_region 2 with fail
  generalize (w.alloc (.cells #[.int .i64 0, .int .u8 0] SpanT)).alloc (.cells #[.int .i64 0, .int .u8 0] SpanT) = Y1 at *
  go_wp2_with fail
  go_loopw [9] (fun c wr => ∃ (j : Nat) (f : Int) (b : Nat), j ≤ xs.length ∧ c = .int .i64 j ∧ 0 ≤ f ∧ f ≤ 1000000000 ∧ Hid (SpanIs (xs.take j) f b) ∧ Hid (SP w f b wr)) (fun c _ => xs.length - (intOf c).toNat)
  case atStart => exact ⟨0, 0, 0, Nat.zero_le _, rfl, by omega, by omega, Lib.hid (by rw [List.take_zero]; exact span_nil), S0⟩
  case round =>
    obtain ⟨j, f, b, hj, rfl, hf0, hf1, HI, HP⟩ := hrel
    clear S0
    by_cases hlt : j < xs.length
    · have hlt' : (j : Int) < (xs.length : Int) := by omega
      obtain ⟨g, off, c2, hv, -, x0⟩ := ints_get (layIntS.below HR.out HP.out.below) j hlt
      simp only [Value.slice.injEq] at hv
      obtain ⟨rfl, -, rfl⟩ := hv
      have hb := HI.out.lt
      rcases Nat.eq_zero_or_pos j with h0 | h0
      · obtain ⟨k, hk⟩ : ∃ k : Nat, (xs[j] - xs[j]).toNat = k := ⟨_, rfl⟩
        obtain ⟨hN, hk6, hfx, hf0', hf1'⟩ := span_next HS.out hlt HI.out (f2 := xs[j]) (fun _ => rfl) (fun e => by omega) hk
        have HN := Lib.hid hN
        have hp2 : (2 : Nat) ^ k < 2 ^ 6 := Nat.pow_lt_pow_right (by omega) hk6
        have ho := bits_or_u8_nat b (2 ^ k) (by omega) (by omega)
        have K0 := Lib.hid (fun (X : World) (h : X.cell? ⟨w.heap.size + 1, 0, none⟩ = some (.int .i64 (xs[j]))) => bitOf_any (w.heap.size + 1) (xs[j]) (xs[j]) k hk6 hfx X h)
        have hj0 : ((j : Int) == 0) = true := by rw [beq_iff_eq]; omega
        clear hN hk hfx HI h0
        generalize (b ||| 2 ^ k : Nat) = q at ho HN
        generalize (2 ^ k : Nat) = p at ho K0 hp2
        generalize xs[j] = x at *
        have HP2 := Lib.hid (HP.out.set0 x)
        have c0 := HP.out.v.c0
        have s0 := HP.out.v.free 0
        go_upto_region 7 with fail
        generalize wr.setCell ⟨w.heap.size + 1, 0, none⟩ (.int .i64 x) = Z at *
        have D : Hid (SP w x b Z.drew) := Lib.hid (HP2.out.next (Below.drew (Below.refl _ _)))
        have d0 := D.out.v.c0
        have d1 := D.out.v.c1
        have s1 := D.out.v.free 1
        have e0 := HP2.out.v.c0
        have e1 := HP2.out.v.c1
        have s2 := HP2.out.v.free 1
        have HF : Hid (SP w x q ((Z.setCell ⟨w.heap.size + 1, 1, none⟩ (.int .u8 (q : Int))).drew)) := Lib.hid (by
          have := D.out.set1 q
          exact this)
        clear HP HP2 D hp2 c0 s0 x0
        go_wp2_with fail
        go_region_with (first | (go_at_call 40; refine (K0.out _ (by assumption)).mono ?_; rintro e X ⟨rfl, rfl⟩))
        all_goals
          go_wp2_with fail
          go_roundw
          case rel => exact ⟨j + 1, x, q, by omega, by go_num, hf0', hf1', HN, HF⟩
          case measure => simp [intOf]; omega
      · obtain ⟨k, hk⟩ : ∃ k : Nat, (f - xs[j]).toNat = k := ⟨_, rfl⟩
        obtain ⟨hN, hk6, hfx, hf0', hf1'⟩ := span_next HS.out hlt HI.out (f2 := f) (fun e => by omega) (fun _ => rfl) hk
        have HN := Lib.hid hN
        have hp2 : (2 : Nat) ^ k < 2 ^ 6 := Nat.pow_lt_pow_right (by omega) hk6
        have ho := bits_or_u8_nat b (2 ^ k) (by omega) (by omega)
        have K0 := Lib.hid (fun (X : World) (h : X.cell? ⟨w.heap.size + 1, 0, none⟩ = some (.int .i64 f)) => bitOf_any (w.heap.size + 1) f (xs[j]) k hk6 hfx X h)
        have hj0 : ((j : Int) == 0) = false := by rw [beq_eq_false_iff_ne]; omega
        clear hN hk hfx hf0' hf1' HI
        generalize (b ||| 2 ^ k : Nat) = q at ho HN
        generalize (2 ^ k : Nat) = p at ho K0 hp2
        generalize xs[j] = x at *
        have D : Hid (SP w f b wr.drew) := Lib.hid (HP.out.next (Below.drew (Below.refl _ _)))
        have d0 := D.out.v.c0
        have d1 := D.out.v.c1
        have s1 := D.out.v.free 1
        have c0 := HP.out.v.c0
        have c1 := HP.out.v.c1
        have s2 := HP.out.v.free 1
        have HF : Hid (SP w f q ((wr.setCell ⟨w.heap.size + 1, 1, none⟩ (.int .u8 (q : Int))).drew)) := Lib.hid (by
          have := D.out.set1 q
          exact this)
        clear HP D hp2
        go_wp2_with fail
        go_region_with (first | (go_at_call 40; refine (K0.out _ (by assumption)).mono ?_; rintro e X ⟨rfl, rfl⟩))
        all_goals
          go_wp2_with fail
          go_roundw
          case rel => exact ⟨j + 1, f, q, by omega, by go_num, hf0, hf1, HN, HF⟩
          case measure => simp [intOf]; omega
    · have hlt' : ¬ ((j : Int) < (xs.length : Int)) := by omega
      obtain rfl : j = xs.length := by omega
      have E : Hid (Q (.returned (.agg #[.int .i64 f, .int .u8 (b : Int)])) ((wr.setCell ⟨w.heap.size, 0, none⟩ (.int .i64 f)).setCell ⟨w.heap.size, 1, none⟩ (.int .u8 (b : Int)))) := by
        rw [HQ.out]
        refine Lib.hid ⟨f, b, rfl, (by have := HI.out; rwa [List.take_length] at this), ⟨hf0, hf1⟩, (HP.out.below.setCell (p := ⟨w.heap.size, 0, none⟩) (Nat.le_refl _) _).setCell (p := ⟨w.heap.size, 1, none⟩) (Nat.le_refl _) _⟩
      have c0 := HP.out.v.c0
      have c1 := HP.out.v.c1
      have e0 := HP.out.r.c0
      have e1 := HP.out.r.c1
      have s0 := HP.out.r.free 0
      have s1 := HP.out.r.free 1
      have r0 := (HP.out.r.set2 (.int .i64 f) (.int .u8 (b : Int))).c0
      have r1 := (HP.out.r.set2 (.int .i64 f) (.int .u8 (b : Int))).c1
      clear HP HI
      go_wp2_with fail
      exact bodyPost_ret (v := .agg #[.int .i64 f, .int .u8 (b : Int)]) (by simp [results, Try.results33, go_sem, r0, r1]) rfl E.out

end Go.Proofs.Ytogninaejehinav
namespace Go.Proofs.Ytogninaejehinav
open Go.RowKit

theorem span_range {xs : List Int} {f : Int} {b : Nat} (hs : SeenP xs) (h : SpanIs xs f b) : 0 ≤ f ∧ f ≤ 1000000000 := by
  have ht := h.top
  by_cases e : xs = []
  · subst e
    have : topZ [] = 0 := rfl
    omega
  · have := hs.2.1 _ (top_mem e)
    omega

set_option maxRecDepth 100000 in
set_option maxHeartbeats 1600000 in
theorem implIsFresh_bool (xs : List Int) (n : Int) (v : Value) (b : Bool) (hb : b = true ↔ FreshP xs n) (hl : xs.length ≤ 100000000) (hwf : ∀ x ∈ xs, IntZ x) (_hwn : IntZ n) (w : World) (h : layIntS.rd w [v] xs) :
    Calls Try.prog 19 #[v, .int .i64 n] w fun e w' => e = .returned (.bool b) ∧ Below w.heap.size w w' := by
  obtain ⟨ao, cp, rfl⟩ := rows_form h
  have HF : Hid (¬ FreshP xs n → b = false) := Lib.hid (fun h => by
    cases b with
    | false => rfl
    | true => exact absurd (hb.1 rfl) h)
  go_enter Try.func19, Try.ntmps19
  by_cases hs : SeenP xs
  rotate_left
  · obtain rfl := HF.out (fun h => hs h.1)
    have K := Lib.hid (implSeenOk_bool xs _ false ⟨fun e => (by cases e), fun e => absurd e hs⟩ hl hwf w h)
    clear h hb HF hs hwf
    go_wp2_with fail
    refine (K.out).mono ?_
    rintro e Y ⟨rfl, hy⟩
    have B := Lib.hid hy
    clear hy K
    go_wp2_with fail
    go_ret
    exact ⟨rfl, B.out⟩
  have K := Lib.hid (implSeenOk_bool xs _ true ⟨fun _ => hs, fun _ => rfl⟩ hl hwf w h)
  have HR := Lib.hid h
  have HS := Lib.hid hs
  have HBF := Lib.hid hb
  clear h hwf HF hs hb
  go_wp2_with fail
  refine (K.out).mono ?_
  rintro e Y ⟨rfl, hy⟩
  have B := Lib.hid hy
  have K2 := Lib.hid (spanOf_any xs _ HS.out Y (layIntS.below HR.out hy))
  clear hy K HR
  go_wp2_with fail
  refine (K2.out).mono ?_
  rintro e Z ⟨f, c, rfl, hI, ⟨hf0, hf1⟩, hz⟩
  have B2 := Lib.hid (B.out.trans (hz.mono B.out.size))
  have HFR := Lib.hid (stand_fresh (n := n) HS.out hI)
  have hc := hI.lt
  clear hI hz K2 B
  have HV : Hid (VarP Z.heap.size SpanT (.int .i64 f) (.int .u8 (c : Int)) (Z.alloc (.cells #[.int .i64 f, .int .u8 (c : Int)] SpanT))) := Lib.hid (VarP.new Z SpanT _ _)
  have B3 : Hid (Below w.heap.size w (Z.alloc (.cells #[.int .i64 f, .int .u8 (c : Int)] SpanT))) := Lib.hid (B2.out.alloc B2.out.size _)
  go_upto_region 4 with fail
  generalize Z.alloc (.cells #[.int .i64 f, .int .u8 (c : Int)] SpanT) = X at *
  have K3 := Lib.hid (standOf_any Z.heap.size f n c hf0 hf1 hc X HV.out)
  have hst : decide (3 ≤ standN f c n) = b := by
    cases b with
    | true => exact decide_eq_true (HFR.out.2 (HBF.out.1 rfl))
    | false => exact decide_eq_false (fun h => by have := HBF.out.2 (HFR.out.1 h); cases this)
  clear HV HFR HBF B2
  generalize standN f c n = s at *
  go_wp2_with fail
  refine (K3.out).mono ?_
  rintro e X2 ⟨rfl, hx⟩
  have E := Lib.hid (B3.out.trans (hx.mono B3.out.size))
  clear K3 hx B3
  go_wp2_with fail
  go_ret
  exact ⟨rfl, E.out⟩

end Go.Proofs.Ytogninaejehinav
namespace Go.Proofs.Ytogninaejehinav
open Go.RowKit

/-- The numbers from k on. -/
def upI (k : Int) (n : Nat) : List Int := (List.range n).map fun (j : Nat) => k + (j : Int)
theorem upI_length (k : Int) (n : Nat) : (upI k n).length = n := by simp [upI]
theorem upI_get (k : Int) (n j : Nat) (h : j < (upI k n).length) : (upI k n)[j] = k + (j : Int) := by simp [upI]
/-- The first j of a list are marked. -/
def partI (k : Int) (xs : List Int) (j : Nat) : List Int := upI k j ++ xs.drop j
theorem partI_length (k : Int) (xs : List Int) (j : Nat) (h : j ≤ xs.length) : (partI k xs j).length = xs.length := by
  unfold partI
  rw [List.length_append, upI_length, List.length_drop]
  omega
theorem partI_next (k : Int) (xs : List Int) (j : Nat) (h : j < xs.length) : (partI k xs j).set j (k + (j : Int)) = partI k xs (j + 1) := by
  unfold partI
  have e : upI k (j + 1) = upI k j ++ [k + (j : Int)] := by simp [upI, List.range_succ]
  have hl : (upI k j).length = j := upI_length k j
  rw [e, List.set_append_right _ _ (by omega), hl, Nat.sub_self, List.append_assoc]
  congr 1
  rw [← List.getElem_cons_drop h]
  rfl

set_option maxRecDepth 100000 in
set_option maxHeartbeats 800000 in
theorem markIntS_any (v : Value) (xs : List Int) (b : Nat) (fp : List Nat) (k : Int) (hk0 : 0 ≤ k) (hk1 : k ≤ 1000000000) (hl : xs.length ≤ 100000000) (w : World) (hd : fp.Nodup) (ho : layIntS.own w b fp [v] xs) :
    Calls Try.prog 22 #[v, .int .i64 k] w fun e w' => e = .returned (.int .i64 (k + (xs.length : Int))) ∧ layIntS.own w' b fp [v] (upI k xs.length) ∧ Chg fp w w' := by
  obtain ⟨ao, cp, rfl⟩ := rows_form (layIntS.read ho)
  have HO := Lib.hid ho
  clear ho
  go_enter Try.func22, Try.ntmps22
  go_wp2_with fail
  go_loopw [1, 5] (fun q c wr => ∃ j : Nat, j ≤ xs.length ∧ q = .int .i64 (k + (j : Int)) ∧ c = .int .i64 j ∧ layIntS.own wr b fp [.slice ao xs.length cp] (partI k xs j) ∧ Chg fp w wr) (fun _ c _ => xs.length - (intOf c).toNat)
  case atStart => exact ⟨0, Nat.zero_le _, by simp, rfl, HO.out, Chg.refl _ _⟩
  case round =>
    obtain ⟨j, hj, rfl, rfl, hO, hC⟩ := hrel
    clear HO
    by_cases hlt : j < xs.length
    · have hlt' : (j : Int) < (xs.length : Int) := by omega
      obtain ⟨g, cap, hv, hbg, hgl, hin, hcell, hfree, hown, hchg⟩ := ints_put hO hd j (by rw [partI_length k xs j (by omega)]; exact hlt) (k + (j : Int))
      simp only [Value.slice.injEq] at hv
      obtain ⟨rfl, -, rfl⟩ := hv
      rw [partI_next k xs j hlt] at hown
      have HN := Lib.hid hown
      have HC := Lib.hid (hC.trans hchg)
      generalize (partI k xs j)[j]'(by rw [partI_length k xs j (by omega)]; exact hlt) = old at hcell
      clear hown hchg hO hC
      go_wp2_with fail
      go_roundw
      case rel => exact ⟨j + 1, hlt, by push_cast; rw [← Int.add_assoc], by go_num, HN.out, HC.out⟩
      case measure => simp [intOf]; omega
    · have hlt' : ¬ ((j : Int) < (xs.length : Int)) := by omega
      have hje : j = xs.length := by omega
      subst hje
      have e : partI k xs xs.length = upI k xs.length := by unfold partI; rw [List.drop_length, List.append_nil]
      rw [e] at hO
      go_wp2_with fail
      go_ret
      exact ⟨rfl, hO, hC⟩

set_option maxRecDepth 100000 in
set_option maxHeartbeats 800000 in
theorem heldIntS_any (v : Value) (n : Nat) (k : Int) (hk0 : 0 ≤ k) (hk1 : k ≤ 1000000000) (hl : n ≤ 100000000) (w : World) (h : layIntS.rd w [v] (upI k n)) :
    Calls Try.prog 23 #[v, .int .i64 k] w fun e w' => e = .returned (.int .i64 (k + (n : Int))) ∧ w' = w := by
  obtain ⟨ao, cp, hv⟩ := rows_form h
  rw [upI_length] at hv
  subst hv
  have HR := Lib.hid h
  clear h
  go_enter Try.func23, Try.ntmps23
  go_wp2_with fail
  go_loop [1, 5] (fun q c => ∃ j : Nat, j ≤ n ∧ q = .int .i64 (k + (j : Int)) ∧ c = .int .i64 j) (fun _ c => n - (intOf c).toNat)
  case atStart => exact ⟨0, Nat.zero_le _, by simp, rfl⟩
  case round =>
    obtain ⟨j, hj, rfl, rfl⟩ := hrel
    by_cases hlt : j < n
    · have hlt' : (j : Int) < (n : Int) := by omega
      obtain ⟨g, off, cap, hv, hg, hcell⟩ := ints_get HR.out j (by rw [upI_length]; exact hlt)
      simp only [Value.slice.injEq] at hv
      obtain ⟨rfl, -, rfl⟩ := hv
      rw [upI_get] at hcell
      go_wp2_with fail
      go_round
      case rel => exact ⟨j + 1, hlt, by push_cast; rw [← Int.add_assoc], by go_num⟩
      case measure => simp [intOf]; omega
    · have hlt' : ¬ ((j : Int) < (n : Int)) := by omega
      have hje : j = n := by omega
      subst hje
      go_wp2_with fail
      go_ret
      exact ⟨rfl, rfl⟩

set_option maxRecDepth 100000 in
set_option maxHeartbeats 800000 in
theorem eqIntS_same (v u : Value) (xs : List Int) (hl : xs.length ≤ 100000000) (w : World) (hv : layIntS.rd w [v] xs) (hu : layIntS.rd w [u] xs) :
    Calls Try.prog 17 #[v, u] w fun e w' => e = .returned (.bool true) ∧ Below w.heap.size w w' := by
  obtain ⟨ao, cp, rfl⟩ := rows_form hv
  obtain ⟨bo, dp, rfl⟩ := rows_form hu
  have HV := Lib.hid hv
  have HU := Lib.hid hu
  clear hv hu
  go_enter Try.func17, Try.ntmps17
  go_wp2_with fail
  go_loopw [5] (fun c wr => ∃ j : Nat, j ≤ xs.length ∧ c = .int .i64 j ∧ Below w.heap.size w wr) (fun c _ => xs.length - (intOf c).toNat)
  case atStart => exact ⟨0, Nat.zero_le _, rfl, Below.refl _ _⟩
  case round =>
    obtain ⟨j, hj, rfl, hb⟩ := hrel
    have HB := Lib.hid hb
    by_cases hlt : j < xs.length
    · have hlt' : (j : Int) < (xs.length : Int) := by omega
      obtain ⟨g, off, cap, hv, hg, hcell⟩ := ints_get (layIntS.below HV.out hb) j hlt
      simp only [Value.slice.injEq] at hv
      obtain ⟨rfl, -, rfl⟩ := hv
      obtain ⟨g2, off2, cap2, hv2, hg2, hcell2⟩ := ints_get (layIntS.below HU.out hb) j hlt
      simp only [Value.slice.injEq] at hv2
      obtain ⟨rfl, -, rfl⟩ := hv2
      generalize xs[j] = x at hcell hcell2
      clear hb
      go_wp2_with fail
      go_quiet (fail)
      go_wp2_with fail
      go_roundw
      case rel => exact ⟨j + 1, by omega, by go_num, below_drewN HB.out _⟩
      case measure => simp [intOf]; omega
    · have hlt' : ¬ ((j : Int) < (xs.length : Int)) := by omega
      go_wp2_with fail
      go_ret
      exact ⟨rfl, hb⟩

end Go.Proofs.Ytogninaejehinav
