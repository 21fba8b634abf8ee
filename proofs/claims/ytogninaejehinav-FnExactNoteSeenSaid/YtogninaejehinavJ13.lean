/-
  The program's NoteSeen.
  The test package's functions over rows of ints: held against each other, marked, found marked.
  A row of ints laid anew.
-/
import Derived.Test.YtogninaejehinavJ12
import Derived.Test.YtogninaejehinavJ08
import Derived.Test.YtogninaejehinavJ10
import Derived.BigQuiet
import Derived.Deep.QuietTactic
namespace Go.Proofs.Ytogninaejehinav
open Go.RowKit

set_option maxRecDepth 100000 in
set_option maxHeartbeats 3200000 in
theorem implNoteSeen_any (xs : List Int) (n : Int) (v : Value) (r : List Int) (hr : NoteIs xs n r) (hl : xs.length ≤ 10000000) (hwf : ∀ x ∈ xs, IntZ x) (_hwn : IntZ n) (w : World) (h : layIntS.rd w [v] xs) :
    Calls Try.prog 21 #[v, .int .i64 n] w fun e w' => OutS layIntS w r e w' := by
  obtain ⟨ao, cp, rfl⟩ := rows_form h
  obtain ⟨i0, hi0, hz0, hsz0, hby0⟩ := info_of infoInt
  have HR := Lib.hid h
  have HN := Lib.hid hr
  clear h hr
  obtain ⟨Q, HQ⟩ : ∃ Q : Ending → World → Prop, Hid (Q = fun e w' => OutS layIntS w r e w') := ⟨_, Lib.hid rfl⟩
  rw [← HQ.out]
  go_enter Try.func21, Try.ntmps21
  by_cases hs : SeenP xs
  rotate_left
  · obtain rfl : r = xs := by
      rcases HN.out with ⟨h, _⟩ | ⟨_, h⟩
      · exact absurd h.1 hs
      · exact h
    have K := Lib.hid (implSeenOk_bool r _ false ⟨fun e => (by cases e), fun e => absurd e hs⟩ (by omega) hwf w HR.out)
    clear hs HN hwf
    go_wp2_with fail
    refine (K.out).mono ?_
    rintro e Y ⟨rfl, hy⟩
    have B := Lib.hid hy
    have HRY := Lib.hid (layIntS.below HR.out hy)
    clear hy K HR
    have hbl : Below Y.heap.size Y (Y.alloc (.cells #[] 3)) := (Below.refl _ _).alloc (Nat.le_refl _) _
    go_wp2_with (at_builtin; refine wpList_copyF (Y.alloc (.cells #[] 3)) rfl _ _ 22 rfl Y.heap.size 3 i0 _ 8 Lay.int flatIntN Try.underlying22 hi0 hz0 hsz0 hby0 rfl (by omega) _ _ _ rfl (flat_lit Y _ (Nat.le_refl _)) (fun e => by cases e) _ r rfl (layIntS.below HRY.out hbl) (by simp; omega) (by simp) ?_; intro v1 w1 hown1 hnn1 hgr1 hbe1)
    have E : Hid (Q (.returned v1) w1) := by
      rw [HQ.out]
      exact Lib.hid ⟨v1, _, rfl, blk_dup v1, layIntS.lower hown1 B.out.size, B.out.trans ((hbl.trans hbe1).mono B.out.size)⟩
    clear hown1 hnn1 hgr1 hbe1 hbl
    go_wp2_with fail
    exact E.out
  · have HS := Lib.hid hs
    have K := Lib.hid (implSeenOk_bool xs _ true ⟨fun _ => hs, fun _ => rfl⟩ (by omega) hwf w HR.out)
    clear hs hwf
    go_wp2_with fail
    refine (K.out).mono ?_
    rintro e Y ⟨rfl, hy⟩
    have B := Lib.hid hy
    have K2 := Lib.hid (spanOf_any xs _ HS.out Y (layIntS.below HR.out hy))
    clear hy K HR
    go_wp2_with fail
    refine (K2.out).mono ?_
    rintro e Z ⟨f, c, rfl, hI, ⟨hf0, hf1⟩, hz⟩
    have B2 := Lib.hid (B.out.trans (hz.mono B.out.size))
    have HI := Lib.hid hI
    have hc := hI.lt
    clear hI hz K2 B
    have HV : Hid (VarP Z.heap.size SpanT (.int .i64 f) (.int .u8 (c : Int)) (Z.alloc (.cells #[.int .i64 f, .int .u8 (c : Int)] SpanT))) := Lib.hid (VarP.new Z SpanT _ _)
    have B3 : Hid (Below w.heap.size w (Z.alloc (.cells #[.int .i64 f, .int .u8 (c : Int)] SpanT))) := Lib.hid (B2.out.alloc B2.out.size _)
    have hwz := B2.out.size
    go_upto_region 4 with fail
    generalize Z.alloc (.cells #[.int .i64 f, .int .u8 (c : Int)] SpanT) = X at *
    have KT : Hid (∃ (t : Bool) (f2 : Int) (c2 : Nat), (0 ≤ f2 ∧ f2 ≤ 1000000000) ∧ c2 < 64 ∧ toldZ f2 c2 6 = r ∧ Calls Try.prog 35 #[.pointer (some ⟨Z.heap.size, 0, none⟩), .int .i64 n] X fun e w' => TakeEnd Z.heap.size f2 c2 t X e w') := Lib.hid (by
      rcases HN.out with ⟨hf, h⟩ | ⟨hf, h⟩
      · have hI2 := span_take HI.out hf (.inl ⟨hf, h⟩)
        have hr2 := (note_right hf (.inl ⟨hf, h⟩)).1
        have htop := HI.out.top
        have hfr := hf.2.2.2
        refine ⟨true, takeF f n, takeB f c n, span_range hr2 hI2, hI2.lt, span_told hr2 hI2, take_yes Z.heap.size f n c hf0 hf1 hc hf.2.1.1 hf.2.1.2 (by omega) (fun hlt => ?_) X HV.out⟩
        rw [Bool.eq_false_iff]
        intro he
        have h2 := (HI.out.bit _ (by omega)).1 he
        rw [show f - (((f - n).toNat : Nat) : Int) = n by omega] at h2
        exact hf.2.2.1 h2
      · exact ⟨false, f, c, ⟨hf0, hf1⟩, hc, by rw [h]; exact span_told HS.out HI.out, take_no Z.heap.size f n c hf0 hf1 hc (fun h3 => hf ((stand_fresh HS.out HI.out).1 h3)) X HV.out⟩)
    clear HN HS HI HV
    obtain ⟨t, f2, c2, ⟨hg0, hg1⟩, hc2, htold, hcall⟩ := KT.out
    have KC := Lib.hid hcall
    have HTO := Lib.hid htold
    clear KT hcall htold hf0 hf1 hc
    go_wp2_with fail
    refine (KC.out).mono ?_
    rintro e X2 ⟨rfl, hv, hch⟩
    have B4 := Lib.hid (B3.out.trans (hch.below (fun g hg => by rw [List.mem_singleton.1 hg]; exact hwz) B3.out.size))
    have K5 := Lib.hid (told_any Z.heap.size f2 c2 hg0 hg1 hc2 X2 hv)
    rw [HTO.out] at K5
    clear hv hch KC HTO B3 B2
    go_wp2_with fail
    refine (K5.out).mono ?_
    rintro e X3 ⟨v5, fp, rfl, hd, ho, hb⟩
    have E : Hid (Q (.returned v5) X3) := by
      rw [HQ.out]
      exact Lib.hid ⟨v5, fp, rfl, hd, layIntS.lower ho B4.out.size, B4.out.trans (hb.mono B4.out.size)⟩
    clear hd ho hb K5 B4
    go_wp2_with fail
    exact E.out

end Go.Proofs.Ytogninaejehinav
namespace Go.Proofs.Ytogninaejehinav
open Go.RowKit

/-- The numbers from k on. -/
def upI (k : Int) (n : Nat) : List Int := (List.range n).map fun (j : Nat) => k + (j : Int)
theorem upI_length (k : Int) (n : Nat) : (upI k n).length = n := by simp [upI]
theorem upI_get (k : Int) (n j : Nat) (h : j < (upI k n).length) : (upI k n)[j] = k + (j : Int) := by simp [upI]
/-- The first j of a list are marked. -/
def partI (k : Int) (xs : List Int) (j : Nat) : List Int := upI k j ++ xs.drop j
theorem partI_length (k : Int) (xs : List Int) (j : Nat) (h : j ≤ xs.length) : (partI k xs j).length = xs.length := by
  unfold partI
  rw [List.length_append, upI_length, List.length_drop]
  omega
theorem partI_next (k : Int) (xs : List Int) (j : Nat) (h : j < xs.length) : (partI k xs j).set j (k + (j : Int)) = partI k xs (j + 1) := by
  unfold partI
  have e : upI k (j + 1) = upI k j ++ [k + (j : Int)] := by simp [upI, List.range_succ]
  have hl : (upI k j).length = j := upI_length k j
  rw [e, List.set_append_right _ _ (by omega), hl, Nat.sub_self, List.append_assoc]
  congr 1
  rw [← List.getElem_cons_drop h]
  rfl

set_option maxRecDepth 100000 in
set_option maxHeartbeats 800000 in
theorem markIntS_any (v : Value) (xs : List Int) (b : Nat) (fp : List Nat) (k : Int) (hk0 : 0 ≤ k) (hk1 : k ≤ 1000000000) (hl : xs.length ≤ 100000000) (w : World) (hd : fp.Nodup) (ho : layIntS.own w b fp [v] xs) :
    Calls Try.prog 22 #[v, .int .i64 k] w fun e w' => e = .returned (.int .i64 (k + (xs.length : Int))) ∧ layIntS.own w' b fp [v] (upI k xs.length) ∧ Chg fp w w' := by
  obtain ⟨ao, cp, rfl⟩ := rows_form (layIntS.read ho)
  have HO := Lib.hid ho
  clear ho
  go_enter Try.func22, Try.ntmps22
  go_wp2_with fail
  go_loopw [1, 5] (fun q c wr => ∃ j : Nat, j ≤ xs.length ∧ q = .int .i64 (k + (j : Int)) ∧ c = .int .i64 j ∧ layIntS.own wr b fp [.slice ao xs.length cp] (partI k xs j) ∧ Chg fp w wr) (fun _ c _ => xs.length - (intOf c).toNat)
  case atStart => exact ⟨0, Nat.zero_le _, by simp, rfl, HO.out, Chg.refl _ _⟩
  case round =>
    obtain ⟨j, hj, rfl, rfl, hO, hC⟩ := hrel
    clear HO
    by_cases hlt : j < xs.length
    · have hlt' : (j : Int) < (xs.length : Int) := by omega
      obtain ⟨g, cap, hv, hbg, hgl, hin, hcell, hfree, hown, hchg⟩ := ints_put hO hd j (by rw [partI_length k xs j (by omega)]; exact hlt) (k + (j : Int))
      simp only [Value.slice.injEq] at hv
      obtain ⟨rfl, -, rfl⟩ := hv
      rw [partI_next k xs j hlt] at hown
      have HN := Lib.hid hown
      have HC := Lib.hid (hC.trans hchg)
      generalize (partI k xs j)[j]'(by rw [partI_length k xs j (by omega)]; exact hlt) = old at hcell
      clear hown hchg hO hC
      go_wp2_with fail
      go_roundw
      case rel => exact ⟨j + 1, hlt, by push_cast; rw [← Int.add_assoc], by go_num, HN.out, HC.out⟩
      case measure => simp [intOf]; omega
    · have hlt' : ¬ ((j : Int) < (xs.length : Int)) := by omega
      have hje : j = xs.length := by omega
      subst hje
      have e : partI k xs xs.length = upI k xs.length := by unfold partI; rw [List.drop_length, List.append_nil]
      rw [e] at hO
      go_wp2_with fail
      go_ret
      exact ⟨rfl, hO, hC⟩

set_option maxRecDepth 100000 in
set_option maxHeartbeats 800000 in
theorem heldIntS_any (v : Value) (n : Nat) (k : Int) (hk0 : 0 ≤ k) (hk1 : k ≤ 1000000000) (hl : n ≤ 100000000) (w : World) (h : layIntS.rd w [v] (upI k n)) :
    Calls Try.prog 23 #[v, .int .i64 k] w fun e w' => e = .returned (.int .i64 (k + (n : Int))) ∧ w' = w := by
  obtain ⟨ao, cp, hv⟩ := rows_form h
  rw [upI_length] at hv
  subst hv
  have HR := Lib.hid h
  clear h
  go_enter Try.func23, Try.ntmps23
  go_wp2_with fail
  go_loop [1, 5] (fun q c => ∃ j : Nat, j ≤ n ∧ q = .int .i64 (k + (j : Int)) ∧ c = .int .i64 j) (fun _ c => n - (intOf c).toNat)
  case atStart => exact ⟨0, Nat.zero_le _, by simp, rfl⟩
  case round =>
    obtain ⟨j, hj, rfl, rfl⟩ := hrel
    by_cases hlt : j < n
    · have hlt' : (j : Int) < (n : Int) := by omega
      obtain ⟨g, off, cap, hv, hg, hcell⟩ := ints_get HR.out j (by rw [upI_length]; exact hlt)
      simp only [Value.slice.injEq] at hv
      obtain ⟨rfl, -, rfl⟩ := hv
      rw [upI_get] at hcell
      go_wp2_with fail
      go_round
      case rel => exact ⟨j + 1, hlt, by push_cast; rw [← Int.add_assoc], by go_num⟩
      case measure => simp [intOf]; omega
    · have hlt' : ¬ ((j : Int) < (n : Int)) := by omega
      have hje : j = n := by omega
      subst hje
      go_wp2_with fail
      go_ret
      exact ⟨rfl, rfl⟩

set_option maxRecDepth 100000 in
set_option maxHeartbeats 800000 in
theorem eqIntS_same (v u : Value) (xs : List Int) (hl : xs.length ≤ 100000000) (w : World) (hv : layIntS.rd w [v] xs) (hu : layIntS.rd w [u] xs) :
    Calls Try.prog 17 #[v, u] w fun e w' => e = .returned (.bool true) ∧ Below w.heap.size w w' := by
  obtain ⟨ao, cp, rfl⟩ := rows_form hv
  obtain ⟨bo, dp, rfl⟩ := rows_form hu
  have HV := Lib.hid hv
  have HU := Lib.hid hu
  clear hv hu
  go_enter Try.func17, Try.ntmps17
  go_wp2_with fail
  go_loopw [5] (fun c wr => ∃ j : Nat, j ≤ xs.length ∧ c = .int .i64 j ∧ Below w.heap.size w wr) (fun c _ => xs.length - (intOf c).toNat)
  case atStart => exact ⟨0, Nat.zero_le _, rfl, Below.refl _ _⟩
  case round =>
    obtain ⟨j, hj, rfl, hb⟩ := hrel
    have HB := Lib.hid hb
    by_cases hlt : j < xs.length
    · have hlt' : (j : Int) < (xs.length : Int) := by omega
      obtain ⟨g, off, cap, hv, hg, hcell⟩ := ints_get (layIntS.below HV.out hb) j hlt
      simp only [Value.slice.injEq] at hv
      obtain ⟨rfl, -, rfl⟩ := hv
      obtain ⟨g2, off2, cap2, hv2, hg2, hcell2⟩ := ints_get (layIntS.below HU.out hb) j hlt
      simp only [Value.slice.injEq] at hv2
      obtain ⟨rfl, -, rfl⟩ := hv2
      generalize xs[j] = x at hcell hcell2
      clear hb
      go_wp2_with fail
      go_quiet (fail)
      go_wp2_with fail
      go_roundw
      case rel => exact ⟨j + 1, by omega, by go_num, below_drewN HB.out _⟩
      case measure => simp [intOf]; omega
    · have hlt' : ¬ ((j : Int) < (xs.length : Int)) := by omega
      go_wp2_with fail
      go_ret
      exact ⟨rfl, hb⟩

end Go.Proofs.Ytogninaejehinav
namespace Go.Proofs.Ytogninaejehinav
open Go.RowKit

theorem fill_next (xs : List Int) (j : Nat) (h : j < xs.length) : (xs.take j ++ List.replicate (xs.length - j) (0 : Int)).set j xs[j] = xs.take (j + 1) ++ List.replicate (xs.length - (j + 1)) 0 := by
  have hl : (xs.take j).length = j := by rw [List.length_take]; omega
  rw [List.set_append_right _ _ (by omega), hl, Nat.sub_self, show xs.length - j = (xs.length - (j + 1)) + 1 by omega, List.replicate_succ, List.set_cons_zero]
  have hta : xs.take (j + 1) = xs.take j ++ [xs[j]] := by rw [List.take_add_one, List.getElem?_eq_getElem h]; rfl
  rw [hta, List.append_assoc]
  rfl

set_option maxRecDepth 100000 in
set_option maxHeartbeats 800000 in
theorem toIntS_any (v : Value) (xs : List Int) (hl : xs.length ≤ 1048576) (w : World) (hs : layIntS.rd w [v] xs) :
    Calls Try.prog 15 #[v] w fun e w' => OutS layIntS w xs e w' := by
  obtain ⟨i0, hi, hz0, hsz0, hby0⟩ := info_of infoInt
  obtain ⟨a, cap, rfl⟩ := rows_form hs
  have HS := Lib.hid hs
  clear hs
  go_enter Try.func15, Try.ntmps15
  go_wp2_with (at_make; refine wpList_make_full _ rfl _ _ 22 rfl w.heap.size 3 i0 (.int .i64 0) 1 Try.underlying22 hi hz0 hsz0 .i64 .i64 _ _ xs.length rfl rfl rfl rfl (by rw [hby0]; omega) (by unfold maxLen; omega) (Nat.le_refl _) ?_)
  intro w1 hown1 hg1
  have hown : layIntS.own w1 w.heap.size [w.heap.size] [.slice (some ⟨w.heap.size, 0, none⟩) xs.length xs.length] (List.replicate xs.length 0) := rows_made (cs := #[.int .i64 0]) (by rw [show xs.length * Lay.int.k = xs.length from Nat.mul_one _]; exact hown1) rfl (int_own.2 ⟨rfl, rfl⟩)
  have hbel : Below w.heap.size w w1 := below_grown hg1 (fun k h => by cases h) (Nat.le_refl _)
  clear hown1 hg1
  go_wp2_with fail
  go_loopw [4] (fun c wr => ∃ j : Nat, j ≤ xs.length ∧ c = .int .i64 j ∧ layIntS.own wr w.heap.size [w.heap.size] [.slice (some ⟨w.heap.size, 0, none⟩) xs.length xs.length] (xs.take j ++ List.replicate (xs.length - j) 0) ∧ Below w.heap.size w wr) (fun c _ => xs.length - (intOf c).toNat)
  case atStart => exact ⟨0, Nat.zero_le _, rfl, by simpa using hown, hbel⟩
  case round =>
    obtain ⟨j, hj, rfl, hown2, hb2⟩ := hrel
    have HO := Lib.hid hown2
    have HB := Lib.hid hb2
    clear hown2 hb2 hown hbel
    by_cases hlt : j < xs.length
    · have hlt' : (j : Int) < (xs.length : Int) := by omega
      have hlen : j < (xs.take j ++ List.replicate (xs.length - j) (0 : Int)).length := by rw [List.length_append, List.length_take, List.length_replicate]; omega
      obtain ⟨g, off, cap', hv, hg, hcell⟩ := ints_get (layIntS.below HS.out HB.out) j hlt
      simp only [Value.slice.injEq] at hv
      obtain ⟨rfl, -, rfl⟩ := hv
      obtain ⟨g', cap'', hv', _, _, _, hc', hf', hown3, hchg⟩ := ints_put HO.out (by simp) j hlen xs[j]
      simp only [Value.slice.injEq, Option.some.injEq, Addr.mk.injEq, and_true] at hv'
      obtain ⟨rfl, -, -⟩ := hv'
      rw [fill_next xs j hlt] at hown3
      have HP := Lib.hid hown3
      have HB3 := Lib.hid (HB.out.trans (hchg.below (b := w.heap.size) (by simp) HB.out.size))
      generalize xs[j] = x at *
      generalize (xs.take j ++ List.replicate (xs.length - j) (0 : Int))[j] = y0 at hc'
      clear hown3 hchg hlen
      go_wp2_with fail
      go_roundw
      case rel => exact ⟨j + 1, by omega, by go_num, HP.out, HB3.out⟩
      case measure => simp [intOf]; omega
    · have hlt' : ¬ ((j : Int) < (xs.length : Int)) := by omega
      have hke : j = xs.length := by omega
      have hfin : xs.take j ++ List.replicate (xs.length - j) (0 : Int) = xs := by subst hke; simp
      have HO2 := HO.out
      rw [hfin] at HO2
      have HO3 := Lib.hid HO2
      clear HO2 HO
      go_wp2_with fail
      go_ret
      exact ⟨_, _, rfl, by simp, HO3.out, HB.out⟩

end Go.Proofs.Ytogninaejehinav
