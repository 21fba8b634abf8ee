/-
  The given LookUp.
-/
import Derived.Test.YtkfcoldjgijpcacRoutesSpec
import Derived.Test.YtkfcoldjgijpcacInPrefixSpec
namespace Go.Proofs.Ytkfcoldjgijpcac
open Go.RowKit

def prefB (a n : Int) : Bool := decide (0 ≤ a) && decide (a ≤ 4294967295) && decide (0 ≤ n) && decide (n ≤ 32) && (a.toNat % sizeP n.toNat == 0)
theorem prefB_iff (a n : Int) : prefB a n = true ↔ PrefOk a n := by simp [prefB, PrefOk, and_assoc]
def inB (a n x : Int) : Bool := prefB a n && decide (0 ≤ x) && decide (x ≤ 4294967295) && ((firstP x.toNat n.toNat : Int) == a)
theorem inB_iff (a n x : Int) : inB a n x = true ↔ InPref a n x := by
  unfold inB InPref
  rw [Bool.and_eq_true, Bool.and_eq_true, Bool.and_eq_true, prefB_iff, decide_eq_true_eq, decide_eq_true_eq, beq_iff_eq]
  constructor
  · rintro ⟨⟨⟨h1, h2⟩, h3⟩, h4⟩
    exact ⟨h1, ⟨h2, h3⟩, h4⟩
  · rintro ⟨h1, ⟨h2, h3⟩, h4⟩
    exact ⟨⟨⟨h1, h2⟩, h3⟩, h4⟩
theorem specInPrefix_any (a n x : Int) (X : World) : Calls Try.prog 18 #[.agg #[.int .i64 a, .int .i64 n], .int .i64 x] X fun e w' => e = .returned (.bool (inB a n x)) ∧ Below X.heap.size X w' := by
  by_cases h : InPref a n x
  · rw [(inB_iff a n x).2 h]
    exact specInPrefix_yes a n x h X
  · rw [Bool.eq_false_iff.2 (fun e => h ((inB_iff a n x).1 e))]
    exact specInPrefix_no a n x h X
/-- The longest so far, and whom it leads to. -/
def lookStep (x : Int) (s : Int × Int) (r : Rt) : Int × Int := if (inB r.1 r.2.1 x && decide (s.1 < r.2.1)) = true then (r.2.1, r.2.2) else s
def lookTo (x : Int) (xs : List Rt) : Int × Int := xs.foldl (lookStep x) (-1, 0)
theorem lookTo_take (x : Int) (xs : List Rt) (k : Nat) (h : k < xs.length) : lookTo x (xs.take (k + 1)) = lookStep x (lookTo x (xs.take k)) xs[k] := by
  unfold lookTo
  rw [List.take_add_one, List.getElem?_eq_getElem h, List.foldl_append]
  rfl

set_option maxRecDepth 100000 in
set_option maxHeartbeats 800000 in
theorem specLookUp_wrong (v : Value) (xs : List Rt) (x : Int) (hl : xs.length ≤ 2000000) (w : World) (hr : RowR rtRec w v xs) (h : ¬ RoutesP xs) :
    Calls Try.prog 15 #[v, .int .i64 x] w fun e w' => e = .returned (.int .i64 0) ∧ Below w.heap.size w w' := by
  have HE := Lib.hid (specRoutesOk_any v xs (by omega) w hr)
  have HN := Lib.hid h
  clear hr h
  go_enter Try.func15, Try.ntmps15
  go_wp2_with fail
  refine (HE.out).mono ?_
  rintro e w1 ⟨⟨h1, rfl⟩ | ⟨h1, rfl⟩, hb1⟩
  · exact absurd h1 HN.out
  · go_wp2_with fail
    go_ret
    exact ⟨rfl, hb1⟩

set_option maxRecDepth 100000 in
set_option maxHeartbeats 800000 in
theorem specLookUp_right (v : Value) (xs : List Rt) (x : Int) (hl : xs.length ≤ 2000000) (w : World) (hr : RowR rtRec w v xs) (h : RoutesP xs) :
    Calls Try.prog 15 #[v, .int .i64 x] w fun e w' => e = .returned (.int .i64 (lookTo x xs).2) ∧ Below w.heap.size w w' := by
  have HE := Lib.hid (specRoutesOk_any v xs (by omega) w hr)
  have HN := Lib.hid h
  obtain ⟨ao, cp, rfl, hf⟩ := hr.form
  clear hr h
  go_enter Try.func15, Try.ntmps15
  go_wp2_with fail
  refine (HE.out).mono ?_
  rintro e w1 ⟨⟨h1, rfl⟩ | ⟨h1, rfl⟩, hb1⟩
  · clear h1
    have HB1 := Lib.hid hb1
    clear hb1 HE
    go_wp2_with fail
    go_loopw [5, 6, 7] (fun b t c wr => ∃ k : Nat, k ≤ xs.length ∧ c = .int .i64 k ∧ b = .int .i64 (lookTo x (xs.take k)).1 ∧ t = .int .i64 (lookTo x (xs.take k)).2 ∧ Below w.heap.size w wr) (fun _ _ c _ => xs.length - (intOf c).toNat)
    case atStart => exact ⟨0, Nat.zero_le _, rfl, rfl, rfl, HB1.out⟩
    case round =>
      obtain ⟨k, hk, rfl, rfl, rfl, hnx⟩ := hrel
      by_cases hlt : k < xs.length
      · have hlt' : (k : Int) < (xs.length : Int) := by omega
        obtain ⟨g, rfl, hg, hcell⟩ := hf (by omega)
        have hxk : xs[k]? = some xs[k] := List.getElem?_eq_getElem hlt
        obtain ⟨c0, c1, c2⟩ := row_three hcell k xs[k] hxk
        rw [← hnx.cell (p := ⟨g, k * 3, none⟩) hg] at c0
        rw [← hnx.cell (p := ⟨g, k * 3 + 1, none⟩) hg] at c1
        rw [← hnx.cell (p := ⟨g, k * 3 + 2, none⟩) hg] at c2
        have hst := lookTo_take x xs k hlt
        generalize xs[k] = r at hxk c0 c1 c2 hst
        obtain ⟨ra, rn, rt⟩ := r
        obtain ⟨⟨s1, s2⟩, hs⟩ : ∃ s, lookTo x (xs.take k) = s := ⟨_, rfl⟩
        rw [hs] at hst ⊢
        have hin := specInPrefix_any ra rn x
        obtain ⟨b, hbe⟩ : ∃ b, inB ra rn x = b := ⟨_, rfl⟩
        unfold lookStep at hst
        simp only [hbe] at hst
        rw [hbe] at hin
        have HI := Lib.hid hin
        have HST := Lib.hid hst
        have HN2 := Lib.hid hnx
        have hgw : g < wr.heap.size := Nat.lt_of_lt_of_le hg hnx.size
        clear hin hst hbe hs hcell hxk hnx
        cases b
        · go_wp2_with fail
          refine (HI.out _).mono ?_
          rintro e w2 ⟨rfl, hb2⟩
          have HB2 := Lib.hid (HN2.out.trans (hb2.mono HN2.out.size))
          clear hb2
          go_wp2_with fail
          go_roundw
          case rel => exact ⟨k + 1, by omega, by go_num, by rw [HST.out]; rfl, by rw [HST.out]; rfl, HB2.out⟩
          case measure => simp [intOf]; omega
        · go_wp2_with fail
          refine (HI.out _).mono ?_
          rintro e w2 ⟨rfl, hb2⟩
          rw [← hb2.cell (p := ⟨g, k * 3 + 1, none⟩) hgw] at c1
          rw [← hb2.cell (p := ⟨g, k * 3 + 2, none⟩) hgw] at c2
          have HB2 := Lib.hid (HN2.out.trans (hb2.mono HN2.out.size))
          clear hb2
          by_cases hd : s1 < rn
          · have hd1 : decide (s1 < rn) = true := decide_eq_true hd
            have HF : Hid (lookTo x (xs.take (k + 1)) = (rn, rt)) := by show _ = _; rw [HST.out, hd1]; rfl
            clear HST
            go_wp2_with fail
            go_roundw
            case rel => exact ⟨k + 1, by omega, by go_num, by rw [HF.out], by rw [HF.out], HB2.out⟩
            case measure => simp [intOf]; omega
          · have hd1 : decide (s1 < rn) = false := decide_eq_false hd
            have HF : Hid (lookTo x (xs.take (k + 1)) = (s1, s2)) := by show _ = _; rw [HST.out, hd1]; rfl
            clear HST
            go_wp2_with fail
            go_roundw
            case rel => exact ⟨k + 1, by omega, by go_num, by rw [HF.out], by rw [HF.out], HB2.out⟩
            case measure => simp [intOf]; omega
      · have hlt' : ¬ ((k : Int) < (xs.length : Int)) := by omega
        have hke : k = xs.length := by omega
        subst hke
        rw [List.take_length]
        go_wp2_with fail
        go_ret
        exact ⟨rfl, hnx⟩
  · exact absurd HN.out h1

end Go.Proofs.Ytkfcoldjgijpcac
