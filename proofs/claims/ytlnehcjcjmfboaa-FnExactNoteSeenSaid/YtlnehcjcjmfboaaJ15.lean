/-
  The exact laws on NoteSeen and TakeAll, out of one answer that both give.
  The exact law on NoteSeen, at every argument.
-/
import Derived.Test.YtlnehcjcjmfboaaJ12
import Derived.Test.YtlnehcjcjmfboaaJ13
import Derived.Test.YtlnehcjcjmfboaaJ14
import Derived.Test.YtlnehcjcjmfboaaJ11
namespace Go.Proofs.Ytlnehcjcjmfboaa
open Go.RowKit

/-- A row of ints of its own, in blocks from lo on, below hi. -/
def IV (lo hi : Nat) (v : Value) (xs : List Int) (X : World) : Prop := ∃ f : List Nat, f.Nodup ∧ layIntS.own X lo f [v] xs ∧ ∀ g ∈ f, g < hi
section
variable {lo hi : Nat} {v : Value} {xs : List Int} {X Y : World}
theorem IV.rd (h : IV lo hi v xs X) : layIntS.rd X [v] xs := by
  obtain ⟨f, _, h, _⟩ := h
  exact layIntS.read h
theorem IV.next (h : IV lo hi v xs X) (hb : Below X.heap.size X Y) : IV lo hi v xs Y := by
  obtain ⟨f, hd, h, hh⟩ := h
  exact ⟨f, hd, layIntS.next h hb, hh⟩
theorem IV.away (h : IV lo hi v xs X) {a b : Nat} (hc : ∃ f : List Nat, (∀ g ∈ f, a ≤ g ∧ g < b) ∧ Chg f X Y) (ho : b ≤ lo ∨ hi ≤ a) : IV lo hi v xs Y := by
  obtain ⟨f, hd, h, hh⟩ := h
  obtain ⟨f2, h2, hc⟩ := hc
  refine ⟨f, hd, layIntS.chg h hc (fun g hg hm => ?_), hh⟩
  have h3 := (layIntS.blocks h g hg).1
  have h4 := hh g hg
  have h5 := h2 g hm
  omega
theorem IV.new {f : List Nat} {W : World} (hd : f.Nodup) (h : layIntS.own X W.heap.size f [v] xs) : IV W.heap.size X.heap.size v xs X := ⟨f, hd, h, fun g hg => (layIntS.blocks h g hg).2⟩
theorem IV.mark (h : IV lo hi v xs X) (hl : xs.length ≤ 100000000) : Calls Try.prog 22 #[v, .int .i64 1] X fun e Y => e = .returned (.int .i64 (1 + (xs.length : Int))) ∧ IV lo hi v (upI 1 xs.length) Y ∧ ∃ f : List Nat, (∀ g ∈ f, lo ≤ g ∧ g < hi) ∧ Chg f X Y := by
  obtain ⟨f, hd, h, hh⟩ := h
  refine (markIntS_any v xs lo f 1 (by omega) (by omega) hl X hd h).mono ?_
  rintro e Y ⟨rfl, h1, h2⟩
  exact ⟨rfl, ⟨f, hd, h1, hh⟩, f, fun g hg => ⟨(layIntS.blocks h g hg).1, hh g hg⟩, h2⟩
theorem IV.held {n : Nat} (h : IV lo hi v (upI 1 n) X) (hl : n ≤ 100000000) : Calls Try.prog 23 #[v, .int .i64 1] X fun e Y => e = .returned (.int .i64 (1 + (n : Int))) ∧ Y = X :=
  heldIntS_any v n 1 (by omega) (by omega) hl X h.rd
end
theorem chg_below {W X Y : World} {a b : Nat} (hb : Below W.heap.size W X) (hc : ∃ f : List Nat, (∀ g ∈ f, a ≤ g ∧ g < b) ∧ Chg f X Y) (ha : W.heap.size ≤ a) : Below W.heap.size W Y := by
  obtain ⟨f, h1, h2⟩ := hc
  exact hb.trans (h2.below (fun g hg => by have := h1 g hg; omega) hb.size)

set_option maxRecDepth 100000 in
set_option maxHeartbeats 3200000 in
theorem lawNoteSeenF (va : Value) (xs : List Int) (n : Int) (r : List Int) (hr : xs.length ≤ 1048576 → r.length ≤ 10000000) (hI : xs.length ≤ 1048576 → ∀ (u : Value) (X : World), layIntS.rd X [u] xs → Calls Try.prog 15 #[u, .int .i64 n] X fun e Y => OutS layIntS X r e Y) (hS : xs.length ≤ 1048576 → ∀ (u : Value) (X : World), layIntS.rd X [u] xs → Calls Try.prog 21 #[u, .int .i64 n] X fun e Y => OutS layIntS X r e Y) (w : World) (ha : layIntS.rd w [va] xs) :
    Calls Try.prog 6 #[va, .int .i64 n] w fun e w' => e = .returned (.bool true) ∧ Below w.heap.size w w' := by
  obtain ⟨aa, ca, rfl⟩ := rows_form ha
  have HA := Lib.hid ha
  have HI0 := Lib.hid hI
  have HS0 := Lib.hid hS
  clear hI hS ha
  go_enter Try.func6, Try.ntmps6
  by_cases hbig : xs.length ≤ 1048576
  rotate_left
  · have hbi : (1048576 : Int) < (xs.length : Int) := by omega
    go_wp2_with fail
    go_ret
    exact ⟨rfl, Below.refl _ _⟩
  have hbi : ¬ ((1048576 : Int) < (xs.length : Int)) := by omega
  have hrl := hr hbig
  have HI := Lib.hid (HI0.out hbig)
  have HS := Lib.hid (HS0.out hbig)
  have TA : Hid (∀ X, Below w.heap.size w X → Calls Try.prog 18 #[.slice aa xs.length ca] X fun e Y => OutS layIntS X xs e Y) := Lib.hid (fun X hX => toIntS_any _ xs hbig X (layIntS.below HA.out hX))
  clear HI0 HS0 hr
  go_wp2_with fail
  refine (TA.out _ (Below.refl _ _)).mono ?_
  rintro e Y1 ⟨v_, f_, rfl, hd_, o_, hb_⟩
  obtain ⟨aT1, cT1, rfl⟩ := rows_form (layIntS.read o_)
  have hb := Lib.hid hb_
  have T1 := Lib.hid (IV.new hd_ o_)
  have zT1 : w.heap.size ≤ Y1.heap.size := hb.out.size
  have B := Lib.hid hb.out
  clear hb hb_ o_ hd_ f_
  go_wp2_with fail
  refine (HS.out _ _ T1.out.rd).mono ?_
  rintro e Y2 ⟨v_, f_, rfl, hd_, o_, hb_⟩
  obtain ⟨aU, cU, rfl⟩ := rows_form (layIntS.read o_)
  have hb := Lib.hid hb_
  replace T1 := Lib.hid (T1.out.next hb.out)
  have U := Lib.hid (IV.new hd_ o_)
  have zU : Y1.heap.size ≤ Y2.heap.size := hb.out.size
  replace B := Lib.hid (B.out.trans (hb.out.mono B.out.size))
  clear hb hb_ o_ hd_ f_
  clear T1
  go_wp2_with fail
  refine (TA.out _ B.out).mono ?_
  rintro e Y3 ⟨v_, f_, rfl, hd_, o_, hb_⟩
  obtain ⟨aV, cV, rfl⟩ := rows_form (layIntS.read o_)
  have hb := Lib.hid hb_
  replace U := Lib.hid (U.out.next hb.out)
  have V := Lib.hid (IV.new hd_ o_)
  have zV : Y2.heap.size ≤ Y3.heap.size := hb.out.size
  replace B := Lib.hid (B.out.trans (hb.out.mono B.out.size))
  clear hb hb_ o_ hd_ f_
  go_wp2_with fail
  refine (HI.out _ _ V.out.rd).mono ?_
  rintro e Y4 ⟨v_, f_, rfl, hd_, o_, hb_⟩
  obtain ⟨aG, cG, rfl⟩ := rows_form (layIntS.read o_)
  have hb := Lib.hid hb_
  replace U := Lib.hid (U.out.next hb.out)
  replace V := Lib.hid (V.out.next hb.out)
  have G := Lib.hid (IV.new hd_ o_)
  have zG : Y3.heap.size ≤ Y4.heap.size := hb.out.size
  replace B := Lib.hid (B.out.trans (hb.out.mono B.out.size))
  clear hb hb_ o_ hd_ f_
  go_wp2_with fail
  refine (eqIntS_same _ _ r (by omega) _ G.out.rd U.out.rd).mono ?_
  rintro e Y5 ⟨rfl, hb_⟩
  have hb := Lib.hid hb_
  replace U := Lib.hid (U.out.next hb.out)
  replace V := Lib.hid (V.out.next hb.out)
  replace G := Lib.hid (G.out.next hb.out)
  have zY5 : Y4.heap.size ≤ Y5.heap.size := hb.out.size
  replace B := Lib.hid (B.out.trans (hb.out.mono B.out.size))
  clear hb hb_
  go_wp2_with fail
  refine (TA.out _ B.out).mono ?_
  rintro e Y6 ⟨v_, f_, rfl, hd_, o_, hb_⟩
  obtain ⟨aT2, cT2, rfl⟩ := rows_form (layIntS.read o_)
  have hb := Lib.hid hb_
  replace U := Lib.hid (U.out.next hb.out)
  replace V := Lib.hid (V.out.next hb.out)
  replace G := Lib.hid (G.out.next hb.out)
  have T2 := Lib.hid (IV.new hd_ o_)
  have zT2 : Y5.heap.size ≤ Y6.heap.size := hb.out.size
  replace B := Lib.hid (B.out.trans (hb.out.mono B.out.size))
  clear hb hb_ o_ hd_ f_
  go_wp2_with fail
  refine (eqIntS_same _ _ xs (by omega) _ V.out.rd T2.out.rd).mono ?_
  rintro e Y7 ⟨rfl, hb_⟩
  have hb := Lib.hid hb_
  replace U := Lib.hid (U.out.next hb.out)
  replace V := Lib.hid (V.out.next hb.out)
  replace G := Lib.hid (G.out.next hb.out)
  replace T2 := Lib.hid (T2.out.next hb.out)
  have zY7 : Y6.heap.size ≤ Y7.heap.size := hb.out.size
  replace B := Lib.hid (B.out.trans (hb.out.mono B.out.size))
  clear hb hb_
  clear T2
  go_wp2_with fail
  refine (V.out.mark (by omega)).mono ?_
  rintro e Y8 ⟨rfl, -, hc⟩
  have zY8 : Y7.heap.size ≤ Y8.heap.size := by obtain ⟨_, _, h⟩ := hc; exact h.size
  replace U := Lib.hid (U.out.away hc (.inr (by omega)))
  replace G := Lib.hid (G.out.away hc (.inl (by omega)))
  replace B := Lib.hid (chg_below B.out hc (by omega))
  clear hc V
  have hk1 : ¬ ((1 + (xs.length : Int)) < 0) := by omega
  go_wp2_with fail
  refine (eqIntS_same _ _ r (by omega) _ G.out.rd U.out.rd).mono ?_
  rintro e Y9 ⟨rfl, hb_⟩
  have hb := Lib.hid hb_
  replace U := Lib.hid (U.out.next hb.out)
  replace G := Lib.hid (G.out.next hb.out)
  have zY9 : Y8.heap.size ≤ Y9.heap.size := hb.out.size
  replace B := Lib.hid (B.out.trans (hb.out.mono B.out.size))
  clear hb hb_
  go_wp2_with fail
  refine (G.out.mark (by omega)).mono ?_
  rintro e Y10 ⟨rfl, hm, hc⟩
  have zY10 : Y9.heap.size ≤ Y10.heap.size := by obtain ⟨_, _, h⟩ := hc; exact h.size
  replace U := Lib.hid (U.out.away hc (.inr (by omega)))
  replace G := Lib.hid hm
  replace B := Lib.hid (chg_below B.out hc (by omega))
  clear hc hm
  have hk2 : ¬ ((1 + (r.length : Int)) < 0) := by omega
  go_wp2_with fail
  refine (G.out.held (by omega)).mono ?_
  rintro e Z9 ⟨rfl, hz9⟩
  rw [hz9]
  clear hz9 Z9
  go_wp2_with fail
  refine (TA.out _ B.out).mono ?_
  rintro e Y11 ⟨v_, f_, rfl, hd_, o_, hb_⟩
  obtain ⟨aT3, cT3, rfl⟩ := rows_form (layIntS.read o_)
  have hb := Lib.hid hb_
  replace U := Lib.hid (U.out.next hb.out)
  replace G := Lib.hid (G.out.next hb.out)
  have T3 := Lib.hid (IV.new hd_ o_)
  have zT3 : Y10.heap.size ≤ Y11.heap.size := hb.out.size
  replace B := Lib.hid (B.out.trans (hb.out.mono B.out.size))
  clear hb hb_ o_ hd_ f_
  go_wp2_with fail
  refine (HI.out _ _ T3.out.rd).mono ?_
  rintro e Y12 ⟨v_, f_, rfl, hd_, o_, hb_⟩
  obtain ⟨aH, cH, rfl⟩ := rows_form (layIntS.read o_)
  have hb := Lib.hid hb_
  replace U := Lib.hid (U.out.next hb.out)
  replace G := Lib.hid (G.out.next hb.out)
  replace T3 := Lib.hid (T3.out.next hb.out)
  have H := Lib.hid (IV.new hd_ o_)
  have zH : Y11.heap.size ≤ Y12.heap.size := hb.out.size
  replace B := Lib.hid (B.out.trans (hb.out.mono B.out.size))
  clear hb hb_ o_ hd_ f_
  clear T3
  go_wp2_with fail
  refine (eqIntS_same _ _ r (by omega) _ H.out.rd U.out.rd).mono ?_
  rintro e Y13 ⟨rfl, hb_⟩
  have hb := Lib.hid hb_
  replace U := Lib.hid (U.out.next hb.out)
  replace G := Lib.hid (G.out.next hb.out)
  replace H := Lib.hid (H.out.next hb.out)
  have zY13 : Y12.heap.size ≤ Y13.heap.size := hb.out.size
  replace B := Lib.hid (B.out.trans (hb.out.mono B.out.size))
  clear hb hb_
  go_wp2_with fail
  refine (G.out.held (by omega)).mono ?_
  rintro e Z9 ⟨rfl, hz9⟩
  rw [hz9]
  clear hz9 Z9
  go_wp2_with fail
  go_ret
  exact ⟨rfl, B.out⟩

set_option maxRecDepth 100000 in
set_option maxHeartbeats 3200000 in
theorem lawTakeAllF (va : Value) (xs : List Int) (r : List Int) (hr : xs.length ≤ 1048576 → r.length ≤ 10000000) (hI : xs.length ≤ 1048576 → ∀ (u : Value) (X : World), layIntS.rd X [u] xs → Calls Try.prog 10 #[u] X fun e Y => OutS layIntS X r e Y) (hS : xs.length ≤ 1048576 → ∀ (u : Value) (X : World), layIntS.rd X [u] xs → Calls Try.prog 12 #[u] X fun e Y => OutS layIntS X r e Y) (w : World) (ha : layIntS.rd w [va] xs) :
    Calls Try.prog 7 #[va] w fun e w' => e = .returned (.bool true) ∧ Below w.heap.size w w' := by
  obtain ⟨aa, ca, rfl⟩ := rows_form ha
  have HA := Lib.hid ha
  have HI0 := Lib.hid hI
  have HS0 := Lib.hid hS
  clear hI hS ha
  go_enter Try.func7, Try.ntmps7
  by_cases hbig : xs.length ≤ 1048576
  rotate_left
  · have hbi : (1048576 : Int) < (xs.length : Int) := by omega
    go_wp2_with fail
    go_ret
    exact ⟨rfl, Below.refl _ _⟩
  have hbi : ¬ ((1048576 : Int) < (xs.length : Int)) := by omega
  have hrl := hr hbig
  have HI := Lib.hid (HI0.out hbig)
  have HS := Lib.hid (HS0.out hbig)
  have TA : Hid (∀ X, Below w.heap.size w X → Calls Try.prog 18 #[.slice aa xs.length ca] X fun e Y => OutS layIntS X xs e Y) := Lib.hid (fun X hX => toIntS_any _ xs hbig X (layIntS.below HA.out hX))
  clear HI0 HS0 hr
  go_wp2_with fail
  refine (TA.out _ (Below.refl _ _)).mono ?_
  rintro e Y1 ⟨v_, f_, rfl, hd_, o_, hb_⟩
  obtain ⟨aT1, cT1, rfl⟩ := rows_form (layIntS.read o_)
  have hb := Lib.hid hb_
  have T1 := Lib.hid (IV.new hd_ o_)
  have zT1 : w.heap.size ≤ Y1.heap.size := hb.out.size
  have B := Lib.hid hb.out
  clear hb hb_ o_ hd_ f_
  go_wp2_with fail
  refine (HS.out _ _ T1.out.rd).mono ?_
  rintro e Y2 ⟨v_, f_, rfl, hd_, o_, hb_⟩
  obtain ⟨aU, cU, rfl⟩ := rows_form (layIntS.read o_)
  have hb := Lib.hid hb_
  replace T1 := Lib.hid (T1.out.next hb.out)
  have U := Lib.hid (IV.new hd_ o_)
  have zU : Y1.heap.size ≤ Y2.heap.size := hb.out.size
  replace B := Lib.hid (B.out.trans (hb.out.mono B.out.size))
  clear hb hb_ o_ hd_ f_
  clear T1
  go_wp2_with fail
  refine (TA.out _ B.out).mono ?_
  rintro e Y3 ⟨v_, f_, rfl, hd_, o_, hb_⟩
  obtain ⟨aV, cV, rfl⟩ := rows_form (layIntS.read o_)
  have hb := Lib.hid hb_
  replace U := Lib.hid (U.out.next hb.out)
  have V := Lib.hid (IV.new hd_ o_)
  have zV : Y2.heap.size ≤ Y3.heap.size := hb.out.size
  replace B := Lib.hid (B.out.trans (hb.out.mono B.out.size))
  clear hb hb_ o_ hd_ f_
  go_wp2_with fail
  refine (HI.out _ _ V.out.rd).mono ?_
  rintro e Y4 ⟨v_, f_, rfl, hd_, o_, hb_⟩
  obtain ⟨aG, cG, rfl⟩ := rows_form (layIntS.read o_)
  have hb := Lib.hid hb_
  replace U := Lib.hid (U.out.next hb.out)
  replace V := Lib.hid (V.out.next hb.out)
  have G := Lib.hid (IV.new hd_ o_)
  have zG : Y3.heap.size ≤ Y4.heap.size := hb.out.size
  replace B := Lib.hid (B.out.trans (hb.out.mono B.out.size))
  clear hb hb_ o_ hd_ f_
  go_wp2_with fail
  refine (eqIntS_same _ _ r (by omega) _ G.out.rd U.out.rd).mono ?_
  rintro e Y5 ⟨rfl, hb_⟩
  have hb := Lib.hid hb_
  replace U := Lib.hid (U.out.next hb.out)
  replace V := Lib.hid (V.out.next hb.out)
  replace G := Lib.hid (G.out.next hb.out)
  have zY5 : Y4.heap.size ≤ Y5.heap.size := hb.out.size
  replace B := Lib.hid (B.out.trans (hb.out.mono B.out.size))
  clear hb hb_
  go_wp2_with fail
  refine (TA.out _ B.out).mono ?_
  rintro e Y6 ⟨v_, f_, rfl, hd_, o_, hb_⟩
  obtain ⟨aT2, cT2, rfl⟩ := rows_form (layIntS.read o_)
  have hb := Lib.hid hb_
  replace U := Lib.hid (U.out.next hb.out)
  replace V := Lib.hid (V.out.next hb.out)
  replace G := Lib.hid (G.out.next hb.out)
  have T2 := Lib.hid (IV.new hd_ o_)
  have zT2 : Y5.heap.size ≤ Y6.heap.size := hb.out.size
  replace B := Lib.hid (B.out.trans (hb.out.mono B.out.size))
  clear hb hb_ o_ hd_ f_
  go_wp2_with fail
  refine (eqIntS_same _ _ xs (by omega) _ V.out.rd T2.out.rd).mono ?_
  rintro e Y7 ⟨rfl, hb_⟩
  have hb := Lib.hid hb_
  replace U := Lib.hid (U.out.next hb.out)
  replace V := Lib.hid (V.out.next hb.out)
  replace G := Lib.hid (G.out.next hb.out)
  replace T2 := Lib.hid (T2.out.next hb.out)
  have zY7 : Y6.heap.size ≤ Y7.heap.size := hb.out.size
  replace B := Lib.hid (B.out.trans (hb.out.mono B.out.size))
  clear hb hb_
  clear T2
  go_wp2_with fail
  refine (V.out.mark (by omega)).mono ?_
  rintro e Y8 ⟨rfl, -, hc⟩
  have zY8 : Y7.heap.size ≤ Y8.heap.size := by obtain ⟨_, _, h⟩ := hc; exact h.size
  replace U := Lib.hid (U.out.away hc (.inr (by omega)))
  replace G := Lib.hid (G.out.away hc (.inl (by omega)))
  replace B := Lib.hid (chg_below B.out hc (by omega))
  clear hc V
  have hk1 : ¬ ((1 + (xs.length : Int)) < 0) := by omega
  go_wp2_with fail
  refine (eqIntS_same _ _ r (by omega) _ G.out.rd U.out.rd).mono ?_
  rintro e Y9 ⟨rfl, hb_⟩
  have hb := Lib.hid hb_
  replace U := Lib.hid (U.out.next hb.out)
  replace G := Lib.hid (G.out.next hb.out)
  have zY9 : Y8.heap.size ≤ Y9.heap.size := hb.out.size
  replace B := Lib.hid (B.out.trans (hb.out.mono B.out.size))
  clear hb hb_
  go_wp2_with fail
  refine (G.out.mark (by omega)).mono ?_
  rintro e Y10 ⟨rfl, hm, hc⟩
  have zY10 : Y9.heap.size ≤ Y10.heap.size := by obtain ⟨_, _, h⟩ := hc; exact h.size
  replace U := Lib.hid (U.out.away hc (.inr (by omega)))
  replace G := Lib.hid hm
  replace B := Lib.hid (chg_below B.out hc (by omega))
  clear hc hm
  have hk2 : ¬ ((1 + (r.length : Int)) < 0) := by omega
  go_wp2_with fail
  refine (G.out.held (by omega)).mono ?_
  rintro e Z9 ⟨rfl, hz9⟩
  rw [hz9]
  clear hz9 Z9
  go_wp2_with fail
  refine (TA.out _ B.out).mono ?_
  rintro e Y11 ⟨v_, f_, rfl, hd_, o_, hb_⟩
  obtain ⟨aT3, cT3, rfl⟩ := rows_form (layIntS.read o_)
  have hb := Lib.hid hb_
  replace U := Lib.hid (U.out.next hb.out)
  replace G := Lib.hid (G.out.next hb.out)
  have T3 := Lib.hid (IV.new hd_ o_)
  have zT3 : Y10.heap.size ≤ Y11.heap.size := hb.out.size
  replace B := Lib.hid (B.out.trans (hb.out.mono B.out.size))
  clear hb hb_ o_ hd_ f_
  go_wp2_with fail
  refine (HI.out _ _ T3.out.rd).mono ?_
  rintro e Y12 ⟨v_, f_, rfl, hd_, o_, hb_⟩
  obtain ⟨aH, cH, rfl⟩ := rows_form (layIntS.read o_)
  have hb := Lib.hid hb_
  replace U := Lib.hid (U.out.next hb.out)
  replace G := Lib.hid (G.out.next hb.out)
  replace T3 := Lib.hid (T3.out.next hb.out)
  have H := Lib.hid (IV.new hd_ o_)
  have zH : Y11.heap.size ≤ Y12.heap.size := hb.out.size
  replace B := Lib.hid (B.out.trans (hb.out.mono B.out.size))
  clear hb hb_ o_ hd_ f_
  clear T3
  go_wp2_with fail
  refine (eqIntS_same _ _ r (by omega) _ H.out.rd U.out.rd).mono ?_
  rintro e Y13 ⟨rfl, hb_⟩
  have hb := Lib.hid hb_
  replace U := Lib.hid (U.out.next hb.out)
  replace G := Lib.hid (G.out.next hb.out)
  replace H := Lib.hid (H.out.next hb.out)
  have zY13 : Y12.heap.size ≤ Y13.heap.size := hb.out.size
  replace B := Lib.hid (B.out.trans (hb.out.mono B.out.size))
  clear hb hb_
  go_wp2_with fail
  refine (G.out.held (by omega)).mono ?_
  rintro e Z9 ⟨rfl, hz9⟩
  rw [hz9]
  clear hz9 Z9
  go_wp2_with fail
  go_ret
  exact ⟨rfl, B.out⟩

end Go.Proofs.Ytlnehcjcjmfboaa
namespace Go.Proofs.Ytlnehcjcjmfboaa
open Go.RowKit

theorem lawNoteSeen (v : Value) (xs : List Int) (n : Int) (hwf : ∀ x ∈ xs, IntZ x) (hwn : IntZ n) (w : World) (ha : layIntS.rd w [v] xs) :
    Calls Try.prog 6 #[v, .int .i64 n] w fun e w' => e = .returned (.bool true) ∧ Below w.heap.size w w' := by
  obtain ⟨r, hr⟩ := note_is xs n
  exact lawNoteSeenF v xs n r (fun hl => by have := note_len hr; omega) (fun hl u X h => implNoteSeen_any xs n u r hr (by omega) hwf hwn X h) (fun hl u X h => specNoteSeen_any xs n u r hr (by omega) X h) w ha

end Go.Proofs.Ytlnehcjcjmfboaa
