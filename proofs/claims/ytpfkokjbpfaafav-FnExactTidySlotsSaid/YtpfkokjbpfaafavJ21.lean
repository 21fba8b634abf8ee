/-
  The exact law on TidySlots, at every argument.
  The program's SeenOk.
  The exact laws on SeenOk and IsFresh, out of one answer that both give.
  Rows of ints as arguments, opened.
  The exact law on SeenOk, at every argument.
-/
import Derived.Test.YtpfkokjbpfaafavJ19
import Derived.Test.YtpfkokjbpfaafavJ16
import Derived.Test.YtpfkokjbpfaafavJ20
import Derived.Test.YtpfkokjbpfaafavJ17
import Derived.Test.YtpfkokjbpfaafavJ15
import Derived.Test.YtpfkokjbpfaafavJ06
import Derived.Test.YtpfkokjbpfaafavJ05
import Derived.Test.YtpfkokjbpfaafavJ14
import Derived.OpenShut
namespace Go.Proofs.Ytpfkokjbpfaafav
open Go.RowKit

set_option maxHeartbeats 1600000 in
theorem lawTidySlots (x0 : Int) (x1 x2 : ByteArray) (x3 : Int) (v4 : Value) (r4 : List Int) (x5 : Int) (y0 : Int) (y1 y2 : ByteArray) (y3 : Int) (u4 : Value) (s4 : List Int) (y5 : Int) (now : Int) (gx : SlG x0 x1 x2 x3 r4 x5) (gy : SlG y0 y1 y2 y3 s4 y5) (hwn : IntZ now) (w : World) (ha : layIntS.rd w [v4] r4) (hb : layIntS.rd w [u4] s4) :
    Calls Try.prog 3 #[.agg #[.int .i64 x0, .string x1, .string x2, .int .i64 x3, v4, .int .i64 x5, .int .i64 y0, .string y1, .string y2, .int .i64 y3, u4, .int .i64 y5], .int .i64 now] w fun e w' => e = .returned (.bool true) ∧ Below w.heap.size w w' := by
  by_cases hr : r4.length ≤ 1048576 ∧ s4.length ≤ 1048576
  · by_cases hu : y5 ≤ now
    · exact lawTidySlotsF x0 x1 x2 x3 v4 r4 x5 y0 y1 y2 y3 u4 s4 y5 now gx.s1 gx.s2 gx.r gy.s1 gy.s2 gy.r x0 x1 x2 x3 r4 x5 0 ⟨#[]⟩ ⟨#[]⟩ 0 [] 0 (by omega) (by simp) (fun f1 f2 v u X h k => (implTidySlots_any x0 x1 x2 x3 v r4 x5 y0 y1 y2 y3 u s4 y5 now f1 f2 gx gy hwn X h k).mono fun _ _ h => h.elim (fun q => q.2) (fun q => absurd hu q.1)) (fun f1 f2 v u X h k => (specTidySlots_any x0 x1 x2 x3 v r4 x5 y0 y1 y2 y3 u s4 y5 now (by have := f1.2.2; unfold FitsInt at this; omega) (by have := f2.2.2; unfold FitsInt at this; omega) X h k).mono fun _ _ h => h.elim (fun q => q.2) (fun q => absurd hu q.1)) w ha hb
    · exact lawTidySlotsF x0 x1 x2 x3 v4 r4 x5 y0 y1 y2 y3 u4 s4 y5 now gx.s1 gx.s2 gx.r gy.s1 gy.s2 gy.r x0 x1 x2 x3 r4 x5 y0 y1 y2 y3 s4 y5 (by omega) (by omega) (fun f1 f2 v u X h k => (implTidySlots_any x0 x1 x2 x3 v r4 x5 y0 y1 y2 y3 u s4 y5 now f1 f2 gx gy hwn X h k).mono fun _ _ h => h.elim (fun q => absurd q.1 hu) (fun q => q.2)) (fun f1 f2 v u X h k => (specTidySlots_any x0 x1 x2 x3 v r4 x5 y0 y1 y2 y3 u s4 y5 now (by have := f1.2.2; unfold FitsInt at this; omega) (by have := f2.2.2; unfold FitsInt at this; omega) X h k).mono fun _ _ h => h.elim (fun q => absurd q.1 hu) (fun q => q.2)) w ha hb
  · exact lawTidySlotsF x0 x1 x2 x3 v4 r4 x5 y0 y1 y2 y3 u4 s4 y5 now gx.s1 gx.s2 gx.r gy.s1 gy.s2 gy.r 0 ⟨#[]⟩ ⟨#[]⟩ 0 [] 0 0 ⟨#[]⟩ ⟨#[]⟩ 0 [] 0 (by simp) (by simp) (fun f1 f2 => absurd ⟨f1.2.2, f2.2.2⟩ hr) (fun f1 f2 => absurd ⟨f1.2.2, f2.2.2⟩ hr) w ha hb

end Go.Proofs.Ytpfkokjbpfaafav
namespace Go.Proofs.Ytpfkokjbpfaafav
open Go.RowKit

/-- Right ones are few: no more than six are above the first less six. -/
theorem seenTo_few {xs : List Int} (h : SeenTo xs xs.length) : xs.length ≤ 6 := by
  have hd : DescZ xs := (desc_iff xs).2 fun i hi => (h (i + 1) hi hi).2.1 (by omega)
  have hm : ∀ x ∈ xs, topZ xs - 6 < x := fun x hx => by
    obtain ⟨i, hi, rfl⟩ := List.getElem_of_mem hx
    exact (h i hi hi).2.2
  have := desc_len hd hm
  omega
set_option maxRecDepth 100000 in
set_option maxHeartbeats 3200000 in
theorem implSeenOk_bool (xs : List Int) (v : Value) (b : Bool) (hb : b = true ↔ SeenP xs) (hl : xs.length ≤ 100000000) (_hwf : ∀ x ∈ xs, IntZ x) (w : World) (h : layIntS.rd w [v] xs) :
    Calls Try.prog 14 #[v] w fun e w' => e = .returned (.bool b) ∧ Below w.heap.size w w' := by
  rw [seenP_iff] at hb
  obtain ⟨ao, cp, rfl⟩ := rows_form h
  have HR := Lib.hid h
  have HB := Lib.hid hb
  have HF : Hid (¬ SeenTo xs xs.length → b = false) := Lib.hid (fun h => by
    cases b with
    | false => rfl
    | true => exact absurd (hb.1 rfl).1 h)
  clear h hb
  go_enter Try.func14, Try.ntmps14
  go_wp2_with fail
  go_loop [7] (fun c => ∃ j : Nat, j ≤ xs.length ∧ c = .int .i64 j ∧ Hid (SeenTo xs j)) (fun c => xs.length - (intOf c).toNat)
  case atStart => exact ⟨0, Nat.zero_le _, rfl, Lib.hid (fun i _ h => absurd h (by omega))⟩
  case round =>
    obtain ⟨j, hj, rfl, HA⟩ := hrel
    by_cases hlt : j < xs.length
    · have hlt' : (j : Int) < (xs.length : Int) := by omega
      have hl0 : (0 : Int) < (xs.length : Int) := by omega
      obtain ⟨g, off, c2, hv, -, c0⟩ := ints_get HR.out j hlt
      simp only [Value.slice.injEq] at hv
      obtain ⟨rfl, -, rfl⟩ := hv
      have d0 := ints_at HR.out (show 0 < xs.length by omega) rfl
      have d1 : w.cell? ⟨g, off, none⟩ = some (.int .i64 (xs[0]'(by omega))) := d0
      obtain ⟨p, hpe⟩ : ∃ p : Int, (hj2 : j - 1 < xs.length) → xs[j - 1] = p := ⟨xs.getD (j - 1) 0, fun h => by rw [List.getD_eq_getElem?_getD, List.getElem?_eq_getElem h]; rfl⟩
      have hpv : 0 < j → ∀ i : Nat, i = j - 1 → w.cell? ⟨g, off + i, none⟩ = some (.int .i64 p) := fun h0 i hi => by
        subst hi
        rw [← hpe (by omega)]
        exact ints_at HR.out (show j - 1 < xs.length by omega) rfl
      have htop : topZ xs = xs[0]'(by omega) := top_get (by omega)
      have hfirst : 0 < j → 1 ≤ xs[0]'(by omega) ∧ xs[0]'(by omega) ≤ 1000000000 := fun h0 => (HA.out 0 (by omega) h0).1
      have hzero : j = 0 → xs[0]'(by omega) = xs[j] := fun h0 => by subst h0; rfl
      have HX : Hid (¬ ((1 ≤ xs[j] ∧ xs[j] ≤ 1000000000) ∧ (0 < j → xs[j] < p) ∧ xs[0]'(by omega) - 6 < xs[j]) → b = false) := Lib.hid (fun h => HF.out fun hw => h (by rw [← htop]; have := hw j hlt hlt; exact ⟨this.1, fun h0 => by rw [← hpe (by omega)]; exact this.2.1 h0, this.2.2⟩))
      have HNX : Hid ((1 ≤ xs[j] ∧ xs[j] ≤ 1000000000) → (0 < j → xs[j] < p) → xs[0]'(by omega) - 6 < xs[j] → SeenTo xs (j + 1)) := Lib.hid (fun h1 h2 h3 => seenTo_next hlt HA.out h1 (fun h0 => by rw [hpe (by omega)]; exact h2 h0) (by rw [htop]; exact h3))
      clear htop hpe
      generalize (xs[0]'(by omega)) = t at *
      generalize xs[j] = x at *
      by_cases h1 : 1 ≤ x
      rotate_left
      · obtain rfl := HX.out (fun h => h1 h.1.1)
        have k1 : decide (x < 1) = true := decide_eq_true (by omega)
        clear HX HNX h1 hpv hfirst hzero
        go_wp2_with fail
        go_ret
        exact ⟨rfl, Below.refl _ _⟩
      have k1 : decide (x < 1) = false := decide_eq_false (by omega)
      by_cases h2 : x ≤ 1000000000
      rotate_left
      · obtain rfl := HX.out (fun h => h2 h.1.2)
        have k2 : decide (1000000000 < x) = true := decide_eq_true (by omega)
        clear HX HNX h1 h2 hpv hfirst hzero
        go_wp2_with fail
        go_ret
        exact ⟨rfl, Below.refl _ _⟩
      have k2 : decide (1000000000 < x) = false := decide_eq_false (by omega)
      have ht : 1 ≤ t ∧ t ≤ 1000000000 := by
        rcases Nat.eq_zero_or_pos j with h0 | h0
        · rw [hzero h0]; exact ⟨h1, h2⟩
        · exact hfirst h0
      have hwt : IntKind.i64.wrap (t - 6) = t - 6 := by rw [IntKind.wrap_i64]; omega
      by_cases hf : t - 6 < x
      rotate_left
      · obtain rfl := HX.out (fun h => hf h.2.2)
        have k3 : decide (x ≤ t - 6) = true := decide_eq_true (by omega)
        clear HX HNX h1 h2 hf hpv hfirst hzero
        go_wp2_with fail
        go_ret
        exact ⟨rfl, Below.refl _ _⟩
      have k3 : decide (x ≤ t - 6) = false := decide_eq_false (by omega)
      rcases Nat.eq_zero_or_pos j with h0 | h0
      · have h00 : ¬ ((0 : Int) < (j : Int)) := by omega
        have h01 : ¬ (0 < j) := by omega
        have HJ := Lib.hid (HNX.out ⟨h1, h2⟩ (fun h => absurd h (by omega)) hf)
        clear HX HNX hpv hfirst hzero h0
        go_wp2_with fail
        go_round
        case rel => exact ⟨j + 1, by omega, by go_num, HJ⟩
        case measure => simp [intOf]; omega
      · have h0' : (0 : Int) < (j : Int) := by omega
        obtain ⟨i, hi⟩ : ∃ i : Nat, i = j - 1 := ⟨_, rfl⟩
        have hwi : IntKind.i64.wrap ((j : Int) - 1) = (i : Int) := by rw [IntKind.wrap_i64]; omega
        have hil : (i : Int) < (xs.length : Int) := by omega
        have p0 := hpv h0 i hi
        clear hpv hfirst hzero hi
        by_cases hp : x < p
        rotate_left
        · obtain rfl := HX.out (fun h => hp (h.2.1 h0))
          have hp' : decide (p ≤ x) = true := decide_eq_true (by omega)
          clear HX HNX hp
          go_wp2_with fail
          go_ret
          exact ⟨rfl, Below.refl _ _⟩
        have hp' : decide (p ≤ x) = false := decide_eq_false (by omega)
        have HJ := Lib.hid (HNX.out ⟨h1, h2⟩ (fun _ => hp) hf)
        clear HX HNX
        go_wp2_with fail
        go_round
        case rel => exact ⟨j + 1, by omega, by go_num, HJ⟩
        case measure => simp [intOf]; omega
    · obtain rfl : j = xs.length := by omega
      have hge : ¬ ((xs.length : Int) < (xs.length : Int)) := by omega
      obtain rfl : b = true := HB.out.2 ⟨HA.out, seenTo_few HA.out⟩
      go_wp2_with fail
      go_ret
      exact ⟨rfl, Below.refl _ _⟩

end Go.Proofs.Ytpfkokjbpfaafav
namespace Go.Proofs.Ytpfkokjbpfaafav
open Go.RowKit

set_option maxRecDepth 100000 in
set_option maxHeartbeats 1600000 in
theorem lawSeenOkF (va : Value) (xs : List Int) (b : Bool) (hI : xs.length ≤ 1048576 → ∀ (u : Value) (X : World), layIntS.rd X [u] xs → Calls Try.prog 14 #[u] X fun e Y => e = .returned (.bool b) ∧ Below X.heap.size X Y) (hS : xs.length ≤ 1048576 → ∀ (u : Value) (X : World), layIntS.rd X [u] xs → Calls Try.prog 12 #[u] X fun e Y => e = .returned (.bool b) ∧ Below X.heap.size X Y) (w : World) (ha : layIntS.rd w [va] xs) :
    Calls Try.prog 4 #[va] w fun e w' => e = .returned (.bool true) ∧ Below w.heap.size w w' := by
  obtain ⟨aa, ca, rfl⟩ := rows_form ha
  have HA := Lib.hid ha
  have HI0 := Lib.hid hI
  have HS0 := Lib.hid hS
  have hbb : (b != b) = false := by cases b <;> rfl
  clear hI hS ha
  go_enter Try.func4, Try.ntmps4
  by_cases hbig : xs.length ≤ 1048576
  rotate_left
  · have hbi : (1048576 : Int) < (xs.length : Int) := by omega
    go_wp2_with fail
    go_ret
    exact ⟨rfl, Below.refl _ _⟩
  have hbi : ¬ ((1048576 : Int) < (xs.length : Int)) := by omega
  have HI := Lib.hid (HI0.out hbig)
  have HS := Lib.hid (HS0.out hbig)
  have TA : Hid (∀ X, Below w.heap.size w X → Calls Try.prog 13 #[.slice aa xs.length ca] X fun e Y => OutS layIntS X xs e Y) := Lib.hid (fun X hX => toIntS_any _ xs hbig X (layIntS.below HA.out hX))
  clear HI0 HS0
  go_wp2_with fail
  refine (TA.out _ (Below.refl _ _)).mono ?_
  rintro e Y3 ⟨v3, f3, rfl, -, o3, hb⟩
  obtain ⟨a3, c3, rfl⟩ := rows_form (layIntS.read o3)
  have B := Lib.hid hb
  have KS := Lib.hid (HS.out _ Y3 (layIntS.read o3))
  clear hb o3 f3
  go_wp2_with fail
  refine (KS.out).mono ?_
  rintro e Y5 ⟨rfl, hb⟩
  replace B := Lib.hid (B.out.trans (hb.mono B.out.size))
  clear hb KS
  go_wp2_with fail
  refine (TA.out _ B.out).mono ?_
  rintro e Y6 ⟨v5, f5, rfl, -, o5, hb⟩
  obtain ⟨a5, c5, rfl⟩ := rows_form (layIntS.read o5)
  have R5 := Lib.hid (layIntS.read o5)
  replace B := Lib.hid (B.out.trans (hb.mono B.out.size))
  have KI := Lib.hid (HI.out _ Y6 R5.out)
  clear hb o5 f5
  go_wp2_with fail
  refine (KI.out).mono ?_
  rintro e Y8 ⟨rfl, hb⟩
  replace R5 := Lib.hid (layIntS.below R5.out hb)
  replace B := Lib.hid (B.out.trans (hb.mono B.out.size))
  clear hb KI
  go_wp2_with fail
  refine (TA.out _ B.out).mono ?_
  rintro e Y9 ⟨v7, f7, rfl, -, o7, hb⟩
  obtain ⟨a7, c7, rfl⟩ := rows_form (layIntS.read o7)
  have KE := Lib.hid (eqIntS_same _ _ xs (by omega) Y9 (layIntS.below R5.out hb) (layIntS.read o7))
  replace B := Lib.hid (B.out.trans (hb.mono B.out.size))
  clear hb o7 f7
  go_wp2_with fail
  refine (KE.out).mono ?_
  rintro e YA ⟨rfl, hb⟩
  replace B := Lib.hid (B.out.trans (hb.mono B.out.size))
  clear hb KE
  go_wp2_with fail
  go_ret
  exact ⟨rfl, B.out⟩

end Go.Proofs.Ytpfkokjbpfaafav
namespace Go.Proofs.Ytpfkokjbpfaafav
open Go.ChangeShapes Go.WideShapes Go.RowKit

set_option maxRecDepth 100000 in
theorem open_row {H : Type} {enc : TypeId × Value → H} {W : World} {r : Reach} {base : Nat} {v : Value} {d : DataW H} {p : List MemPlace} (hok : Value.okWide Try.prog W r base 22 v) (h : DataW.Trod enc Try.prog W 0 (fun _ => true) true 22 v d p) :
    ∃ (xs : List Int), layIntS.rd W [v] xs ∧ xs.length ≤ 9223372036854775807 ∧ ∀ x ∈ xs, IntZ x := by
  obtain ⟨x, hx, hg⟩ := Opens.slice (Opens.rows (A := Lay.int) 3 Try.underlying22 (by kernel_rfl) (Opens.int (enc := enc) (W := W) Try.underlying3)) Try.underlying22 hok h
  have hm : maxLen ≤ 9223372036854775807 := by unfold maxLen; omega
  exact ⟨x, hx, Nat.le_trans hg.1 hm, fun z hz => bounds_i64 (hg.2 z hz)⟩

end Go.Proofs.Ytpfkokjbpfaafav
namespace Go.Proofs.Ytpfkokjbpfaafav
open Go.RowKit

theorem lawSeenOk (v : Value) (xs : List Int) (hwf : ∀ x ∈ xs, IntZ x) (w : World) (ha : layIntS.rd w [v] xs) :
    Calls Try.prog 4 #[v] w fun e w' => e = .returned (.bool true) ∧ Below w.heap.size w w' := by
  obtain ⟨b, hb⟩ : ∃ b : Bool, b = true ↔ SeenP xs := by
    by_cases h : SeenP xs
    · exact ⟨true, fun _ => h, fun _ => rfl⟩
    · exact ⟨false, fun e => (by cases e), fun e => absurd e h⟩
  exact lawSeenOkF v xs b (fun hl u X h => implSeenOk_bool xs u b hb (by omega) hwf X h) (fun hl u X h => specSeenOk_bool xs u b hb (by omega) X h) w ha

end Go.Proofs.Ytpfkokjbpfaafav
