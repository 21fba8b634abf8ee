/-
  Rows of ints of the call's own; no program is spoken of here.
  Whether a number is one of a row, by the given code.
  The given test of a range, by what it answers.
  The given SeenOk and IsFresh.
-/
import Derived.Test.YtogninaejehinavJ07
import Derived.Test.YtogninaejehinavRows
import Derived.Test.YtogninaejehinavJ02
import Derived.Test.YtogninaejehinavJ01
import Derived.BigQuiet
import Derived.Deep.QuietTactic
namespace Go.Proofs.Ytogninaejehinav
open Go.RowKit

def layIntS : Lay (List Int) := .rows 3 .int
theorem int_own {w : World} {b : Nat} {f : List Nat} {cs : List Value} {x : Int} : Lay.int.own w b f cs x ↔ f = [] ∧ cs = [.int .i64 x] := Iff.rfl
theorem int_rd {w : World} {cs : List Value} {x : Int} : Lay.int.rd w cs x ↔ cs = [.int .i64 x] := Iff.rfl
theorem zeroInt_none (w : World) (b : Nat) (f : List Nat) (c : List Value) (h : Lay.int.own w b f c 0) : f = [] := h.1
theorem infoInt : (Try.prog.info? 3).map (fun i => (i.zero, i.size, i.bytes)) = some (some (.int .i64 0), 1, 8) := by kernel_rfl
/-- One number of a row that can be read. -/
theorem ints_get {w : World} {v : Value} {xs : List Int} (h : layIntS.rd w [v] xs) (m : Nat) (hm : m < xs.length) : ∃ g off cap, v = .slice (some ⟨g, off, none⟩) xs.length cap ∧ g < w.heap.size ∧ w.cell? ⟨g, off + m, none⟩ = some (.int .i64 xs[m]) := by
  obtain ⟨a, cap, rfl⟩ := rows_form h
  obtain ⟨g, off, c, rfl, hg, hr, hc⟩ := rows_elem h m _ (List.getElem?_eq_getElem hm)
  rw [int_rd] at hr
  subst hr
  refine ⟨g, off, cap, rfl, hg, ?_⟩
  have := hc 0 _ rfl
  rw [show Lay.int.k = 1 from rfl, Nat.mul_one] at this
  exact this
/-- One number of a row is read and written. -/
theorem ints_put {w : World} {b : Nat} {fp : List Nat} {v : Value} {xs : List Int} (h : layIntS.own w b fp [v] xs) (hd : fp.Nodup) (m : Nat) (hm : m < xs.length) (y : Int) :
    ∃ g cap, v = .slice (some ⟨g, 0, none⟩) xs.length cap ∧ b ≤ g ∧ g < w.heap.size ∧ g ∈ fp ∧ w.cell? ⟨g, m, none⟩ = some (.int .i64 xs[m]) ∧ w.frozen? ⟨g, m, none⟩ = false ∧
      layIntS.own (w.setCell ⟨g, m, none⟩ (.int .i64 y)) b fp [v] (xs.set m y) ∧ Chg fp w (w.setCell ⟨g, m, none⟩ (.int .i64 y)) := by
  have e : xs = xs.take m ++ xs[m] :: xs.drop (m + 1) := by rw [List.getElem_cons_drop, List.take_append_drop]
  have es : xs.set m y = xs.take m ++ y :: xs.drop (m + 1) := by rw [List.set_eq_take_append_cons_drop, if_pos hm]
  have hl : (xs.take m ++ xs[m] :: xs.drop (m + 1)).length = xs.length := by rw [← e]
  have h2 := h
  rw [e] at h2
  obtain ⟨g, cap, f1, f2, f3, u1, c, u3, hv, rfl, Z⟩ := rows_open h2 hd
  rw [hl] at hv
  obtain ⟨rfl, rfl⟩ := int_own.1 Z.mid
  have hml : (xs.take m).length = m := by rw [List.length_take]; omega
  have hc := Z.cell 0 _ rfl
  rw [show Lay.int.k = 1 from rfl, Nat.mul_one, hml] at hc
  have hs := Z.store [.int .i64 y] 0 (by simp) [] y (int_own.2 ⟨rfl, rfl⟩) Z.dup
  rw [show Lay.int.k = 1 from rfl, Nat.mul_one, hml] at hs
  refine ⟨g, cap, hv, Z.lt.1, Z.lt.2, by simp, hc.1, hc.2, ?_, hs.2.sub (by simp)⟩
  have h3 := hs.1.shut
  have e4 : (xs.take m ++ y :: xs.drop (m + 1)).length = xs.length := by rw [← es, List.length_set]
  rw [e4] at h3
  rw [es, hv]
  exact h3

end Go.Proofs.Ytogninaejehinav
namespace Go.Proofs.Ytogninaejehinav
open Go.RowKit

set_option maxRecDepth 100000 in
set_option maxHeartbeats 800000 in
theorem specChanIn_any (xs : List Int) (x : Int) (v : Value) (b : Bool) (hb : b = true ↔ x ∈ xs) (hl : xs.length ≤ 100000000) (w : World) (h : layIntS.rd w [v] xs) :
    Calls Try.prog 32 #[v, .int .i64 x] w fun e w' => e = .returned (.bool b) ∧ w' = w := by
  obtain ⟨ao, cp, rfl⟩ := rows_form h
  have HR := Lib.hid h
  have HB := Lib.hid hb
  clear h hb
  go_enter Try.func32, Try.ntmps32
  go_wp2_with fail
  go_loop [5] (fun c => ∃ j : Nat, j ≤ xs.length ∧ c = .int .i64 j ∧ Hid (∀ i, (hi : i < xs.length) → i < j → xs[i] ≠ x)) (fun c => xs.length - (intOf c).toNat)
  case atStart => exact ⟨0, Nat.zero_le _, rfl, fun i _ h => absurd h (by omega)⟩
  case round =>
    obtain ⟨j, hj, rfl, HA⟩ := hrel
    by_cases hlt : j < xs.length
    · have hlt' : (j : Int) < (xs.length : Int) := by omega
      obtain ⟨g, off, cap, hv, hg, hcell⟩ := ints_get HR.out j hlt
      simp only [Value.slice.injEq] at hv
      obtain ⟨rfl, -, rfl⟩ := hv
      have HX : Hid (xs[j] = x → b = true) := fun h => HB.out.2 (h ▸ List.getElem_mem hlt)
      have HNX : Hid (xs[j] ≠ x → ∀ i, (hi : i < xs.length) → i < j + 1 → xs[i] ≠ x) := fun hx i hi h => by
        rcases Nat.lt_or_ge i j with h2 | h2
        · exact HA.out i hi h2
        · have : i = j := by omega
          subst this
          exact hx
      generalize xs[j] = y at hcell HX HNX
      by_cases hx : y = x
      · obtain rfl := HX.out hx
        have k1 : (y == x) = true := by rw [beq_iff_eq]; exact hx
        clear hx
        go_wp2_with fail
        go_ret
        exact ⟨rfl, rfl⟩
      · have HJ := Lib.hid (HNX.out hx)
        have k1 : (y == x) = false := by rw [beq_eq_false_iff_ne]; exact hx
        clear hx
        go_wp2_with fail
        go_round
        case rel => exact ⟨j + 1, by omega, by go_num, HJ⟩
        case measure => simp [intOf]; omega
    · have hlt' : ¬ ((j : Int) < (xs.length : Int)) := by omega
      obtain rfl : b = false := by
        cases b with
        | false => rfl
        | true =>
          obtain ⟨i, hi, he⟩ := List.getElem_of_mem (HB.out.1 rfl)
          exact absurd he (HA.out i hi (by omega))
      go_wp2_with fail
      go_ret
      exact ⟨rfl, rfl⟩

end Go.Proofs.Ytogninaejehinav
namespace Go.Proofs.Ytogninaejehinav
open Go.RowKit

theorem inRange_yes (x a b : Int) (h0 : a ≤ x) (h1 : x ≤ b) (w : World) :
    Calls Try.prog 31 #[.int .i64 x, .int .i64 a, .int .i64 b] w fun e w' => e = .returned (.bool true) ∧ w' = w := by
  go_enter Try.func31, Try.ntmps31
  go_wp2
  go_ret
  exact ⟨rfl, rfl⟩

theorem inRange_no (x a b : Int) (h : x < a ∨ b < x) (w : World) :
    Calls Try.prog 31 #[.int .i64 x, .int .i64 a, .int .i64 b] w fun e w' => e = .returned (.bool false) ∧ w' = w := by
  by_cases hx : x < a
  · go_enter Try.func31, Try.ntmps31
    go_wp2
    go_ret
    exact ⟨rfl, rfl⟩
  · have h0 : a ≤ x := by omega
    have h1 : decide (x ≤ b) = false := decide_eq_false (by omega)
    clear h hx
    go_enter Try.func31, Try.ntmps31
    go_wp2
    go_ret
    exact ⟨rfl, rfl⟩

end Go.Proofs.Ytogninaejehinav
namespace Go.Proofs.Ytogninaejehinav
open Go.RowKit

/-- An element of a row of ints, by its cell. -/
theorem ints_at {w : World} {a : Option Addr} {n c : Nat} {xs : List Int} (h : layIntS.rd w [.slice a n c] xs) {j : Nat} (hj : j < xs.length) {g off : Nat} (ha : a = some ⟨g, off, none⟩) : w.cell? ⟨g, off + j, none⟩ = some (.int .i64 xs[j]) := by
  obtain ⟨g2, off2, c2, hv, -, hc⟩ := ints_get h j hj
  simp only [Value.slice.injEq] at hv
  obtain ⟨rfl, -, -⟩ := hv
  simp only [Option.some.injEq, Addr.mk.injEq, and_true] at ha
  obtain ⟨rfl, rfl⟩ := ha
  exact hc

set_option maxRecDepth 100000 in
set_option maxHeartbeats 3200000 in
theorem specSeenOk_bool (xs : List Int) (v : Value) (b : Bool) (hb : b = true ↔ SeenP xs) (hl : xs.length ≤ 100000000) (w : World) (h : layIntS.rd w [v] xs) :
    Calls Try.prog 14 #[v] w fun e w' => e = .returned (.bool b) ∧ Below w.heap.size w w' := by
  rw [seenP_iff] at hb
  obtain ⟨ao, cp, rfl⟩ := rows_form h
  have HR := Lib.hid h
  have HB := Lib.hid hb
  have HF : Hid (¬ SeenTo xs xs.length → b = false) := Lib.hid (fun h => by
    cases b with
    | false => rfl
    | true => exact absurd (hb.1 rfl).1 h)
  clear h hb
  go_enter Try.func14, Try.ntmps14
  go_wp2_with fail
  go_loopw [3] (fun c wr => ∃ j : Nat, j ≤ xs.length ∧ c = .int .i64 j ∧ Hid (SeenTo xs j) ∧ Hid (Below w.heap.size w wr)) (fun c _ => xs.length - (intOf c).toNat)
  case atStart => exact ⟨0, Nat.zero_le _, rfl, Lib.hid (fun i _ h => absurd h (by omega)), Lib.hid (Below.refl _ _)⟩
  case round =>
    obtain ⟨j, hj, rfl, HA, HW⟩ := hrel
    by_cases hlt : j < xs.length
    · have hlt' : (j : Int) < (xs.length : Int) := by omega
      have hl0 : (0 : Int) < (xs.length : Int) := by omega
      have HRW := layIntS.below HR.out HW.out
      obtain ⟨g, off, c2, hv, -, c0⟩ := ints_get HRW j hlt
      simp only [Value.slice.injEq] at hv
      obtain ⟨rfl, -, rfl⟩ := hv
      have d0 := ints_at HRW (show 0 < xs.length by omega) rfl
      have d1 : wr.cell? ⟨g, off, none⟩ = some (.int .i64 (xs[0]'(by omega))) := d0
      obtain ⟨p, hpe⟩ : ∃ p : Int, (hj2 : j - 1 < xs.length) → xs[j - 1] = p := ⟨xs.getD (j - 1) 0, fun h => by rw [List.getD_eq_getElem?_getD, List.getElem?_eq_getElem h]; rfl⟩
      have hpv : 0 < j → ∀ i : Nat, i = j - 1 → wr.cell? ⟨g, off + i, none⟩ = some (.int .i64 p) := fun h0 i hi => by
        subst hi
        rw [← hpe (by omega)]
        exact ints_at HRW (show j - 1 < xs.length by omega) rfl
      have htop : topZ xs = xs[0]'(by omega) := top_get (by omega)
      have hfirst : 0 < j → 1 ≤ xs[0]'(by omega) ∧ xs[0]'(by omega) ≤ 1000000000 := fun h0 => (HA.out 0 (by omega) h0).1
      have hzero : j = 0 → xs[0]'(by omega) = xs[j] := fun h0 => by subst h0; rfl
      have HX : Hid (¬ ((1 ≤ xs[j] ∧ xs[j] ≤ 1000000000) ∧ (0 < j → xs[j] < p) ∧ xs[0]'(by omega) - 6 < xs[j]) → b = false) := Lib.hid (fun h => HF.out fun hw => h (by rw [← htop]; have := hw j hlt hlt; exact ⟨this.1, fun h0 => by rw [← hpe (by omega)]; exact this.2.1 h0, this.2.2⟩))
      have HNX : Hid ((1 ≤ xs[j] ∧ xs[j] ≤ 1000000000) → (0 < j → xs[j] < p) → xs[0]'(by omega) - 6 < xs[j] → SeenTo xs (j + 1)) := Lib.hid (fun h1 h2 h3 => seenTo_next hlt HA.out h1 (fun h0 => by rw [hpe (by omega)]; exact h2 h0) (by rw [htop]; exact h3))
      clear HRW htop hpe
      generalize (xs[0]'(by omega)) = t at *
      generalize xs[j] = x at *
      by_cases h1 : 1 ≤ x ∧ x ≤ 1000000000
      rotate_left
      · obtain rfl := HX.out (fun h => h1 h.1)
        have K1 := Lib.hid (inRange_no x 1 1000000000 (by omega))
        clear HX HNX h1 hpv hfirst hzero
        go_wp2_with fail
        go_quiet ((go_at_call 31; exact Calls.quiet_of_same (K1.out _)))
        go_wp2_with fail
        go_ret
        exact ⟨rfl, below_drewN HW.out _⟩
      have K1 := Lib.hid (inRange_yes x 1 1000000000 h1.1 h1.2)
      have ht : 1 ≤ t ∧ t ≤ 1000000000 := by
        rcases Nat.eq_zero_or_pos j with h0 | h0
        · rw [hzero h0]; exact h1
        · exact hfirst h0
      have hwt : IntKind.i64.wrap (t - 6) = t - 6 := by rw [IntKind.wrap_i64]; omega
      rcases Nat.eq_zero_or_pos j with h0 | h0
      · have hx : t = x := hzero h0
        have h00 : ¬ ((0 : Int) < (j : Int)) := by omega
        have h01 : ¬ (0 < j) := by omega
        have hle : ¬ (x ≤ t - 6) := by omega
        have HJ := Lib.hid (HNX.out h1 (fun h => absurd h (by omega)) (by omega))
        clear HX HNX hpv hfirst hzero hx h0
        go_wp2_with fail
        go_quiet ((go_at_call 31; exact Calls.quiet_of_same (K1.out _)))
        go_wp2_with fail
        go_roundw
        case rel => exact ⟨j + 1, by omega, by go_num, HJ, Lib.hid (below_drewN HW.out _)⟩
        case measure => simp [intOf]; omega
      · have h0' : (0 : Int) < (j : Int) := by omega
        obtain ⟨i, hi⟩ : ∃ i : Nat, i = j - 1 := ⟨_, rfl⟩
        have hwi : IntKind.i64.wrap ((j : Int) - 1) = (i : Int) := by rw [IntKind.wrap_i64]; omega
        have hil : (i : Int) < (xs.length : Int) := by omega
        have p0 := hpv h0 i hi
        clear hpv hfirst hzero hi
        by_cases hp : x < p
        rotate_left
        · obtain rfl := HX.out (fun h => hp (h.2.1 h0))
          have hp' : decide (p ≤ x) = true := decide_eq_true (by omega)
          clear HX HNX hp
          go_wp2_with fail
          go_quiet ((go_at_call 31; exact Calls.quiet_of_same (K1.out _)))
          go_wp2_with fail
          go_ret
          exact ⟨rfl, below_drewN HW.out _⟩
        have hp' : decide (p ≤ x) = false := decide_eq_false (by omega)
        by_cases hf : t - 6 < x
        rotate_left
        · obtain rfl := HX.out (fun h => hf h.2.2)
          have hf' : decide (x ≤ t - 6) = true := decide_eq_true (by omega)
          clear HX HNX hp hf
          go_wp2_with fail
          go_quiet ((go_at_call 31; exact Calls.quiet_of_same (K1.out _)))
          go_wp2_with fail
          go_ret
          exact ⟨rfl, below_drewN HW.out _⟩
        · have hf' : decide (x ≤ t - 6) = false := decide_eq_false (by omega)
          have HJ := Lib.hid (HNX.out h1 (fun _ => hp) hf)
          clear HX HNX hp hf
          go_wp2_with fail
          go_quiet ((go_at_call 31; exact Calls.quiet_of_same (K1.out _)))
          go_wp2_with fail
          go_roundw
          case rel => exact ⟨j + 1, by omega, by go_num, HJ, Lib.hid (below_drewN HW.out _)⟩
          case measure => simp [intOf]; omega
    · have hlt' : ¬ ((j : Int) < (xs.length : Int)) := by omega
      obtain rfl : j = xs.length := by omega
      have hd : decide ((xs.length : Int) ≤ 6) = b := by
        cases b with
        | true => exact decide_eq_true (by have := (HB.out.1 rfl).2; omega)
        | false => exact decide_eq_false (fun h => by have := HB.out.2 ⟨HA.out, by omega⟩; cases this)
      go_wp2_with fail
      go_ret
      exact ⟨rfl, HW.out⟩

set_option maxRecDepth 100000 in
set_option maxHeartbeats 1600000 in
theorem specIsFresh_bool (xs : List Int) (n : Int) (v : Value) (b : Bool) (hb : b = true ↔ FreshP xs n) (hl : xs.length ≤ 100000000) (w : World) (h : layIntS.rd w [v] xs) :
    Calls Try.prog 18 #[v, .int .i64 n] w fun e w' => e = .returned (.bool b) ∧ Below w.heap.size w w' := by
  obtain ⟨ao, cp, rfl⟩ := rows_form h
  have HF : Hid (¬ FreshP xs n → b = false) := Lib.hid (fun h => by
    cases b with
    | false => rfl
    | true => exact absurd (hb.1 rfl) h)
  go_enter Try.func18, Try.ntmps18
  by_cases hs : SeenP xs
  rotate_left
  · obtain rfl := HF.out (fun h => hs h.1)
    have K := Lib.hid (specSeenOk_bool xs _ false ⟨fun e => (by cases e), fun e => absurd e hs⟩ hl w h)
    clear h hb HF hs
    go_wp2_with fail
    refine (K.out).mono ?_
    rintro e Y ⟨rfl, hy⟩
    have B := Lib.hid hy
    clear hy K
    go_wp2_with fail
    go_ret
    exact ⟨rfl, B.out⟩
  have K := Lib.hid (specSeenOk_bool xs _ true ⟨fun _ => hs, fun _ => rfl⟩ hl w h)
  have HR := Lib.hid h
  clear h
  go_wp2_with fail
  refine (K.out).mono ?_
  rintro e Y ⟨rfl, hy⟩
  have B := Lib.hid hy
  have HRY := Lib.hid (layIntS.below HR.out hy)
  clear hy K HR
  by_cases hn : 1 ≤ n ∧ n ≤ 1000000000
  rotate_left
  · obtain rfl := HF.out (fun h => hn h.2.1)
    have K := Lib.hid (inRange_no n 1 1000000000 (by omega) Y)
    clear hb HF hn
    go_wp2_with fail
    refine (K.out).mono ?_
    rintro e Z9 ⟨rfl, rfl⟩
    go_wp2_with fail
    go_ret
    exact ⟨rfl, B.out⟩
  have K := Lib.hid (inRange_yes n 1 1000000000 hn.1 hn.2 Y)
  go_wp2_with fail
  refine (K.out).mono ?_
  rintro e Z9 ⟨rfl, hz9⟩
  rw [hz9]
  clear hz9 Z9 K
  by_cases hm : n ∈ xs
  · obtain rfl := HF.out (fun h => h.2.2.1 hm)
    have K := Lib.hid (specChanIn_any xs n _ true ⟨fun _ => hm, fun _ => rfl⟩ hl Y HRY.out)
    clear hb HF hn hm
    go_wp2_with fail
    refine (K.out).mono ?_
    rintro e Z9 ⟨rfl, rfl⟩
    go_wp2_with fail
    go_ret
    exact ⟨rfl, B.out⟩
  have K := Lib.hid (specChanIn_any xs n _ false ⟨fun e => (by cases e), fun e => absurd e hm⟩ hl Y HRY.out)
  go_wp2_with fail
  refine (K.out).mono ?_
  rintro e Z9 ⟨rfl, hz9⟩
  rw [hz9]
  clear hz9 Z9 K
  by_cases h0 : xs.length = 0
  · obtain rfl : xs = [] := List.length_eq_zero_iff.1 h0
    obtain rfl : b = true := hb.2 ⟨hs, hn, hm, by show (0 : Int) - 6 < n; omega⟩
    clear hb HF hs hn hm h0
    go_wp2_with fail
    go_ret
    exact ⟨rfl, B.out⟩
  · have q0 : ((xs.length : Int) == 0) = false := by rw [beq_eq_false_iff_ne]; omega
    have hl0 : (0 : Int) < (xs.length : Int) := by omega
    obtain ⟨g, off, c2, hv, -, c0⟩ := ints_get HRY.out 0 (by omega)
    simp only [Value.slice.injEq] at hv
    obtain ⟨rfl, -, rfl⟩ := hv
    have htop : topZ xs = xs[0]'(by omega) := top_get (by omega)
    have hrng := hs.2.1 _ (List.getElem_mem (show 0 < xs.length by omega))
    have hbb : b = true ↔ xs[0]'(by omega) - 6 < n := by
      rw [hb, ← htop]
      exact ⟨fun h => h.2.2.2, fun h => ⟨hs, hn, hm, h⟩⟩
    clear htop hb HF
    generalize (xs[0]'(by omega)) = t at *
    have hwt : IntKind.i64.wrap (t - 6) = t - 6 := by rw [IntKind.wrap_i64]; omega
    have d1 : Y.cell? ⟨g, off, none⟩ = some (.int .i64 t) := c0
    by_cases hx : t - 6 < n
    · obtain rfl : b = true := hbb.2 hx
      clear hbb hs hn hm
      go_wp2_with fail
      go_ret
      exact ⟨rfl, B.out⟩
    · obtain rfl : b = false := Bool.eq_false_iff.2 fun e => hx (hbb.1 e)
      have hx' : decide (t - 6 < n) = false := decide_eq_false hx
      clear hbb hs hn hm
      go_wp2_with fail
      go_ret
      exact ⟨rfl, B.out⟩

end Go.Proofs.Ytogninaejehinav
