/-
  Rows of ints of the call's own; no program is spoken of here.
  Whether a number is one of a row, by the given code.
  The given SeenOk and IsFresh.
  Rows of flat data of the call's own: appended to, copied, written into; no program is spoken of here.
-/
import Derived.Test.YtoaifgblbfdncabGreatDoorJ13
import Derived.Test.YtoaifgblbfdncabGreatDoorRows
import Derived.Test.YtoaifgblbfdncabGreatDoorJ12
import Derived.Test.YtoaifgblbfdncabGreatDoorJ06
import Derived.BigQuiet
import Derived.Deep.QuietTactic
import Derived.Laws.AppendOwnNone
namespace Go.Proofs.YtoaifgblbfdncabGreatDoor
open Go.RowKit

def layIntS : Lay (List Int) := .rows 3 .int
theorem int_own {w : World} {b : Nat} {f : List Nat} {cs : List Value} {x : Int} : Lay.int.own w b f cs x ↔ f = [] ∧ cs = [.int .i64 x] := Iff.rfl
theorem int_rd {w : World} {cs : List Value} {x : Int} : Lay.int.rd w cs x ↔ cs = [.int .i64 x] := Iff.rfl
theorem infoInt : (Tryz.prog.info? 3).map (fun i => (i.zero, i.size, i.bytes)) = some (some (.int .i64 0), 1, 8) := by kernel_rfl
/-- One number of a row that can be read. -/
theorem ints_get {w : World} {v : Value} {xs : List Int} (h : layIntS.rd w [v] xs) (m : Nat) (hm : m < xs.length) : ∃ g off cap, v = .slice (some ⟨g, off, none⟩) xs.length cap ∧ g < w.heap.size ∧ w.cell? ⟨g, off + m, none⟩ = some (.int .i64 xs[m]) := by
  obtain ⟨a, cap, rfl⟩ := rows_form h
  obtain ⟨g, off, c, rfl, hg, hr, hc⟩ := rows_elem h m _ (List.getElem?_eq_getElem hm)
  rw [int_rd] at hr
  subst hr
  refine ⟨g, off, cap, rfl, hg, ?_⟩
  have := hc 0 _ rfl
  rw [show Lay.int.k = 1 from rfl, Nat.mul_one] at this
  exact this
/-- One number of a row is read and written. -/
theorem ints_put {w : World} {b : Nat} {fp : List Nat} {v : Value} {xs : List Int} (h : layIntS.own w b fp [v] xs) (hd : fp.Nodup) (m : Nat) (hm : m < xs.length) (y : Int) :
    ∃ g cap, v = .slice (some ⟨g, 0, none⟩) xs.length cap ∧ b ≤ g ∧ g < w.heap.size ∧ g ∈ fp ∧ w.cell? ⟨g, m, none⟩ = some (.int .i64 xs[m]) ∧ w.frozen? ⟨g, m, none⟩ = false ∧
      layIntS.own (w.setCell ⟨g, m, none⟩ (.int .i64 y)) b fp [v] (xs.set m y) ∧ Chg fp w (w.setCell ⟨g, m, none⟩ (.int .i64 y)) := by
  have e : xs = xs.take m ++ xs[m] :: xs.drop (m + 1) := by rw [List.getElem_cons_drop, List.take_append_drop]
  have es : xs.set m y = xs.take m ++ y :: xs.drop (m + 1) := by rw [List.set_eq_take_append_cons_drop, if_pos hm]
  have hl : (xs.take m ++ xs[m] :: xs.drop (m + 1)).length = xs.length := by rw [← e]
  have h2 := h
  rw [e] at h2
  obtain ⟨g, cap, f1, f2, f3, u1, c, u3, hv, rfl, Z⟩ := rows_open h2 hd
  rw [hl] at hv
  obtain ⟨rfl, rfl⟩ := int_own.1 Z.mid
  have hml : (xs.take m).length = m := by rw [List.length_take]; omega
  have hc := Z.cell 0 _ rfl
  rw [show Lay.int.k = 1 from rfl, Nat.mul_one, hml] at hc
  have hs := Z.store [.int .i64 y] 0 (by simp) [] y (int_own.2 ⟨rfl, rfl⟩) Z.dup
  rw [show Lay.int.k = 1 from rfl, Nat.mul_one, hml] at hs
  refine ⟨g, cap, hv, Z.lt.1, Z.lt.2, by simp, hc.1, hc.2, ?_, hs.2.sub (by simp)⟩
  have h3 := hs.1.shut
  have e4 : (xs.take m ++ y :: xs.drop (m + 1)).length = xs.length := by rw [← es, List.length_set]
  rw [e4] at h3
  rw [es, hv]
  exact h3

end Go.Proofs.YtoaifgblbfdncabGreatDoor
namespace Go.Proofs.YtoaifgblbfdncabGreatDoor
open Go.RowKit

set_option maxRecDepth 100000 in
set_option maxHeartbeats 800000 in
theorem specChanIn_any (xs : List Int) (x : Int) (v : Value) (b : Bool) (hb : b = true ↔ x ∈ xs) (hl : xs.length ≤ 100000000) (w : World) (h : layIntS.rd w [v] xs) :
    Calls Tryz.prog 52 #[v, .int .i64 x] w fun e w' => e = .returned (.bool b) ∧ w' = w := by
  obtain ⟨ao, cp, rfl⟩ := rows_form h
  have HR := Lib.hid h
  have HB := Lib.hid hb
  clear h hb
  go_enter Tryz.func52, Tryz.ntmps52
  go_wp2_with fail
  go_loop [5] (fun c => ∃ j : Nat, j ≤ xs.length ∧ c = .int .i64 j ∧ Hid (∀ i, (hi : i < xs.length) → i < j → xs[i] ≠ x)) (fun c => xs.length - (intOf c).toNat)
  case atStart => exact ⟨0, Nat.zero_le _, rfl, fun i _ h => absurd h (by omega)⟩
  case round =>
    obtain ⟨j, hj, rfl, HA⟩ := hrel
    by_cases hlt : j < xs.length
    · have hlt' : (j : Int) < (xs.length : Int) := by omega
      obtain ⟨g, off, cap, hv, hg, hcell⟩ := ints_get HR.out j hlt
      simp only [Value.slice.injEq] at hv
      obtain ⟨rfl, -, rfl⟩ := hv
      have HX : Hid (xs[j] = x → b = true) := fun h => HB.out.2 (h ▸ List.getElem_mem hlt)
      have HNX : Hid (xs[j] ≠ x → ∀ i, (hi : i < xs.length) → i < j + 1 → xs[i] ≠ x) := fun hx i hi h => by
        rcases Nat.lt_or_ge i j with h2 | h2
        · exact HA.out i hi h2
        · have : i = j := by omega
          subst this
          exact hx
      generalize xs[j] = y at hcell HX HNX
      by_cases hx : y = x
      · obtain rfl := HX.out hx
        have k1 : (y == x) = true := by rw [beq_iff_eq]; exact hx
        clear hx
        go_wp2_with fail
        go_ret
        exact ⟨rfl, rfl⟩
      · have HJ := Lib.hid (HNX.out hx)
        have k1 : (y == x) = false := by rw [beq_eq_false_iff_ne]; exact hx
        clear hx
        go_wp2_with fail
        go_round
        case rel => exact ⟨j + 1, by omega, by go_num, HJ⟩
        case measure => simp [intOf]; omega
    · have hlt' : ¬ ((j : Int) < (xs.length : Int)) := by omega
      obtain rfl : b = false := by
        cases b with
        | false => rfl
        | true =>
          obtain ⟨i, hi, he⟩ := List.getElem_of_mem (HB.out.1 rfl)
          exact absurd he (HA.out i hi (by omega))
      go_wp2_with fail
      go_ret
      exact ⟨rfl, rfl⟩

end Go.Proofs.YtoaifgblbfdncabGreatDoor
namespace Go.Proofs.YtoaifgblbfdncabGreatDoor
open Go.RowKit

/-- An element of a row of ints, by its cell. -/
theorem ints_at {w : World} {a : Option Addr} {n c : Nat} {xs : List Int} (h : layIntS.rd w [.slice a n c] xs) {j : Nat} (hj : j < xs.length) {g off : Nat} (ha : a = some ⟨g, off, none⟩) : w.cell? ⟨g, off + j, none⟩ = some (.int .i64 xs[j]) := by
  obtain ⟨g2, off2, c2, hv, -, hc⟩ := ints_get h j hj
  simp only [Value.slice.injEq] at hv
  obtain ⟨rfl, -, -⟩ := hv
  simp only [Option.some.injEq, Addr.mk.injEq, and_true] at ha
  obtain ⟨rfl, rfl⟩ := ha
  exact hc

set_option maxRecDepth 100000 in
set_option maxHeartbeats 3200000 in
theorem specSeenOk_bool (xs : List Int) (v : Value) (b : Bool) (hb : b = true ↔ SeenP xs) (hl : xs.length ≤ 100000000) (w : World) (h : layIntS.rd w [v] xs) :
    Calls Tryz.prog 51 #[v] w fun e w' => e = .returned (.bool b) ∧ Below w.heap.size w w' := by
  rw [seenP_iff] at hb
  obtain ⟨ao, cp, rfl⟩ := rows_form h
  have HR := Lib.hid h
  have HB := Lib.hid hb
  have HF : Hid (¬ SeenTo xs xs.length → b = false) := Lib.hid (fun h => by
    cases b with
    | false => rfl
    | true => exact absurd (hb.1 rfl).1 h)
  clear h hb
  go_enter Tryz.func51, Tryz.ntmps51
  go_wp2_with fail
  go_loopw [3] (fun c wr => ∃ j : Nat, j ≤ xs.length ∧ c = .int .i64 j ∧ Hid (SeenTo xs j) ∧ Hid (Below w.heap.size w wr)) (fun c _ => xs.length - (intOf c).toNat)
  case atStart => exact ⟨0, Nat.zero_le _, rfl, Lib.hid (fun i _ h => absurd h (by omega)), Lib.hid (Below.refl _ _)⟩
  case round =>
    obtain ⟨j, hj, rfl, HA, HW⟩ := hrel
    by_cases hlt : j < xs.length
    · have hlt' : (j : Int) < (xs.length : Int) := by omega
      have hl0 : (0 : Int) < (xs.length : Int) := by omega
      have HRW := layIntS.below HR.out HW.out
      obtain ⟨g, off, c2, hv, -, c0⟩ := ints_get HRW j hlt
      simp only [Value.slice.injEq] at hv
      obtain ⟨rfl, -, rfl⟩ := hv
      have d0 := ints_at HRW (show 0 < xs.length by omega) rfl
      have d1 : wr.cell? ⟨g, off, none⟩ = some (.int .i64 (xs[0]'(by omega))) := d0
      obtain ⟨p, hpe⟩ : ∃ p : Int, (hj2 : j - 1 < xs.length) → xs[j - 1] = p := ⟨xs.getD (j - 1) 0, fun h => by rw [List.getD_eq_getElem?_getD, List.getElem?_eq_getElem h]; rfl⟩
      have hpv : 0 < j → ∀ i : Nat, i = j - 1 → wr.cell? ⟨g, off + i, none⟩ = some (.int .i64 p) := fun h0 i hi => by
        subst hi
        rw [← hpe (by omega)]
        exact ints_at HRW (show j - 1 < xs.length by omega) rfl
      have htop : topZ xs = xs[0]'(by omega) := top_get (by omega)
      have hfirst : 0 < j → 1 ≤ xs[0]'(by omega) ∧ xs[0]'(by omega) ≤ 1000000000 := fun h0 => (HA.out 0 (by omega) h0).1
      have hzero : j = 0 → xs[0]'(by omega) = xs[j] := fun h0 => by subst h0; rfl
      have HX : Hid (¬ ((1 ≤ xs[j] ∧ xs[j] ≤ 1000000000) ∧ (0 < j → xs[j] < p) ∧ xs[0]'(by omega) - 6 < xs[j]) → b = false) := Lib.hid (fun h => HF.out fun hw => h (by rw [← htop]; have := hw j hlt hlt; exact ⟨this.1, fun h0 => by rw [← hpe (by omega)]; exact this.2.1 h0, this.2.2⟩))
      have HNX : Hid ((1 ≤ xs[j] ∧ xs[j] ≤ 1000000000) → (0 < j → xs[j] < p) → xs[0]'(by omega) - 6 < xs[j] → SeenTo xs (j + 1)) := Lib.hid (fun h1 h2 h3 => seenTo_next hlt HA.out h1 (fun h0 => by rw [hpe (by omega)]; exact h2 h0) (by rw [htop]; exact h3))
      clear HRW htop hpe
      generalize (xs[0]'(by omega)) = t at *
      generalize xs[j] = x at *
      by_cases h1 : 1 ≤ x ∧ x ≤ 1000000000
      rotate_left
      · obtain rfl := HX.out (fun h => h1 h.1)
        have K1 := Lib.hid (inRange_no x 1 1000000000 (by omega))
        clear HX HNX h1 hpv hfirst hzero
        go_wp2_with fail
        go_quiet ((go_at_call 36; exact Calls.quiet_of_same (K1.out _)))
        go_wp2_with fail
        go_ret
        exact ⟨rfl, below_drewN HW.out _⟩
      have K1 := Lib.hid (inRange_yes x 1 1000000000 h1.1 h1.2)
      have ht : 1 ≤ t ∧ t ≤ 1000000000 := by
        rcases Nat.eq_zero_or_pos j with h0 | h0
        · rw [hzero h0]; exact h1
        · exact hfirst h0
      have hwt : IntKind.i64.wrap (t - 6) = t - 6 := by rw [IntKind.wrap_i64]; omega
      rcases Nat.eq_zero_or_pos j with h0 | h0
      · have hx : t = x := hzero h0
        have h00 : ¬ ((0 : Int) < (j : Int)) := by omega
        have h01 : ¬ (0 < j) := by omega
        have hle : ¬ (x ≤ t - 6) := by omega
        have HJ := Lib.hid (HNX.out h1 (fun h => absurd h (by omega)) (by omega))
        clear HX HNX hpv hfirst hzero hx h0
        go_wp2_with fail
        go_quiet ((go_at_call 36; exact Calls.quiet_of_same (K1.out _)))
        go_wp2_with fail
        go_roundw
        case rel => exact ⟨j + 1, by omega, by go_num, HJ, Lib.hid (below_drewN HW.out _)⟩
        case measure => simp [intOf]; omega
      · have h0' : (0 : Int) < (j : Int) := by omega
        obtain ⟨i, hi⟩ : ∃ i : Nat, i = j - 1 := ⟨_, rfl⟩
        have hwi : IntKind.i64.wrap ((j : Int) - 1) = (i : Int) := by rw [IntKind.wrap_i64]; omega
        have hil : (i : Int) < (xs.length : Int) := by omega
        have p0 := hpv h0 i hi
        clear hpv hfirst hzero hi
        by_cases hp : x < p
        rotate_left
        · obtain rfl := HX.out (fun h => hp (h.2.1 h0))
          have hp' : decide (p ≤ x) = true := decide_eq_true (by omega)
          clear HX HNX hp
          go_wp2_with fail
          go_quiet ((go_at_call 36; exact Calls.quiet_of_same (K1.out _)))
          go_wp2_with fail
          go_ret
          exact ⟨rfl, below_drewN HW.out _⟩
        have hp' : decide (p ≤ x) = false := decide_eq_false (by omega)
        by_cases hf : t - 6 < x
        rotate_left
        · obtain rfl := HX.out (fun h => hf h.2.2)
          have hf' : decide (x ≤ t - 6) = true := decide_eq_true (by omega)
          clear HX HNX hp hf
          go_wp2_with fail
          go_quiet ((go_at_call 36; exact Calls.quiet_of_same (K1.out _)))
          go_wp2_with fail
          go_ret
          exact ⟨rfl, below_drewN HW.out _⟩
        · have hf' : decide (x ≤ t - 6) = false := decide_eq_false (by omega)
          have HJ := Lib.hid (HNX.out h1 (fun _ => hp) hf)
          clear HX HNX hp hf
          go_wp2_with fail
          go_quiet ((go_at_call 36; exact Calls.quiet_of_same (K1.out _)))
          go_wp2_with fail
          go_roundw
          case rel => exact ⟨j + 1, by omega, by go_num, HJ, Lib.hid (below_drewN HW.out _)⟩
          case measure => simp [intOf]; omega
    · have hlt' : ¬ ((j : Int) < (xs.length : Int)) := by omega
      obtain rfl : j = xs.length := by omega
      have hd : decide ((xs.length : Int) ≤ 6) = b := by
        cases b with
        | true => exact decide_eq_true (by have := (HB.out.1 rfl).2; omega)
        | false => exact decide_eq_false (fun h => by have := HB.out.2 ⟨HA.out, by omega⟩; cases this)
      go_wp2_with fail
      go_ret
      exact ⟨rfl, HW.out⟩

set_option maxRecDepth 100000 in
set_option maxHeartbeats 1600000 in
theorem specIsFresh_bool (xs : List Int) (n : Int) (v : Value) (b : Bool) (hb : b = true ↔ FreshP xs n) (hl : xs.length ≤ 100000000) (w : World) (h : layIntS.rd w [v] xs) :
    Calls Tryz.prog 37 #[v, .int .i64 n] w fun e w' => e = .returned (.bool b) ∧ Below w.heap.size w w' := by
  obtain ⟨ao, cp, rfl⟩ := rows_form h
  have HF : Hid (¬ FreshP xs n → b = false) := Lib.hid (fun h => by
    cases b with
    | false => rfl
    | true => exact absurd (hb.1 rfl) h)
  go_enter Tryz.func37, Tryz.ntmps37
  by_cases hs : SeenP xs
  rotate_left
  · obtain rfl := HF.out (fun h => hs h.1)
    have K := Lib.hid (specSeenOk_bool xs _ false ⟨fun e => (by cases e), fun e => absurd e hs⟩ hl w h)
    clear h hb HF hs
    go_wp2_with fail
    refine (K.out).mono ?_
    rintro e Y ⟨rfl, hy⟩
    have B := Lib.hid hy
    clear hy K
    go_wp2_with fail
    go_ret
    exact ⟨rfl, B.out⟩
  have K := Lib.hid (specSeenOk_bool xs _ true ⟨fun _ => hs, fun _ => rfl⟩ hl w h)
  have HR := Lib.hid h
  clear h
  go_wp2_with fail
  refine (K.out).mono ?_
  rintro e Y ⟨rfl, hy⟩
  have B := Lib.hid hy
  have HRY := Lib.hid (layIntS.below HR.out hy)
  clear hy K HR
  by_cases hn : 1 ≤ n ∧ n ≤ 1000000000
  rotate_left
  · obtain rfl := HF.out (fun h => hn h.2.1)
    have K := Lib.hid (inRange_no n 1 1000000000 (by omega) Y)
    clear hb HF hn
    go_wp2_with fail
    refine (K.out).mono ?_
    rintro e Z9 ⟨rfl, rfl⟩
    go_wp2_with fail
    go_ret
    exact ⟨rfl, B.out⟩
  have K := Lib.hid (inRange_yes n 1 1000000000 hn.1 hn.2 Y)
  go_wp2_with fail
  refine (K.out).mono ?_
  rintro e Z9 ⟨rfl, hz9⟩
  rw [hz9]
  clear hz9 Z9 K
  by_cases hm : n ∈ xs
  · obtain rfl := HF.out (fun h => h.2.2.1 hm)
    have K := Lib.hid (specChanIn_any xs n _ true ⟨fun _ => hm, fun _ => rfl⟩ hl Y HRY.out)
    clear hb HF hn hm
    go_wp2_with fail
    refine (K.out).mono ?_
    rintro e Z9 ⟨rfl, rfl⟩
    go_wp2_with fail
    go_ret
    exact ⟨rfl, B.out⟩
  have K := Lib.hid (specChanIn_any xs n _ false ⟨fun e => (by cases e), fun e => absurd e hm⟩ hl Y HRY.out)
  go_wp2_with fail
  refine (K.out).mono ?_
  rintro e Z9 ⟨rfl, hz9⟩
  rw [hz9]
  clear hz9 Z9 K
  by_cases h0 : xs.length = 0
  · obtain rfl : xs = [] := List.length_eq_zero_iff.1 h0
    obtain rfl : b = true := hb.2 ⟨hs, hn, hm, by show (0 : Int) - 6 < n; omega⟩
    clear hb HF hs hn hm h0
    go_wp2_with fail
    go_ret
    exact ⟨rfl, B.out⟩
  · have q0 : ((xs.length : Int) == 0) = false := by rw [beq_eq_false_iff_ne]; omega
    have hl0 : (0 : Int) < (xs.length : Int) := by omega
    obtain ⟨g, off, c2, hv, -, c0⟩ := ints_get HRY.out 0 (by omega)
    simp only [Value.slice.injEq] at hv
    obtain ⟨rfl, -, rfl⟩ := hv
    have htop : topZ xs = xs[0]'(by omega) := top_get (by omega)
    have hrng := hs.2.1 _ (List.getElem_mem (show 0 < xs.length by omega))
    have hbb : b = true ↔ xs[0]'(by omega) - 6 < n := by
      rw [hb, ← htop]
      exact ⟨fun h => h.2.2.2, fun h => ⟨hs, hn, hm, h⟩⟩
    clear htop hb HF
    generalize (xs[0]'(by omega)) = t at *
    have hwt : IntKind.i64.wrap (t - 6) = t - 6 := by rw [IntKind.wrap_i64]; omega
    have d1 : Y.cell? ⟨g, off, none⟩ = some (.int .i64 t) := c0
    by_cases hx : t - 6 < n
    · obtain rfl : b = true := hbb.2 hx
      clear hbb hs hn hm
      go_wp2_with fail
      go_ret
      exact ⟨rfl, B.out⟩
    · obtain rfl : b = false := Bool.eq_false_iff.2 fun e => hx (hbb.1 e)
      have hx' : decide (t - 6 < n) = false := decide_eq_false hx
      clear hbb hs hn hm
      go_wp2_with fail
      go_ret
      exact ⟨rfl, B.out⟩

end Go.Proofs.YtoaifgblbfdncabGreatDoor
namespace Go.Proofs.YtoaifgblbfdncabGreatDoor
open Go.RowKit

section
variable {α : Type}

/-- Data without rows within. -/
structure Flat (A : Lay α) : Prop where
  own : ∀ (w : World) (b : Nat) (c : List Value) (x : α), A.rd w c x → A.own w b [] c x
  none : ∀ (w : World) (b : Nat) (f : List Nat) (c : List Value) (x : α), A.own w b f c x → f = []
  any : ∀ (w w' : World) (c : List Value) (x : α), A.rd w c x → A.rd w' c x
theorem Flat.all {A : Lay α} (hf : Flat A) {w w' : World} : ∀ {us : List Value} {xs : List α}, rdAll A w us xs → rdAll A w' us xs
  | _, [], h => h
  | _, _ :: _, h => by
    obtain ⟨c, us', rfl, h1, h2⟩ := h
    exact ⟨c, us', rfl, hf.any _ _ _ _ h1, hf.all h2⟩
theorem Flat.ownAll {A : Lay α} (hf : Flat A) {w : World} {b : Nat} : ∀ {us : List Value} {xs : List α}, rdAll A w us xs → ownAll A w b [] us xs
  | _, [], h => ⟨rfl, h⟩
  | _, _ :: _, h => by
    obtain ⟨c, us', rfl, h1, h2⟩ := h
    exact ⟨[], [], c, us', rfl, rfl, hf.own _ _ _ _ h1, hf.ownAll h2⟩
theorem Flat.noAll {A : Lay α} (hf : Flat A) {w : World} {b : Nat} : ∀ {f : List Nat} {us : List Value} {xs : List α}, Go.Proofs.YtoaifgblbfdncabGreatDoor.ownAll A w b f us xs → f = []
  | _, _, [], h => h.1
  | _, _, _ :: _, h => by
    obtain ⟨f, g, c, us', rfl, rfl, h1, h2⟩ := h
    rw [hf.none _ _ _ _ _ h1, hf.noAll h2]
    rfl
theorem rdAll_join (A : Lay α) {w : World} : ∀ {u1 u2 : List Value} {X Y : List α}, rdAll A w u1 X → rdAll A w u2 Y → rdAll A w (u1 ++ u2) (X ++ Y)
  | u1, u2, [], Y, h, h2 => by rw [show u1 = [] from h]; exact h2
  | u1, u2, x :: X, Y, h, h2 => by
    obtain ⟨c, us', rfl, i1, i2⟩ := h
    exact ⟨c, us' ++ u2, by rw [List.append_assoc], i1, rdAll_join A i2 h2⟩
/-- The blocks of a flat row. -/
def blk (v : Value) : List Nat := v.ownBlock.toList
theorem blk_dup (v : Value) : (blk v).Nodup := by unfold blk; cases v.ownBlock <;> simp
theorem flat_own {e : TypeId} {A : Lay α} (hf : Flat A) {w : World} {b : Nat} {v : Value} {us : List Value} {xs : List α} (h : w.ownsRow b e A.k v xs.length us) (hr : rdAll A w us xs) : (Lay.rows e A).own w b (blk v) [v] xs := by
  refine ⟨v, rfl, ?_⟩
  rcases h.2 with ⟨rfl, h0⟩ | ⟨g, cap, cur, rfl, _⟩
  · exact .inl ⟨rfl, List.length_eq_zero_iff.1 h0, rfl⟩
  · exact .inr ⟨g, cap, us, [], rfl, rfl, h, hf.ownAll hr⟩
theorem flat_inv {e : TypeId} {A : Lay α} (hf : Flat A) {w : World} {b : Nat} {f : List Nat} {v : Value} {xs : List α} (h : (Lay.rows e A).own w b f [v] xs) : ∃ us, w.ownsRow b e A.k v xs.length us ∧ rdAll A w us xs ∧ f = blk v := by
  obtain ⟨v', hv, h⟩ := h
  obtain rfl : v = v' := by simpa using hv
  rcases h with ⟨rfl, rfl, rfl⟩ | ⟨g, cap, us, fq, rfl, rfl, h1, h2⟩
  · exact ⟨[], ⟨by simp, .inl ⟨rfl, rfl⟩⟩, rfl, rfl⟩
  · refine ⟨us, h1, ownAll_rd A h2, ?_⟩
    rw [hf.noAll h2]
    rfl
theorem flat_some {e : TypeId} {A : Lay α} (hf : Flat A) {w : World} {b : Nat} {f : List Nat} {v : Value} {xs : List α} (h : (Lay.rows e A).own w b f [v] xs) (hv : v ≠ .slice none 0 0) : ∃ g cap, v = .slice (some ⟨g, 0, none⟩) xs.length cap ∧ f = [g] ∧ b ≤ g ∧ g < w.heap.size := by
  obtain ⟨us, h1, _, rfl⟩ := flat_inv hf h
  rcases h1.2 with ⟨h, _⟩ | ⟨g, cap, cur, rfl, hb, hh, _⟩
  · exact absurd h hv
  · exact ⟨g, cap, rfl, rfl, hb, lt_of_block hh⟩
/-- A fresh empty row. -/
theorem flat_lit {e : TypeId} {A : Lay α} (w : World) (b : Nat) (hb : b ≤ w.heap.size) : (Lay.rows e A).own (w.alloc (.cells #[] e)) b [w.heap.size] [.slice (some ⟨w.heap.size, 0, none⟩) 0 0] [] :=
  ⟨_, rfl, .inr ⟨w.heap.size, 0, [], [], rfl, rfl, World.ownsRow_lit w #[] 0 hb (by decide) (by simp), rfl, rfl⟩⟩

/-- 'append(out, list...)': out a flat row of the call's own, list one that can be read. -/
theorem wpList_copyF {P : Program} (w : World) {ops : Array Oper} {rest : List Oper} {o : Oper} {a : Act} {Q : Exit → Act → World → Prop} (hgd : o.guard = none) (s x : Operand) (t : TypeId)
    (ho : o.op = .call { callee := .builtin .append, args := #[s, x], argTypes := #[t, t] })
    (base : Nat) (e : TypeId) (i : TypeInfo) (z : Value) (bytes : Nat) (A : Lay α) (hf : Flat A) (ht : P.underlying t = some (.slice e)) (hi : P.info? e = some i) (hz : i.zero = some z)
    (hsize : i.size = A.k) (hby : i.bytes = bytes) (hzs : z.cells.size = A.k) (hb1 : bytes ≤ 1000) (v : Value) (f : List Nat) (xs : List α) (hs : a.eval s = v) (hown : (Lay.rows e A).own w base f [v] xs) (hv0 : v ≠ .slice none 0 0)
    (u : Value) (ys : List α) (hx : a.eval x = u) (hys : (Lay.rows e A).rd w [u] ys)
    (hlen : xs.length + ys.length ≤ 1000000000) (hbase : base ≤ w.heap.size)
    (h : ∀ v' w', (Lay.rows e A).own w' base (blk v') [v'] (xs ++ ys) → v' ≠ .slice none 0 0 → w.grownBy w' v.ownBlock → Below base w w' → wpList P ops Q rest (a.put o.dst v') w') :
    wpList P ops Q (o :: rest) a w := by
  obtain ⟨us, h1, h2, rfl⟩ := flat_inv hf hown
  obtain ⟨u', hu, hys⟩ := hys
  obtain rfl : u = u' := by simpa using hu
  have hlt : ∀ k, v.ownBlock = some k → base ≤ k := fun k hk => (World.ownsRow.lt h1 k hk).1
  rcases hys with ⟨rfl, a', cap, rfl, hcap⟩ | ⟨g, off, cap, vs, rfl, _, hg, hc, hr⟩
  · cases a' with
    | none =>
      rw [hcap rfl] at hx
      refine wpList_append_own_none hgd s x t ho base e i A.k ht hi v xs.length us hs h1 hx ?_
      rw [List.append_nil] at h
      exact h v w (flat_own hf h1 h2) hv0 (World.grownBy.refl _ _) (Below.refl _ _)
    | some ad =>
      refine wpList_append_own w hgd s x t ho base e i z A.k bytes ht hi hz hsize hby hzs A.pos v xs.length us hs h1 ad 0 cap [] hx (by simp) (by simp) (by simp) (by unfold maxLen; simp at hlen; omega) (by have h1 : xs.length * bytes ≤ 1000000000 * 1000 := Nat.mul_le_mul (by simp at hlen; omega) hb1; simp; omega) hbase ?_
      intro v' w' h3 h4 h5
      refine h v' w' ?_ (fun e => hv0 (h5.1 e).1) h4 (below_grown h4 hlt hbase)
      rw [List.append_nil] at h3 ⊢
      exact flat_own hf h3 (hf.all h2)
  · refine wpList_append_own w hgd s x t ho base e i z A.k bytes ht hi hz hsize hby hzs A.pos v xs.length us hs h1 ⟨g, off, none⟩ ys.length cap vs hx (rdAll_len A hr) ?_ (rdAll_one A hr) (by unfold maxLen; omega) (by have h1 : (xs.length + ys.length) * bytes ≤ 1000000000 * 1000 := Nat.mul_le_mul hlen hb1; omega) hbase ?_
    · intro j q hj
      have e1 : (⟨g, off, none⟩ : Addr).add j = ⟨g, off + j, none⟩ := by unfold Addr.add; split <;> simp_all
      rw [e1]
      exact hc j q hj
    · intro v' w' h3 h4 h5
      refine h v' w' ?_ (fun e => hv0 (h5.1 e).1) h4 (below_grown h4 hlt hbase)
      have h6 : w'.ownsRow base e A.k v' (xs ++ ys).length (us ++ vs) := by rw [List.length_append]; exact h3
      exact flat_own hf h6 (rdAll_join A (hf.all h2) (hf.all hr))

/-- 'out = append(out, x)': out a flat row of the call's own. -/
theorem wpList_pushF {P : Program} (w : World) {ops : Array Oper} {rest : List Oper} {o : Oper} {a : Act} {Q : Exit → Act → World → Prop} (hgd : o.guard = none) (s x : Operand) (t : TypeId)
    (ho : o.op = .call { callee := .builtin .append, args := #[s, x], argTypes := #[t, t] })
    (base : Nat) (e : TypeId) (i : TypeInfo) (z : Value) (bytes : Nat) (A : Lay α) (hf : Flat A) (ht : P.underlying t = some (.slice e)) (hi : P.info? e = some i) (hz : i.zero = some z)
    (hsize : i.size = A.k) (hby : i.bytes = bytes) (hzs : z.cells.size = A.k) (hb1 : bytes ≤ 1000) (v : Value) (f : List Nat) (xs : List α) (hs : a.eval s = v) (hown : (Lay.rows e A).own w base f [v] xs)
    (y : α) (cs : Array Value) (hcs : A.rd w cs.toList y) (hx : a.eval x = .slice (some ⟨w.heap.size, 0, none⟩) 1 1)
    (hlen : xs.length + 1 ≤ 1000000000) (hbase : base ≤ w.heap.size)
    (h : ∀ v' w', (Lay.rows e A).own w' base (blk v') [v'] (xs ++ [y]) → v' ≠ .slice none 0 0 → w.grownBy w' v.ownBlock → Below base w w' → wpList P ops Q rest (a.put o.dst v') w') :
    wpList P ops Q (o :: rest) a (w.alloc (.cells cs e)) := by
  obtain ⟨us, h1, h2, rfl⟩ := flat_inv hf hown
  have hlt : ∀ k, v.ownBlock = some k → base ≤ k := fun k hk => (World.ownsRow.lt h1 k hk).1
  refine wpList_append_own (w.alloc (.cells cs e)) hgd s x t ho base e i z A.k bytes ht hi hz hsize hby hzs A.pos v xs.length us hs (World.ownsRow.alloc h1 _) ⟨w.heap.size, 0, none⟩ 1 1 cs.toList hx (by rw [A.len hcs, Nat.one_mul]) ?_ (A.one hcs) (by unfold maxLen; omega) ?_ (by simp; omega) ?_
  · intro j u hj
    have e1 : (⟨w.heap.size, 0, none⟩ : Addr).add j = ⟨w.heap.size, j, none⟩ := by unfold Addr.add; split <;> simp_all
    rw [e1, cell_of_row (w.alloc (.cells cs e)) w.heap.size j cs e (0, 0) (heap_alloc_new w _)]
    simpa using hj
  · have h1 : (xs.length + 1) * bytes ≤ 1000000000 * 1000 := Nat.mul_le_mul hlen hb1
    omega
  · intro v' w' h3 h4 h5
    have hg : w.grownBy w' v.ownBlock := grown_trans (World.grownBy_alloc w _ _) h4
    refine h v' w' ?_ (fun e => by have := (h5.1 e).2; omega) hg (below_grown hg hlt hbase)
    have h6 : w'.ownsRow base e A.k v' (xs ++ [y]).length (us ++ cs.toList) := by rw [List.length_append]; exact h3
    exact flat_own hf h6 (rdAll_join A (hf.all h2) ⟨cs.toList, [], by simp, hf.any _ _ _ _ hcs, rfl⟩)
end
end Go.Proofs.YtoaifgblbfdncabGreatDoor
