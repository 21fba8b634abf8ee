/-
  The program's SeenOk.
  The program's span of numbers: a first one and bits.
  The program's spanOf: right numbers as a first one and bits.
  The program's IsFresh (and SeenOk).
  The program's told: the numbers that a span has.
  The program's NoteSeen.
-/
import Derived.Test.YtoaifgblbfdncaaGreatDoorJ10
import Derived.Test.YtoaifgblbfdncaaGreatDoorJ33
import Derived.Test.YtoaifgblbfdncaaGreatDoorJ31
import Derived.Deep.DeepCutAuto
import Derived.Deep.RegionHeld3
import Derived.Test.YtoaifgblbfdncaaGreatDoorJ24
namespace Go.Proofs.YtoaifgblbfdncaaGreatDoor
open Go.RowKit

/-- Right ones are few: no more than six are above the first less six. -/
theorem seenTo_few {xs : List Int} (h : SeenTo xs xs.length) : xs.length ≤ 6 := by
  have hd : DescZ xs := (desc_iff xs).2 fun i hi => (h (i + 1) hi hi).2.1 (by omega)
  have hm : ∀ x ∈ xs, topZ xs - 6 < x := fun x hx => by
    obtain ⟨i, hi, rfl⟩ := List.getElem_of_mem hx
    exact (h i hi hi).2.2
  have := desc_len hd hm
  omega
set_option maxRecDepth 100000 in
set_option maxHeartbeats 3200000 in
theorem implSeenOk_bool (xs : List Int) (v : Value) (b : Bool) (hb : b = true ↔ SeenP xs) (hl : xs.length ≤ 100000000) (_hwf : ∀ x ∈ xs, IntZ x) (w : World) (h : layIntS.rd w [v] xs) :
    Calls Tryz.prog 72 #[v] w fun e w' => e = .returned (.bool b) ∧ Below w.heap.size w w' := by
  rw [seenP_iff] at hb
  obtain ⟨ao, cp, rfl⟩ := rows_form h
  have HR := Lib.hid h
  have HB := Lib.hid hb
  have HF : Hid (¬ SeenTo xs xs.length → b = false) := Lib.hid (fun h => by
    cases b with
    | false => rfl
    | true => exact absurd (hb.1 rfl).1 h)
  clear h hb
  go_enter Tryz.func72, Tryz.ntmps72
  go_wp2_with fail
  go_loop [7] (fun c => ∃ j : Nat, j ≤ xs.length ∧ c = .int .i64 j ∧ Hid (SeenTo xs j)) (fun c => xs.length - (intOf c).toNat)
  case atStart => exact ⟨0, Nat.zero_le _, rfl, Lib.hid (fun i _ h => absurd h (by omega))⟩
  case round =>
    obtain ⟨j, hj, rfl, HA⟩ := hrel
    by_cases hlt : j < xs.length
    · have hlt' : (j : Int) < (xs.length : Int) := by omega
      have hl0 : (0 : Int) < (xs.length : Int) := by omega
      obtain ⟨g, off, c2, hv, -, c0⟩ := ints_get HR.out j hlt
      simp only [Value.slice.injEq] at hv
      obtain ⟨rfl, -, rfl⟩ := hv
      have d0 := ints_at HR.out (show 0 < xs.length by omega) rfl
      have d1 : w.cell? ⟨g, off, none⟩ = some (.int .i64 (xs[0]'(by omega))) := d0
      obtain ⟨p, hpe⟩ : ∃ p : Int, (hj2 : j - 1 < xs.length) → xs[j - 1] = p := ⟨xs.getD (j - 1) 0, fun h => by rw [List.getD_eq_getElem?_getD, List.getElem?_eq_getElem h]; rfl⟩
      have hpv : 0 < j → ∀ i : Nat, i = j - 1 → w.cell? ⟨g, off + i, none⟩ = some (.int .i64 p) := fun h0 i hi => by
        subst hi
        rw [← hpe (by omega)]
        exact ints_at HR.out (show j - 1 < xs.length by omega) rfl
      have htop : topZ xs = xs[0]'(by omega) := top_get (by omega)
      have hfirst : 0 < j → 1 ≤ xs[0]'(by omega) ∧ xs[0]'(by omega) ≤ 1000000000 := fun h0 => (HA.out 0 (by omega) h0).1
      have hzero : j = 0 → xs[0]'(by omega) = xs[j] := fun h0 => by subst h0; rfl
      have HX : Hid (¬ ((1 ≤ xs[j] ∧ xs[j] ≤ 1000000000) ∧ (0 < j → xs[j] < p) ∧ xs[0]'(by omega) - 6 < xs[j]) → b = false) := Lib.hid (fun h => HF.out fun hw => h (by rw [← htop]; have := hw j hlt hlt; exact ⟨this.1, fun h0 => by rw [← hpe (by omega)]; exact this.2.1 h0, this.2.2⟩))
      have HNX : Hid ((1 ≤ xs[j] ∧ xs[j] ≤ 1000000000) → (0 < j → xs[j] < p) → xs[0]'(by omega) - 6 < xs[j] → SeenTo xs (j + 1)) := Lib.hid (fun h1 h2 h3 => seenTo_next hlt HA.out h1 (fun h0 => by rw [hpe (by omega)]; exact h2 h0) (by rw [htop]; exact h3))
      clear htop hpe
      generalize (xs[0]'(by omega)) = t at *
      generalize xs[j] = x at *
      by_cases h1 : 1 ≤ x
      rotate_left
      · obtain rfl := HX.out (fun h => h1 h.1.1)
        have k1 : decide (x < 1) = true := decide_eq_true (by omega)
        clear HX HNX h1 hpv hfirst hzero
        go_wp2_with fail
        go_ret
        exact ⟨rfl, Below.refl _ _⟩
      have k1 : decide (x < 1) = false := decide_eq_false (by omega)
      by_cases h2 : x ≤ 1000000000
      rotate_left
      · obtain rfl := HX.out (fun h => h2 h.1.2)
        have k2 : decide (1000000000 < x) = true := decide_eq_true (by omega)
        clear HX HNX h1 h2 hpv hfirst hzero
        go_wp2_with fail
        go_ret
        exact ⟨rfl, Below.refl _ _⟩
      have k2 : decide (1000000000 < x) = false := decide_eq_false (by omega)
      have ht : 1 ≤ t ∧ t ≤ 1000000000 := by
        rcases Nat.eq_zero_or_pos j with h0 | h0
        · rw [hzero h0]; exact ⟨h1, h2⟩
        · exact hfirst h0
      have hwt : IntKind.i64.wrap (t - 6) = t - 6 := by rw [IntKind.wrap_i64]; omega
      by_cases hf : t - 6 < x
      rotate_left
      · obtain rfl := HX.out (fun h => hf h.2.2)
        have k3 : decide (x ≤ t - 6) = true := decide_eq_true (by omega)
        clear HX HNX h1 h2 hf hpv hfirst hzero
        go_wp2_with fail
        go_ret
        exact ⟨rfl, Below.refl _ _⟩
      have k3 : decide (x ≤ t - 6) = false := decide_eq_false (by omega)
      rcases Nat.eq_zero_or_pos j with h0 | h0
      · have h00 : ¬ ((0 : Int) < (j : Int)) := by omega
        have h01 : ¬ (0 < j) := by omega
        have HJ := Lib.hid (HNX.out ⟨h1, h2⟩ (fun h => absurd h (by omega)) hf)
        clear HX HNX hpv hfirst hzero h0
        go_wp2_with fail
        go_round
        case rel => exact ⟨j + 1, by omega, by go_num, HJ⟩
        case measure => simp [intOf]; omega
      · have h0' : (0 : Int) < (j : Int) := by omega
        obtain ⟨i, hi⟩ : ∃ i : Nat, i = j - 1 := ⟨_, rfl⟩
        have hwi : IntKind.i64.wrap ((j : Int) - 1) = (i : Int) := by rw [IntKind.wrap_i64]; omega
        have hil : (i : Int) < (xs.length : Int) := by omega
        have p0 := hpv h0 i hi
        clear hpv hfirst hzero hi
        by_cases hp : x < p
        rotate_left
        · obtain rfl := HX.out (fun h => hp (h.2.1 h0))
          have hp' : decide (p ≤ x) = true := decide_eq_true (by omega)
          clear HX HNX hp
          go_wp2_with fail
          go_ret
          exact ⟨rfl, Below.refl _ _⟩
        have hp' : decide (p ≤ x) = false := decide_eq_false (by omega)
        have HJ := Lib.hid (HNX.out ⟨h1, h2⟩ (fun _ => hp) hf)
        clear HX HNX
        go_wp2_with fail
        go_round
        case rel => exact ⟨j + 1, by omega, by go_num, HJ⟩
        case measure => simp [intOf]; omega
    · obtain rfl : j = xs.length := by omega
      have hge : ¬ ((xs.length : Int) < (xs.length : Int)) := by omega
      obtain rfl : b = true := HB.out.2 ⟨HA.out, seenTo_few HA.out⟩
      go_wp2_with fail
      go_ret
      exact ⟨rfl, Below.refl _ _⟩

end Go.Proofs.YtoaifgblbfdncaaGreatDoor
namespace Go.Proofs.YtoaifgblbfdncaaGreatDoor
open Go.RowKit

abbrev SpanT : TypeId := 130

end Go.Proofs.YtoaifgblbfdncaaGreatDoor
namespace Go.Proofs.YtoaifgblbfdncaaGreatDoor
open Go.RowKit

/-- The span that is made, in its variable, and the result's variable. -/
structure SP (w : World) (f : Int) (b : Nat) (X : World) : Prop where
  r : VarP w.heap.size SpanT (.int .i64 0) (.int .u8 0) X
  v : VarP (w.heap.size + 1) SpanT (.int .i64 f) (.int .u8 (b : Int)) X
  below : Below w.heap.size w X
theorem SP.next {w : World} {f : Int} {b : Nat} {X Y : World} (h : SP w f b X) (hb : Below X.heap.size X Y) : SP w f b Y := ⟨h.r.next hb, h.v.next hb, h.below.trans (hb.mono h.below.size)⟩
end Go.Proofs.YtoaifgblbfdncaaGreatDoor
namespace Go.Proofs.YtoaifgblbfdncaaGreatDoor
open Go.RowKit

end Go.Proofs.YtoaifgblbfdncaaGreatDoor
namespace Go.Proofs.YtoaifgblbfdncaaGreatDoor
open Go.RowKit

end Go.Proofs.YtoaifgblbfdncaaGreatDoor
namespace Go.Proofs.YtoaifgblbfdncaaGreatDoor
open Go.RowKit

end Go.Proofs.YtoaifgblbfdncaaGreatDoor
