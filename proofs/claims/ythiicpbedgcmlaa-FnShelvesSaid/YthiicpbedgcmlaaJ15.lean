/-
  The program's ReadPart.
  slices.Index and slices.Contains at bools.
  The program's isBody.
  Who somebody is: the program's isWho.
  The program's isPieceId.
-/
import Derived.Test.YthiicpbedgcmlaaJ14
import Derived.Test.YthiicpbedgcmlaaJ10
import Derived.Test.YthiicpbedgcmlaaJ04
import Derived.Test.YthiicpbedgcmlaaJ01
import Derived.Test.YthiicpbedgcmlaaRows
import Derived.Deep.DeepCutAuto
namespace Go.Proofs.Ythiicpbedgcmlaa
open Go.RowKit

set_option maxRecDepth 100000 in
set_option maxHeartbeats 1600000 in
theorem implReadPart_of (HG : CloneGives) (t : ByteArray) (id place count : Int) (part : ByteArray) (ok : Bool) (hz : t.size ≤ 1048576) (h : ReadPartIs t id place count part ok) (w : World) :
    Calls Try.prog 16 #[.string t] w fun e w' => e = .returned (.tuple #[.int .i64 id, .int .i64 place, .int .i64 count, .string part, .bool ok]) ∧ Below w.heap.size w w' := by
  obtain ⟨Q, HQ⟩ : ∃ Q : Ending → World → Prop, Hid (Q = fun e w' => e = .returned (.tuple #[.int .i64 id, .int .i64 place, .int .i64 count, .string part, .bool ok]) ∧ Below w.heap.size w w') := ⟨_, Lib.hid rfl⟩
  rw [← HQ.out]
  go_enter Try.func16, Try.ntmps16
  by_cases h3 : 3 ≤ t.size
  rotate_left
  · obtain ⟨rfl, rfl, rfl, rfl, rfl⟩ : ok = false ∧ id = 0 ∧ place = 0 ∧ count = 0 ∧ part = ⟨#[]⟩ := by
      rcases h with ⟨_, h, _⟩ | ⟨h1, _, h2, h3, h4, h5⟩
      · exact absurd h.1 h3
      · exact ⟨h1, h2, h3, h4, h5⟩
    have h3' : (t.size : Int) < 3 := by omega
    clear h h3
    go_wp2_with fail
    exact bodyPost_ret (v := .tuple #[.int .i64 0, .int .i64 0, .int .i64 0, .string ⟨#[]⟩, .bool false]) (by simp [results, Try.results16, go_sem]) rfl (by rw [HQ.out]; exact ⟨rfl, Below.refl _ _⟩)
  have h3' : ¬ ((t.size : Int) < 3) := by omega
  have i0 : (0 : Int) < (t.size : Int) := by omega
  have i1 : (1 : Int) < (t.size : Int) := by omega
  have i2 : (2 : Int) < (t.size : Int) := by omega
  have z3 : (3 : Int) ≤ (t.size : Int) := by omega
  have B0 := byte_is t 0 (by omega)
  have B1 := byte_is t 1 (by omega)
  have B2 := byte_is t 2 (by omega)
  obtain ⟨x0, hx0⟩ : ∃ x : UInt8, t[0]'(by omega) = x := ⟨_, rfl⟩
  obtain ⟨x1, hx1⟩ : ∃ x : UInt8, t[1]'(by omega) = x := ⟨_, rfl⟩
  obtain ⟨x2, hx2⟩ : ∃ x : UInt8, t[2]'(by omega) = x := ⟨_, rfl⟩
  rw [hx0] at B0
  rw [hx1] at B1
  rw [hx2] at B2
  have l0 := x0.toNat_lt
  have l1 := x1.toNat_lt
  have l2 := x2.toNat_lt
  have w0 : IntKind.i64.wrap (x0.toNat : Int) = (x0.toNat : Int) := by rw [IntKind.wrap_i64]; omega
  have w1 : IntKind.i64.wrap (x1.toNat : Int) = (x1.toNat : Int) := by rw [IntKind.wrap_i64]; omega
  have w2 : IntKind.i64.wrap (x2.toNat : Int) = (x2.toNat : Int) := by rw [IntKind.wrap_i64]; omega
  by_cases h2 : x2.toNat ≤ 15
  rotate_left
  · obtain ⟨rfl, rfl, rfl, rfl, rfl⟩ : ok = false ∧ id = 0 ∧ place = 0 ∧ count = 0 ∧ part = ⟨#[]⟩ := by
      rcases h with ⟨_, h, _⟩ | ⟨h1, _, h2, h3, h4, h5⟩
      · exact absurd (by rw [B2]; exact h.2.1.2) h2
      · exact ⟨h1, h2, h3, h4, h5⟩
    have k2 : decide ((15 : Int) < (x2.toNat : Int)) = true := decide_eq_true (by omega)
    have k2' : (15 : Int) < (x2.toNat : Int) := by omega
    clear h h2 B0 B1 B2 w0 w1
    go_wp2_with fail
    go_quiet (fail)
    go_wp2_with fail
    exact bodyPost_ret (v := .tuple #[.int .i64 0, .int .i64 0, .int .i64 0, .string ⟨#[]⟩, .bool false]) (by simp [results, Try.results16, go_sem]) rfl (by rw [HQ.out]; exact ⟨rfl, below_drewN (Below.refl _ _) _⟩)
  have k2 : decide ((15 : Int) < (x2.toNat : Int)) = false := decide_eq_false (by omega)
  have k2' : ¬ ((15 : Int) < (x2.toNat : Int)) := by omega
  by_cases h1 : x1.toNat < x2.toNat
  rotate_left
  · obtain ⟨rfl, rfl, rfl, rfl, rfl⟩ : ok = false ∧ id = 0 ∧ place = 0 ∧ count = 0 ∧ part = ⟨#[]⟩ := by
      rcases h with ⟨_, h, _⟩ | ⟨h1, _, h2, h3, h4, h5⟩
      · exact absurd (by rw [B1, B2]; exact h.2.2) h1
      · exact ⟨h1, h2, h3, h4, h5⟩
    have h1' : decide ((x2.toNat : Int) ≤ (x1.toNat : Int)) = true := decide_eq_true (by omega)
    have h1'' : (x2.toNat : Int) ≤ (x1.toNat : Int) := by omega
    clear h h2 h1 B0 B1 B2 w0
    go_wp2_with fail
    go_quiet (fail)
    go_wp2_with fail
    exact bodyPost_ret (v := .tuple #[.int .i64 0, .int .i64 0, .int .i64 0, .string ⟨#[]⟩, .bool false]) (by simp [results, Try.results16, go_sem]) rfl (by rw [HQ.out]; exact ⟨rfl, below_drewN (Below.refl _ _) _⟩)
  have h1' : decide ((x2.toNat : Int) ≤ (x1.toNat : Int)) = false := decide_eq_false (by omega)
  have h1'' : ¬ ((x2.toNat : Int) ≤ (x1.toNat : Int)) := by omega
  obtain ⟨rfl, rfl, rfl, rfl, hp⟩ : ok = true ∧ id = (x0.toNat : Int) ∧ place = (x1.toNat : Int) ∧ count = (x2.toNat : Int) ∧ part = t.extract 3 t.size := by
    rcases h with ⟨h1, _, h2, h3, h4, h5⟩ | ⟨_, h, _⟩
    · exact ⟨h1, by rw [B0]; exact h2, by rw [B1]; exact h3, by rw [B2]; exact h4, h5⟩
    · exact absurd ⟨h3, ⟨by rw [← B2]; omega, by rw [← B2]; exact h2⟩, by rw [← B1, ← B2]; exact h1⟩ h
  have E : Hid (∀ X, Below w.heap.size w X → Q (.returned (.tuple #[.int .i64 (x0.toNat : Int), .int .i64 (x1.toNat : Int), .int .i64 (x2.toNat : Int), .string (t.extract 3 t.size), .bool true])) X) := Lib.hid (fun X hX => by
    rw [HQ.out, ← hp]
    exact ⟨rfl, hX⟩)
  have K := Lib.hid (fun X => HG (t.extract 3 t.size) X (by rw [ByteArray.size_extract]; omega))
  clear h h2 h1 B0 B1 B2 hp
  go_wp2_with fail
  go_quiet (fail)
  go_wp2_with fail
  refine (K.out _).mono ?_
  rintro e X1 ⟨rfl, hb⟩
  have HB := Lib.hid (hb.mono (Nat.le_refl _))
  clear hb
  go_wp2_with fail
  exact bodyPost_ret (v := .tuple #[.int .i64 (x0.toNat : Int), .int .i64 (x1.toNat : Int), .int .i64 (x2.toNat : Int), .string (t.extract 3 t.size), .bool true]) (by simp [results, Try.results16, go_sem]) rfl (E.out _ ((below_drewN (Below.refl _ _) _).trans HB.out))

end Go.Proofs.Ythiicpbedgcmlaa
namespace Go.Proofs.Ythiicpbedgcmlaa
open Go.RowKit

set_option maxRecDepth 100000 in
set_option maxHeartbeats 800000 in
theorem indexBool_any (xs : List Bool) (x : Bool) (v : Value) (hl : xs.length ≤ 100000000) (w : World) (h : layBoolS.rd w [v] xs) :
    Calls Try.prog 46 #[v, .bool x] w fun e w' => ((x ∈ xs ∧ ∃ j : Nat, e = .returned (.int .i64 j)) ∨ (x ∉ xs ∧ e = .returned (.int .i64 (-1)))) ∧ w' = w := by
  obtain ⟨ao, cp, rfl⟩ := rows_form h
  have HR := Lib.hid h
  clear h
  go_enter Try.func46, Try.ntmps46
  go_wp2_with fail
  go_loop [8] (fun c => ∃ j : Nat, j ≤ xs.length ∧ c = .int .i64 j ∧ Hid (∀ i, (hi : i < xs.length) → i < j → xs[i] ≠ x)) (fun c => xs.length - (intOf c).toNat)
  case atStart => exact ⟨0, Nat.zero_le _, rfl, fun i _ h => absurd h (by omega)⟩
  case round =>
    obtain ⟨j, hj, rfl, HA⟩ := hrel
    by_cases hlt : j < xs.length
    · have hlt' : (j : Int) < (xs.length : Int) := by omega
      have HM : Hid (xs[j] = x → x ∈ xs) := Lib.hid (fun h => h ▸ List.getElem_mem hlt)
      have HNX : Hid (xs[j] ≠ x → ∀ i, (hi : i < xs.length) → i < j + 1 → xs[i] ≠ x) := Lib.hid (fun hx i hi h => by
        rcases Nat.lt_or_ge i j with h2 | h2
        · exact HA.out i hi h2
        · have : i = j := by omega
          subst this
          exact hx)
      obtain ⟨g, off, cs, rfl, hg, hr, hc⟩ := rows_elem HR.out j _ (List.getElem?_eq_getElem hlt)
      generalize xs[j] = y at hr HM HNX
      have hr' : cs = [.bool y] := hr
      subst hr'
      have c0 : w.cell? ⟨g, off + j, none⟩ = some (.bool y) := (by have h9 := hc 0 _ rfl; rw [show j * Lay.bool.k = j from Nat.mul_one j] at h9; exact h9)
      clear hc
      by_cases hx : x = y
      · have hq : (x == y) = true := by rw [beq_iff_eq]; exact hx
        have HE := Lib.hid (HM.out hx.symm)
        clear hx HM HNX
        go_wp2_with fail
        go_ret
        exact ⟨.inl ⟨HE.out, j, rfl⟩, rfl⟩
      · have hq : (x == y) = false := by rw [beq_eq_false_iff_ne]; exact hx
        have HJ := Lib.hid (HNX.out (fun e => hx e.symm))
        clear hx HM HNX
        go_wp2_with fail
        go_round
        case rel => exact ⟨j + 1, by omega, by go_num, HJ⟩
        case measure => simp [intOf]; omega
    · have hlt' : ¬ ((j : Int) < (xs.length : Int)) := by omega
      have HE : Hid (x ∉ xs) := Lib.hid (fun hx => by
        obtain ⟨i, hi, e⟩ := List.getElem_of_mem hx
        exact HA.out i hi (by omega) e)
      go_wp2_with fail
      go_ret
      exact ⟨.inr ⟨HE.out, rfl⟩, rfl⟩

theorem containsBool_any (xs : List Bool) (x : Bool) (v : Value) (b : Bool) (hb : b = true ↔ x ∈ xs) (hl : xs.length ≤ 100000000) (w : World) (h : layBoolS.rd w [v] xs) :
    Calls Try.prog 38 #[v, .bool x] w fun e w' => e = .returned (.bool b) ∧ w' = w := by
  have HI := Lib.hid (indexBool_any xs x v hl w h)
  clear h
  go_enter Try.func38, Try.ntmps38
  go_wp2_with fail
  refine HI.out.mono ?_
  rintro e w1 ⟨hE, hw⟩
  have hw' := hw.symm
  subst hw'
  clear hw HI
  rcases hE with ⟨h1, j, rfl⟩ | ⟨h1, rfl⟩
  · obtain rfl : b = true := hb.2 h1
    have hj : (0 : Int) ≤ (j : Int) := by omega
    clear h1 hb
    go_wp2_with fail
    go_ret
    exact ⟨rfl, rfl⟩
  · obtain rfl : b = false := Bool.eq_false_iff.2 fun e => h1 (hb.1 e)
    clear h1 hb
    go_wp2_with fail
    go_ret
    exact ⟨rfl, rfl⟩

end Go.Proofs.Ythiicpbedgcmlaa
namespace Go.Proofs.Ythiicpbedgcmlaa
open Go.RowKit

theorem isBody_bool (t : ByteArray) (b : Bool) (hb : b = true ↔ t.size ≤ 120) (w : World) :
    Calls Try.prog 18 #[.string t] w fun e w' => e = .returned (.bool b) ∧ w' = w := by
  cases b with
  | true =>
    have h1 : (t.size : Int) ≤ 120 := by have := hb.1 rfl; omega
    go_enter Try.func18, Try.ntmps18
    go_wp2_with fail
    go_ret
    exact ⟨rfl, rfl⟩
  | false =>
    have h1 : ¬ ((t.size : Int) ≤ 120) := fun h => by have := hb.2 (by omega); cases this
    go_enter Try.func18, Try.ntmps18
    go_wp2_with fail
    go_ret
    exact ⟨rfl, rfl⟩

end Go.Proofs.Ythiicpbedgcmlaa
namespace Go.Proofs.Ythiicpbedgcmlaa
open Go.RowKit

theorem isWho_yes (x : Int) (h0 : 1 ≤ x) (h1 : x ≤ 99) (w : World) : Calls Try.prog 17 #[.int .i64 x] w fun e w' => e = .returned (.bool true) ∧ w' = w := by
  go_enter Try.func17, Try.ntmps17
  go_wp2_with fail
  go_ret
  exact ⟨rfl, rfl⟩
theorem isWho_no (x : Int) (h : ¬ (1 ≤ x ∧ x ≤ 99)) (w : World) : Calls Try.prog 17 #[.int .i64 x] w fun e w' => e = .returned (.bool false) ∧ w' = w := by
  by_cases h0 : 1 ≤ x
  · have h1 : ¬ x ≤ 99 := fun h1 => h ⟨h0, h1⟩
    clear h
    go_enter Try.func17, Try.ntmps17
    go_wp2_with fail
    go_ret
    exact ⟨rfl, rfl⟩
  · clear h
    go_enter Try.func17, Try.ntmps17
    go_wp2_with fail
    go_ret
    exact ⟨rfl, rfl⟩
end Go.Proofs.Ythiicpbedgcmlaa
namespace Go.Proofs.Ythiicpbedgcmlaa
open Go.RowKit

theorem isPieceId_any (x : Int) (b : Bool) (hb : b = true ↔ (0 ≤ x ∧ x ≤ 255)) (w : World) : Calls Try.prog 41 #[.int .i64 x] w fun e w' => e = .returned (.bool b) ∧ w' = w := by
  by_cases h0 : 0 ≤ x
  · have d0 : decide ((0 : Int) ≤ x) = true := decide_eq_true h0
    by_cases h1 : x ≤ 255
    · have d1 : decide (x ≤ 255) = true := decide_eq_true h1
      obtain rfl : b = true := hb.2 ⟨h0, h1⟩
      clear hb
      go_enter Try.func41, Try.ntmps41
      go_wp2_with fail
      go_ret
      exact ⟨rfl, rfl⟩
    · have d1 : decide (x ≤ 255) = false := decide_eq_false h1
      obtain rfl : b = false := Bool.eq_false_iff.2 (fun e => h1 (hb.1 e).2)
      clear hb
      go_enter Try.func41, Try.ntmps41
      go_wp2_with fail
      go_ret
      exact ⟨rfl, rfl⟩
  · have d0 : decide ((0 : Int) ≤ x) = false := decide_eq_false h0
    obtain rfl : b = false := Bool.eq_false_iff.2 (fun e => h0 (hb.1 e).1)
    clear hb
    go_enter Try.func41, Try.ntmps41
    go_wp2_with fail
    go_ret
    exact ⟨rfl, rfl⟩

end Go.Proofs.Ythiicpbedgcmlaa
