/-
  What is held, through a pointer: the program's isWhole, arePartsRight and isRight.
-/
import Derived.Test.YthiicpbedgcmlaaJ15
import Derived.Test.YthiicpbedgcmlaaJ07
import Derived.BigQuiet
import Derived.Deep.QuietTactic
namespace Go.Proofs.Ythiicpbedgcmlaa
open Go.RowKit

/-- One that is held lies at a place of a block. -/
structure HAt (g o : Nat) (x0 x1 x2 : Int) (v3 v4 : Value) (x5 : Int) (w : World) : Prop where
  c0 : w.cell? ⟨g, o, none⟩ = some (.int .i64 x0)
  c1 : w.cell? ⟨g, o + 1, none⟩ = some (.int .i64 x1)
  c2 : w.cell? ⟨g, o + 2, none⟩ = some (.int .i64 x2)
  c3 : w.cell? ⟨g, o + 3, none⟩ = some v3
  c4 : w.cell? ⟨g, o + 4, none⟩ = some v4
  c5 : w.cell? ⟨g, o + 5, none⟩ = some (.int .i64 x5)
theorem HAt.next {g o : Nat} {x0 x1 x2 : Int} {v3 v4 : Value} {x5 : Int} {w w' : World} (h : HAt g o x0 x1 x2 v3 v4 x5 w) (hb : Below w.heap.size w w') : HAt g o x0 x1 x2 v3 v4 x5 w' :=
  ⟨(hb.cell (p := ⟨g, o, none⟩) (cell_size h.c0)).trans h.c0, (hb.cell (p := ⟨g, o + 1, none⟩) (cell_size h.c1)).trans h.c1, (hb.cell (p := ⟨g, o + 2, none⟩) (cell_size h.c2)).trans h.c2,
   (hb.cell (p := ⟨g, o + 3, none⟩) (cell_size h.c3)).trans h.c3, (hb.cell (p := ⟨g, o + 4, none⟩) (cell_size h.c4)).trans h.c4, (hb.cell (p := ⟨g, o + 5, none⟩) (cell_size h.c5)).trans h.c5⟩

theorem isWhole_any (g o : Nat) (v4 : Value) (r4 : List Bool) (b : Bool) (hb : b = true ↔ false ∉ r4) (l4 : r4.length ≤ 100000000) (w : World) (c4 : w.cell? ⟨g, o + 4, none⟩ = some v4) (h4 : layBoolS.rd w [v4] r4) :
    Calls Try.prog 21 #[.pointer (some ⟨g, o, none⟩)] w fun e w' => e = .returned (.bool b) ∧ w' = w := by
  have K := Lib.hid (containsBool_any r4 false v4 (!b) (by cases b <;> simp at hb ⊢ <;> exact hb) l4 w h4)
  clear h4 hb
  go_enter Try.func21, Try.ntmps21
  go_wp2_with fail
  refine K.out.mono ?_
  rintro e w1 ⟨rfl, rfl⟩
  cases b <;> (go_wp2_with fail; go_ret; exact ⟨rfl, rfl⟩)

set_option maxRecDepth 100000 in
set_option maxHeartbeats 1600000 in
theorem arePartsRight_any (g o : Nat) (v3 : Value) (r3 : List ByteArray) (v4 : Value) (r4 : List Bool) (b : Bool) (hb : b = true ↔ PartsTo r3 r4 r3.length) (hl : r3.length = r4.length) (l3 : r3.length ≤ 100000000) (w : World) (c3 : w.cell? ⟨g, o + 3, none⟩ = some v3) (c4 : w.cell? ⟨g, o + 4, none⟩ = some v4) (h3 : layStringS.rd w [v3] r3) (h4 : layBoolS.rd w [v4] r4) :
    Calls Try.prog 42 #[.pointer (some ⟨g, o, none⟩)] w fun e w' => e = .returned (.bool b) ∧ w' = w := by
  obtain ⟨a3, p3, rfl⟩ := rows_form h3
  have H3 := Lib.hid h3
  have H4 := Lib.hid h4
  have HB := Lib.hid hb
  clear h3 h4 hb
  go_enter Try.func42, Try.ntmps42
  go_wp2_with fail
  go_loop [10] (fun c => ∃ j : Nat, j ≤ r3.length ∧ c = .int .i64 j ∧ Hid (PartsTo r3 r4 j)) (fun c => r3.length - (intOf c).toNat)
  case atStart => exact ⟨0, Nat.zero_le _, rfl, Lib.hid (fun i h => absurd h (by omega))⟩
  case round =>
    obtain ⟨j, hj, rfl, HP⟩ := hrel
    by_cases hlt : j < r3.length
    rotate_left
    · have hlt' : ¬ ((j : Int) < (r3.length : Int)) := by omega
      obtain rfl : j = r3.length := by omega
      obtain rfl : b = true := HB.out.2 HP.out
      clear HB HP
      go_wp2_with fail
      go_ret
      exact ⟨rfl, rfl⟩
    have hlt' : (j : Int) < (r3.length : Int) := by omega
    have h4j : j < r4.length := by omega
    have h4' : (j : Int) < (r4.length : Int) := by omega
    have hpn : r3[j].size ≤ 120 → (r4[j] = false → r3[j] = ⟨#[]⟩) → PartsTo r3 r4 (j + 1) := fun e1 e2 i hi p hp => by
      rcases Nat.lt_or_ge i j with h9 | h9
      · exact HP.out i h9 p hp
      · obtain rfl : i = j := by omega
        rw [List.getElem?_eq_getElem hlt] at hp
        cases hp
        refine ⟨e1, fun h => e2 ?_⟩
        rw [List.getElem?_eq_getElem h4j] at h
        exact Option.some.inj h
    have hpb : ¬ (r3[j].size ≤ 120 ∧ (r4[j] = false → r3[j] = ⟨#[]⟩)) → b = false := fun h => Bool.eq_false_iff.2 (fun e => by
      have h8 := (HB.out.1 e) j hlt r3[j] (List.getElem?_eq_getElem hlt)
      refine h ⟨h8.1, fun h7 => h8.2 ?_⟩
      rw [List.getElem?_eq_getElem h4j, h7])
    obtain ⟨g4, off4, cap4, rfl, hg4, hcell4⟩ := bools_get H4.out j h4j
    obtain ⟨g3, off3, rfl, hg3, hcell3⟩ := text_at H3.out j hlt
    have HPN := Lib.hid hpn
    have HPB := Lib.hid hpb
    clear hpn hpb
    generalize r4[j] = q at *
    generalize r3[j] = p at *
    by_cases hz : p.size ≤ 120
    rotate_left
    · have K := Lib.hid (isBody_bool p false ⟨fun e => (by cases e), fun e => absurd e hz⟩ w)
      obtain rfl := HPB.out (fun h => hz h.1)
      clear HB HPN HPB HP
      go_wp2_with fail
      refine K.out.mono ?_
      rintro e w1 ⟨rfl, rfl⟩
      go_wp2_with fail
      go_ret
      exact ⟨rfl, rfl⟩
    have K := Lib.hid (isBody_bool p true ⟨fun _ => hz, fun _ => rfl⟩ w)
    by_cases he : p = ⟨#[]⟩
    · have k0 : (p.toList == []) = true := by rw [he, ByteArray.toList_eq]; rfl
      have k1 : (p.toList != []) = false := by rw [he, ByteArray.toList_eq]; rfl
      have HN := Lib.hid (HPN.out hz (fun _ => he))
      clear HB HPN HPB HP he hz
      go_wp2_with fail
      refine K.out.mono ?_
      rintro e w1 ⟨rfl, rfl⟩
      go_wp2_with fail
      go_round
      case rel => exact ⟨j + 1, by omega, by go_num, HN⟩
      case measure => simp [intOf]; omega
    have k0 : (p.toList == []) = false := by
      rw [beq_eq_false_iff_ne, ByteArray.toList_eq]
      intro h
      exact he (by cases p with | mk d => congr 1; exact Array.toList_eq_nil_iff.1 h)
    have k1 : (p.toList != []) = true := by rw [bne, k0]; rfl
    cases q with
    | true =>
      have HN := Lib.hid (HPN.out hz (fun h => by cases h))
      clear HB HPN HPB HP he hz
      go_wp2_with fail
      refine K.out.mono ?_
      rintro e w1 ⟨rfl, rfl⟩
      go_wp2_with fail
      go_round
      case rel => exact ⟨j + 1, by omega, by go_num, HN⟩
      case measure => simp [intOf]; omega
    | false =>
      obtain rfl := HPB.out (fun h => he (h.2 rfl))
      clear HB HPN HPB HP he hz
      go_wp2_with fail
      refine K.out.mono ?_
      rintro e w1 ⟨rfl, rfl⟩
      go_wp2_with fail
      go_ret
      exact ⟨rfl, rfl⟩

set_option maxRecDepth 100000 in
set_option maxHeartbeats 3200000 in
theorem isRight_any (g o : Nat) (x0 x1 x2 : Int) (v3 : Value) (r3 : List ByteArray) (v4 : Value) (r4 : List Bool) (x5 : Int) (c : Bool) (hc : c = true ↔ HeldP (x0, x1, x2, r3, r4, x5)) (l3 : r3.length ≤ 100000000) (l4 : r4.length ≤ 100000000) (w : World) (h : HAt g o x0 x1 x2 v3 v4 x5 w) (h3 : layStringS.rd w [v3] r3) (h4 : layBoolS.rd w [v4] r4) :
    Calls Try.prog 30 #[.pointer (some ⟨g, o, none⟩)] w fun e w' => e = .returned (.bool c) ∧ Below w.heap.size w w' := by
  obtain ⟨a3, p3, rfl⟩ := rows_form h3
  obtain ⟨a4, p4, rfl⟩ := rows_form h4
  have HF : Hid (¬ HeldP (x0, x1, x2, r3, r4, x5) → c = false) := Lib.hid (fun h => Bool.eq_false_iff.2 fun e => h (hc.1 e))
  have HC := Lib.hid hc
  have H3 := Lib.hid h3
  have H4 := Lib.hid h4
  have C := Lib.hid h
  clear hc h3 h4 h
  go_enter Try.func30, Try.ntmps30
  have c0 := C.out.c0
  have c1 := C.out.c1
  have c2 := C.out.c2
  have c3 := C.out.c3
  have c4 := C.out.c4
  have c5 := C.out.c5
  by_cases g0 : 1 ≤ x0 ∧ x0 ≤ 99
  rotate_left
  · obtain rfl := HF.out (fun hp => g0 hp.1.1)
    have K0 := Lib.hid (isWho_no x0 g0)
    clear HF HC g0
    go_wp2_with fail
    refine (K0.out _).mono ?_
    rintro e w1 ⟨rfl, rfl⟩
    go_wp2_with fail
    go_ret
    exact ⟨rfl, Below.refl _ _⟩
  have K0 := Lib.hid (isWho_yes x0 g0.1 g0.2)
  by_cases g1 : 0 ≤ x1 ∧ x1 ≤ 255
  rotate_left
  · obtain rfl := HF.out (fun hp => g1 hp.1.2.1)
    have K1 := Lib.hid (isPieceId_any x1 false ⟨fun e => (by cases e), fun e => absurd e g1⟩)
    clear HF HC g1
    go_wp2_with fail
    refine (K0.out _).mono ?_
    rintro e w1 ⟨rfl, rfl⟩
    go_wp2_with fail
    refine (K1.out _).mono ?_
    rintro e w1 ⟨rfl, rfl⟩
    go_wp2_with fail
    go_ret
    exact ⟨rfl, Below.refl _ _⟩
  have K1 := Lib.hid (isPieceId_any x1 true ⟨fun _ => g1, fun _ => rfl⟩)
  by_cases g2 : 1 < x2
  rotate_left
  · obtain rfl := HF.out (fun hp => g2 (by have := hp.1.2.2.1.1; simp only at this; omega))
    have d2 : decide (x2 ≤ 1) = true := decide_eq_true (by omega)
    clear HF HC
    go_wp2_with fail
    refine (K0.out _).mono ?_
    rintro e w1 ⟨rfl, rfl⟩
    go_wp2_with fail
    refine (K1.out _).mono ?_
    rintro e w1 ⟨rfl, rfl⟩
    go_wp2_with fail
    go_ret
    exact ⟨rfl, Below.refl _ _⟩
  have d2 : decide (x2 ≤ 1) = false := decide_eq_false (by omega)
  by_cases g2b : x2 ≤ 15
  rotate_left
  · obtain rfl := HF.out (fun hp => g2b hp.1.2.2.1.2)
    have d3 : decide (15 < x2) = true := decide_eq_true (by omega)
    clear HF HC
    go_wp2_with fail
    refine (K0.out _).mono ?_
    rintro e w1 ⟨rfl, rfl⟩
    go_wp2_with fail
    refine (K1.out _).mono ?_
    rintro e w1 ⟨rfl, rfl⟩
    go_wp2_with fail
    go_ret
    exact ⟨rfl, Below.refl _ _⟩
  have d3 : decide (15 < x2) = false := decide_eq_false (by omega)
  by_cases g3 : (r3.length : Int) = x2
  rotate_left
  · obtain rfl := HF.out (fun hp => g3 hp.1.2.2.2.1)
    have n3 : ((r3.length : Int) != x2) = true := bne_iff_ne.2 g3
    clear HF HC
    go_wp2_with fail
    refine (K0.out _).mono ?_
    rintro e w1 ⟨rfl, rfl⟩
    go_wp2_with fail
    refine (K1.out _).mono ?_
    rintro e w1 ⟨rfl, rfl⟩
    go_wp2_with fail
    go_quiet (fail)
    go_wp2_with fail
    go_ret
    exact ⟨rfl, below_drewN (Below.refl _ _) _⟩
  have n3 : ((r3.length : Int) != x2) = false := by simp [g3]
  by_cases g4 : (r4.length : Int) = x2
  rotate_left
  · obtain rfl := HF.out (fun hp => g4 hp.1.2.2.2.2.1)
    have n4 : ((r4.length : Int) != x2) = true := bne_iff_ne.2 g4
    clear HF HC
    go_wp2_with fail
    refine (K0.out _).mono ?_
    rintro e w1 ⟨rfl, rfl⟩
    go_wp2_with fail
    refine (K1.out _).mono ?_
    rintro e w1 ⟨rfl, rfl⟩
    go_wp2_with fail
    go_quiet (fail)
    go_wp2_with fail
    go_ret
    exact ⟨rfl, below_drewN (Below.refl _ _) _⟩
  have n4 : ((r4.length : Int) != x2) = false := by simp [g4]
  by_cases g5 : 0 ≤ x5
  rotate_left
  · obtain rfl := HF.out (fun hp => g5 hp.1.2.2.2.2.2.1.1)
    have d5 : decide (x5 < 0) = true := decide_eq_true (by omega)
    clear HF HC
    go_wp2_with fail
    refine (K0.out _).mono ?_
    rintro e w1 ⟨rfl, rfl⟩
    go_wp2_with fail
    refine (K1.out _).mono ?_
    rintro e w1 ⟨rfl, rfl⟩
    go_wp2_with fail
    go_quiet (fail)
    go_wp2_with fail
    go_ret
    exact ⟨rfl, below_drewN (Below.refl _ _) _⟩
  have d5 : decide (x5 < 0) = false := decide_eq_false (by omega)
  by_cases g6 : x5 ≤ 1000000000
  rotate_left
  · obtain rfl := HF.out (fun hp => g6 hp.1.2.2.2.2.2.1.2)
    have d6 : decide (1000000000 < x5) = true := decide_eq_true (by omega)
    clear HF HC
    go_wp2_with fail
    refine (K0.out _).mono ?_
    rintro e w1 ⟨rfl, rfl⟩
    go_wp2_with fail
    refine (K1.out _).mono ?_
    rintro e w1 ⟨rfl, rfl⟩
    go_wp2_with fail
    go_quiet (fail)
    go_wp2_with fail
    go_ret
    exact ⟨rfl, below_drewN (Below.refl _ _) _⟩
  have d6 : decide (1000000000 < x5) = false := decide_eq_false (by omega)
  have HN : Hid (c = true ↔ PartsTo r3 r4 r3.length ∧ true ∈ r4 ∧ false ∈ r4) := Lib.hid (by
    rw [HC.out]
    constructor
    · intro hp
      exact ⟨fun i _ p h => hp.1.2.2.2.2.2.2 i p h, hp.2⟩
    · rintro ⟨h1, h2⟩
      refine ⟨⟨g0, g1, ⟨(by show 2 ≤ x2; omega), g2b⟩, g3, g4, ⟨g5, g6⟩, fun i p h => h1 i ?_ p h⟩, h2⟩
      rcases Nat.lt_or_ge i r3.length with h9 | h9
      · exact h9
      · rw [List.getElem?_eq_none h9] at h
        cases h)
  have HL : Hid (r3.length = r4.length) := Lib.hid (by omega)
  clear HF HC
  go_wp2_with fail
  refine (K0.out _).mono ?_
  rintro e w1 ⟨rfl, rfl⟩
  go_wp2_with fail
  refine (K1.out _).mono ?_
  rintro e w2 ⟨rfl, rfl⟩
  go_wp2_with fail
  go_quiet (fail)
  clear K0 K1 d2 d3 n3 n4 d5 d6 c0 c1 c2 c3 c4 c5
  obtain ⟨Y, hY⟩ : ∃ Y, Y = w2.drewN nq := ⟨_, rfl⟩
  have B2 : Hid (Below w2.heap.size w2 Y) := Lib.hid (by rw [hY]; exact below_drewN (Below.refl _ _) _)
  rw [← hY]
  clear hY
  have C2 := C.out.next B2.out
  have c3 := C2.c3
  have c4 := C2.c4
  have R3 := layStringS.below H3.out B2.out
  have R4 := layBoolS.below H4.out B2.out
  clear C C2 H3 H4
  by_cases e1 : true ∈ r4
  rotate_left
  · have K := Lib.hid (containsBool_any r4 true _ false ⟨fun e => (by cases e), fun e => absurd e e1⟩ l4 Y R4)
    obtain rfl : c = false := Bool.eq_false_iff.2 (fun e => e1 (HN.out.1 e).2.1)
    clear HN e1 R3 R4 HL
    go_wp2_with fail
    refine K.out.mono ?_
    rintro e w3 ⟨rfl, rfl⟩
    go_wp2_with fail
    go_ret
    exact ⟨rfl, B2.out⟩
  have K := Lib.hid (containsBool_any r4 true _ true ⟨fun _ => e1, fun _ => rfl⟩ l4 Y R4)
  by_cases e2 : false ∈ r4
  rotate_left
  · have K2 := Lib.hid (isWhole_any g o _ r4 true ⟨fun _ => e2, fun _ => rfl⟩ l4 Y c4 R4)
    obtain rfl : c = false := Bool.eq_false_iff.2 (fun e => e2 (HN.out.1 e).2.2)
    clear HN e1 e2 R3 R4 HL
    go_wp2_with fail
    refine K.out.mono ?_
    rintro e w3 ⟨rfl, rfl⟩
    go_wp2_with fail
    refine K2.out.mono ?_
    rintro e w4 ⟨rfl, rfl⟩
    go_wp2_with fail
    go_ret
    exact ⟨rfl, B2.out⟩
  have K2 := Lib.hid (isWhole_any g o _ r4 false ⟨fun e => (by cases e), fun e => absurd e2 e⟩ l4 Y c4 R4)
  have K3 := Lib.hid (arePartsRight_any g o _ r3 _ r4 c (by rw [HN.out]; exact ⟨fun h => h.1, fun h => ⟨h, e1, e2⟩⟩) HL.out l3 Y c3 c4 R3 R4)
  clear HN e1 e2 R3 R4 HL
  go_wp2_with fail
  refine K.out.mono ?_
  rintro e w3 ⟨rfl, rfl⟩
  go_wp2_with fail
  refine K2.out.mono ?_
  rintro e w4 ⟨rfl, rfl⟩
  go_wp2_with fail
  refine K3.out.mono ?_
  rintro e w5 ⟨rfl, rfl⟩
  go_wp2_with fail
  go_ret
  exact ⟨rfl, B2.out⟩

end Go.Proofs.Ythiicpbedgcmlaa
