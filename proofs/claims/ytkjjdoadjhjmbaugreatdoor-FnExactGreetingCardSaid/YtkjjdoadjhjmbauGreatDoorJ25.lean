/-
  The program's CheckText: what it answers.
  Whether a text is the other one's proof, by the program.
  What the library's CutPrefix gives, of one sign.
  Whether a text is a right hello of the other Role, by the program.
  How a greeter goes to the step behind its Hello.
-/
import Derived.Test.YtkjjdoadjhjmbauGreatDoorJ23
import Derived.Test.YtkjjdoadjhjmbauGreatDoorJ24
import Derived.Test.YtkjjdoadjhjmbauGreatDoorJ22
import Derived.Test.YtkjjdoadjhjmbauGreatDoorJ08
import Derived.Test.YtkjjdoadjhjmbauGreatDoorJ03
namespace Go.Proofs.YtkjjdoadjhjmbauGreatDoor
open Go.RowKit

set_option maxRecDepth 100000 in
set_option maxHeartbeats 400000 in
theorem implCheck_group (p : Int) (m : ByteArray) (E S : Int) (h : inGroup p = false) (w : World) :
    Calls Tryz.prog 80 #[.int .i64 p, .string m, .agg #[.int .i64 E, .int .i64 S]] w fun e w' => e = .returned (.bool false) ∧ Below w.heap.size w w' := by
  have k0 := implInGroup_any p
  rw [h] at k0
  have H0 := Lib.hid k0
  have P0 := Lib.hid (PV.new w 49 (.int .i64 E) (.int .i64 S))
  clear k0 h
  go_enter Tryz.func80, Tryz.ntmps80
  go_wp2_with fail
  refine (H0.out _).mono ?_
  rintro e w1 ⟨rfl, hb1⟩
  have P1 := Lib.hid (P0.out.next hb1)
  clear hb1
  go_wp2_with fail
  go_ret
  exact ⟨rfl, P1.out.below⟩

set_option maxRecDepth 100000 in
set_option maxHeartbeats 400000 in
theorem implCheck_sig (p : Int) (m : ByteArray) (E S : Int) (hp : inGroup p = true) (h : (E < 0 ∨ 1073741788 < E) ∨ (S < 0 ∨ 1073741788 < S)) (w : World) :
    Calls Tryz.prog 80 #[.int .i64 p, .string m, .agg #[.int .i64 E, .int .i64 S]] w fun e w' => e = .returned (.bool false) ∧ Below w.heap.size w w' := by
  have k0 := implInGroup_any p
  rw [hp] at k0
  have H0 := Lib.hid k0
  have H1 := Lib.hid (isRight_no E S h)
  have P0 := Lib.hid (PV.new w 49 (.int .i64 E) (.int .i64 S))
  clear k0 hp h
  go_enter Tryz.func80, Tryz.ntmps80
  go_wp2_with fail
  refine (H0.out _).mono ?_
  rintro e w1 ⟨rfl, hb1⟩
  have P1 := Lib.hid (P0.out.next hb1)
  have c0 := P1.out.v.c0
  have c1 := P1.out.v.c1
  clear hb1
  go_wp2_with fail
  refine (H1.out _).mono ?_
  rintro e w2 ⟨rfl, hb2⟩
  have P2 := Lib.hid (P1.out.next hb2)
  clear hb2
  go_wp2_with fail
  go_ret
  exact ⟨rfl, P2.out.below⟩

set_option maxRecDepth 100000 in
set_option maxHeartbeats 1600000 in
theorem implCheck_in (p : Nat) (m : ByteArray) (E S : Nat) (hp : inGroup (p : Nat) = true) (hE : E < 1073741789) (hS : S < 1073741789) (hm : m.size ≤ 300000000) (w : World) (hK : LaidK w) :
    Calls Tryz.prog 80 #[.int .i64 p, .string m, .agg #[.int .i64 E, .int .i64 S]] w fun e w' => e = .returned (.bool ((E : Int) == (chalP (backP p E S) p m : Nat))) ∧ Below w.heap.size w w' := by
  have HK := Lib.hid hK
  have k0 := implInGroup_any p
  rw [hp] at k0
  have H0 := Lib.hid k0
  have hpr := inGroup_range p hp
  have H1 := Lib.hid (isRight_yes E S hE hS)
  have P0 := Lib.hid (PV.new w 49 (.int .i64 E) (.int .i64 S))
  have k3 := implPowP_any 4 (S : Nat)
  rw [powI_pow S (by omega)] at k3
  have hsub : (1073741789 : Int) - (E : Int) = ((1073741789 - E : Nat) : Int) := by omega
  have k4 := implPowP_any p ((1073741789 : Int) - (E : Int))
  rw [hsub, powI_of p (1073741789 - E) (by rw [primeV]; omega) (by omega), ← hsub] at k4
  have hx := powP_few 4 S
  have hy := powP_few p (1073741789 - E)
  have k5 := implMulP_any (powP 4 S : Nat) (powP p (1073741789 - E) : Nat)
  rw [mulP_nat _ _ hx hy] at k5
  have hB : powP 4 S * powP p (1073741789 - E) % prime = backP p E S := rfl
  rw [hB] at k5
  have hb := backP_lt p E S
  have k6 := implChallenge_yes (backP p E S) p m (by omega) (by omega) (by omega)
  obtain ⟨x, X1⟩ : ∃ n, Hid (n = powP 4 S) := ⟨_, rfl⟩
  obtain ⟨y, Y1⟩ : ∃ n, Hid (n = powP p (1073741789 - E)) := ⟨_, rfl⟩
  obtain ⟨r, R1⟩ : ∃ n, Hid (n = backP p E S) := ⟨_, rfl⟩
  rw [← X1.out] at k3 k5
  rw [← Y1.out] at k4 k5
  rw [← R1.out] at k5 k6 ⊢
  obtain ⟨c, C1⟩ : ∃ n, Hid (n = chalP r p m) := ⟨_, rfl⟩
  rw [← C1.out] at k6 ⊢
  have hw : IntKind.i64.wrap ((1073741789 : Int) - (E : Int)) = (1073741789 : Int) - (E : Int) := by rw [IntKind.wrap_i64]; omega
  have K3 : Hid (∀ X, (X.cell? ⟨w.heap.size, 0, none⟩ = some (.int .i64 E) ∧ X.cell? ⟨w.heap.size, 1, none⟩ = some (.int .i64 S) ∧ PV w 49 (.int .i64 E) (.int .i64 S) X) → Calls Tryz.prog 70 #[.int .i64 4, .int .i64 S] X fun e Y => e = .returned (.int .i64 x) ∧ (Y.cell? ⟨w.heap.size, 0, none⟩ = some (.int .i64 E) ∧ Y.cell? ⟨w.heap.size, 1, none⟩ = some (.int .i64 S) ∧ PV w 49 (.int .i64 E) (.int .i64 S) Y)) := fun X hX => by
    refine (k3 X).mono ?_
    rintro e Y ⟨rfl, hb⟩
    exact ⟨rfl, (hX.2.2.next hb).two⟩
  have K4 : Hid (∀ X, (X.cell? ⟨w.heap.size, 0, none⟩ = some (.int .i64 E) ∧ X.cell? ⟨w.heap.size, 1, none⟩ = some (.int .i64 S) ∧ PV w 49 (.int .i64 E) (.int .i64 S) X) → Calls Tryz.prog 70 #[.int .i64 p, .int .i64 ((1073741789 : Int) - (E : Int))] X fun e Y => e = .returned (.int .i64 y) ∧ (Y.cell? ⟨w.heap.size, 0, none⟩ = some (.int .i64 E) ∧ Y.cell? ⟨w.heap.size, 1, none⟩ = some (.int .i64 S) ∧ PV w 49 (.int .i64 E) (.int .i64 S) Y)) := fun X hX => by
    refine (k4 X).mono ?_
    rintro e Y ⟨rfl, hb⟩
    exact ⟨rfl, (hX.2.2.next hb).two⟩
  have K5 : Hid (∀ X, (X.cell? ⟨w.heap.size, 0, none⟩ = some (.int .i64 E) ∧ X.cell? ⟨w.heap.size, 1, none⟩ = some (.int .i64 S) ∧ PV w 49 (.int .i64 E) (.int .i64 S) X) → Calls Tryz.prog 101 #[.int .i64 x, .int .i64 y] X fun e Y => e = .returned (.int .i64 r) ∧ (Y.cell? ⟨w.heap.size, 0, none⟩ = some (.int .i64 E) ∧ Y.cell? ⟨w.heap.size, 1, none⟩ = some (.int .i64 S) ∧ PV w 49 (.int .i64 E) (.int .i64 S) Y)) := fun X hX => by
    refine (k5 X).mono ?_
    rintro e Y ⟨rfl, hb⟩
    exact ⟨rfl, (hX.2.2.next hb).two⟩
  have K6 : Hid (∀ X, (X.cell? ⟨w.heap.size, 0, none⟩ = some (.int .i64 E) ∧ X.cell? ⟨w.heap.size, 1, none⟩ = some (.int .i64 S) ∧ PV w 49 (.int .i64 E) (.int .i64 S) X) → Calls Tryz.prog 94 #[.int .i64 r, .int .i64 p, .string m] X fun e Y => e = .returned (.int .i64 c) ∧ (Y.cell? ⟨w.heap.size, 0, none⟩ = some (.int .i64 E) ∧ Y.cell? ⟨w.heap.size, 1, none⟩ = some (.int .i64 S) ∧ PV w 49 (.int .i64 E) (.int .i64 S) Y)) := fun X hX => by
    refine (k6 X (HK.out.stays hX.2.2.below (Nat.le_refl _))).mono ?_
    rintro e Y ⟨rfl, hb⟩
    exact ⟨rfl, (hX.2.2.next hb).two⟩
  clear k0 k3 k4 k5 k6 hsub hx hy hB hb X1 Y1 R1 C1 hp hK
  go_enter Tryz.func80, Tryz.ntmps80
  go_wp2_with fail
  refine (H0.out _).mono ?_
  rintro e w1 ⟨rfl, hb1⟩
  have Q1 := Lib.hid (P0.out.next hb1)
  have c0 := Q1.out.v.c0
  have c1 := Q1.out.v.c1
  clear hb1
  go_wp2_with fail
  refine (H1.out _).mono ?_
  rintro e w2 ⟨rfl, hb2⟩
  have Q2 := Lib.hid (Q1.out.next hb2)
  clear hb2 c0 c1
  go_wp2_with fail
  go_region_held3 (fun X => X.cell? ⟨w.heap.size, 0, none⟩ = some (.int .i64 E) ∧ X.cell? ⟨w.heap.size, 1, none⟩ = some (.int .i64 S) ∧ PV w 49 (.int .i64 E) (.int .i64 S) X) (first | (with_reducible assumption) | (with_reducible exact (PV.drew Q2.out).two)) (first | (go_at_call_of 70 (Value.int IntKind.i64 4); refine (K3.out _ (by assumption)).mono ?_; rintro e v1 ⟨rfl, hS1⟩) | (go_at_call_of 70 (Value.int IntKind.i64 (p : Int)); refine (K4.out _ (by assumption)).mono ?_; rintro e v1 ⟨rfl, hS1⟩) | (go_at_call 101; refine (K5.out _ (by assumption)).mono ?_; rintro e v1 ⟨rfl, hS1⟩))
  all_goals
    have P1 := Lib.hid hS1.2.2
    clear hS1
    go_wp2_with fail
    go_region_held3 (fun X => X.cell? ⟨w.heap.size, 0, none⟩ = some (.int .i64 E) ∧ X.cell? ⟨w.heap.size, 1, none⟩ = some (.int .i64 S) ∧ PV w 49 (.int .i64 E) (.int .i64 S) X) (first | (with_reducible assumption) | (with_reducible exact (PV.drew P1.out).two)) (first | (go_at_call 94; refine (K6.out _ (by assumption)).mono ?_; rintro e v1 ⟨rfl, hS2⟩))
    all_goals
      go_wp2_with fail
      go_ret
      exact ⟨rfl, hS2.2.2.below⟩

end Go.Proofs.YtkjjdoadjhjmbauGreatDoor
namespace Go.Proofs.YtkjjdoadjhjmbauGreatDoor
open Go.RowKit

theorem implReadSig_is (text : ByteArray) (E S : Nat) (b : Bool) (h : SigReadIs text E S b) (w : World) :
    Calls Tryz.prog 79 #[.string text] w fun e w' => e = .returned (.tuple #[.agg #[.int .i64 (E : Nat), .int .i64 (S : Nat)], .bool b]) ∧ Below w.heap.size w w' := by
  rcases h with ⟨rfl, hE, hS, rfl⟩ | ⟨rfl, rfl, rfl, hn⟩
  · have e1 : fourBack (numB E).data.toList = E := fourBack_four E (by omega)
    have e2 : fourBack (numB S).data.toList = S := fourBack_four S (by omega)
    exact implReadSig_eight (numB E ++ numB S) (numB E) (numB S) rfl (sig_left E S) (sig_right E S) _ (.inl ⟨by rw [e1]; exact hE, by rw [e2]; exact hS, by rw [e1, e2]⟩) w
  · by_cases hz : text.size = 8
    · refine implReadSig_eight text _ _ hz rfl rfl _ (.inr ⟨?_, rfl⟩) w
      by_cases h1 : fourBack (text.extract 0 4).data.toList < 1073741789
      · by_cases h2 : fourBack (text.extract 4 8).data.toList < 1073741789
        · refine absurd ?_ (hn _ _ h1 h2)
          rw [numB_back _ (by rw [ByteArray.size_extract]; omega), numB_back _ (by rw [ByteArray.size_extract]; omega)]
          exact (sig_halves text hz).symm
        · exact .inr (by omega)
      · exact .inl (by omega)
    · exact implReadSig_size text hz w
theorem implCheck_is (pin : Int) (m : ByteArray) (E S : Nat) (hE : E < 1073741789) (hS : S < 1073741789) (hm : m.size ≤ 300000000) (c : Bool) (hc : c = true ↔ inGroup pin = true ∧ E = chalP (backP pin.toNat E S) pin.toNat m) (w : World) (hK : LaidK w) :
    Calls Tryz.prog 80 #[.int .i64 pin, .string m, .agg #[.int .i64 (E : Nat), .int .i64 (S : Nat)]] w fun e w' => e = .returned (.bool c) ∧ Below w.heap.size w w' := by
  cases hg : inGroup pin with
  | false =>
    obtain rfl : c = false := by
      cases c with
      | false => rfl
      | true => rw [hg] at hc; exact absurd (hc.1 rfl).1 (by decide)
    exact implCheck_group pin m E S hg w
  | true =>
    have hr := inGroup_range pin hg
    obtain ⟨p, rfl⟩ : ∃ n : Nat, pin = (n : Int) := ⟨pin.toNat, by omega⟩
    rw [Int.toNat_natCast] at hc
    have e : c = ((E : Int) == (chalP (backP p E S) p m : Nat)) := by
      rw [Bool.eq_iff_iff, hc, beq_iff_eq]
      exact ⟨fun h => by rw [← h.2], fun h => ⟨hg, by exact_mod_cast h⟩⟩
    rw [e]
    exact implCheck_in p m E S hg hE hS hm w hK
/-- What the library's CutPrefix gives of one sign. -/
def CutG : Prop := ∀ (s : ByteArray) (w : World), ∃ r b, ((b = true ∧ s = (⟨#[112]⟩ : ByteArray) ++ r) ∨ (b = false ∧ ∀ r', s ≠ (⟨#[112]⟩ : ByteArray) ++ r')) ∧ Calls Tryz.prog 78 #[.string s, .string ⟨#[112]⟩] w fun e w' => e = .returned (.tuple #[.string r, .bool b]) ∧ w' = w
/-- Two signatures of one text are one. -/
theorem sig_one {E S E' S' : Nat} (hE : E < 1073741789) (hS : S < 1073741789) (hE' : E' < 1073741789) (hS' : S' < 1073741789) (h : numB E ++ numB S = numB E' ++ numB S') : E = E' ∧ S = S' := by
  have h1 := congrArg (fun b : ByteArray => b.extract 0 4) h
  have h2 := congrArg (fun b : ByteArray => b.extract 4 8) h
  simp only [sig_left, sig_right] at h1 h2
  exact ⟨numB_lt (by omega) (by omega) h1, numB_lt (by omega) (by omega) h2⟩

set_option maxRecDepth 100000 in
set_option maxHeartbeats 3200000 in
theorem isOthersProof_any (HG : CloneG) (HC : CutG) (G : Nat) (x0 x1 x2 x3 x4 : Int) (x5 x6 s : ByteArray) (hx0 : x0 = 1 ∨ x0 = 2) (h5 : x5.size ≤ 10000000) (h6 : x6.size ≤ 10000000) (b : Bool) (hb0 : CheckIs x0 x2 x5 x6 s b) (w : World) (hv : VarA G GreeterT #[.int .i64 x0, .int .i64 x1, .int .i64 x2, .int .i64 x3, .int .i64 x4, .string x5, .string x6] w) (hK0 : LaidK w) :
    Calls Tryz.prog 65 #[.pointer (some ⟨G, 0, none⟩), .string s] w fun e w' => e = .returned (.bool b) ∧ Below w.heap.size w w' := by
  obtain ⟨r, b1, hr, K1⟩ := HC s w
  obtain ⟨E, S, b2, hsr⟩ := sig_read r
  have K2 := implReadSig_is r E S b2 hsr w
  have HV := Lib.hid hv
  have HK := Lib.hid hK0
  have HB := Lib.hid hb0
  have KK1 := Lib.hid K1
  have KK2 := Lib.hid K2
  clear hv hK0 hb0 K1 K2
  go_enter Tryz.func65, Tryz.ntmps65
  go_wp2_with fail
  refine KK1.out.mono ?_
  rintro e Y0 ⟨rfl, rfl⟩
  clear KK1
  go_wp2_with fail
  refine KK2.out.mono ?_
  rintro e Y1 ⟨rfl, hb⟩
  have V1 := Lib.hid (HV.out.next hb)
  have K1 := Lib.hid (HK.out.stays hb (Nat.le_refl _))
  have B1 := Lib.hid (hb.alloc hb.size (.cells #[.int .i64 (E : Nat), .int .i64 (S : Nat)] SigT))
  have Q1 := Lib.hid (VarA.new Y1 SigT #[.int .i64 (E : Nat), .int .i64 (S : Nat)])
  have V2 := Lib.hid (V1.out.alloc (.cells #[.int .i64 (E : Nat), .int .i64 (S : Nat)] SigT))
  have K2 := Lib.hid (K1.out.stays ((Below.refl _ _).alloc (Nat.le_refl _) (.cells #[.int .i64 (E : Nat), .int .i64 (S : Nat)] SigT)) (Nat.le_refl _))
  clear hb KK2 HV HK V1 K1
  go_upto_region 3 with fail
  generalize Y1.alloc (.cells #[.int .i64 (E : Nat), .int .i64 (S : Nat)] SigT) = V at *
  generalize Y1.heap.size = q at *
  have e0 : V.cell? ⟨G, 0, none⟩ = some (.int .i64 x0) := V2.out.cell 0
  have e2 : V.cell? ⟨G, 2, none⟩ = some (.int .i64 x2) := V2.out.cell 2
  have r0 : V.cell? ⟨q, 0, none⟩ = some (.int .i64 (E : Nat)) := Q1.out.cell 0
  have r1 : V.cell? ⟨q, 1, none⟩ = some (.int .i64 (S : Nat)) := Q1.out.cell 1
  rcases hr with ⟨rfl, hs⟩ | ⟨rfl, hs⟩
  rotate_left
  · obtain rfl : b = false := by
      cases b with
      | false => rfl
      | true =>
        obtain ⟨E', S', -, -, h, -⟩ := HB.out.1 rfl
        exact absurd h (hs _)
    clear hs hsr
    go_quiet (fail)
    go_wp2_with fail
    go_ret
    exact ⟨rfl, below_drewN B1.out _⟩
  rcases hsr with ⟨rfl, hE, hS, hrr⟩ | ⟨rfl, hE, hS, hn⟩
  rotate_left
  · obtain rfl : b = false := by
      cases b with
      | false => rfl
      | true =>
        obtain ⟨E', S', h1, h2, h, -⟩ := HB.out.1 rfl
        rw [hs] at h
        exact absurd (ByteArray.append_right_inj _ |>.1 h) (hn E' S' h1 h2)
    clear hs hn hE hS
    go_quiet (fail)
    go_wp2_with fail
    go_ret
    exact ⟨rfl, below_drewN B1.out _⟩
  obtain ⟨m, HM⟩ : ∃ t, Hid (t = transB x0 x5 x6 ++ oneB (3 - x0)) := ⟨_, Lib.hid rfl⟩
  have zm : m.size ≤ 300000000 := by rw [HM.out, ByteArray.size_append, trans_size]; show _ + 1 ≤ _; omega
  have hbc : b = true ↔ inGroup x2 = true ∧ E = chalP (backP x2.toNat E S) x2.toNat m := by
    rw [HM.out]
    constructor
    · intro h
      obtain ⟨E', S', h1, h2, h3, h4, h5⟩ := HB.out.1 h
      rw [hs, hrr] at h3
      obtain ⟨rfl, rfl⟩ := sig_one hE hS h1 h2 (ByteArray.append_right_inj _ |>.1 h3)
      exact ⟨h4, h5⟩
    · rintro ⟨h4, h5⟩
      exact HB.out.2 ⟨E, S, hE, hS, by rw [hs, hrr], h4, h5⟩
  have HBC := Lib.hid hbc
  clear hbc hs hrr HB
  have NX : Hid (∀ X Y, (X.cell? ⟨G, 0, none⟩ = some (.int .i64 x0) ∧ X.cell? ⟨G, 2, none⟩ = some (.int .i64 x2) ∧ X.cell? ⟨q, 0, none⟩ = some (.int .i64 (E : Nat)) ∧ X.cell? ⟨q, 1, none⟩ = some (.int .i64 (S : Nat)) ∧ Below V.heap.size V X) → Below X.heap.size X Y → (Y.cell? ⟨G, 0, none⟩ = some (.int .i64 x0) ∧ Y.cell? ⟨G, 2, none⟩ = some (.int .i64 x2) ∧ Y.cell? ⟨q, 0, none⟩ = some (.int .i64 (E : Nat)) ∧ Y.cell? ⟨q, 1, none⟩ = some (.int .i64 (S : Nat)) ∧ Below V.heap.size V Y)) := Lib.hid (fun X Y hX hb => by
    obtain ⟨h0, h1, h2, h3, h4⟩ := hX
    have hg : G < X.heap.size := cell_size (p := ⟨G, 0, none⟩) h0
    have hq : q < X.heap.size := cell_size (p := ⟨q, 0, none⟩) h2
    exact ⟨(hb.cell (p := ⟨G, 0, none⟩) hg).trans h0, (hb.cell (p := ⟨G, 2, none⟩) hg).trans h1, (hb.cell (p := ⟨q, 0, none⟩) hq).trans h2, (hb.cell (p := ⟨q, 1, none⟩) hq).trans h3, h4.trans (hb.mono h4.size)⟩)
  have KO : Hid (∀ X, (X.cell? ⟨G, 0, none⟩ = some (.int .i64 x0) ∧ X.cell? ⟨G, 2, none⟩ = some (.int .i64 x2) ∧ X.cell? ⟨q, 0, none⟩ = some (.int .i64 (E : Nat)) ∧ X.cell? ⟨q, 1, none⟩ = some (.int .i64 (S : Nat)) ∧ Below V.heap.size V X) → Calls Tryz.prog 62 #[.int .i64 x0] X fun e Y => e = .returned (.int .i64 (3 - x0)) ∧ (Y.cell? ⟨G, 0, none⟩ = some (.int .i64 x0) ∧ Y.cell? ⟨G, 2, none⟩ = some (.int .i64 x2) ∧ Y.cell? ⟨q, 0, none⟩ = some (.int .i64 (E : Nat)) ∧ Y.cell? ⟨q, 1, none⟩ = some (.int .i64 (S : Nat)) ∧ Below V.heap.size V Y)) := Lib.hid (fun X hX => by
    refine (otherRole_any x0 hx0 X).mono ?_
    rintro e Y ⟨rfl, rfl⟩
    exact ⟨rfl, hX⟩)
  have KT : Hid (∀ X, (X.cell? ⟨G, 0, none⟩ = some (.int .i64 x0) ∧ X.cell? ⟨G, 2, none⟩ = some (.int .i64 x2) ∧ X.cell? ⟨q, 0, none⟩ = some (.int .i64 (E : Nat)) ∧ X.cell? ⟨q, 1, none⟩ = some (.int .i64 (S : Nat)) ∧ Below V.heap.size V X) → Calls Tryz.prog 76 #[.pointer (some ⟨G, 0, none⟩), .int .i64 (3 - x0)] X fun e Y => e = .returned (.string m) ∧ (Y.cell? ⟨G, 0, none⟩ = some (.int .i64 x0) ∧ Y.cell? ⟨G, 2, none⟩ = some (.int .i64 x2) ∧ Y.cell? ⟨q, 0, none⟩ = some (.int .i64 (E : Nat)) ∧ Y.cell? ⟨q, 1, none⟩ = some (.int .i64 (S : Nat)) ∧ Below V.heap.size V Y)) := Lib.hid (fun X hX => by
    refine (signedBy_any HG G (3 - x0) x0 x1 x2 x3 x4 x5 x6 h5 h6 X (V2.out.next hX.2.2.2.2)).mono ?_
    rintro e Y ⟨rfl, hb⟩
    exact ⟨by rw [HM.out], NX.out X Y hX hb⟩)
  have KC : Hid (∀ X, (X.cell? ⟨G, 0, none⟩ = some (.int .i64 x0) ∧ X.cell? ⟨G, 2, none⟩ = some (.int .i64 x2) ∧ X.cell? ⟨q, 0, none⟩ = some (.int .i64 (E : Nat)) ∧ X.cell? ⟨q, 1, none⟩ = some (.int .i64 (S : Nat)) ∧ Below V.heap.size V X) → Calls Tryz.prog 80 #[.int .i64 x2, .string m, .agg #[.int .i64 (E : Nat), .int .i64 (S : Nat)]] X fun e Y => e = .returned (.bool b) ∧ (Y.cell? ⟨G, 0, none⟩ = some (.int .i64 x0) ∧ Y.cell? ⟨G, 2, none⟩ = some (.int .i64 x2) ∧ Y.cell? ⟨q, 0, none⟩ = some (.int .i64 (E : Nat)) ∧ Y.cell? ⟨q, 1, none⟩ = some (.int .i64 (S : Nat)) ∧ Below V.heap.size V Y)) := Lib.hid (fun X hX => by
    refine (implCheck_is x2 m E S hE hS zm b HBC.out X (K2.out.stays hX.2.2.2.2 (Nat.le_refl _))).mono ?_
    rintro e Y ⟨rfl, hb⟩
    exact ⟨rfl, NX.out X Y hX hb⟩)
  have E0 : Hid (V.drew.cell? ⟨G, 0, none⟩ = some (.int .i64 x0) ∧ V.drew.cell? ⟨G, 2, none⟩ = some (.int .i64 x2) ∧ V.drew.cell? ⟨q, 0, none⟩ = some (.int .i64 (E : Nat)) ∧ V.drew.cell? ⟨q, 1, none⟩ = some (.int .i64 (S : Nat)) ∧ Below V.heap.size V V.drew) := Lib.hid (by
    have h9 := (Below.refl V.heap.size V).drew
    exact ⟨e0, e2, r0, r1, h9⟩)
  clear e0 e2 r0 r1 NX zm hE hS
  go_region_held3 (fun X => X.cell? ⟨G, 0, none⟩ = some (.int .i64 x0) ∧ X.cell? ⟨G, 2, none⟩ = some (.int .i64 x2) ∧ X.cell? ⟨q, 0, none⟩ = some (.int .i64 (E : Nat)) ∧ X.cell? ⟨q, 1, none⟩ = some (.int .i64 (S : Nat)) ∧ Below V.heap.size V X) (first | (with_reducible assumption) | (with_reducible exact E0.out)) (first | (go_at_call 62; refine (KO.out _ (by assumption)).mono ?_; rintro e v1 ⟨rfl, hS⟩) | (go_at_call 76; refine (KT.out _ (by assumption)).mono ?_; rintro e v1 ⟨rfl, hS⟩) | (go_at_call 80; refine (KC.out _ (by assumption)).mono ?_; rintro e v1 ⟨rfl, hS⟩))
  all_goals
    go_wp2_with fail
    go_ret
    exact ⟨rfl, B1.out.trans (hS.2.2.2.2.mono B1.out.size)⟩

end Go.Proofs.YtkjjdoadjhjmbauGreatDoor
namespace Go.Proofs.YtkjjdoadjhjmbauGreatDoor
open Go.RowKit

theorem sign_append (r : ByteArray) : ((⟨#[112]⟩ : ByteArray) ++ r).data.toList = 112 :: r.data.toList := by
  rw [ByteArray.data_append, Array.toList_append]
  rfl
theorem cutG : CutG := fun s w => by
  refine ⟨⟨(Lib.trimPrefix s.data.toList [112]).toArray⟩, Lib.hasPrefix s.data.toList [112], ?_, Tryz.strings_CutPrefix s ⟨#[112]⟩ w⟩
  cases h : s.data.toList with
  | nil =>
    refine .inr ⟨rfl, fun r e => ?_⟩
    rw [e, sign_append] at h
    cases h
  | cons b l =>
    by_cases hb : b = 112
    · subst hb
      refine .inl ⟨rfl, ?_⟩
      apply ByteArray.ext
      apply Array.toList_inj.1
      rw [sign_append, h]
      rfl
    · refine .inr ⟨?_, fun r e => ?_⟩
      · show ((112 : UInt8) == b && List.isPrefixOf [] l) = false
        rw [beq_eq_false_iff_ne.2 (Ne.symm hb)]
        rfl
      · rw [e, sign_append] at h
        injection h with h1 _
        exact hb h1.symm

end Go.Proofs.YtkjjdoadjhjmbauGreatDoor
namespace Go.Proofs.YtkjjdoadjhjmbauGreatDoor
open Go.RowKit

theorem helloN_lt (s : ByteArray) : helloN s < 4294967296 := by
  unfold helloN
  split
  · exact fourBack_lt _
  · omega
theorem helloB_size (role : Int) (p : Nat) : (helloB role p).size = 6 := rfl
theorem texts_diff {a b : ByteArray} (h : ¬ a = b) : (a.toList == b.toList) = false := by
  rw [beq_eq_false_iff_ne]
  intro e
  refine h ?_
  rw [ByteArray.toList_eq, ByteArray.toList_eq] at e
  exact ByteArray.ext (Array.toList_inj.1 e)
theorem tail_four (a r : ByteArray) (ha : a.size = 2) (hr : r.size = 4) : (a ++ r).extract 2 6 = r := ByteArray.extract_append_eq_right ha.symm (by omega)
/-- What a hello of the other Role is, by its number. -/
theorem other_by {role : Int} {s : ByteArray} {n : Nat} {ok : Bool} (h : OtherIs inGroup role s n ok) : (s = helloB (3 - role) (helloN s) ∧ n = helloN s ∧ ok = inGroup (helloN s : Nat)) ∨ (¬ s = helloB (3 - role) (helloN s) ∧ ok = false) := by
  rcases h with ⟨r, h1, h2, h3, h4⟩ | ⟨h1, h2, h3⟩
  · left
    have z2 : ((⟨#[104]⟩ : ByteArray) ++ oneB (3 - role)).size = 2 := rfl
    have z6 : s.size = 6 := by rw [h2, ByteArray.size_append, z2, h1]
    have e : helloN s = n := by
      unfold helloN
      rw [if_pos z6, h2, tail_four _ _ z2 h1, h3]
    rw [e]
    refine ⟨?_, rfl, h4⟩
    unfold helloB
    rw [h3, numB_back r h1]
    exact h2
  · right
    exact ⟨h1 (numB (helloN s)) (numB_size _), h3⟩

set_option maxRecDepth 100000 in
set_option maxHeartbeats 800000 in
theorem isHelloOf_any (role : Int) (s : ByteArray) (hs : s.size ≤ 100000000) (n : Nat) (ok : Bool) (ho : OtherIs inGroup role s n ok) (w : World) :
    Calls Tryz.prog 61 #[.int .i64 (3 - role), .string s] w fun e w' => e = .returned (.bool ok) ∧ Below w.heap.size w w' := by
  have hO := other_by ho
  clear ho
  have K1 := Lib.hid (helloNumber_any s hs w)
  have hl := helloN_lt s
  generalize helloN s = m at hO K1 hl
  go_enter Tryz.func61, Tryz.ntmps61
  go_wp2_with fail
  refine K1.out.mono ?_
  rintro e Y1 ⟨rfl, hb⟩
  have B1 := Lib.hid hb
  have K2 := Lib.hid (implInGroup_any (m : Nat) Y1)
  clear hb K1
  obtain ⟨b, HB⟩ : ∃ b, Hid (inGroup (m : Nat) = b) := ⟨_, Lib.hid rfl⟩
  rw [HB.out] at K2 hO
  go_wp2_with fail
  refine K2.out.mono ?_
  rintro e Y2 ⟨rfl, hb⟩
  have B2 := Lib.hid (B1.out.trans (hb.mono B1.out.size))
  clear hb K2
  cases b with
  | false =>
    obtain rfl : ok = false := by
      rcases hO with ⟨_, _, h⟩ | ⟨_, h⟩ <;> exact h
    clear hO
    go_wp2_with fail
    go_ret
    exact ⟨rfl, B2.out⟩
  | true =>
    have K3 := Lib.hid (helloText_any (3 - role) m hl Y2)
    obtain ⟨t, HT⟩ : ∃ t, Hid (helloB (3 - role) m = t) := ⟨_, Lib.hid rfl⟩
    rw [HT.out] at K3 hO
    rcases hO with ⟨h, _, rfl⟩ | ⟨h, rfl⟩
    · have q1 : (s.toList == t.toList) = true := by rw [h]; simp
      clear h
      go_wp2_with fail
      refine K3.out.mono ?_
      rintro e Y3 ⟨rfl, hb⟩
      clear K3
      go_wp2_with fail
      go_ret
      exact ⟨rfl, B2.out.trans (hb.mono B2.out.size)⟩
    · have q1 : (s.toList == t.toList) = false := texts_diff h
      clear h
      go_wp2_with fail
      refine K3.out.mono ?_
      rintro e Y3 ⟨rfl, hb⟩
      clear K3
      go_wp2_with fail
      go_ret
      exact ⟨rfl, B2.out.trans (hb.mono B2.out.size)⟩

end Go.Proofs.YtkjjdoadjhjmbauGreatDoor
namespace Go.Proofs.YtkjjdoadjhjmbauGreatDoor
open Go.RowKit

/-- A step's number. -/
def NumEnd (k : Int) (X : World) (e : Ending) (Y : World) : Prop := e = .returned (.int .i64 k) ∧ Below X.heap.size X Y
/-- A greeter has gone to a step. -/
def WentTo (G : Nat) (k : Int) (X : World) (e : Ending) (Y : World) : Prop := e = .returned (.tuple #[]) ∧ ∃ Z, Below X.heap.size X Z ∧ Y = Z.setCell ⟨G, 4, none⟩ (.int .i64 k)
theorem number_said (X : World) : Calls Tryz.prog 146 #[.agg #[]] X (NumEnd 1 X) := by
  have B0 := Lib.hid ((Below.refl X.heap.size X).alloc (Nat.le_refl _) (.cells #[] StSaidT))
  go_enter Tryz.func146, Tryz.ntmps146
  go_wp2_with fail
  go_ret
  exact ⟨rfl, B0.out⟩
section
variable (G : Nat) (T : TypeId) (cs : Array Value) (v : Value) (X : World) (hv : VarA G T cs X) (hc : cs[4]? = some v)
include hv hc
theorem goTo_said : Calls Tryz.prog 63 #[.pointer (some ⟨G, 0, none⟩), .iface StSaidT (.agg #[])] X (WentTo G 1 X) := by
  have HV := Lib.hid hv
  have HC := Lib.hid hc
  clear hv hc
  have K := Lib.hid (number_said X)
  obtain ⟨Q, HQ⟩ : ∃ Q : Ending → World → Prop, Hid (Q = WentTo G 1 X) := ⟨_, Lib.hid rfl⟩
  rw [← HQ.out]
  go_enter Tryz.func63, Tryz.ntmps63
  go_wp2_with fail
  refine K.out.mono ?_
  rintro e Z ⟨rfl, hb⟩
  have V9 := HV.out.next hb
  have c4 : Z.cell? ⟨G, 4, none⟩ = some v := (V9.cell 4).trans HC.out
  have f4 := V9.free 4
  have E : Hid (Q (.returned (.tuple #[])) (Z.setCell ⟨G, 4, none⟩ (.int .i64 1))) := Lib.hid (by rw [HQ.out]; exact ⟨rfl, Z, hb, rfl⟩)
  clear V9 hb
  go_wp2_with fail
  exact bodyPost_end (results_none rfl _ _ _) rfl E.out
end

end Go.Proofs.YtkjjdoadjhjmbauGreatDoor
