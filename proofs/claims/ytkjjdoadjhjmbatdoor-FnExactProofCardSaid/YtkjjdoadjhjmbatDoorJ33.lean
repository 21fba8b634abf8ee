/-
  The program's Proof, and what a greeter signs.
-/
import Derived.Test.YtkjjdoadjhjmbatDoorJ10
import Derived.Test.YtkjjdoadjhjmbatDoorJ11
import Derived.Test.YtkjjdoadjhjmbatDoorJ22
import Derived.Test.YtkjjdoadjhjmbatDoorJ32
import Derived.Test.YtkjjdoadjhjmbatDoorJ23
namespace Go.Proofs.YtkjjdoadjhjmbatDoor
open Go.RowKit

set_option maxRecDepth 100000 in
set_option maxHeartbeats 800000 in
theorem signedBy_any (HG : CloneG) (G : Nat) (role : Int) (x0 x1 x2 x3 x4 : Int) (x5 x6 : ByteArray) (h5 : x5.size ≤ 10000000) (h6 : x6.size ≤ 10000000) (w : World) (hv : VarA G GreeterT #[.int .i64 x0, .int .i64 x1, .int .i64 x2, .int .i64 x3, .int .i64 x4, .string x5, .string x6] w) :
    Calls Tryd.prog 39 #[.pointer (some ⟨G, 0, none⟩), .int .i64 role] w fun e w' => e = .returned (.string (transB x0 x5 x6 ++ oneB role)) ∧ Below w.heap.size w w' := by
  have e0 : w.cell? ⟨G, 0, none⟩ = some (.int .i64 x0) := hv.cell 0
  have e1 : w.cell? ⟨G, 1, none⟩ = some (.int .i64 x1) := hv.cell 1
  have e2 : w.cell? ⟨G, 2, none⟩ = some (.int .i64 x2) := hv.cell 2
  have e3 : w.cell? ⟨G, 3, none⟩ = some (.int .i64 x3) := hv.cell 3
  have e4 : w.cell? ⟨G, 4, none⟩ = some (.int .i64 x4) := hv.cell 4
  have e5 : w.cell? ⟨G, 5, none⟩ = some (.string x5) := hv.cell 5
  have e6 : w.cell? ⟨G, 6, none⟩ = some (.string x6) := hv.cell 6
  have K1 := Lib.hid (implTranscript_any HG x0 x1 x2 x3 x4 x5 x6 h5 h6 w)
  obtain ⟨tr, TR⟩ : ∃ b, Hid (transB x0 x5 x6 = b) := ⟨_, Lib.hid rfl⟩
  have zt : tr.size ≤ 20000000 := by rw [← TR.out, trans_size]; omega
  rw [TR.out] at K1 ⊢
  obtain ⟨ob, OB⟩ : ∃ b, Hid (oneB role = b) := ⟨_, Lib.hid rfl⟩
  have zo : ob.size = 1 := by rw [← OB.out]; rfl
  have m1 : ∀ X, (Op.stringOp .add tr ob).run Tryd.prog X = .ok (.string (tr ++ ob)) X := fun X => run_string_add_sum X tr ob (by omega)
  rw [OB.out]
  clear hv h5 h6 zt zo
  go_enter Tryd.func39, Tryd.ntmps39
  go_wp2_with fail
  refine K1.out.mono ?_
  rintro e Y1 ⟨rfl, hb⟩
  have B1 := Lib.hid hb
  have K2 := Lib.hid (roleByte_any role Y1)
  rw [OB.out] at K2
  clear hb K1 e0 e1 e2 e3 e4 e5 e6
  go_wp2_with fail
  refine K2.out.mono ?_
  rintro e Y2 ⟨rfl, hb⟩
  have B2 := Lib.hid (B1.out.trans (hb.mono B1.out.size))
  clear hb K2
  go_wp2_with fail
  go_ret
  exact ⟨rfl, B2.out⟩

/-- The program's SignText at every number. -/
theorem implSign_is (secret : Int) (m : ByteArray) (E S : Nat) (h : SigIs secret m E S) (hm : m.size ≤ 300000000) (w : World) (hK : LaidK w) :
    Calls Tryd.prog 38 #[.int .i64 secret, .string m] w fun e w' => (∃ ok, e = .returned (.tuple #[.agg #[.int .i64 (E : Nat), .int .i64 (S : Nat)], .bool ok])) ∧ Below w.heap.size w w' := by
  rcases h with ⟨⟨h1, h2⟩, rfl, rfl⟩ | ⟨h, rfl, rfl⟩
  · obtain ⟨k, rfl⟩ : ∃ k : Nat, secret = k := ⟨secret.toNat, by omega⟩
    refine (implSignText_yes k m (by omega) (by omega) hm w hK).mono ?_
    rintro e w1 ⟨rfl, hb⟩
    exact ⟨⟨true, rfl⟩, hb⟩
  · refine (implSignText_no secret m (by unfold SecretIn at h; omega) w).mono ?_
    rintro e w1 ⟨rfl, hb⟩
    exact ⟨⟨false, rfl⟩, hb⟩
theorem isig_new {V X : World} {E S : Value} (hb : Below V.heap.size V X) : VarA X.heap.size SigT #[E, S] (X.alloc (.cells #[E, S] SigT)) ∧ Below V.heap.size V (X.alloc (.cells #[E, S] SigT)) := ⟨VarA.new X SigT _, hb.alloc hb.size _⟩
theorem isig_set {V X : World} {G : Nat} {q0 q1 E S : Value} (rr : VarA G SigT #[q0, q1] X) (hG : V.heap.size ≤ G) (hb : Below V.heap.size V X) : VarA G SigT #[E, S] ((X.setCell ⟨G, 0, none⟩ E).setCell ⟨G, 1, none⟩ S) ∧ Below V.heap.size V ((X.setCell ⟨G, 0, none⟩ E).setCell ⟨G, 1, none⟩ S) :=
  ⟨(rr.set 0 _).set 1 _, (hb.setCell (p := ⟨G, 0, none⟩) hG _).setCell (p := ⟨G, 1, none⟩) hG _⟩

set_option maxRecDepth 100000 in
set_option maxHeartbeats 3200000 in
theorem implProof_any (HG : CloneG) (x0 x1 x2 x3 x4 : Int) (x5 x6 : ByteArray) (h5 : x5.size ≤ 10000000) (h6 : x6.size ≤ 10000000) (t : ByteArray) (ht : ProofIs x0 x1 x4 x5 x6 t) (w : World) (hK0 : LaidK w) :
    Calls Tryd.prog 17 #[.agg #[.int .i64 x0, .int .i64 x1, .int .i64 x2, .int .i64 x3, .int .i64 x4, .string x5, .string x6]] w fun e w' => e = .returned (.string t) ∧ Below w.heap.size w w' := by
  have A0 := Lib.hid (VarA.new w GreeterT #[.int .i64 x0, .int .i64 x1, .int .i64 x2, .int .i64 x3, .int .i64 x4, .string x5, .string x6])
  have B0 := Lib.hid ((Below.refl w.heap.size w).alloc (Nat.le_refl _) (.cells #[.int .i64 x0, .int .i64 x1, .int .i64 x2, .int .i64 x3, .int .i64 x4, .string x5, .string x6] GreeterT))
  have HK := Lib.hid (hK0.stays B0.out (Nat.le_refl _))
  clear hK0
  go_enter Tryd.func17, Tryd.ntmps17
  go_upto_region 1 with fail
  generalize w.alloc (.cells #[.int .i64 x0, .int .i64 x1, .int .i64 x2, .int .i64 x3, .int .i64 x4, .string x5, .string x6] GreeterT) = Y0 at *
  have c4 : Y0.cell? ⟨w.heap.size, 4, none⟩ = some (.int .i64 x4) := A0.out.cell 4
  have K0 := Lib.hid (stepOf_any x4 Y0)
  have TA1 := assertHeard_Heard
  have TA2 := assertHeard_Up
  have TA3 := assertHeard_New
  have TA4 := assertHeard_Said
  have TA5 := assertHeard_Bad
  have TB1 := assertUp_Heard
  have TB2 := assertUp_Up
  have TB3 := assertUp_New
  have TB4 := assertUp_Said
  have TB5 := assertUp_Bad
  rcases ht with ⟨hst, E, S, hsig, ht⟩ | ⟨hst, rfl⟩
  rotate_left
  · have hN : stepT x4 = StNewT ∨ stepT x4 = StSaidT ∨ stepT x4 = StBadT := by
      unfold stepT
      split
      · exact .inl rfl
      · split
        · exact .inr (.inl rfl)
        · rw [if_neg (fun e => hst (.inl e)), if_neg (fun e => hst (.inr e))]
          exact .inr (.inr rfl)
    clear hst
    go_wp2_with fail
    refine K0.out.mono ?_
    rintro e Y2 ⟨rfl, rfl⟩
    clear K0
    rcases hN with h | h | h
    all_goals
      rw [h]
      clear h
      go_wp2_with fail
      go_ret
      exact ⟨rfl, B0.out⟩
  have HT := Lib.hid ht
  have HSIG := Lib.hid hsig
  obtain ⟨hE, hSS⟩ := sig_lt hsig
  have hN : stepT x4 = StHeardT ∨ stepT x4 = StUpT := by
    rcases hst with rfl | rfl
    · exact .inl rfl
    · exact .inr rfl
  clear hst ht hsig
  generalize stepT x4 = T at K0 hN
  go_wp2_with fail
  refine K0.out.mono ?_
  rintro e Y2 ⟨rfl, hY⟩
  rw [hY]
  clear K0 hY
  go_upto_region 2 with fail
  go_cut [16] (fun z wx => z = .bool true ∧ wx = Y0)
  case first =>
    rcases hN with rfl | rfl
    all_goals
      go_wp2_with fail
      go_meet
      exact ⟨rfl, rfl⟩
  case rest =>
    obtain ⟨rfl, hwc⟩ := hcut
    have hwc' := hwc.symm
    subst hwc'
    clear hwc c4 hN TA1 TA2 TA3 TA4 TA5 TB1 TB2 TB3 TB4 TB5
    obtain ⟨m, HM⟩ : ∃ b, Hid (b = transB x0 x5 x6 ++ oneB x0) := ⟨_, Lib.hid rfl⟩
    have zm : m.size ≤ 300000000 := by rw [HM.out, ByteArray.size_append, trans_size]; show _ + 1 ≤ _; omega
    have hgw : w.heap.size < Y0.heap.size := A0.out.lt
    have F0 := Lib.hid (sbg_of A0.out)
    have E0 := Lib.hid (sbg_drew F0.out)
    have KT : Hid (∀ X, (X.cell? ⟨w.heap.size, 0, none⟩ = some (.int .i64 x0) ∧ X.cell? ⟨w.heap.size, 1, none⟩ = some (.int .i64 x1) ∧ X.cell? ⟨w.heap.size, 2, none⟩ = some (.int .i64 x2) ∧ X.cell? ⟨w.heap.size, 3, none⟩ = some (.int .i64 x3) ∧ X.cell? ⟨w.heap.size, 4, none⟩ = some (.int .i64 x4) ∧ X.cell? ⟨w.heap.size, 5, none⟩ = some (.string x5) ∧ X.cell? ⟨w.heap.size, 6, none⟩ = some (.string x6) ∧ Below Y0.heap.size Y0 X) → Calls Tryd.prog 39 #[.pointer (some ⟨w.heap.size, 0, none⟩), .int .i64 x0] X fun e Y => e = .returned (.string m) ∧ (Y.cell? ⟨w.heap.size, 0, none⟩ = some (.int .i64 x0) ∧ Y.cell? ⟨w.heap.size, 1, none⟩ = some (.int .i64 x1) ∧ Y.cell? ⟨w.heap.size, 2, none⟩ = some (.int .i64 x2) ∧ Y.cell? ⟨w.heap.size, 3, none⟩ = some (.int .i64 x3) ∧ Y.cell? ⟨w.heap.size, 4, none⟩ = some (.int .i64 x4) ∧ Y.cell? ⟨w.heap.size, 5, none⟩ = some (.string x5) ∧ Y.cell? ⟨w.heap.size, 6, none⟩ = some (.string x6) ∧ Below Y0.heap.size Y0 Y) ∧ Below X.heap.size X Y) := Lib.hid (fun X hX => by
      refine (signedBy_any HG w.heap.size x0 x0 x1 x2 x3 x4 x5 x6 h5 h6 X (A0.out.next hX.2.2.2.2.2.2.2)).mono ?_
      rintro e Y ⟨rfl, hb⟩
      exact ⟨by rw [HM.out], sbg_next hX hb, hb⟩)
    have KS : Hid (∀ X, (X.cell? ⟨w.heap.size, 0, none⟩ = some (.int .i64 x0) ∧ X.cell? ⟨w.heap.size, 1, none⟩ = some (.int .i64 x1) ∧ X.cell? ⟨w.heap.size, 2, none⟩ = some (.int .i64 x2) ∧ X.cell? ⟨w.heap.size, 3, none⟩ = some (.int .i64 x3) ∧ X.cell? ⟨w.heap.size, 4, none⟩ = some (.int .i64 x4) ∧ X.cell? ⟨w.heap.size, 5, none⟩ = some (.string x5) ∧ X.cell? ⟨w.heap.size, 6, none⟩ = some (.string x6) ∧ Below Y0.heap.size Y0 X) → Calls Tryd.prog 38 #[.int .i64 x1, .string m] X fun e Y => (∃ ok, e = .returned (.tuple #[.agg #[.int .i64 (E : Nat), .int .i64 (S : Nat)], .bool ok])) ∧ (Y.cell? ⟨w.heap.size, 0, none⟩ = some (.int .i64 x0) ∧ Y.cell? ⟨w.heap.size, 1, none⟩ = some (.int .i64 x1) ∧ Y.cell? ⟨w.heap.size, 2, none⟩ = some (.int .i64 x2) ∧ Y.cell? ⟨w.heap.size, 3, none⟩ = some (.int .i64 x3) ∧ Y.cell? ⟨w.heap.size, 4, none⟩ = some (.int .i64 x4) ∧ Y.cell? ⟨w.heap.size, 5, none⟩ = some (.string x5) ∧ Y.cell? ⟨w.heap.size, 6, none⟩ = some (.string x6) ∧ Below Y0.heap.size Y0 Y) ∧ Below X.heap.size X Y) := Lib.hid (fun X hX => by
      refine (implSign_is x1 m E S (by rw [HM.out]; exact HSIG.out) zm X (HK.out.stays hX.2.2.2.2.2.2.2 (Nat.le_refl _))).mono ?_
      rintro e Y ⟨hx, hb⟩
      exact ⟨hx, sbg_next hX hb, hb⟩)
    clear zm
    go_wp2_with fail
    go_cut [3] (fun z wx => ∃ gu, z = .pointer (some ⟨gu, 0, none⟩) ∧ VarA gu SigT #[.int .i64 (E : Nat), .int .i64 (S : Nat)] wx ∧ Below Y0.heap.size Y0 wx)
    case first =>
      go_region_held3 (fun X => X.cell? ⟨w.heap.size, 0, none⟩ = some (.int .i64 x0) ∧ X.cell? ⟨w.heap.size, 1, none⟩ = some (.int .i64 x1) ∧ X.cell? ⟨w.heap.size, 2, none⟩ = some (.int .i64 x2) ∧ X.cell? ⟨w.heap.size, 3, none⟩ = some (.int .i64 x3) ∧ X.cell? ⟨w.heap.size, 4, none⟩ = some (.int .i64 x4) ∧ X.cell? ⟨w.heap.size, 5, none⟩ = some (.string x5) ∧ X.cell? ⟨w.heap.size, 6, none⟩ = some (.string x6) ∧ Below Y0.heap.size Y0 X) (first | (with_reducible assumption) | (with_reducible exact E0.out) | (with_reducible exact sbg_drew (sbg_alloc F0.out _)) | (with_reducible exact sbg_alloc F0.out _) | (with_reducible exact sbg_drew (by assumption)) | (with_reducible exact sbg_alloc (by assumption) _) | (with_reducible exact sbg_alloc E0.out _) | (with_reducible exact sbg_drew (sbg_alloc (by assumption) _)) | (exact sbg_store2 (by assumption) (by omega) hgw _ _)) (first | (go_at_call 39; refine (KT.out _ (by assumption)).mono ?_; rintro e v1 ⟨rfl, hS, hb⟩; (first | (have rr := VarA.next rr hb) | (have rr := VarA.next (VarA.drew rr) hb) | (have rr := VarA.next (VarA.new _ SigT #[Value.int .i64 0, Value.int .i64 0]) hb) | (have rr := VarA.next (VarA.drew (VarA.new _ SigT #[Value.int .i64 0, Value.int .i64 0])) hb) | skip); (first | (have r0 := rr.cell 0; have r1 := rr.cell 1; have g0 := rr.free 0; have g1 := rr.free 1) | skip); have hz := hS.2.2.2.2.2.2.2.size) | (go_at_call 38; refine (KS.out _ (by assumption)).mono ?_; rintro e v1 ⟨⟨ok, rfl⟩, hS, hb⟩; (first | (have rr := VarA.next rr hb) | (have rr := VarA.next (VarA.drew rr) hb) | (have rr := VarA.next (VarA.new _ SigT #[Value.int .i64 0, Value.int .i64 0]) hb) | (have rr := VarA.next (VarA.drew (VarA.new _ SigT #[Value.int .i64 0, Value.int .i64 0])) hb) | skip); (first | (have r0 := rr.cell 0; have r1 := rr.cell 1; have g0 := rr.free 0; have g1 := rr.free 1) | skip); have hz := hS.2.2.2.2.2.2.2.size))
      all_goals
        go_wp2_with fail
        go_meet
        first | exact ⟨_, rfl, isig_new hS.2.2.2.2.2.2.2⟩ | exact ⟨_, rfl, isig_set rr (by omega) hS.2.2.2.2.2.2.2⟩
    case rest =>
      obtain ⟨gu, rfl, hv, hbw⟩ := hcut
      have r0 := hv.cell 0
      have r1 := hv.cell 1
      have HB := Lib.hid (B0.out.trans (hbw.mono B0.out.size))
      have KG := Lib.hid (implSigText_yes E S hE hSS wc)
      clear hv hbw KT KS E0 F0
      go_wp2_with fail
      refine KG.out.mono ?_
      rintro e w2 ⟨rfl, hb⟩
      have HB2 := Lib.hid (HB.out.trans (hb.mono HB.out.size))
      clear hb KG
      obtain ⟨sg, SG⟩ : ∃ b, Hid (b = numB E ++ numB S) := ⟨_, Lib.hid rfl⟩
      rw [← SG.out]
      have zs : sg.size = 8 := by rw [SG.out]; rfl
      have zp : (⟨#[112]⟩ : ByteArray).size = 1 := rfl
      have s2 : ¬ (9223372036854775807 < (⟨#[112]⟩ : ByteArray).size + sg.size) := by omega
      go_wp2_with fail
      go_ret
      exact ⟨ret_t (by rw [HT.out, SG.out]), HB2.out⟩

end Go.Proofs.YtkjjdoadjhjmbatDoor
