/-
  The given Proof.
  The exact law on Proof, out of one answer that both give.
-/
import Derived.Test.YtkjjdoadjhjmbatDoorJ22
import Derived.Test.YtkjjdoadjhjmbatDoorJ10
namespace Go.Proofs.YtkjjdoadjhjmbatDoor
open Go.RowKit

theorem sig_new {V X : World} {E S : Value} (hb : Below V.heap.size V X) : VarA X.heap.size SigT #[E, S] (X.alloc (.cells #[E, S] SigT)) ∧ Below V.heap.size V (X.alloc (.cells #[E, S] SigT)) := ⟨VarA.new X SigT _, hb.alloc hb.size _⟩
theorem sig_set {V X : World} {G : Nat} {q0 q1 E S : Value} (rr : VarA G SigT #[q0, q1] X) (hG : V.heap.size ≤ G) (hb : Below V.heap.size V X) : VarA G SigT #[E, S] ((X.setCell ⟨G, 0, none⟩ E).setCell ⟨G, 1, none⟩ S) ∧ Below V.heap.size V ((X.setCell ⟨G, 0, none⟩ E).setCell ⟨G, 1, none⟩ S) :=
  ⟨(rr.set 0 _).set 1 _, (hb.setCell (p := ⟨G, 0, none⟩) hG _).setCell (p := ⟨G, 1, none⟩) hG _⟩
set_option maxRecDepth 100000 in
set_option maxHeartbeats 3200000 in
theorem specProof_any (x0 x1 x2 x3 x4 : Int) (x5 x6 : ByteArray) (hx0 : -9223372036854775808 ≤ x0 ∧ x0 ≤ 9223372036854775807) (h5 : x5.size ≤ 100000000) (h6 : x6.size ≤ 100000000) (t : ByteArray) (ht : ProofIs x0 x1 x4 x5 x6 t) (w : World) :
    Calls Tryd.prog 15 #[.agg #[.int .i64 x0, .int .i64 x1, .int .i64 x2, .int .i64 x3, .int .i64 x4, .string x5, .string x6]] w fun e w' => e = .returned (.string t) ∧ Below w.heap.size w w' := by
  have A0 := Lib.hid (VarA.new w GreeterT #[.int .i64 x0, .int .i64 x1, .int .i64 x2, .int .i64 x3, .int .i64 x4, .string x5, .string x6])
  have B0 := Lib.hid ((Below.refl w.heap.size w).alloc (Nat.le_refl _) (.cells #[.int .i64 x0, .int .i64 x1, .int .i64 x2, .int .i64 x3, .int .i64 x4, .string x5, .string x6] GreeterT))
  go_enter Tryd.func15, Tryd.ntmps15
  go_upto_region 1 with fail
  generalize w.alloc (.cells #[.int .i64 x0, .int .i64 x1, .int .i64 x2, .int .i64 x3, .int .i64 x4, .string x5, .string x6] GreeterT) = Y0 at *
  have c4 : Y0.cell? ⟨w.heap.size, 4, none⟩ = some (.int .i64 x4) := A0.out.cell 4
  rcases ht with ⟨hst, E, S, hsig, ht⟩ | ⟨hst, rfl⟩
  rotate_left
  · have k1 : (x4 != 2) = true := by rw [bne_iff_ne]; exact fun e => hst (.inl e)
    have k2 : (x4 != 3) = true := by rw [bne_iff_ne]; exact fun e => hst (.inr e)
    clear hst
    go_wp2_with fail
    go_ret
    exact ⟨rfl, B0.out⟩
  have HST := Lib.hid hst
  have HT := Lib.hid ht
  have HSIG := Lib.hid hsig
  obtain ⟨hE, hSS⟩ := sig_lt hsig
  clear hst ht hsig
  go_cut [14] (fun z wx => z = .bool false ∧ wx = Y0)
  case first =>
    rcases HST.out with rfl | rfl
    · go_wp2_with fail
      go_meet
      exact ⟨rfl, rfl⟩
    · go_wp2_with fail
      go_meet
      exact ⟨rfl, rfl⟩
  case rest =>
    obtain ⟨rfl, hwc⟩ := hcut
    have hwc' := hwc.symm
    subst hwc'
    clear hwc c4 HST
    obtain ⟨tr, TR⟩ : ∃ b, Hid (b = transB x0 x5 x6) := ⟨_, Lib.hid rfl⟩
    obtain ⟨ob, OB⟩ : ∃ b, Hid (b = oneB x0) := ⟨_, Lib.hid rfl⟩
    have zt : tr.size ≤ 200000000 := by rw [TR.out, trans_size]; omega
    have zo : ob.size = 1 := by rw [OB.out]; rfl
    have m1 : ∀ X, (Op.stringOp .add tr ob).run Tryd.prog X = .ok (.string (tr ++ ob)) X := fun X => run_string_add_sum X tr ob (by omega)
    have zm : (tr ++ ob).size ≤ 300000000 := by rw [ByteArray.size_append]; omega
    have hgw : w.heap.size < Y0.heap.size := A0.out.lt
    have F0 := Lib.hid (sbg_of A0.out)
    have E0 := Lib.hid (sbg_drew F0.out)
    have KT : Hid (∀ X, (X.cell? ⟨w.heap.size, 0, none⟩ = some (.int .i64 x0) ∧ X.cell? ⟨w.heap.size, 1, none⟩ = some (.int .i64 x1) ∧ X.cell? ⟨w.heap.size, 2, none⟩ = some (.int .i64 x2) ∧ X.cell? ⟨w.heap.size, 3, none⟩ = some (.int .i64 x3) ∧ X.cell? ⟨w.heap.size, 4, none⟩ = some (.int .i64 x4) ∧ X.cell? ⟨w.heap.size, 5, none⟩ = some (.string x5) ∧ X.cell? ⟨w.heap.size, 6, none⟩ = some (.string x6) ∧ Below Y0.heap.size Y0 X) → Calls Tryd.prog 34 #[.agg #[.int .i64 x0, .int .i64 x1, .int .i64 x2, .int .i64 x3, .int .i64 x4, .string x5, .string x6]] X fun e Y => e = .returned (.string tr) ∧ (Y.cell? ⟨w.heap.size, 0, none⟩ = some (.int .i64 x0) ∧ Y.cell? ⟨w.heap.size, 1, none⟩ = some (.int .i64 x1) ∧ Y.cell? ⟨w.heap.size, 2, none⟩ = some (.int .i64 x2) ∧ Y.cell? ⟨w.heap.size, 3, none⟩ = some (.int .i64 x3) ∧ Y.cell? ⟨w.heap.size, 4, none⟩ = some (.int .i64 x4) ∧ Y.cell? ⟨w.heap.size, 5, none⟩ = some (.string x5) ∧ Y.cell? ⟨w.heap.size, 6, none⟩ = some (.string x6) ∧ Below Y0.heap.size Y0 Y) ∧ Below X.heap.size X Y) := Lib.hid (fun X hX => by
      refine (specTranscript_any x0 x1 x2 x3 x4 x5 x6 h5 h6 X).mono ?_
      rintro e Y ⟨rfl, hb⟩
      exact ⟨by rw [TR.out], sbg_next hX hb, hb⟩)
    have KB : Hid (∀ X, (X.cell? ⟨w.heap.size, 0, none⟩ = some (.int .i64 x0) ∧ X.cell? ⟨w.heap.size, 1, none⟩ = some (.int .i64 x1) ∧ X.cell? ⟨w.heap.size, 2, none⟩ = some (.int .i64 x2) ∧ X.cell? ⟨w.heap.size, 3, none⟩ = some (.int .i64 x3) ∧ X.cell? ⟨w.heap.size, 4, none⟩ = some (.int .i64 x4) ∧ X.cell? ⟨w.heap.size, 5, none⟩ = some (.string x5) ∧ X.cell? ⟨w.heap.size, 6, none⟩ = some (.string x6) ∧ Below Y0.heap.size Y0 X) → Calls Tryd.prog 35 #[.int .i64 x0] X fun e Y => e = .returned (.string ob) ∧ (Y.cell? ⟨w.heap.size, 0, none⟩ = some (.int .i64 x0) ∧ Y.cell? ⟨w.heap.size, 1, none⟩ = some (.int .i64 x1) ∧ Y.cell? ⟨w.heap.size, 2, none⟩ = some (.int .i64 x2) ∧ Y.cell? ⟨w.heap.size, 3, none⟩ = some (.int .i64 x3) ∧ Y.cell? ⟨w.heap.size, 4, none⟩ = some (.int .i64 x4) ∧ Y.cell? ⟨w.heap.size, 5, none⟩ = some (.string x5) ∧ Y.cell? ⟨w.heap.size, 6, none⟩ = some (.string x6) ∧ Below Y0.heap.size Y0 Y) ∧ Below X.heap.size X Y) := Lib.hid (fun X hX => by
      refine (specByteZ_any x0 hx0.1 hx0.2 X).mono ?_
      rintro e Y ⟨rfl, hb⟩
      exact ⟨by rw [OB.out], sbg_next hX hb, hb⟩)
    have KS : Hid (∀ X, (X.cell? ⟨w.heap.size, 0, none⟩ = some (.int .i64 x0) ∧ X.cell? ⟨w.heap.size, 1, none⟩ = some (.int .i64 x1) ∧ X.cell? ⟨w.heap.size, 2, none⟩ = some (.int .i64 x2) ∧ X.cell? ⟨w.heap.size, 3, none⟩ = some (.int .i64 x3) ∧ X.cell? ⟨w.heap.size, 4, none⟩ = some (.int .i64 x4) ∧ X.cell? ⟨w.heap.size, 5, none⟩ = some (.string x5) ∧ X.cell? ⟨w.heap.size, 6, none⟩ = some (.string x6) ∧ Below Y0.heap.size Y0 X) → Calls Tryd.prog 33 #[.int .i64 x1, .string (tr ++ ob)] X fun e Y => (∃ ok, e = .returned (.tuple #[.agg #[.int .i64 (E : Nat), .int .i64 (S : Nat)], .bool ok])) ∧ (Y.cell? ⟨w.heap.size, 0, none⟩ = some (.int .i64 x0) ∧ Y.cell? ⟨w.heap.size, 1, none⟩ = some (.int .i64 x1) ∧ Y.cell? ⟨w.heap.size, 2, none⟩ = some (.int .i64 x2) ∧ Y.cell? ⟨w.heap.size, 3, none⟩ = some (.int .i64 x3) ∧ Y.cell? ⟨w.heap.size, 4, none⟩ = some (.int .i64 x4) ∧ Y.cell? ⟨w.heap.size, 5, none⟩ = some (.string x5) ∧ Y.cell? ⟨w.heap.size, 6, none⟩ = some (.string x6) ∧ Below Y0.heap.size Y0 Y) ∧ Below X.heap.size X Y) := Lib.hid (fun X hX => by
      refine (specSign_is x1 (tr ++ ob) E S (by rw [TR.out, OB.out]; exact HSIG.out) zm X).mono ?_
      rintro e Y ⟨hx, hb⟩
      exact ⟨hx, sbg_next hX hb, hb⟩)
    clear zt zo zm
    go_wp2_with fail
    go_cut [3] (fun z wx => ∃ gu, z = .pointer (some ⟨gu, 0, none⟩) ∧ VarA gu SigT #[.int .i64 (E : Nat), .int .i64 (S : Nat)] wx ∧ Below Y0.heap.size Y0 wx)
    case first =>
      go_region_held3 (fun X => X.cell? ⟨w.heap.size, 0, none⟩ = some (.int .i64 x0) ∧ X.cell? ⟨w.heap.size, 1, none⟩ = some (.int .i64 x1) ∧ X.cell? ⟨w.heap.size, 2, none⟩ = some (.int .i64 x2) ∧ X.cell? ⟨w.heap.size, 3, none⟩ = some (.int .i64 x3) ∧ X.cell? ⟨w.heap.size, 4, none⟩ = some (.int .i64 x4) ∧ X.cell? ⟨w.heap.size, 5, none⟩ = some (.string x5) ∧ X.cell? ⟨w.heap.size, 6, none⟩ = some (.string x6) ∧ Below Y0.heap.size Y0 X) (first | (with_reducible assumption) | (with_reducible exact E0.out) | (with_reducible exact sbg_drew (sbg_alloc F0.out _)) | (with_reducible exact sbg_alloc F0.out _) | (with_reducible exact sbg_drew (by assumption)) | (with_reducible exact sbg_alloc (by assumption) _) | (with_reducible exact sbg_alloc E0.out _) | (with_reducible exact sbg_drew (sbg_alloc (by assumption) _)) | (exact sbg_store2 (by assumption) (by omega) hgw _ _)) (first | (go_at_call 34; refine (KT.out _ (by assumption)).mono ?_; rintro e v1 ⟨rfl, hS, hb⟩; (first | (have rr := VarA.next rr hb) | (have rr := VarA.next (VarA.drew rr) hb) | (have rr := VarA.next (VarA.new _ SigT #[Value.int .i64 0, Value.int .i64 0]) hb) | (have rr := VarA.next (VarA.drew (VarA.new _ SigT #[Value.int .i64 0, Value.int .i64 0])) hb) | skip); (first | (have r0 := rr.cell 0; have r1 := rr.cell 1; have g0 := rr.free 0; have g1 := rr.free 1) | skip); have hz := hS.2.2.2.2.2.2.2.size) | (go_at_call 35; refine (KB.out _ (by assumption)).mono ?_; rintro e v1 ⟨rfl, hS, hb⟩; (first | (have rr := VarA.next rr hb) | (have rr := VarA.next (VarA.drew rr) hb) | (have rr := VarA.next (VarA.new _ SigT #[Value.int .i64 0, Value.int .i64 0]) hb) | (have rr := VarA.next (VarA.drew (VarA.new _ SigT #[Value.int .i64 0, Value.int .i64 0])) hb) | skip); (first | (have r0 := rr.cell 0; have r1 := rr.cell 1; have g0 := rr.free 0; have g1 := rr.free 1) | skip); have hz := hS.2.2.2.2.2.2.2.size) | (go_at_call 33; refine (KS.out _ (by assumption)).mono ?_; rintro e v1 ⟨⟨ok, rfl⟩, hS, hb⟩; (first | (have rr := VarA.next rr hb) | (have rr := VarA.next (VarA.drew rr) hb) | (have rr := VarA.next (VarA.new _ SigT #[Value.int .i64 0, Value.int .i64 0]) hb) | (have rr := VarA.next (VarA.drew (VarA.new _ SigT #[Value.int .i64 0, Value.int .i64 0])) hb) | skip); (first | (have r0 := rr.cell 0; have r1 := rr.cell 1; have g0 := rr.free 0; have g1 := rr.free 1) | skip); have hz := hS.2.2.2.2.2.2.2.size))
      all_goals
        go_wp2_with fail
        go_meet
        first | exact ⟨_, rfl, sig_new hS.2.2.2.2.2.2.2⟩ | exact ⟨_, rfl, sig_set rr (by omega) hS.2.2.2.2.2.2.2⟩
    case rest =>
      obtain ⟨gu, rfl, hv, hbw⟩ := hcut
      have r0 := hv.cell 0
      have r1 := hv.cell 1
      have HB := Lib.hid (B0.out.trans (hbw.mono B0.out.size))
      have KG := Lib.hid (specSigText_yes E S hE hSS wc)
      clear hv hbw KT KB KS E0 F0
      go_wp2_with fail
      refine KG.out.mono ?_
      rintro e w2 ⟨rfl, hb⟩
      have HB2 := Lib.hid (HB.out.trans (hb.mono HB.out.size))
      clear hb KG
      obtain ⟨sg, SG⟩ : ∃ b, Hid (b = numB E ++ numB S) := ⟨_, Lib.hid rfl⟩
      rw [← SG.out]
      have zs : sg.size = 8 := by rw [SG.out]; rfl
      have zp : (⟨#[112]⟩ : ByteArray).size = 1 := rfl
      have s2 : ¬ (9223372036854775807 < (⟨#[112]⟩ : ByteArray).size + sg.size) := by omega
      go_wp2_with fail
      go_ret
      exact ⟨ret_s (by rw [HT.out, SG.out]), HB2.out⟩

end Go.Proofs.YtkjjdoadjhjmbatDoor
namespace Go.Proofs.YtkjjdoadjhjmbatDoor
open Go.RowKit

set_option maxRecDepth 100000 in
set_option maxHeartbeats 3200000 in
/-- The exact law on Proof, out of one answer that both give. -/
theorem lawProofF (L : World → Prop) (stays : ∀ X Y, L X → Below X.heap.size X Y → L Y) (x0 x1 x2 x3 x4 : Int) (x5 x6 : ByteArray) (r5 : x5.size ≤ 9223372036854775807) (r6 : x6.size ≤ 9223372036854775807) (t : ByteArray)
    (hI : FitsGreeter x5 x6 → ∀ X : World, L X → Calls Tryd.prog 17 #[.agg #[.int .i64 x0, .int .i64 x1, .int .i64 x2, .int .i64 x3, .int .i64 x4, .string x5, .string x6]] X fun e Y => e = .returned (.string t) ∧ Below X.heap.size X Y)
    (hS : FitsGreeter x5 x6 → ∀ X : World, Calls Tryd.prog 15 #[.agg #[.int .i64 x0, .int .i64 x1, .int .i64 x2, .int .i64 x3, .int .i64 x4, .string x5, .string x6]] X fun e Y => e = .returned (.string t) ∧ Below X.heap.size X Y)
    (w : World) (ht : L w) :
    Calls Tryd.prog 5 #[.agg #[.int .i64 x0, .int .i64 x1, .int .i64 x2, .int .i64 x3, .int .i64 x4, .string x5, .string x6]] w fun e w' => e = .returned (.bool true) ∧ Below w.heap.size w w' := by
  have HI0 := Lib.hid hI
  have HT0 : Hid (∀ X, Below w.heap.size w X → L X) := fun X hX => stays w X ht hX
  have HS0 := Lib.hid hS
  have HT := Lib.hid (toGreeter_any x0 x1 x2 x3 x4 x5 x6)
  have htt : (t.toList == t.toList) = true := by simp
  have A := Lib.hid (VarA.new w LGrT #[.int .i64 x0, .int .i64 x1, .int .i64 x2, .int .i64 x3, .int .i64 x4, .string x5, .string x6])
  have B := Lib.hid ((Below.refl w.heap.size w).alloc (Nat.le_refl _) (.cells #[.int .i64 x0, .int .i64 x1, .int .i64 x2, .int .i64 x3, .int .i64 x4, .string x5, .string x6] LGrT))
  clear hI hS ht stays
  go_enter Tryd.func5, Tryd.ntmps5
  go_upto_region 1 with fail
  generalize w.alloc (.cells #[.int .i64 x0, .int .i64 x1, .int .i64 x2, .int .i64 x3, .int .i64 x4, .string x5, .string x6] LGrT) = Y0 at *
  have c0 : Y0.cell? ⟨w.heap.size, 0, none⟩ = some (.int .i64 x0) := A.out.cell 0
  have c1 : Y0.cell? ⟨w.heap.size, 1, none⟩ = some (.int .i64 x1) := A.out.cell 1
  have c2 : Y0.cell? ⟨w.heap.size, 2, none⟩ = some (.int .i64 x2) := A.out.cell 2
  have c3 : Y0.cell? ⟨w.heap.size, 3, none⟩ = some (.int .i64 x3) := A.out.cell 3
  have c4 : Y0.cell? ⟨w.heap.size, 4, none⟩ = some (.int .i64 x4) := A.out.cell 4
  have c5 : Y0.cell? ⟨w.heap.size, 5, none⟩ = some (.string x5) := A.out.cell 5
  have c6 : Y0.cell? ⟨w.heap.size, 6, none⟩ = some (.string x6) := A.out.cell 6
  have KZ := Lib.hid (szGreeter_any x0 x1 x2 x3 x4 x5 x6 1048576 (by omega) (by omega) r5 r6 Y0)
  go_wp2_with fail
  refine (KZ.out).mono ?_
  rintro e Y1 ⟨⟨z, rfl, hz⟩, hb⟩
  replace A := Lib.hid (A.out.next hb)
  replace B := Lib.hid (B.out.trans (hb.mono B.out.size))
  clear hb KZ c0 c1 c2 c3 c4 c5 c6
  rcases hz with rfl | ⟨hz0, hz1, hf⟩
  · go_wp2_with fail
    go_ret
    exact ⟨rfl, B.out⟩
  have hz2 : ¬ (z < 0) := by omega
  have HI := Lib.hid (HI0.out hf)
  have HS := Lib.hid (HS0.out hf)
  clear hf HI0 HS0
  have c0 : Y1.cell? ⟨w.heap.size, 0, none⟩ = some (.int .i64 x0) := A.out.cell 0
  have c1 : Y1.cell? ⟨w.heap.size, 1, none⟩ = some (.int .i64 x1) := A.out.cell 1
  have c2 : Y1.cell? ⟨w.heap.size, 2, none⟩ = some (.int .i64 x2) := A.out.cell 2
  have c3 : Y1.cell? ⟨w.heap.size, 3, none⟩ = some (.int .i64 x3) := A.out.cell 3
  have c4 : Y1.cell? ⟨w.heap.size, 4, none⟩ = some (.int .i64 x4) := A.out.cell 4
  have c5 : Y1.cell? ⟨w.heap.size, 5, none⟩ = some (.string x5) := A.out.cell 5
  have c6 : Y1.cell? ⟨w.heap.size, 6, none⟩ = some (.string x6) := A.out.cell 6
  go_wp2_with fail
  refine (HT.out _).mono ?_
  rintro e Y2 ⟨rfl, hb⟩
  replace A := Lib.hid (A.out.next hb)
  replace B := Lib.hid (B.out.trans (hb.mono B.out.size))
  clear hb c0 c1 c2 c3 c4 c5 c6
  go_wp2_with fail
  refine (HS.out _).mono ?_
  rintro e Y3 ⟨rfl, hb⟩
  replace A := Lib.hid (A.out.next hb)
  replace B := Lib.hid (B.out.trans (hb.mono B.out.size))
  clear hb
  generalize Y3 = Z1 at *
  have c0 : Z1.cell? ⟨w.heap.size, 0, none⟩ = some (.int .i64 x0) := A.out.cell 0
  have c1 : Z1.cell? ⟨w.heap.size, 1, none⟩ = some (.int .i64 x1) := A.out.cell 1
  have c2 : Z1.cell? ⟨w.heap.size, 2, none⟩ = some (.int .i64 x2) := A.out.cell 2
  have c3 : Z1.cell? ⟨w.heap.size, 3, none⟩ = some (.int .i64 x3) := A.out.cell 3
  have c4 : Z1.cell? ⟨w.heap.size, 4, none⟩ = some (.int .i64 x4) := A.out.cell 4
  have c5 : Z1.cell? ⟨w.heap.size, 5, none⟩ = some (.string x5) := A.out.cell 5
  have c6 : Z1.cell? ⟨w.heap.size, 6, none⟩ = some (.string x6) := A.out.cell 6
  go_wp2_with fail
  refine (HT.out _).mono ?_
  rintro e Y5 ⟨rfl, hb⟩
  replace A := Lib.hid (A.out.next hb)
  replace B := Lib.hid (B.out.trans (hb.mono B.out.size))
  clear hb c0 c1 c2 c3 c4 c5 c6
  go_wp2_with fail
  refine (HI.out _ (HT0.out _ B.out)).mono ?_
  rintro e Y6 ⟨rfl, hb⟩
  replace A := Lib.hid (A.out.next hb)
  replace B := Lib.hid (B.out.trans (hb.mono B.out.size))
  clear hb
  go_wp2_with fail
  go_ret
  exact ⟨rfl, B.out⟩

end Go.Proofs.YtkjjdoadjhjmbatDoor
