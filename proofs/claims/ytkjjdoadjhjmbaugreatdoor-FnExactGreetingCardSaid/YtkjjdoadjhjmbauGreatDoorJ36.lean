/-
  The given Proof.
  The given Hello.
-/
import Derived.Test.YtkjjdoadjhjmbauGreatDoorJ15
import Derived.Test.YtkjjdoadjhjmbauGreatDoorJ09
import Derived.Test.YtkjjdoadjhjmbauGreatDoorJ13
import Derived.Test.YtkjjdoadjhjmbauGreatDoorJ24
namespace Go.Proofs.YtkjjdoadjhjmbauGreatDoor
open Go.RowKit

theorem sig_new {V X : World} {E S : Value} (hb : Below V.heap.size V X) : VarA X.heap.size SigT #[E, S] (X.alloc (.cells #[E, S] SigT)) ∧ Below V.heap.size V (X.alloc (.cells #[E, S] SigT)) := ⟨VarA.new X SigT _, hb.alloc hb.size _⟩
theorem sig_set {V X : World} {G : Nat} {q0 q1 E S : Value} (rr : VarA G SigT #[q0, q1] X) (hG : V.heap.size ≤ G) (hb : Below V.heap.size V X) : VarA G SigT #[E, S] ((X.setCell ⟨G, 0, none⟩ E).setCell ⟨G, 1, none⟩ S) ∧ Below V.heap.size V ((X.setCell ⟨G, 0, none⟩ E).setCell ⟨G, 1, none⟩ S) :=
  ⟨(rr.set 0 _).set 1 _, (hb.setCell (p := ⟨G, 0, none⟩) hG _).setCell (p := ⟨G, 1, none⟩) hG _⟩
set_option maxRecDepth 100000 in
set_option maxHeartbeats 3200000 in
theorem specProof_any (x0 x1 x2 x3 x4 : Int) (x5 x6 : ByteArray) (hx0 : -9223372036854775808 ≤ x0 ∧ x0 ≤ 9223372036854775807) (h5 : x5.size ≤ 100000000) (h6 : x6.size ≤ 100000000) (t : ByteArray) (ht : ProofIs x0 x1 x4 x5 x6 t) (w : World) :
    Calls Tryz.prog 23 #[.agg #[.int .i64 x0, .int .i64 x1, .int .i64 x2, .int .i64 x3, .int .i64 x4, .string x5, .string x6]] w fun e w' => e = .returned (.string t) ∧ Below w.heap.size w w' := by
  have A0 := Lib.hid (VarA.new w GreeterT #[.int .i64 x0, .int .i64 x1, .int .i64 x2, .int .i64 x3, .int .i64 x4, .string x5, .string x6])
  have B0 := Lib.hid ((Below.refl w.heap.size w).alloc (Nat.le_refl _) (.cells #[.int .i64 x0, .int .i64 x1, .int .i64 x2, .int .i64 x3, .int .i64 x4, .string x5, .string x6] GreeterT))
  go_enter Tryz.func23, Tryz.ntmps23
  go_upto_region 1 with fail
  generalize w.alloc (.cells #[.int .i64 x0, .int .i64 x1, .int .i64 x2, .int .i64 x3, .int .i64 x4, .string x5, .string x6] GreeterT) = Y0 at *
  have c4 : Y0.cell? ⟨w.heap.size, 4, none⟩ = some (.int .i64 x4) := A0.out.cell 4
  rcases ht with ⟨hst, E, S, hsig, ht⟩ | ⟨hst, rfl⟩
  rotate_left
  · have k1 : (x4 != 2) = true := by rw [bne_iff_ne]; exact fun e => hst (.inl e)
    have k2 : (x4 != 3) = true := by rw [bne_iff_ne]; exact fun e => hst (.inr e)
    clear hst
    go_wp2_with fail
    go_ret
    exact ⟨rfl, B0.out⟩
  have HST := Lib.hid hst
  have HT := Lib.hid ht
  have HSIG := Lib.hid hsig
  obtain ⟨hE, hSS⟩ := sig_lt hsig
  clear hst ht hsig
  go_cut [14] (fun z wx => z = .bool false ∧ wx = Y0)
  case first =>
    rcases HST.out with rfl | rfl
    · go_wp2_with fail
      go_meet
      exact ⟨rfl, rfl⟩
    · go_wp2_with fail
      go_meet
      exact ⟨rfl, rfl⟩
  case rest =>
    obtain ⟨rfl, hwc⟩ := hcut
    have hwc' := hwc.symm
    subst hwc'
    clear hwc c4 HST
    obtain ⟨tr, TR⟩ : ∃ b, Hid (b = transB x0 x5 x6) := ⟨_, Lib.hid rfl⟩
    obtain ⟨ob, OB⟩ : ∃ b, Hid (b = oneB x0) := ⟨_, Lib.hid rfl⟩
    have zt : tr.size ≤ 200000000 := by rw [TR.out, trans_size]; omega
    have zo : ob.size = 1 := by rw [OB.out]; rfl
    have m1 : ∀ X, (Op.stringOp .add tr ob).run Tryz.prog X = .ok (.string (tr ++ ob)) X := fun X => run_string_add_sum X tr ob (by omega)
    have zm : (tr ++ ob).size ≤ 300000000 := by rw [ByteArray.size_append]; omega
    have hgw : w.heap.size < Y0.heap.size := A0.out.lt
    have F0 := Lib.hid (sbg_of A0.out)
    have E0 := Lib.hid (sbg_drew F0.out)
    have KT : Hid (∀ X, (X.cell? ⟨w.heap.size, 0, none⟩ = some (.int .i64 x0) ∧ X.cell? ⟨w.heap.size, 1, none⟩ = some (.int .i64 x1) ∧ X.cell? ⟨w.heap.size, 2, none⟩ = some (.int .i64 x2) ∧ X.cell? ⟨w.heap.size, 3, none⟩ = some (.int .i64 x3) ∧ X.cell? ⟨w.heap.size, 4, none⟩ = some (.int .i64 x4) ∧ X.cell? ⟨w.heap.size, 5, none⟩ = some (.string x5) ∧ X.cell? ⟨w.heap.size, 6, none⟩ = some (.string x6) ∧ Below Y0.heap.size Y0 X) → Calls Tryz.prog 26 #[.agg #[.int .i64 x0, .int .i64 x1, .int .i64 x2, .int .i64 x3, .int .i64 x4, .string x5, .string x6]] X fun e Y => e = .returned (.string tr) ∧ (Y.cell? ⟨w.heap.size, 0, none⟩ = some (.int .i64 x0) ∧ Y.cell? ⟨w.heap.size, 1, none⟩ = some (.int .i64 x1) ∧ Y.cell? ⟨w.heap.size, 2, none⟩ = some (.int .i64 x2) ∧ Y.cell? ⟨w.heap.size, 3, none⟩ = some (.int .i64 x3) ∧ Y.cell? ⟨w.heap.size, 4, none⟩ = some (.int .i64 x4) ∧ Y.cell? ⟨w.heap.size, 5, none⟩ = some (.string x5) ∧ Y.cell? ⟨w.heap.size, 6, none⟩ = some (.string x6) ∧ Below Y0.heap.size Y0 Y) ∧ Below X.heap.size X Y) := Lib.hid (fun X hX => by
      refine (specTranscript_any x0 x1 x2 x3 x4 x5 x6 h5 h6 X).mono ?_
      rintro e Y ⟨rfl, hb⟩
      exact ⟨by rw [TR.out], sbg_next hX hb, hb⟩)
    have KB : Hid (∀ X, (X.cell? ⟨w.heap.size, 0, none⟩ = some (.int .i64 x0) ∧ X.cell? ⟨w.heap.size, 1, none⟩ = some (.int .i64 x1) ∧ X.cell? ⟨w.heap.size, 2, none⟩ = some (.int .i64 x2) ∧ X.cell? ⟨w.heap.size, 3, none⟩ = some (.int .i64 x3) ∧ X.cell? ⟨w.heap.size, 4, none⟩ = some (.int .i64 x4) ∧ X.cell? ⟨w.heap.size, 5, none⟩ = some (.string x5) ∧ X.cell? ⟨w.heap.size, 6, none⟩ = some (.string x6) ∧ Below Y0.heap.size Y0 X) → Calls Tryz.prog 27 #[.int .i64 x0] X fun e Y => e = .returned (.string ob) ∧ (Y.cell? ⟨w.heap.size, 0, none⟩ = some (.int .i64 x0) ∧ Y.cell? ⟨w.heap.size, 1, none⟩ = some (.int .i64 x1) ∧ Y.cell? ⟨w.heap.size, 2, none⟩ = some (.int .i64 x2) ∧ Y.cell? ⟨w.heap.size, 3, none⟩ = some (.int .i64 x3) ∧ Y.cell? ⟨w.heap.size, 4, none⟩ = some (.int .i64 x4) ∧ Y.cell? ⟨w.heap.size, 5, none⟩ = some (.string x5) ∧ Y.cell? ⟨w.heap.size, 6, none⟩ = some (.string x6) ∧ Below Y0.heap.size Y0 Y) ∧ Below X.heap.size X Y) := Lib.hid (fun X hX => by
      refine (specByteZ_any x0 hx0.1 hx0.2 X).mono ?_
      rintro e Y ⟨rfl, hb⟩
      exact ⟨by rw [OB.out], sbg_next hX hb, hb⟩)
    have KS : Hid (∀ X, (X.cell? ⟨w.heap.size, 0, none⟩ = some (.int .i64 x0) ∧ X.cell? ⟨w.heap.size, 1, none⟩ = some (.int .i64 x1) ∧ X.cell? ⟨w.heap.size, 2, none⟩ = some (.int .i64 x2) ∧ X.cell? ⟨w.heap.size, 3, none⟩ = some (.int .i64 x3) ∧ X.cell? ⟨w.heap.size, 4, none⟩ = some (.int .i64 x4) ∧ X.cell? ⟨w.heap.size, 5, none⟩ = some (.string x5) ∧ X.cell? ⟨w.heap.size, 6, none⟩ = some (.string x6) ∧ Below Y0.heap.size Y0 X) → Calls Tryz.prog 43 #[.int .i64 x1, .string (tr ++ ob)] X fun e Y => (∃ ok, e = .returned (.tuple #[.agg #[.int .i64 (E : Nat), .int .i64 (S : Nat)], .bool ok])) ∧ (Y.cell? ⟨w.heap.size, 0, none⟩ = some (.int .i64 x0) ∧ Y.cell? ⟨w.heap.size, 1, none⟩ = some (.int .i64 x1) ∧ Y.cell? ⟨w.heap.size, 2, none⟩ = some (.int .i64 x2) ∧ Y.cell? ⟨w.heap.size, 3, none⟩ = some (.int .i64 x3) ∧ Y.cell? ⟨w.heap.size, 4, none⟩ = some (.int .i64 x4) ∧ Y.cell? ⟨w.heap.size, 5, none⟩ = some (.string x5) ∧ Y.cell? ⟨w.heap.size, 6, none⟩ = some (.string x6) ∧ Below Y0.heap.size Y0 Y) ∧ Below X.heap.size X Y) := Lib.hid (fun X hX => by
      refine (specSign_is x1 (tr ++ ob) E S (by rw [TR.out, OB.out]; exact HSIG.out) zm X).mono ?_
      rintro e Y ⟨hx, hb⟩
      exact ⟨hx, sbg_next hX hb, hb⟩)
    clear zt zo zm
    go_wp2_with fail
    go_cut [3] (fun z wx => ∃ gu, z = .pointer (some ⟨gu, 0, none⟩) ∧ VarA gu SigT #[.int .i64 (E : Nat), .int .i64 (S : Nat)] wx ∧ Below Y0.heap.size Y0 wx)
    case first =>
      go_region_held3 (fun X => X.cell? ⟨w.heap.size, 0, none⟩ = some (.int .i64 x0) ∧ X.cell? ⟨w.heap.size, 1, none⟩ = some (.int .i64 x1) ∧ X.cell? ⟨w.heap.size, 2, none⟩ = some (.int .i64 x2) ∧ X.cell? ⟨w.heap.size, 3, none⟩ = some (.int .i64 x3) ∧ X.cell? ⟨w.heap.size, 4, none⟩ = some (.int .i64 x4) ∧ X.cell? ⟨w.heap.size, 5, none⟩ = some (.string x5) ∧ X.cell? ⟨w.heap.size, 6, none⟩ = some (.string x6) ∧ Below Y0.heap.size Y0 X) (first | (with_reducible assumption) | (with_reducible exact E0.out) | (with_reducible exact sbg_drew (sbg_alloc F0.out _)) | (with_reducible exact sbg_alloc F0.out _) | (with_reducible exact sbg_drew (by assumption)) | (with_reducible exact sbg_alloc (by assumption) _) | (with_reducible exact sbg_alloc E0.out _) | (with_reducible exact sbg_drew (sbg_alloc (by assumption) _)) | (exact sbg_store2 (by assumption) (by omega) hgw _ _)) (first | (go_at_call 26; refine (KT.out _ (by assumption)).mono ?_; rintro e v1 ⟨rfl, hS, hb⟩; (first | (have rr := VarA.next rr hb) | (have rr := VarA.next (VarA.drew rr) hb) | (have rr := VarA.next (VarA.new _ SigT #[Value.int .i64 0, Value.int .i64 0]) hb) | (have rr := VarA.next (VarA.drew (VarA.new _ SigT #[Value.int .i64 0, Value.int .i64 0])) hb) | skip); (first | (have r0 := rr.cell 0; have r1 := rr.cell 1; have g0 := rr.free 0; have g1 := rr.free 1) | skip); have hz := hS.2.2.2.2.2.2.2.size) | (go_at_call 27; refine (KB.out _ (by assumption)).mono ?_; rintro e v1 ⟨rfl, hS, hb⟩; (first | (have rr := VarA.next rr hb) | (have rr := VarA.next (VarA.drew rr) hb) | (have rr := VarA.next (VarA.new _ SigT #[Value.int .i64 0, Value.int .i64 0]) hb) | (have rr := VarA.next (VarA.drew (VarA.new _ SigT #[Value.int .i64 0, Value.int .i64 0])) hb) | skip); (first | (have r0 := rr.cell 0; have r1 := rr.cell 1; have g0 := rr.free 0; have g1 := rr.free 1) | skip); have hz := hS.2.2.2.2.2.2.2.size) | (go_at_call 43; refine (KS.out _ (by assumption)).mono ?_; rintro e v1 ⟨⟨ok, rfl⟩, hS, hb⟩; (first | (have rr := VarA.next rr hb) | (have rr := VarA.next (VarA.drew rr) hb) | (have rr := VarA.next (VarA.new _ SigT #[Value.int .i64 0, Value.int .i64 0]) hb) | (have rr := VarA.next (VarA.drew (VarA.new _ SigT #[Value.int .i64 0, Value.int .i64 0])) hb) | skip); (first | (have r0 := rr.cell 0; have r1 := rr.cell 1; have g0 := rr.free 0; have g1 := rr.free 1) | skip); have hz := hS.2.2.2.2.2.2.2.size))
      all_goals
        go_wp2_with fail
        go_meet
        first | exact ⟨_, rfl, sig_new hS.2.2.2.2.2.2.2⟩ | exact ⟨_, rfl, sig_set rr (by omega) hS.2.2.2.2.2.2.2⟩
    case rest =>
      obtain ⟨gu, rfl, hv, hbw⟩ := hcut
      have r0 := hv.cell 0
      have r1 := hv.cell 1
      have HB := Lib.hid (B0.out.trans (hbw.mono B0.out.size))
      have KG := Lib.hid (specSigText_yes E S hE hSS wc)
      clear hv hbw KT KB KS E0 F0
      go_wp2_with fail
      refine KG.out.mono ?_
      rintro e w2 ⟨rfl, hb⟩
      have HB2 := Lib.hid (HB.out.trans (hb.mono HB.out.size))
      clear hb KG
      obtain ⟨sg, SG⟩ : ∃ b, Hid (b = numB E ++ numB S) := ⟨_, Lib.hid rfl⟩
      rw [← SG.out]
      have zs : sg.size = 8 := by rw [SG.out]; rfl
      have zp : (⟨#[112]⟩ : ByteArray).size = 1 := rfl
      have s2 : ¬ (9223372036854775807 < (⟨#[112]⟩ : ByteArray).size + sg.size) := by omega
      go_wp2_with fail
      go_ret
      exact ⟨ret_s (by rw [HT.out, SG.out]), HB2.out⟩

end Go.Proofs.YtkjjdoadjhjmbauGreatDoor
namespace Go.Proofs.YtkjjdoadjhjmbauGreatDoor
open Go.RowKit

/-- The greeter and the result in their variables. -/
structure HV (w : World) (x0 x1 x2 x3 x4 : Int) (m x6 : ByteArray) (X : World) : Prop where
  g : VarA w.heap.size GreeterT #[.int .i64 x0, .int .i64 x1, .int .i64 x2, .int .i64 x3, .int .i64 x4, .string m, .string x6] X
  r : VarA (w.heap.size + 1) GreeterT #[.int .i64 0, .int .i64 0, .int .i64 0, .int .i64 0, .int .i64 0, .string ⟨#[]⟩, .string ⟨#[]⟩] X
  below : Below w.heap.size w X
section
variable {w : World} {x0 x1 x2 x3 x4 : Int} {m x6 : ByteArray} {X Y : World}
theorem HV.next (h : HV w x0 x1 x2 x3 x4 m x6 X) (hb : Below X.heap.size X Y) : HV w x0 x1 x2 x3 x4 m x6 Y := ⟨h.g.next hb, h.r.next hb, h.below.trans (hb.mono h.below.size)⟩
theorem HV.mine (h : HV w x0 x1 x2 x3 x4 m x6 X) (t : ByteArray) : HV w x0 x1 x2 x3 x4 t x6 (X.setCell ⟨w.heap.size, 5, none⟩ (.string t)) := ⟨h.g.set 5 _, h.r.off 5 _ (by omega), h.below.setCell (p := ⟨w.heap.size, 5, none⟩) (Nat.le_refl _) _⟩
theorem HV.step (h : HV w x0 x1 x2 x3 x4 m x6 X) (k : Int) : HV w x0 x1 x2 x3 k m x6 (X.setCell ⟨w.heap.size, 4, none⟩ (.int .i64 k)) := ⟨h.g.set 4 _, h.r.off 4 _ (by omega), h.below.setCell (p := ⟨w.heap.size, 4, none⟩) (Nat.le_refl _) _⟩
end
theorem specPublic_any (s : Int) (p : Nat) (h : PubIs s p) (w : World) : Calls Tryz.prog 32 #[.int .i64 s] w fun e w' => e = .returned (.int .i64 (p : Nat)) ∧ w' = w := by
  rcases h with ⟨⟨h1, h2⟩, rfl⟩ | ⟨h, rfl⟩
  · obtain ⟨k, rfl⟩ : ∃ k : Nat, s = k := ⟨s.toNat, by omega⟩
    exact specPublicOf_yes k (by omega) (by omega) w
  · exact specPublicOf_no s (by unfold SecretIn at h; omega) w

set_option maxRecDepth 100000 in
set_option maxHeartbeats 3200000 in
theorem specHello_any (x0 x1 x2 x3 x4 : Int) (x5 x6 : ByteArray) (hx0 : -9223372036854775808 ≤ x0 ∧ x0 ≤ 9223372036854775807) (y4 : Int) (y5 t : ByteArray) (hh : HelloIs x0 x3 x4 x5 y4 y5 t) (w : World) :
    Calls Tryz.prog 34 #[.agg #[.int .i64 x0, .int .i64 x1, .int .i64 x2, .int .i64 x3, .int .i64 x4, .string x5, .string x6]] w fun e w' => e = .returned (.tuple #[.agg #[.int .i64 x0, .int .i64 x1, .int .i64 x2, .int .i64 x3, .int .i64 y4, .string y5, .string x6], .string t]) ∧ Below w.heap.size w w' := by
  have h2 := VarA.new (w.alloc (.cells #[.int .i64 x0, .int .i64 x1, .int .i64 x2, .int .i64 x3, .int .i64 x4, .string x5, .string x6] GreeterT)) GreeterT #[.int .i64 0, .int .i64 0, .int .i64 0, .int .i64 0, .int .i64 0, .string ⟨#[]⟩, .string ⟨#[]⟩]
  rw [show (w.alloc (.cells #[.int .i64 x0, .int .i64 x1, .int .i64 x2, .int .i64 x3, .int .i64 x4, .string x5, .string x6] GreeterT)).heap.size = w.heap.size + 1 by simp] at h2
  have H0 : Hid (HV w x0 x1 x2 x3 x4 x5 x6 ((w.alloc (.cells #[.int .i64 x0, .int .i64 x1, .int .i64 x2, .int .i64 x3, .int .i64 x4, .string x5, .string x6] GreeterT)).alloc (.cells #[.int .i64 0, .int .i64 0, .int .i64 0, .int .i64 0, .int .i64 0, .string ⟨#[]⟩, .string ⟨#[]⟩] GreeterT))) := Lib.hid ⟨(VarA.new w GreeterT _).alloc _, h2, ((Below.refl w.heap.size w).alloc (Nat.le_refl _) _).alloc (by simp) _⟩
  clear h2
  go_enter Tryz.func34, Tryz.ntmps34
  go_upto_region 1 with fail
  generalize (w.alloc (.cells #[.int .i64 x0, .int .i64 x1, .int .i64 x2, .int .i64 x3, .int .i64 x4, .string x5, .string x6] GreeterT)).alloc (.cells #[.int .i64 0, .int .i64 0, .int .i64 0, .int .i64 0, .int .i64 0, .string ⟨#[]⟩, .string ⟨#[]⟩] GreeterT) = Y0 at *
  have c4 : Y0.cell? ⟨w.heap.size, 4, none⟩ = some (.int .i64 x4) := H0.out.g.cell 4
  rcases hh with ⟨rfl, rfl, p, hp, hy, ht⟩ | ⟨hne, rfl, rfl, rfl⟩
  rotate_left
  · have k4 : (y4 != 0) = true := by rw [bne_iff_ne]; exact hne
    clear hne
    go_upto_region 2 with fail
    have e0 : Y0.cell? ⟨w.heap.size, 0, none⟩ = some (.int .i64 x0) := H0.out.g.cell 0
    have e1 : Y0.cell? ⟨w.heap.size, 1, none⟩ = some (.int .i64 x1) := H0.out.g.cell 1
    have e2 : Y0.cell? ⟨w.heap.size, 2, none⟩ = some (.int .i64 x2) := H0.out.g.cell 2
    have e3 : Y0.cell? ⟨w.heap.size, 3, none⟩ = some (.int .i64 x3) := H0.out.g.cell 3
    have e4 : Y0.cell? ⟨w.heap.size, 4, none⟩ = some (.int .i64 y4) := H0.out.g.cell 4
    have e5 : Y0.cell? ⟨w.heap.size, 5, none⟩ = some (.string y5) := H0.out.g.cell 5
    have e6 : Y0.cell? ⟨w.heap.size, 6, none⟩ = some (.string x6) := H0.out.g.cell 6
    have d0 : Y0.cell? ⟨w.heap.size + 1, 0, none⟩ = some (.int .i64 0) := H0.out.r.cell 0
    have d1 : Y0.cell? ⟨w.heap.size + 1, 1, none⟩ = some (.int .i64 0) := H0.out.r.cell 1
    have d2 : Y0.cell? ⟨w.heap.size + 1, 2, none⟩ = some (.int .i64 0) := H0.out.r.cell 2
    have d3 : Y0.cell? ⟨w.heap.size + 1, 3, none⟩ = some (.int .i64 0) := H0.out.r.cell 3
    have d4 : Y0.cell? ⟨w.heap.size + 1, 4, none⟩ = some (.int .i64 0) := H0.out.r.cell 4
    have d5 : Y0.cell? ⟨w.heap.size + 1, 5, none⟩ = some (.string ⟨#[]⟩) := H0.out.r.cell 5
    have d6 : Y0.cell? ⟨w.heap.size + 1, 6, none⟩ = some (.string ⟨#[]⟩) := H0.out.r.cell 6
    have f0 := H0.out.r.free 0
    have f1 := H0.out.r.free 1
    have f2 := H0.out.r.free 2
    have f3 := H0.out.r.free 3
    have f4 := H0.out.r.free 4
    have f5 := H0.out.r.free 5
    have f6 := H0.out.r.free 6
    have R9 := (((((((H0.out.r.set 0 (.int .i64 x0)).set 1 (.int .i64 x1)).set 2 (.int .i64 x2)).set 3 (.int .i64 x3)).set 4 (.int .i64 y4)).set 5 (.string y5)).set 6 (.string x6))
    have j0 := R9.cell 0
    have j1 := R9.cell 1
    have j2 := R9.cell 2
    have j3 := R9.cell 3
    have j4 := R9.cell 4
    have j5 := R9.cell 5
    have j6 := R9.cell 6
    have BZ := Lib.hid (((((((H0.out.below.setCell (p := ⟨w.heap.size + 1, 0, none⟩) (Nat.le_succ _) (.int .i64 x0)).setCell (p := ⟨w.heap.size + 1, 1, none⟩) (Nat.le_succ _) (.int .i64 x1)).setCell (p := ⟨w.heap.size + 1, 2, none⟩) (Nat.le_succ _) (.int .i64 x2)).setCell (p := ⟨w.heap.size + 1, 3, none⟩) (Nat.le_succ _) (.int .i64 x3)).setCell (p := ⟨w.heap.size + 1, 4, none⟩) (Nat.le_succ _) (.int .i64 y4)).setCell (p := ⟨w.heap.size + 1, 5, none⟩) (Nat.le_succ _) (.string y5)).setCell (p := ⟨w.heap.size + 1, 6, none⟩) (Nat.le_succ _) (.string x6))
    clear R9
    go_wp2_with fail
    exact bodyPost_ret (v := .tuple #[.agg #[.int .i64 x0, .int .i64 x1, .int .i64 x2, .int .i64 x3, .int .i64 y4, .string y5, .string x6], .string ⟨#[]⟩]) (by simp [results, Tryz.results34, go_sem, j0, j1, j2, j3, j4, j5, j6]) rfl (by exact ⟨rfl, BZ.out⟩)
  have hpl := pub_lt hp
  have PP := Lib.hid hp
  have HM := Lib.hid hy
  have ht' := ht.symm
  subst ht'
  clear ht hy
  obtain ⟨ob, OB⟩ : ∃ b, Hid (b = oneB x0) := ⟨_, Lib.hid rfl⟩
  obtain ⟨nb, NB⟩ : ∃ b, Hid (b = numB p) := ⟨_, Lib.hid rfl⟩
  have hm : (⟨#[104]⟩ : ByteArray) ++ ob ++ nb = y5 := by rw [OB.out, NB.out, HM.out]; rfl
  have zo : ob.size = 1 := by rw [OB.out]; rfl
  have zn : nb.size = 4 := by rw [NB.out]; rfl
  have zh : (⟨#[104]⟩ : ByteArray).size = 1 := rfl
  have m1 : ∀ X, (Op.stringOp .add (⟨#[104]⟩ : ByteArray) ob).run Tryz.prog X = .ok (.string ((⟨#[104]⟩ : ByteArray) ++ ob)) X := fun X => run_string_add_sum X _ ob (by rw [zh]; omega)
  have m2 : ∀ X, (Op.stringOp .add ((⟨#[104]⟩ : ByteArray) ++ ob) nb).run Tryz.prog X = .ok (.string ((⟨#[104]⟩ : ByteArray) ++ ob ++ nb)) X := fun X => run_string_add_sum X _ nb (by rw [ByteArray.size_append, zh]; omega)
  rw [hm] at m2
  clear hp hm zo zn zh
  have KB : Hid (∀ X, (X.cell? ⟨w.heap.size, 0, none⟩ = some (.int .i64 x0) ∧ X.cell? ⟨w.heap.size, 3, none⟩ = some (.int .i64 x3) ∧ ∃ q, HV w x0 x1 x2 x3 0 q x6 X) → Calls Tryz.prog 27 #[.int .i64 x0] X fun e Y => e = .returned (.string ob) ∧ (Y.cell? ⟨w.heap.size, 0, none⟩ = some (.int .i64 x0) ∧ Y.cell? ⟨w.heap.size, 3, none⟩ = some (.int .i64 x3) ∧ ∃ q, HV w x0 x1 x2 x3 0 q x6 Y)) := Lib.hid (fun X hX => by
    obtain ⟨_, _, q, hv⟩ := hX
    refine (specByteZ_any x0 hx0.1 hx0.2 X).mono ?_
    rintro e Y ⟨rfl, hb⟩
    have h9 := hv.next hb
    exact ⟨by rw [OB.out], h9.g.cell 0, h9.g.cell 3, q, h9⟩)
  have KP : Hid (∀ X, (X.cell? ⟨w.heap.size, 0, none⟩ = some (.int .i64 x0) ∧ X.cell? ⟨w.heap.size, 3, none⟩ = some (.int .i64 x3) ∧ ∃ q, HV w x0 x1 x2 x3 0 q x6 X) → Calls Tryz.prog 32 #[.int .i64 x3] X fun e Y => e = .returned (.int .i64 (p : Nat)) ∧ (Y.cell? ⟨w.heap.size, 0, none⟩ = some (.int .i64 x0) ∧ Y.cell? ⟨w.heap.size, 3, none⟩ = some (.int .i64 x3) ∧ ∃ q, HV w x0 x1 x2 x3 0 q x6 Y)) := Lib.hid (fun X hX => by
    refine (specPublic_any x3 p PP.out X).mono ?_
    rintro e Y ⟨rfl, rfl⟩
    exact ⟨rfl, hX⟩)
  have KN : Hid (∀ X, (X.cell? ⟨w.heap.size, 0, none⟩ = some (.int .i64 x0) ∧ X.cell? ⟨w.heap.size, 3, none⟩ = some (.int .i64 x3) ∧ ∃ q, HV w x0 x1 x2 x3 0 q x6 X) → Calls Tryz.prog 54 #[.int .i64 (p : Nat)] X fun e Y => e = .returned (.string nb) ∧ (Y.cell? ⟨w.heap.size, 0, none⟩ = some (.int .i64 x0) ∧ Y.cell? ⟨w.heap.size, 3, none⟩ = some (.int .i64 x3) ∧ ∃ q, HV w x0 x1 x2 x3 0 q x6 Y)) := Lib.hid (fun X hX => by
    obtain ⟨_, _, q, hv⟩ := hX
    refine (specNumberText_yes p hpl X).mono ?_
    rintro e Y ⟨rfl, hb⟩
    have h9 := hv.next hb
    exact ⟨by rw [NB.out]; rfl, h9.g.cell 0, h9.g.cell 3, q, h9⟩)
  have E0 : Hid (Y0.drew.cell? ⟨w.heap.size, 0, none⟩ = some (.int .i64 x0) ∧ Y0.drew.cell? ⟨w.heap.size, 3, none⟩ = some (.int .i64 x3) ∧ ∃ q, HV w x0 x1 x2 x3 0 q x6 Y0.drew) := Lib.hid (by
    have h9 := H0.out.next ((Below.refl _ _).drew)
    exact ⟨h9.g.cell 0, h9.g.cell 3, _, h9⟩)
  have SS : Hid (∀ X, (X.cell? ⟨w.heap.size, 0, none⟩ = some (.int .i64 x0) ∧ X.cell? ⟨w.heap.size, 3, none⟩ = some (.int .i64 x3) ∧ ∃ q, HV w x0 x1 x2 x3 0 q x6 X) → ((X.setCell ⟨w.heap.size, 5, none⟩ (.string y5)).cell? ⟨w.heap.size, 0, none⟩ = some (.int .i64 x0) ∧ (X.setCell ⟨w.heap.size, 5, none⟩ (.string y5)).cell? ⟨w.heap.size, 3, none⟩ = some (.int .i64 x3) ∧ ∃ q, HV w x0 x1 x2 x3 0 q x6 (X.setCell ⟨w.heap.size, 5, none⟩ (.string y5)))) := Lib.hid (fun X hX => by
    obtain ⟨_, _, q, hv⟩ := hX
    have h9 := hv.mine y5
    exact ⟨h9.g.cell 0, h9.g.cell 3, _, h9⟩)
  go_wp2_with fail
  go_cut [] (fun wx => Hid (HV w x0 x1 x2 x3 0 y5 x6 wx))
  case first =>
    go_region_held3 (fun X => X.cell? ⟨w.heap.size, 0, none⟩ = some (.int .i64 x0) ∧ X.cell? ⟨w.heap.size, 3, none⟩ = some (.int .i64 x3) ∧ ∃ q, HV w x0 x1 x2 x3 0 q x6 X) (first | (with_reducible assumption) | (with_reducible exact E0.out) | (exact SS.out _ (by assumption))) (first | (go_at_call 27; refine (KB.out _ (by assumption)).mono ?_; rintro e v1 ⟨rfl, hS⟩; (obtain ⟨_, _, q, hv⟩ := id hS; have s5 := hv.g.cell 5; have s6 := hv.g.free 5)) | (go_at_call 32; refine (KP.out _ (by assumption)).mono ?_; rintro e v1 ⟨rfl, hS⟩; (obtain ⟨_, _, q, hv⟩ := id hS; have s5 := hv.g.cell 5; have s6 := hv.g.free 5)) | (go_at_call 54; refine (KN.out _ (by assumption)).mono ?_; rintro e v1 ⟨rfl, hS⟩; (obtain ⟨_, _, q, hv⟩ := id hS; have s5 := hv.g.cell 5; have s6 := hv.g.free 5)))
    all_goals
      go_wp2_with fail
      go_meet
      exact Lib.hid (hv.mine y5)
  case rest =>
    have c4 : wc.cell? ⟨w.heap.size, 4, none⟩ = some (.int .i64 0) := hcut.out.g.cell 4
    have f4 := hcut.out.g.free 4
    have H3 := Lib.hid (hcut.out.step 1)
    clear KB KP KN E0 SS hcut H0
    go_upto_region 5 with fail
    generalize wc.setCell ⟨w.heap.size, 4, none⟩ (.int .i64 1) = V2 at *
    clear c4 f4
    have e0 : V2.cell? ⟨w.heap.size, 0, none⟩ = some (.int .i64 x0) := H3.out.g.cell 0
    have e1 : V2.cell? ⟨w.heap.size, 1, none⟩ = some (.int .i64 x1) := H3.out.g.cell 1
    have e2 : V2.cell? ⟨w.heap.size, 2, none⟩ = some (.int .i64 x2) := H3.out.g.cell 2
    have e3 : V2.cell? ⟨w.heap.size, 3, none⟩ = some (.int .i64 x3) := H3.out.g.cell 3
    have e4 : V2.cell? ⟨w.heap.size, 4, none⟩ = some (.int .i64 1) := H3.out.g.cell 4
    have e5 : V2.cell? ⟨w.heap.size, 5, none⟩ = some (.string y5) := H3.out.g.cell 5
    have e6 : V2.cell? ⟨w.heap.size, 6, none⟩ = some (.string x6) := H3.out.g.cell 6
    have d0 : V2.cell? ⟨(w.heap.size + 1), 0, none⟩ = some (.int .i64 0) := H3.out.r.cell 0
    have d1 : V2.cell? ⟨(w.heap.size + 1), 1, none⟩ = some (.int .i64 0) := H3.out.r.cell 1
    have d2 : V2.cell? ⟨(w.heap.size + 1), 2, none⟩ = some (.int .i64 0) := H3.out.r.cell 2
    have d3 : V2.cell? ⟨(w.heap.size + 1), 3, none⟩ = some (.int .i64 0) := H3.out.r.cell 3
    have d4 : V2.cell? ⟨(w.heap.size + 1), 4, none⟩ = some (.int .i64 0) := H3.out.r.cell 4
    have d5 : V2.cell? ⟨(w.heap.size + 1), 5, none⟩ = some (.string ⟨#[]⟩) := H3.out.r.cell 5
    have d6 : V2.cell? ⟨(w.heap.size + 1), 6, none⟩ = some (.string ⟨#[]⟩) := H3.out.r.cell 6
    have f0 := (H3.out.r).free 0
    have f1 := (H3.out.r).free 1
    have f2 := (H3.out.r).free 2
    have f3 := (H3.out.r).free 3
    have f4 := (H3.out.r).free 4
    have f5 := (H3.out.r).free 5
    have f6 := (H3.out.r).free 6
    have R9 := (H3.out.r).put7 (.int .i64 x0) (.int .i64 x1) (.int .i64 x2) (.int .i64 x3) (.int .i64 1) (.string y5) (.string x6)
    have j0 := R9.cell 0
    have j1 := R9.cell 1
    have j2 := R9.cell 2
    have j3 := R9.cell 3
    have j4 := R9.cell 4
    have j5 := R9.cell 5
    have j6 := R9.cell 6
    have BZ := Lib.hid (below_put7 H3.out.below (Nat.le_succ _) (.int .i64 x0) (.int .i64 x1) (.int .i64 x2) (.int .i64 x3) (.int .i64 1) (.string y5) (.string x6))
    clear R9
    go_region
    all_goals
      go_wp2_with fail
      exact bodyPost_ret (v := .tuple #[.agg #[.int .i64 x0, .int .i64 x1, .int .i64 x2, .int .i64 x3, .int .i64 1, .string y5, .string x6], .string y5]) (by simp [results, Tryz.results34, go_sem, j0, j1, j2, j3, j4, j5, j6]) rfl (by exact ⟨rfl, BZ.out.drew⟩)

end Go.Proofs.YtkjjdoadjhjmbauGreatDoor
