/-
  The program's Proof, and what a greeter signs.
  Whether a greeter is made, and what Hello answers, in plain words.
  The program's hellos: how one is written, what number one has, whether a text is one of a Role.
  What is heard, and the keys of a greeter, in plain words; no program is spoken of here.
-/
import Derived.Test.YtkjjdoadjhjmbauGreatDoorJ08
import Derived.Test.YtkjjdoadjhjmbauGreatDoorJ15
import Derived.Test.YtkjjdoadjhjmbauGreatDoorJ23
import Derived.Test.YtkjjdoadjhjmbauGreatDoorJ16
import Derived.Test.YtkjjdoadjhjmbauGreatDoorJ04
import Derived.Test.YtkjjdoadjhjmbauGreatDoorJ09
import Derived.Test.YtkjjdoadjhjmbauGreatDoorJ22
namespace Go.Proofs.YtkjjdoadjhjmbauGreatDoor
open Go.RowKit

set_option maxRecDepth 100000 in
set_option maxHeartbeats 800000 in
theorem signedBy_any (HG : CloneG) (G : Nat) (role : Int) (x0 x1 x2 x3 x4 : Int) (x5 x6 : ByteArray) (h5 : x5.size ≤ 10000000) (h6 : x6.size ≤ 10000000) (w : World) (hv : VarA G GreeterT #[.int .i64 x0, .int .i64 x1, .int .i64 x2, .int .i64 x3, .int .i64 x4, .string x5, .string x6] w) :
    Calls Tryz.prog 76 #[.pointer (some ⟨G, 0, none⟩), .int .i64 role] w fun e w' => e = .returned (.string (transB x0 x5 x6 ++ oneB role)) ∧ Below w.heap.size w w' := by
  have e0 : w.cell? ⟨G, 0, none⟩ = some (.int .i64 x0) := hv.cell 0
  have e1 : w.cell? ⟨G, 1, none⟩ = some (.int .i64 x1) := hv.cell 1
  have e2 : w.cell? ⟨G, 2, none⟩ = some (.int .i64 x2) := hv.cell 2
  have e3 : w.cell? ⟨G, 3, none⟩ = some (.int .i64 x3) := hv.cell 3
  have e4 : w.cell? ⟨G, 4, none⟩ = some (.int .i64 x4) := hv.cell 4
  have e5 : w.cell? ⟨G, 5, none⟩ = some (.string x5) := hv.cell 5
  have e6 : w.cell? ⟨G, 6, none⟩ = some (.string x6) := hv.cell 6
  have K1 := Lib.hid (implTranscript_any HG x0 x1 x2 x3 x4 x5 x6 h5 h6 w)
  obtain ⟨tr, TR⟩ : ∃ b, Hid (transB x0 x5 x6 = b) := ⟨_, Lib.hid rfl⟩
  have zt : tr.size ≤ 20000000 := by rw [← TR.out, trans_size]; omega
  rw [TR.out] at K1 ⊢
  obtain ⟨ob, OB⟩ : ∃ b, Hid (oneB role = b) := ⟨_, Lib.hid rfl⟩
  have zo : ob.size = 1 := by rw [← OB.out]; rfl
  have m1 : ∀ X, (Op.stringOp .add tr ob).run Tryz.prog X = .ok (.string (tr ++ ob)) X := fun X => run_string_add_sum X tr ob (by omega)
  rw [OB.out]
  clear hv h5 h6 zt zo
  go_enter Tryz.func76, Tryz.ntmps76
  go_wp2_with fail
  refine K1.out.mono ?_
  rintro e Y1 ⟨rfl, hb⟩
  have B1 := Lib.hid hb
  have K2 := Lib.hid (roleByte_any role Y1)
  rw [OB.out] at K2
  clear hb K1 e0 e1 e2 e3 e4 e5 e6
  go_wp2_with fail
  refine K2.out.mono ?_
  rintro e Y2 ⟨rfl, hb⟩
  have B2 := Lib.hid (B1.out.trans (hb.mono B1.out.size))
  clear hb K2
  go_wp2_with fail
  go_ret
  exact ⟨rfl, B2.out⟩

/-- The program's SignText at every number. -/
theorem implSign_is (secret : Int) (m : ByteArray) (E S : Nat) (h : SigIs secret m E S) (hm : m.size ≤ 300000000) (w : World) (hK : LaidK w) :
    Calls Tryz.prog 75 #[.int .i64 secret, .string m] w fun e w' => (∃ ok, e = .returned (.tuple #[.agg #[.int .i64 (E : Nat), .int .i64 (S : Nat)], .bool ok])) ∧ Below w.heap.size w w' := by
  rcases h with ⟨⟨h1, h2⟩, rfl, rfl⟩ | ⟨h, rfl, rfl⟩
  · obtain ⟨k, rfl⟩ : ∃ k : Nat, secret = k := ⟨secret.toNat, by omega⟩
    refine (implSignText_yes k m (by omega) (by omega) hm w hK).mono ?_
    rintro e w1 ⟨rfl, hb⟩
    exact ⟨⟨true, rfl⟩, hb⟩
  · refine (implSignText_no secret m (by unfold SecretIn at h; omega) w).mono ?_
    rintro e w1 ⟨rfl, hb⟩
    exact ⟨⟨false, rfl⟩, hb⟩
theorem isig_new {V X : World} {E S : Value} (hb : Below V.heap.size V X) : VarA X.heap.size SigT #[E, S] (X.alloc (.cells #[E, S] SigT)) ∧ Below V.heap.size V (X.alloc (.cells #[E, S] SigT)) := ⟨VarA.new X SigT _, hb.alloc hb.size _⟩
theorem isig_set {V X : World} {G : Nat} {q0 q1 E S : Value} (rr : VarA G SigT #[q0, q1] X) (hG : V.heap.size ≤ G) (hb : Below V.heap.size V X) : VarA G SigT #[E, S] ((X.setCell ⟨G, 0, none⟩ E).setCell ⟨G, 1, none⟩ S) ∧ Below V.heap.size V ((X.setCell ⟨G, 0, none⟩ E).setCell ⟨G, 1, none⟩ S) :=
  ⟨(rr.set 0 _).set 1 _, (hb.setCell (p := ⟨G, 0, none⟩) hG _).setCell (p := ⟨G, 1, none⟩) hG _⟩

set_option maxRecDepth 100000 in
set_option maxHeartbeats 3200000 in
theorem implProof_any (HG : CloneG) (x0 x1 x2 x3 x4 : Int) (x5 x6 : ByteArray) (h5 : x5.size ≤ 10000000) (h6 : x6.size ≤ 10000000) (t : ByteArray) (ht : ProofIs x0 x1 x4 x5 x6 t) (w : World) (hK0 : LaidK w) :
    Calls Tryz.prog 64 #[.agg #[.int .i64 x0, .int .i64 x1, .int .i64 x2, .int .i64 x3, .int .i64 x4, .string x5, .string x6]] w fun e w' => e = .returned (.string t) ∧ Below w.heap.size w w' := by
  have A0 := Lib.hid (VarA.new w GreeterT #[.int .i64 x0, .int .i64 x1, .int .i64 x2, .int .i64 x3, .int .i64 x4, .string x5, .string x6])
  have B0 := Lib.hid ((Below.refl w.heap.size w).alloc (Nat.le_refl _) (.cells #[.int .i64 x0, .int .i64 x1, .int .i64 x2, .int .i64 x3, .int .i64 x4, .string x5, .string x6] GreeterT))
  have HK := Lib.hid (hK0.stays B0.out (Nat.le_refl _))
  clear hK0
  go_enter Tryz.func64, Tryz.ntmps64
  go_upto_region 1 with fail
  generalize w.alloc (.cells #[.int .i64 x0, .int .i64 x1, .int .i64 x2, .int .i64 x3, .int .i64 x4, .string x5, .string x6] GreeterT) = Y0 at *
  have c4 : Y0.cell? ⟨w.heap.size, 4, none⟩ = some (.int .i64 x4) := A0.out.cell 4
  have K0 := Lib.hid (stepOf_any x4 Y0)
  have TA1 := assertHeard_Heard
  have TA2 := assertHeard_Up
  have TA3 := assertHeard_New
  have TA4 := assertHeard_Said
  have TA5 := assertHeard_Bad
  have TB1 := assertUp_Heard
  have TB2 := assertUp_Up
  have TB3 := assertUp_New
  have TB4 := assertUp_Said
  have TB5 := assertUp_Bad
  rcases ht with ⟨hst, E, S, hsig, ht⟩ | ⟨hst, rfl⟩
  rotate_left
  · have hN : stepT x4 = StNewT ∨ stepT x4 = StSaidT ∨ stepT x4 = StBadT := by
      unfold stepT
      split
      · exact .inl rfl
      · split
        · exact .inr (.inl rfl)
        · rw [if_neg (fun e => hst (.inl e)), if_neg (fun e => hst (.inr e))]
          exact .inr (.inr rfl)
    clear hst
    go_wp2_with fail
    refine K0.out.mono ?_
    rintro e Y2 ⟨rfl, rfl⟩
    clear K0
    rcases hN with h | h | h
    all_goals
      rw [h]
      clear h
      go_wp2_with fail
      go_ret
      exact ⟨rfl, B0.out⟩
  have HT := Lib.hid ht
  have HSIG := Lib.hid hsig
  obtain ⟨hE, hSS⟩ := sig_lt hsig
  have hN : stepT x4 = StHeardT ∨ stepT x4 = StUpT := by
    rcases hst with rfl | rfl
    · exact .inl rfl
    · exact .inr rfl
  clear hst ht hsig
  generalize stepT x4 = T at K0 hN
  go_wp2_with fail
  refine K0.out.mono ?_
  rintro e Y2 ⟨rfl, hY⟩
  rw [hY]
  clear K0 hY
  go_upto_region 2 with fail
  go_cut [16] (fun z wx => z = .bool true ∧ wx = Y0)
  case first =>
    rcases hN with rfl | rfl
    all_goals
      go_wp2_with fail
      go_meet
      exact ⟨rfl, rfl⟩
  case rest =>
    obtain ⟨rfl, hwc⟩ := hcut
    have hwc' := hwc.symm
    subst hwc'
    clear hwc c4 hN TA1 TA2 TA3 TA4 TA5 TB1 TB2 TB3 TB4 TB5
    obtain ⟨m, HM⟩ : ∃ b, Hid (b = transB x0 x5 x6 ++ oneB x0) := ⟨_, Lib.hid rfl⟩
    have zm : m.size ≤ 300000000 := by rw [HM.out, ByteArray.size_append, trans_size]; show _ + 1 ≤ _; omega
    have hgw : w.heap.size < Y0.heap.size := A0.out.lt
    have F0 := Lib.hid (sbg_of A0.out)
    have E0 := Lib.hid (sbg_drew F0.out)
    have KT : Hid (∀ X, (X.cell? ⟨w.heap.size, 0, none⟩ = some (.int .i64 x0) ∧ X.cell? ⟨w.heap.size, 1, none⟩ = some (.int .i64 x1) ∧ X.cell? ⟨w.heap.size, 2, none⟩ = some (.int .i64 x2) ∧ X.cell? ⟨w.heap.size, 3, none⟩ = some (.int .i64 x3) ∧ X.cell? ⟨w.heap.size, 4, none⟩ = some (.int .i64 x4) ∧ X.cell? ⟨w.heap.size, 5, none⟩ = some (.string x5) ∧ X.cell? ⟨w.heap.size, 6, none⟩ = some (.string x6) ∧ Below Y0.heap.size Y0 X) → Calls Tryz.prog 76 #[.pointer (some ⟨w.heap.size, 0, none⟩), .int .i64 x0] X fun e Y => e = .returned (.string m) ∧ (Y.cell? ⟨w.heap.size, 0, none⟩ = some (.int .i64 x0) ∧ Y.cell? ⟨w.heap.size, 1, none⟩ = some (.int .i64 x1) ∧ Y.cell? ⟨w.heap.size, 2, none⟩ = some (.int .i64 x2) ∧ Y.cell? ⟨w.heap.size, 3, none⟩ = some (.int .i64 x3) ∧ Y.cell? ⟨w.heap.size, 4, none⟩ = some (.int .i64 x4) ∧ Y.cell? ⟨w.heap.size, 5, none⟩ = some (.string x5) ∧ Y.cell? ⟨w.heap.size, 6, none⟩ = some (.string x6) ∧ Below Y0.heap.size Y0 Y) ∧ Below X.heap.size X Y) := Lib.hid (fun X hX => by
      refine (signedBy_any HG w.heap.size x0 x0 x1 x2 x3 x4 x5 x6 h5 h6 X (A0.out.next hX.2.2.2.2.2.2.2)).mono ?_
      rintro e Y ⟨rfl, hb⟩
      exact ⟨by rw [HM.out], sbg_next hX hb, hb⟩)
    have KS : Hid (∀ X, (X.cell? ⟨w.heap.size, 0, none⟩ = some (.int .i64 x0) ∧ X.cell? ⟨w.heap.size, 1, none⟩ = some (.int .i64 x1) ∧ X.cell? ⟨w.heap.size, 2, none⟩ = some (.int .i64 x2) ∧ X.cell? ⟨w.heap.size, 3, none⟩ = some (.int .i64 x3) ∧ X.cell? ⟨w.heap.size, 4, none⟩ = some (.int .i64 x4) ∧ X.cell? ⟨w.heap.size, 5, none⟩ = some (.string x5) ∧ X.cell? ⟨w.heap.size, 6, none⟩ = some (.string x6) ∧ Below Y0.heap.size Y0 X) → Calls Tryz.prog 75 #[.int .i64 x1, .string m] X fun e Y => (∃ ok, e = .returned (.tuple #[.agg #[.int .i64 (E : Nat), .int .i64 (S : Nat)], .bool ok])) ∧ (Y.cell? ⟨w.heap.size, 0, none⟩ = some (.int .i64 x0) ∧ Y.cell? ⟨w.heap.size, 1, none⟩ = some (.int .i64 x1) ∧ Y.cell? ⟨w.heap.size, 2, none⟩ = some (.int .i64 x2) ∧ Y.cell? ⟨w.heap.size, 3, none⟩ = some (.int .i64 x3) ∧ Y.cell? ⟨w.heap.size, 4, none⟩ = some (.int .i64 x4) ∧ Y.cell? ⟨w.heap.size, 5, none⟩ = some (.string x5) ∧ Y.cell? ⟨w.heap.size, 6, none⟩ = some (.string x6) ∧ Below Y0.heap.size Y0 Y) ∧ Below X.heap.size X Y) := Lib.hid (fun X hX => by
      refine (implSign_is x1 m E S (by rw [HM.out]; exact HSIG.out) zm X (HK.out.stays hX.2.2.2.2.2.2.2 (Nat.le_refl _))).mono ?_
      rintro e Y ⟨hx, hb⟩
      exact ⟨hx, sbg_next hX hb, hb⟩)
    clear zm
    go_wp2_with fail
    go_cut [3] (fun z wx => ∃ gu, z = .pointer (some ⟨gu, 0, none⟩) ∧ VarA gu SigT #[.int .i64 (E : Nat), .int .i64 (S : Nat)] wx ∧ Below Y0.heap.size Y0 wx)
    case first =>
      go_region_held3 (fun X => X.cell? ⟨w.heap.size, 0, none⟩ = some (.int .i64 x0) ∧ X.cell? ⟨w.heap.size, 1, none⟩ = some (.int .i64 x1) ∧ X.cell? ⟨w.heap.size, 2, none⟩ = some (.int .i64 x2) ∧ X.cell? ⟨w.heap.size, 3, none⟩ = some (.int .i64 x3) ∧ X.cell? ⟨w.heap.size, 4, none⟩ = some (.int .i64 x4) ∧ X.cell? ⟨w.heap.size, 5, none⟩ = some (.string x5) ∧ X.cell? ⟨w.heap.size, 6, none⟩ = some (.string x6) ∧ Below Y0.heap.size Y0 X) (first | (with_reducible assumption) | (with_reducible exact E0.out) | (with_reducible exact sbg_drew (sbg_alloc F0.out _)) | (with_reducible exact sbg_alloc F0.out _) | (with_reducible exact sbg_drew (by assumption)) | (with_reducible exact sbg_alloc (by assumption) _) | (with_reducible exact sbg_alloc E0.out _) | (with_reducible exact sbg_drew (sbg_alloc (by assumption) _)) | (exact sbg_store2 (by assumption) (by omega) hgw _ _)) (first | (go_at_call 76; refine (KT.out _ (by assumption)).mono ?_; rintro e v1 ⟨rfl, hS, hb⟩; (first | (have rr := VarA.next rr hb) | (have rr := VarA.next (VarA.drew rr) hb) | (have rr := VarA.next (VarA.new _ SigT #[Value.int .i64 0, Value.int .i64 0]) hb) | (have rr := VarA.next (VarA.drew (VarA.new _ SigT #[Value.int .i64 0, Value.int .i64 0])) hb) | skip); (first | (have r0 := rr.cell 0; have r1 := rr.cell 1; have g0 := rr.free 0; have g1 := rr.free 1) | skip); have hz := hS.2.2.2.2.2.2.2.size) | (go_at_call 75; refine (KS.out _ (by assumption)).mono ?_; rintro e v1 ⟨⟨ok, rfl⟩, hS, hb⟩; (first | (have rr := VarA.next rr hb) | (have rr := VarA.next (VarA.drew rr) hb) | (have rr := VarA.next (VarA.new _ SigT #[Value.int .i64 0, Value.int .i64 0]) hb) | (have rr := VarA.next (VarA.drew (VarA.new _ SigT #[Value.int .i64 0, Value.int .i64 0])) hb) | skip); (first | (have r0 := rr.cell 0; have r1 := rr.cell 1; have g0 := rr.free 0; have g1 := rr.free 1) | skip); have hz := hS.2.2.2.2.2.2.2.size))
      all_goals
        go_wp2_with fail
        go_meet
        first | exact ⟨_, rfl, isig_new hS.2.2.2.2.2.2.2⟩ | exact ⟨_, rfl, isig_set rr (by omega) hS.2.2.2.2.2.2.2⟩
    case rest =>
      obtain ⟨gu, rfl, hv, hbw⟩ := hcut
      have r0 := hv.cell 0
      have r1 := hv.cell 1
      have HB := Lib.hid (B0.out.trans (hbw.mono B0.out.size))
      have KG := Lib.hid (implSigText_yes E S hE hSS wc)
      clear hv hbw KT KS E0 F0
      go_wp2_with fail
      refine KG.out.mono ?_
      rintro e w2 ⟨rfl, hb⟩
      have HB2 := Lib.hid (HB.out.trans (hb.mono HB.out.size))
      clear hb KG
      obtain ⟨sg, SG⟩ : ∃ b, Hid (b = numB E ++ numB S) := ⟨_, Lib.hid rfl⟩
      rw [← SG.out]
      have zs : sg.size = 8 := by rw [SG.out]; rfl
      have zp : (⟨#[112]⟩ : ByteArray).size = 1 := rfl
      have s2 : ¬ (9223372036854775807 < (⟨#[112]⟩ : ByteArray).size + sg.size) := by omega
      go_wp2_with fail
      go_ret
      exact ⟨ret_t (by rw [HT.out, SG.out]), HB2.out⟩

end Go.Proofs.YtkjjdoadjhjmbauGreatDoor
namespace Go.Proofs.YtkjjdoadjhjmbauGreatDoor
open Go.RowKit

/-- Whether a greeter is made. -/
def NewP (role pin : Int) : Prop := (1 ≤ role ∧ role ≤ 2) ∧ inGroup pin = true
/-- What Hello answers. -/
def HelloIs (x0 x3 x4 : Int) (x5 : ByteArray) (y4 : Int) (y5 t : ByteArray) : Prop := (x4 = 0 ∧ y4 = 1 ∧ ∃ p, PubIs x3 p ∧ y5 = helloB x0 p ∧ t = y5) ∨ (x4 ≠ 0 ∧ y4 = x4 ∧ y5 = x5 ∧ t = ⟨#[]⟩)
theorem hello_is (x0 x3 x4 : Int) (x5 : ByteArray) : ∃ y4 y5 t, HelloIs x0 x3 x4 x5 y4 y5 t := by
  by_cases h : x4 = 0
  · obtain ⟨p, hp⟩ := pub_is x3
    exact ⟨_, _, _, .inl ⟨h, rfl, p, hp, rfl, rfl⟩⟩
  · exact ⟨_, _, _, .inr ⟨h, rfl, rfl, rfl⟩⟩

end Go.Proofs.YtkjjdoadjhjmbauGreatDoor
namespace Go.Proofs.YtkjjdoadjhjmbauGreatDoor
open Go.RowKit

theorem implPublic_any (s : Int) (p : Nat) (h : PubIs s p) (w : World) : Calls Tryz.prog 55 #[.int .i64 s] w fun e w' => e = .returned (.int .i64 (p : Nat)) ∧ Below w.heap.size w w' := by
  rcases h with ⟨⟨h1, h2⟩, rfl⟩ | ⟨h, rfl⟩
  · obtain ⟨k, rfl⟩ : ∃ k : Nat, s = k := ⟨s.toNat, by omega⟩
    exact implPublicOf_yes k (by omega) (by omega) w
  · exact implPublicOf_no s (by unfold SecretIn at h; omega) w

set_option maxRecDepth 100000 in
set_option maxHeartbeats 800000 in
theorem helloText_any (role : Int) (p : Nat) (hp : p < 4294967296) (w : World) :
    Calls Tryz.prog 73 #[.int .i64 role, .int .i64 (p : Nat)] w fun e w' => e = .returned (.string (helloB role p)) ∧ Below w.heap.size w w' := by
  obtain ⟨ob, OB⟩ : ∃ b, Hid (b = oneB role) := ⟨_, Lib.hid rfl⟩
  obtain ⟨nb, NB⟩ : ∃ b, Hid (b = numB p) := ⟨_, Lib.hid rfl⟩
  obtain ⟨y5, HM⟩ : ∃ b, Hid (b = helloB role p) := ⟨_, Lib.hid rfl⟩
  have hm : (⟨#[104]⟩ : ByteArray) ++ ob ++ nb = y5 := by rw [OB.out, NB.out, HM.out]; rfl
  have zo : ob.size = 1 := by rw [OB.out]; rfl
  have zn : nb.size = 4 := by rw [NB.out]; rfl
  have zh : (⟨#[104]⟩ : ByteArray).size = 1 := rfl
  have m1 : ∀ X, (Op.stringOp .add (⟨#[104]⟩ : ByteArray) ob).run Tryz.prog X = .ok (.string ((⟨#[104]⟩ : ByteArray) ++ ob)) X := fun X => run_string_add_sum X _ ob (by rw [zh]; omega)
  have m2 : ∀ X, (Op.stringOp .add ((⟨#[104]⟩ : ByteArray) ++ ob) nb).run Tryz.prog X = .ok (.string ((⟨#[104]⟩ : ByteArray) ++ ob ++ nb)) X := fun X => run_string_add_sum X _ nb (by rw [ByteArray.size_append, zh]; omega)
  rw [hm] at m2
  clear hm zo zn zh
  have K1 := Lib.hid (roleByte_any role w)
  rw [← OB.out] at K1
  rw [← HM.out]
  go_enter Tryz.func73, Tryz.ntmps73
  go_wp2_with fail
  refine K1.out.mono ?_
  rintro e Y1 ⟨rfl, hb⟩
  have B1 := Lib.hid hb
  have K2 := Lib.hid (implNumberText_yes p hp Y1)
  rw [show (⟨(four p).toArray⟩ : ByteArray) = numB p from rfl, ← NB.out] at K2
  clear hb K1
  go_wp2_with fail
  refine K2.out.mono ?_
  rintro e Y2 ⟨rfl, hb⟩
  have B2 := Lib.hid (B1.out.trans (hb.mono B1.out.size))
  clear hb K2
  go_wp2_with fail
  go_ret
  exact ⟨rfl, B2.out⟩

/-- The other Role of a right one. -/
theorem otherRole_any (role : Int) (h : role = 1 ∨ role = 2) (w : World) : Calls Tryz.prog 62 #[.int .i64 role] w fun e w' => e = .returned (.int .i64 (3 - role)) ∧ w' = w := by
  rcases h with rfl | rfl
  · go_enter Tryz.func62, Tryz.ntmps62
    go_wp2_with fail
    go_ret
    exact ⟨rfl, rfl⟩
  · go_enter Tryz.func62, Tryz.ntmps62
    go_wp2_with fail
    go_ret
    exact ⟨rfl, rfl⟩

/-- The number that stands behind two bytes of a text, 0 without one. -/
def helloN (s : ByteArray) : Nat := if s.size = 6 then fourBack (s.extract 2 6).data.toList else 0

set_option maxRecDepth 100000 in
set_option maxHeartbeats 800000 in
theorem helloNumber_any (s : ByteArray) (hs : s.size ≤ 100000000) (w : World) :
    Calls Tryz.prog 74 #[.string s] w fun e w' => e = .returned (.int .i64 (helloN s : Nat)) ∧ Below w.heap.size w w' := by
  obtain ⟨n, HN⟩ : ∃ n, Hid (helloN s = n) := ⟨_, Lib.hid rfl⟩
  rw [HN.out]
  by_cases h2 : s.size < 2
  · have k1 : (s.size : Int) < 2 := by omega
    obtain rfl : n = 0 := by rw [← HN.out]; unfold helloN; rw [if_neg (by omega)]
    clear h2
    go_enter Tryz.func74, Tryz.ntmps74
    go_wp2_with fail
    go_ret
    exact ⟨rfl, Below.refl _ _⟩
  have k1 : ¬ ((s.size : Int) < 2) := by omega
  have k2 : (2 : Int) ≤ (s.size : Int) := by omega
  obtain ⟨p4, hp4⟩ : ∃ x, s.extract 2 s.size = x := ⟨_, rfl⟩
  have z4 : p4.size = s.size - 2 := by rw [← hp4, ByteArray.size_extract]; omega
  by_cases h6 : s.size = 6
  · have hn : n = fourBack p4.data.toList := by rw [← HN.out, ← hp4]; unfold helloN; rw [if_pos h6, h6]
    have K := Lib.hid (implReadNumber_yes p4 (by omega) w)
    rw [← hn] at K
    clear h6 hn z4 h2
    go_enter Tryz.func74, Tryz.ntmps74
    go_wp2_with fail
    refine K.out.mono ?_
    rintro e Y1 ⟨rfl, hb⟩
    clear K
    go_wp2_with fail
    go_ret
    exact ⟨rfl, hb⟩
  · obtain rfl : n = 0 := by rw [← HN.out]; unfold helloN; rw [if_neg h6]
    have K := Lib.hid (implReadNumber_no p4 (by omega) w)
    clear h6 z4 h2
    go_enter Tryz.func74, Tryz.ntmps74
    go_wp2_with fail
    refine K.out.mono ?_
    rintro e Y1 ⟨rfl, rfl⟩
    clear K
    go_wp2_with fail
    go_ret
    exact ⟨rfl, Below.refl _ _⟩

end Go.Proofs.YtkjjdoadjhjmbauGreatDoor
namespace Go.Proofs.YtkjjdoadjhjmbauGreatDoor
open Go.RowKit

/-- Whether a text is a right proof of the one whose public number is pin. -/
def CheckIs (role pin : Int) (mine yours s : ByteArray) (b : Bool) : Prop :=
  b = true ↔ ∃ E S : Nat, E < 1073741789 ∧ S < 1073741789 ∧ s = (⟨#[112]⟩ : ByteArray) ++ (numB E ++ numB S) ∧ inGroup pin = true ∧ E = chalP (backP pin.toNat E S) pin.toNat (transB role mine yours ++ oneB (3 - role))
theorem check_is (role pin : Int) (mine yours s : ByteArray) : ∃ b, CheckIs role pin mine yours s b := by
  unfold CheckIs
  by_cases h : ∃ E S : Nat, E < 1073741789 ∧ S < 1073741789 ∧ s = (⟨#[112]⟩ : ByteArray) ++ (numB E ++ numB S) ∧ inGroup pin = true ∧ E = chalP (backP pin.toNat E S) pin.toNat (transB role mine yours ++ oneB (3 - role))
  · exact ⟨true, ⟨fun _ => h, fun _ => rfl⟩⟩
  · exact ⟨false, ⟨fun e => (by cases e), fun e => absurd e h⟩⟩
/-- What a greeter becomes and answers that hears a text. -/
def HearIs (role secret pin step : Int) (mine yours s : ByteArray) (y4 : Int) (y6 t : ByteArray) : Prop :=
  (step = 1 ∧ ∃ n, OtherIs inGroup role s n true ∧ y4 = 2 ∧ y6 = s ∧ ProofIs role secret 2 mine s t) ∨
  (step = 1 ∧ (∃ n, OtherIs inGroup role s n false) ∧ y4 = 4 ∧ y6 = yours ∧ t = ⟨#[]⟩) ∨
  (step = 2 ∧ ∃ b, CheckIs role pin mine yours s b ∧ y4 = (if b then 3 else 4) ∧ y6 = yours ∧ t = ⟨#[]⟩) ∨
  (step ≠ 1 ∧ step ≠ 2 ∧ y4 = step ∧ y6 = yours ∧ t = ⟨#[]⟩)
theorem hear_is (role secret pin step : Int) (mine yours s : ByteArray) : ∃ y4 y6 t, HearIs role secret pin step mine yours s y4 y6 t := by
  by_cases h1 : step = 1
  · obtain ⟨n, ok, h⟩ := other_is inGroup role s
    cases ok with
    | true =>
      obtain ⟨t, ht⟩ := proof_is role secret 2 mine s
      exact ⟨_, _, t, .inl ⟨h1, n, h, rfl, rfl, ht⟩⟩
    | false => exact ⟨_, _, _, .inr (.inl ⟨h1, ⟨n, h⟩, rfl, rfl, rfl⟩)⟩
  · by_cases h2 : step = 2
    · obtain ⟨b, h⟩ := check_is role pin mine yours s
      exact ⟨_, _, _, .inr (.inr (.inl ⟨h2, b, h, rfl, rfl, rfl⟩))⟩
    · exact ⟨_, _, _, .inr (.inr (.inr ⟨h1, h2, rfl, rfl, rfl⟩))⟩
/-- Both keys in one text. -/
def keysB (role once : Int) (n : Nat) (mine yours : ByteArray) : ByteArray := ⟨(expandP (numB (powP n once.toNat)) (transB role mine yours) 64).toArray⟩
/-- Whether a greeter has keys. -/
def HasKeys (role once step : Int) (yours : ByteArray) (n : Nat) : Prop := step = 3 ∧ OtherIs inGroup role yours n true ∧ SecretIn once
/-- The keys of a greeter. -/
def KeysIs (role once step : Int) (mine yours snd opn : ByteArray) (ok : Bool) : Prop :=
  (∃ n, HasKeys role once step yours n ∧ ok = true ∧ ((role = 1 ∧ snd = (keysB role once n mine yours).extract 0 32 ∧ opn = (keysB role once n mine yours).extract 32 64) ∨ (role ≠ 1 ∧ snd = (keysB role once n mine yours).extract 32 64 ∧ opn = (keysB role once n mine yours).extract 0 32))) ∨
  ((¬ ∃ n, HasKeys role once step yours n) ∧ ok = false ∧ snd = ⟨#[]⟩ ∧ opn = ⟨#[]⟩)
theorem keys_is (role once step : Int) (mine yours : ByteArray) : ∃ s o ok, KeysIs role once step mine yours s o ok := by
  by_cases h : ∃ n, HasKeys role once step yours n
  · obtain ⟨n, h⟩ := h
    by_cases h1 : role = 1
    · exact ⟨_, _, _, .inl ⟨n, h, rfl, .inl ⟨h1, rfl, rfl⟩⟩⟩
    · exact ⟨_, _, _, .inl ⟨n, h, rfl, .inr ⟨h1, rfl, rfl⟩⟩⟩
  · exact ⟨_, _, _, .inr ⟨h, rfl, rfl, rfl⟩⟩
/-- The other one's hello is told by one number alone. -/
theorem other_one {role : Int} {s : ByteArray} {n m : Nat} {a b : Bool} (h : OtherIs inGroup role s n a) (g : OtherIs inGroup role s m b) : n = m ∧ a = b := by
  rcases h with ⟨r, h1, h2, h3, h4⟩ | ⟨h1, h2, h3⟩
  · rcases g with ⟨q, g1, g2, g3, g4⟩ | ⟨g1, -, -⟩
    · have e : r = q := by
        have h9 := h2.symm.trans g2
        exact ByteArray.append_right_inj _ |>.1 h9
      subst e
      exact ⟨h3.trans g3.symm, by rw [h4, g4, h3, g3]⟩
    · exact absurd h2 (g1 r h1)
  · rcases g with ⟨q, g1, g2, -, -⟩ | ⟨-, g2, g3⟩
    · exact absurd g2 (h1 q g1)
    · exact ⟨h2.trans g2.symm, h3.trans g3.symm⟩

end Go.Proofs.YtkjjdoadjhjmbauGreatDoor
