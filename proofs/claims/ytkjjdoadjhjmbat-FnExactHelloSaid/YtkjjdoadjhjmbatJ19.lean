/-
  The given Hello.
-/
import Derived.Test.YtkjjdoadjhjmbatJ18
import Derived.Test.YtkjjdoadjhjmbatJ15
import Derived.Test.YtkjjdoadjhjmbatJ12
import Derived.Test.YtkjjdoadjhjmbatJ16
namespace Go.Proofs.Ytkjjdoadjhjmbat
open Go.RowKit

/-- The greeter and the result in their variables. -/
structure HV (w : World) (x0 x1 x2 x3 x4 : Int) (m x6 : ByteArray) (X : World) : Prop where
  g : VarA w.heap.size GreeterT #[.int .i64 x0, .int .i64 x1, .int .i64 x2, .int .i64 x3, .int .i64 x4, .string m, .string x6] X
  r : VarA (w.heap.size + 1) GreeterT #[.int .i64 0, .int .i64 0, .int .i64 0, .int .i64 0, .int .i64 0, .string ⟨#[]⟩, .string ⟨#[]⟩] X
  below : Below w.heap.size w X
section
variable {w : World} {x0 x1 x2 x3 x4 : Int} {m x6 : ByteArray} {X Y : World}
theorem HV.next (h : HV w x0 x1 x2 x3 x4 m x6 X) (hb : Below X.heap.size X Y) : HV w x0 x1 x2 x3 x4 m x6 Y := ⟨h.g.next hb, h.r.next hb, h.below.trans (hb.mono h.below.size)⟩
theorem HV.mine (h : HV w x0 x1 x2 x3 x4 m x6 X) (t : ByteArray) : HV w x0 x1 x2 x3 x4 t x6 (X.setCell ⟨w.heap.size, 5, none⟩ (.string t)) := ⟨h.g.set 5 _, h.r.off 5 _ (by omega), h.below.setCell (p := ⟨w.heap.size, 5, none⟩) (Nat.le_refl _) _⟩
theorem HV.step (h : HV w x0 x1 x2 x3 x4 m x6 X) (k : Int) : HV w x0 x1 x2 x3 k m x6 (X.setCell ⟨w.heap.size, 4, none⟩ (.int .i64 k)) := ⟨h.g.set 4 _, h.r.off 4 _ (by omega), h.below.setCell (p := ⟨w.heap.size, 4, none⟩) (Nat.le_refl _) _⟩
end
theorem specPublic_any (s : Int) (p : Nat) (h : PubIs s p) (w : World) : Calls Try.prog 37 #[.int .i64 s] w fun e w' => e = .returned (.int .i64 (p : Nat)) ∧ w' = w := by
  rcases h with ⟨⟨h1, h2⟩, rfl⟩ | ⟨h, rfl⟩
  · obtain ⟨k, rfl⟩ : ∃ k : Nat, s = k := ⟨s.toNat, by omega⟩
    exact specPublicOf_yes k (by omega) (by omega) w
  · exact specPublicOf_no s (by unfold SecretIn at h; omega) w

set_option maxRecDepth 100000 in
set_option maxHeartbeats 3200000 in
theorem specHello_any (x0 x1 x2 x3 x4 : Int) (x5 x6 : ByteArray) (hx0 : -9223372036854775808 ≤ x0 ∧ x0 ≤ 9223372036854775807) (y4 : Int) (y5 t : ByteArray) (hh : HelloIs x0 x3 x4 x5 y4 y5 t) (w : World) :
    Calls Try.prog 14 #[.agg #[.int .i64 x0, .int .i64 x1, .int .i64 x2, .int .i64 x3, .int .i64 x4, .string x5, .string x6]] w fun e w' => e = .returned (.tuple #[.agg #[.int .i64 x0, .int .i64 x1, .int .i64 x2, .int .i64 x3, .int .i64 y4, .string y5, .string x6], .string t]) ∧ Below w.heap.size w w' := by
  have h2 := VarA.new (w.alloc (.cells #[.int .i64 x0, .int .i64 x1, .int .i64 x2, .int .i64 x3, .int .i64 x4, .string x5, .string x6] GreeterT)) GreeterT #[.int .i64 0, .int .i64 0, .int .i64 0, .int .i64 0, .int .i64 0, .string ⟨#[]⟩, .string ⟨#[]⟩]
  rw [show (w.alloc (.cells #[.int .i64 x0, .int .i64 x1, .int .i64 x2, .int .i64 x3, .int .i64 x4, .string x5, .string x6] GreeterT)).heap.size = w.heap.size + 1 by simp] at h2
  have H0 : Hid (HV w x0 x1 x2 x3 x4 x5 x6 ((w.alloc (.cells #[.int .i64 x0, .int .i64 x1, .int .i64 x2, .int .i64 x3, .int .i64 x4, .string x5, .string x6] GreeterT)).alloc (.cells #[.int .i64 0, .int .i64 0, .int .i64 0, .int .i64 0, .int .i64 0, .string ⟨#[]⟩, .string ⟨#[]⟩] GreeterT))) := Lib.hid ⟨(VarA.new w GreeterT _).alloc _, h2, ((Below.refl w.heap.size w).alloc (Nat.le_refl _) _).alloc (by simp) _⟩
  clear h2
  go_enter Try.func14, Try.ntmps14
  go_upto_region 1 with fail
  generalize (w.alloc (.cells #[.int .i64 x0, .int .i64 x1, .int .i64 x2, .int .i64 x3, .int .i64 x4, .string x5, .string x6] GreeterT)).alloc (.cells #[.int .i64 0, .int .i64 0, .int .i64 0, .int .i64 0, .int .i64 0, .string ⟨#[]⟩, .string ⟨#[]⟩] GreeterT) = Y0 at *
  have c4 : Y0.cell? ⟨w.heap.size, 4, none⟩ = some (.int .i64 x4) := H0.out.g.cell 4
  rcases hh with ⟨rfl, rfl, p, hp, hy, ht⟩ | ⟨hne, rfl, rfl, rfl⟩
  rotate_left
  · have k4 : (y4 != 0) = true := by rw [bne_iff_ne]; exact hne
    clear hne
    go_upto_region 2 with fail
    have e0 : Y0.cell? ⟨w.heap.size, 0, none⟩ = some (.int .i64 x0) := H0.out.g.cell 0
    have e1 : Y0.cell? ⟨w.heap.size, 1, none⟩ = some (.int .i64 x1) := H0.out.g.cell 1
    have e2 : Y0.cell? ⟨w.heap.size, 2, none⟩ = some (.int .i64 x2) := H0.out.g.cell 2
    have e3 : Y0.cell? ⟨w.heap.size, 3, none⟩ = some (.int .i64 x3) := H0.out.g.cell 3
    have e4 : Y0.cell? ⟨w.heap.size, 4, none⟩ = some (.int .i64 y4) := H0.out.g.cell 4
    have e5 : Y0.cell? ⟨w.heap.size, 5, none⟩ = some (.string y5) := H0.out.g.cell 5
    have e6 : Y0.cell? ⟨w.heap.size, 6, none⟩ = some (.string x6) := H0.out.g.cell 6
    have d0 : Y0.cell? ⟨w.heap.size + 1, 0, none⟩ = some (.int .i64 0) := H0.out.r.cell 0
    have d1 : Y0.cell? ⟨w.heap.size + 1, 1, none⟩ = some (.int .i64 0) := H0.out.r.cell 1
    have d2 : Y0.cell? ⟨w.heap.size + 1, 2, none⟩ = some (.int .i64 0) := H0.out.r.cell 2
    have d3 : Y0.cell? ⟨w.heap.size + 1, 3, none⟩ = some (.int .i64 0) := H0.out.r.cell 3
    have d4 : Y0.cell? ⟨w.heap.size + 1, 4, none⟩ = some (.int .i64 0) := H0.out.r.cell 4
    have d5 : Y0.cell? ⟨w.heap.size + 1, 5, none⟩ = some (.string ⟨#[]⟩) := H0.out.r.cell 5
    have d6 : Y0.cell? ⟨w.heap.size + 1, 6, none⟩ = some (.string ⟨#[]⟩) := H0.out.r.cell 6
    have f0 := H0.out.r.free 0
    have f1 := H0.out.r.free 1
    have f2 := H0.out.r.free 2
    have f3 := H0.out.r.free 3
    have f4 := H0.out.r.free 4
    have f5 := H0.out.r.free 5
    have f6 := H0.out.r.free 6
    have R9 := (((((((H0.out.r.set 0 (.int .i64 x0)).set 1 (.int .i64 x1)).set 2 (.int .i64 x2)).set 3 (.int .i64 x3)).set 4 (.int .i64 y4)).set 5 (.string y5)).set 6 (.string x6))
    have j0 := R9.cell 0
    have j1 := R9.cell 1
    have j2 := R9.cell 2
    have j3 := R9.cell 3
    have j4 := R9.cell 4
    have j5 := R9.cell 5
    have j6 := R9.cell 6
    have BZ := Lib.hid (((((((H0.out.below.setCell (p := ⟨w.heap.size + 1, 0, none⟩) (Nat.le_succ _) (.int .i64 x0)).setCell (p := ⟨w.heap.size + 1, 1, none⟩) (Nat.le_succ _) (.int .i64 x1)).setCell (p := ⟨w.heap.size + 1, 2, none⟩) (Nat.le_succ _) (.int .i64 x2)).setCell (p := ⟨w.heap.size + 1, 3, none⟩) (Nat.le_succ _) (.int .i64 x3)).setCell (p := ⟨w.heap.size + 1, 4, none⟩) (Nat.le_succ _) (.int .i64 y4)).setCell (p := ⟨w.heap.size + 1, 5, none⟩) (Nat.le_succ _) (.string y5)).setCell (p := ⟨w.heap.size + 1, 6, none⟩) (Nat.le_succ _) (.string x6))
    clear R9
    go_wp2_with fail
    exact bodyPost_ret (v := .tuple #[.agg #[.int .i64 x0, .int .i64 x1, .int .i64 x2, .int .i64 x3, .int .i64 y4, .string y5, .string x6], .string ⟨#[]⟩]) (by simp [results, Try.results14, go_sem, j0, j1, j2, j3, j4, j5, j6]) rfl (by exact ⟨rfl, BZ.out⟩)
  have hpl := pub_lt hp
  have PP := Lib.hid hp
  have HM := Lib.hid hy
  have ht' := ht.symm
  subst ht'
  clear ht hy
  obtain ⟨ob, OB⟩ : ∃ b, Hid (b = oneB x0) := ⟨_, Lib.hid rfl⟩
  obtain ⟨nb, NB⟩ : ∃ b, Hid (b = numB p) := ⟨_, Lib.hid rfl⟩
  have hm : (⟨#[104]⟩ : ByteArray) ++ ob ++ nb = y5 := by rw [OB.out, NB.out, HM.out]; rfl
  have zo : ob.size = 1 := by rw [OB.out]; rfl
  have zn : nb.size = 4 := by rw [NB.out]; rfl
  have zh : (⟨#[104]⟩ : ByteArray).size = 1 := rfl
  have m1 : ∀ X, (Op.stringOp .add (⟨#[104]⟩ : ByteArray) ob).run Try.prog X = .ok (.string ((⟨#[104]⟩ : ByteArray) ++ ob)) X := fun X => run_string_add_sum X _ ob (by rw [zh]; omega)
  have m2 : ∀ X, (Op.stringOp .add ((⟨#[104]⟩ : ByteArray) ++ ob) nb).run Try.prog X = .ok (.string ((⟨#[104]⟩ : ByteArray) ++ ob ++ nb)) X := fun X => run_string_add_sum X _ nb (by rw [ByteArray.size_append, zh]; omega)
  rw [hm] at m2
  clear hp hm zo zn zh
  have KB : Hid (∀ X, (X.cell? ⟨w.heap.size, 0, none⟩ = some (.int .i64 x0) ∧ X.cell? ⟨w.heap.size, 3, none⟩ = some (.int .i64 x3) ∧ ∃ q, HV w x0 x1 x2 x3 0 q x6 X) → Calls Try.prog 35 #[.int .i64 x0] X fun e Y => e = .returned (.string ob) ∧ (Y.cell? ⟨w.heap.size, 0, none⟩ = some (.int .i64 x0) ∧ Y.cell? ⟨w.heap.size, 3, none⟩ = some (.int .i64 x3) ∧ ∃ q, HV w x0 x1 x2 x3 0 q x6 Y)) := Lib.hid (fun X hX => by
    obtain ⟨_, _, q, hv⟩ := hX
    refine (specByteZ_any x0 hx0.1 hx0.2 X).mono ?_
    rintro e Y ⟨rfl, hb⟩
    have h9 := hv.next hb
    exact ⟨by rw [OB.out], h9.g.cell 0, h9.g.cell 3, q, h9⟩)
  have KP : Hid (∀ X, (X.cell? ⟨w.heap.size, 0, none⟩ = some (.int .i64 x0) ∧ X.cell? ⟨w.heap.size, 3, none⟩ = some (.int .i64 x3) ∧ ∃ q, HV w x0 x1 x2 x3 0 q x6 X) → Calls Try.prog 37 #[.int .i64 x3] X fun e Y => e = .returned (.int .i64 (p : Nat)) ∧ (Y.cell? ⟨w.heap.size, 0, none⟩ = some (.int .i64 x0) ∧ Y.cell? ⟨w.heap.size, 3, none⟩ = some (.int .i64 x3) ∧ ∃ q, HV w x0 x1 x2 x3 0 q x6 Y)) := Lib.hid (fun X hX => by
    refine (specPublic_any x3 p PP.out X).mono ?_
    rintro e Y ⟨rfl, rfl⟩
    exact ⟨rfl, hX⟩)
  have KN : Hid (∀ X, (X.cell? ⟨w.heap.size, 0, none⟩ = some (.int .i64 x0) ∧ X.cell? ⟨w.heap.size, 3, none⟩ = some (.int .i64 x3) ∧ ∃ q, HV w x0 x1 x2 x3 0 q x6 X) → Calls Try.prog 36 #[.int .i64 (p : Nat)] X fun e Y => e = .returned (.string nb) ∧ (Y.cell? ⟨w.heap.size, 0, none⟩ = some (.int .i64 x0) ∧ Y.cell? ⟨w.heap.size, 3, none⟩ = some (.int .i64 x3) ∧ ∃ q, HV w x0 x1 x2 x3 0 q x6 Y)) := Lib.hid (fun X hX => by
    obtain ⟨_, _, q, hv⟩ := hX
    refine (specNumberText_yes p hpl X).mono ?_
    rintro e Y ⟨rfl, hb⟩
    have h9 := hv.next hb
    exact ⟨by rw [NB.out]; rfl, h9.g.cell 0, h9.g.cell 3, q, h9⟩)
  have E0 : Hid (Y0.drew.cell? ⟨w.heap.size, 0, none⟩ = some (.int .i64 x0) ∧ Y0.drew.cell? ⟨w.heap.size, 3, none⟩ = some (.int .i64 x3) ∧ ∃ q, HV w x0 x1 x2 x3 0 q x6 Y0.drew) := Lib.hid (by
    have h9 := H0.out.next ((Below.refl _ _).drew)
    exact ⟨h9.g.cell 0, h9.g.cell 3, _, h9⟩)
  have SS : Hid (∀ X, (X.cell? ⟨w.heap.size, 0, none⟩ = some (.int .i64 x0) ∧ X.cell? ⟨w.heap.size, 3, none⟩ = some (.int .i64 x3) ∧ ∃ q, HV w x0 x1 x2 x3 0 q x6 X) → ((X.setCell ⟨w.heap.size, 5, none⟩ (.string y5)).cell? ⟨w.heap.size, 0, none⟩ = some (.int .i64 x0) ∧ (X.setCell ⟨w.heap.size, 5, none⟩ (.string y5)).cell? ⟨w.heap.size, 3, none⟩ = some (.int .i64 x3) ∧ ∃ q, HV w x0 x1 x2 x3 0 q x6 (X.setCell ⟨w.heap.size, 5, none⟩ (.string y5)))) := Lib.hid (fun X hX => by
    obtain ⟨_, _, q, hv⟩ := hX
    have h9 := hv.mine y5
    exact ⟨h9.g.cell 0, h9.g.cell 3, _, h9⟩)
  go_wp2_with fail
  go_cut [] (fun wx => Hid (HV w x0 x1 x2 x3 0 y5 x6 wx))
  case first =>
    go_region_held3 (fun X => X.cell? ⟨w.heap.size, 0, none⟩ = some (.int .i64 x0) ∧ X.cell? ⟨w.heap.size, 3, none⟩ = some (.int .i64 x3) ∧ ∃ q, HV w x0 x1 x2 x3 0 q x6 X) (first | (with_reducible assumption) | (with_reducible exact E0.out) | (exact SS.out _ (by assumption))) (first | (go_at_call 35; refine (KB.out _ (by assumption)).mono ?_; rintro e v1 ⟨rfl, hS⟩; (obtain ⟨_, _, q, hv⟩ := id hS; have s5 := hv.g.cell 5; have s6 := hv.g.free 5)) | (go_at_call 37; refine (KP.out _ (by assumption)).mono ?_; rintro e v1 ⟨rfl, hS⟩; (obtain ⟨_, _, q, hv⟩ := id hS; have s5 := hv.g.cell 5; have s6 := hv.g.free 5)) | (go_at_call 36; refine (KN.out _ (by assumption)).mono ?_; rintro e v1 ⟨rfl, hS⟩; (obtain ⟨_, _, q, hv⟩ := id hS; have s5 := hv.g.cell 5; have s6 := hv.g.free 5)))
    all_goals
      go_wp2_with fail
      go_meet
      exact Lib.hid (hv.mine y5)
  case rest =>
    have c4 : wc.cell? ⟨w.heap.size, 4, none⟩ = some (.int .i64 0) := hcut.out.g.cell 4
    have f4 := hcut.out.g.free 4
    have H3 := Lib.hid (hcut.out.step 1)
    clear KB KP KN E0 SS hcut H0
    go_upto_region 5 with fail
    generalize wc.setCell ⟨w.heap.size, 4, none⟩ (.int .i64 1) = V2 at *
    clear c4 f4
    have e0 : V2.cell? ⟨w.heap.size, 0, none⟩ = some (.int .i64 x0) := H3.out.g.cell 0
    have e1 : V2.cell? ⟨w.heap.size, 1, none⟩ = some (.int .i64 x1) := H3.out.g.cell 1
    have e2 : V2.cell? ⟨w.heap.size, 2, none⟩ = some (.int .i64 x2) := H3.out.g.cell 2
    have e3 : V2.cell? ⟨w.heap.size, 3, none⟩ = some (.int .i64 x3) := H3.out.g.cell 3
    have e4 : V2.cell? ⟨w.heap.size, 4, none⟩ = some (.int .i64 1) := H3.out.g.cell 4
    have e5 : V2.cell? ⟨w.heap.size, 5, none⟩ = some (.string y5) := H3.out.g.cell 5
    have e6 : V2.cell? ⟨w.heap.size, 6, none⟩ = some (.string x6) := H3.out.g.cell 6
    have d0 : V2.cell? ⟨(w.heap.size + 1), 0, none⟩ = some (.int .i64 0) := H3.out.r.cell 0
    have d1 : V2.cell? ⟨(w.heap.size + 1), 1, none⟩ = some (.int .i64 0) := H3.out.r.cell 1
    have d2 : V2.cell? ⟨(w.heap.size + 1), 2, none⟩ = some (.int .i64 0) := H3.out.r.cell 2
    have d3 : V2.cell? ⟨(w.heap.size + 1), 3, none⟩ = some (.int .i64 0) := H3.out.r.cell 3
    have d4 : V2.cell? ⟨(w.heap.size + 1), 4, none⟩ = some (.int .i64 0) := H3.out.r.cell 4
    have d5 : V2.cell? ⟨(w.heap.size + 1), 5, none⟩ = some (.string ⟨#[]⟩) := H3.out.r.cell 5
    have d6 : V2.cell? ⟨(w.heap.size + 1), 6, none⟩ = some (.string ⟨#[]⟩) := H3.out.r.cell 6
    have f0 := (H3.out.r).free 0
    have f1 := (H3.out.r).free 1
    have f2 := (H3.out.r).free 2
    have f3 := (H3.out.r).free 3
    have f4 := (H3.out.r).free 4
    have f5 := (H3.out.r).free 5
    have f6 := (H3.out.r).free 6
    have R9 := (H3.out.r).put7 (.int .i64 x0) (.int .i64 x1) (.int .i64 x2) (.int .i64 x3) (.int .i64 1) (.string y5) (.string x6)
    have j0 := R9.cell 0
    have j1 := R9.cell 1
    have j2 := R9.cell 2
    have j3 := R9.cell 3
    have j4 := R9.cell 4
    have j5 := R9.cell 5
    have j6 := R9.cell 6
    have BZ := Lib.hid (below_put7 H3.out.below (Nat.le_succ _) (.int .i64 x0) (.int .i64 x1) (.int .i64 x2) (.int .i64 x3) (.int .i64 1) (.string y5) (.string x6))
    clear R9
    go_region
    all_goals
      go_wp2_with fail
      exact bodyPost_ret (v := .tuple #[.agg #[.int .i64 x0, .int .i64 x1, .int .i64 x2, .int .i64 x3, .int .i64 1, .string y5, .string x6], .string y5]) (by simp [results, Try.results14, go_sem, j0, j1, j2, j3, j4, j5, j6]) rfl (by exact ⟨rfl, BZ.out.drew⟩)

end Go.Proofs.Ytkjjdoadjhjmbat
