/-
  The law on what is over, out of the program's contracts.
-/
import Derived.Test.YtphmomlgmnllkadJ40
namespace Go.Proofs.Ytphmomlgmnllkad
open Go.RowKit

set_option maxRecDepth 100000 in
theorem bigE_any (a : Option Addr) (len cap : Nat) (w : World) : Calls Try.prog 4 #[.slice a len cap] w fun e w' => e = .returned (.bool (decide (1048576 < (len : Int)))) ∧ w' = w := by
  go_enter Try.func4, Try.ntmps4
  go_wp2_with fail
  go_ret
  exact ⟨rfl, rfl⟩

abbrev LsT : TypeId := 37

/-- What the law on what is over holds while it goes on. -/
structure EW (w : World) (gp gn : Nat) (pa pn : Int) (la fa na ma ga : Option Addr) (lc fc nc mc gc : Nat) (ls ns : List Ls) (fs : List Fx) (gs : List Int) (X : World) : Prop where
  p : PoV gp pa pn (.slice la ls.length lc) (.slice fa fs.length fc) ls fs X
  n : PoV gn pa pn (.slice na ns.length nc) (.slice ma fs.length mc) ns fs X
  g : layIntS.rd X [.slice ga gs.length gc] gs
  below : Below w.heap.size w X
theorem EW.next {w : World} {gp gn : Nat} {pa pn : Int} {la fa na ma ga : Option Addr} {lc fc nc mc gc : Nat} {ls ns : List Ls} {fs : List Fx} {gs : List Int} {X Y : World} (h : EW w gp gn pa pn la fa na ma ga lc fc nc mc gc ls ns fs gs X) (hb : Below X.heap.size X Y) : EW w gp gn pa pn la fa na ma ga lc fc nc mc gc ls ns fs gs Y :=
  ⟨h.p.next hb, h.n.next hb, layIntS.below h.g hb, h.below.trans (hb.mono h.below.size)⟩

set_option maxRecDepth 100000 in
set_option maxHeartbeats 6400000 in
theorem lawExpiresF (L : World → Prop) (F : OverFns L) (a : Option Addr) (len cap : Nat) (w : World) (H : Src a len w) (ht : L w) :
    Calls Try.prog 3 #[.slice a len cap] w fun e w' => e = .returned (.bool true) ∧ Below w.heap.size w w' := by
  have hd : decide (1048576 < (len : Int)) = false := decide_eq_false (by have := H.few; omega)
  have HB := Lib.hid (fun w => bigE_any a len cap w)
  rw [hd] at HB
  have HS := Lib.hid H
  have HT : Hid (∀ X, Below w.heap.size w X → L X) := fun X hX => F.stays w X ht hX
  have HF := Lib.hid F
  clear H ht hd F
  go_enter Try.func3, Try.ntmps3
  go_wp2_with fail
  refine (HB.out _).mono ?_
  rintro e w0 ⟨rfl, hw0⟩
  have hw1 := hw0.symm
  subst hw1
  clear hw0
  go_wp2_with fail
  refine (drawPool_any a len cap _ HS.out).mono ?_
  rintro e w1 ⟨pa, pn, lv, fv, ls, fs, hP, rfl, hpo⟩
  obtain ⟨la, lc, rfl⟩ := rows_form hpo.pool.leases
  obtain ⟨fa, fc, rfl⟩ := rows_form hpo.pool.fixes
  have HP := Lib.hid hP
  have hl6 : ls.length ≤ 6 := hP.1.2.2.2.1
  have hf4 : fs.length ≤ 4 := hP.1.2.2.2.2
  have P1 := Lib.hid (PoV.new (pa := pa) (pn := pn) hpo)
  have B1 := Lib.hid (hpo.below.alloc hpo.below.size (.cells #[.int .i64 pa, .int .i64 pn, .slice la ls.length lc, .slice fa fs.length fc] PoolT))
  clear hpo hP HB
  go_upto_region 4 with fail
  generalize w1.alloc (.cells #[.int .i64 pa, .int .i64 pn, .slice la ls.length lc, .slice fa fs.length fc] PoolT) = V1 at *
  generalize w1.heap.size = gp at *
  clear w1
  go_wp2_with fail
  refine (drawPlaces_any a len cap _ (HS.out.below B1.out)).mono ?_
  rintro e w2 ⟨g2, cap2, zs, hz12, hzr, rfl, hg2, hcz, hb2⟩
  have P2 := Lib.hid (P1.out.next hb2)
  have B2 := Lib.hid (B1.out.trans (hb2.mono B1.out.size))
  have c0 : w2.cell? ⟨g2, 0, none⟩ = some (.int .i64 (zs.getD 0 0)) := hcz 0 (by omega)
  have hz0 : 0 ≤ zs.getD 0 0 ∧ zs.getD 0 0 ≤ 9999 := hzr _ (by rw [List.getD_eq_getElem?_getD, List.getElem?_eq_getElem (by omega)]; exact List.getElem_mem _)
  clear hb2 hcz hzr hz12 P1 B1 HS
  generalize zs.getD 0 0 = z at *
  obtain ⟨now, HN⟩ : ∃ now : Int, Hid (Int.tmod z 60 = now) := ⟨_, rfl⟩
  have hnow : 0 ≤ now ∧ now ≤ 59 := by
    have h1 := Int.tmod_nonneg 60 hz0.1
    have h2 := Int.tmod_lt_of_pos z (show (0 : Int) < 60 by omega)
    rw [HN.out] at h1 h2
    omega
  have hmod : Int.tmod z 60 = now := HN.out
  have p0 : w2.cell? ⟨gp, 0, none⟩ = some (.int .i64 pa) := P2.out.var.cell 0
  have p1 : w2.cell? ⟨gp, 1, none⟩ = some (.int .i64 pn) := P2.out.var.cell 1
  have p2 : w2.cell? ⟨gp, 2, none⟩ = some (.slice la ls.length lc) := P2.out.var.cell 2
  have p3 : w2.cell? ⟨gp, 3, none⟩ = some (.slice fa fs.length fc) := P2.out.var.cell 3
  have K1 := Lib.hid (HF.out.expire pa pn _ _ ls fs now (by omega) (by omega) HP.out.leases.2.1 w2 (HT.out _ B2.out) P2.out.pool)
  go_wp2_with fail
  refine (K1.out).mono ?_
  rintro e w3 ⟨lu, fu, gv, rfl, ⟨f3, hg3⟩, ho3⟩
  obtain ⟨na, nc, rfl⟩ := rows_form ho3.pool.leases
  obtain ⟨ma, mc, rfl⟩ := rows_form ho3.pool.fixes
  obtain ⟨ga, gc, rfl⟩ := rows_form (layIntS.read hg3)
  have hal : Below w3.heap.size w3 (w3.alloc (.cells #[.int .i64 pa, .int .i64 pn, .slice na (keptP now ls).length nc, .slice ma fs.length mc] PoolT)) := (Below.refl _ _).alloc (Nat.le_refl _) _
  have W3 : Hid (EW w gp w3.heap.size pa pn la fa na ma ga lc fc nc mc gc ls (keptP now ls) fs (goneP now ls) (w3.alloc (.cells #[.int .i64 pa, .int .i64 pn, .slice na (keptP now ls).length nc, .slice ma fs.length mc] PoolT))) :=
    ⟨(P2.out.next ho3.below).next hal, PoV.new ho3, layIntS.below (layIntS.read hg3) hal, (B2.out.trans (ho3.below.mono B2.out.size)).trans (hal.mono (B2.out.trans (ho3.below.mono B2.out.size)).size)⟩
  have HKG := Lib.hid (kept_gone_len now ls)
  have HKP := Lib.hid (HP.out.kept now)
  have HKI := Lib.hid (fun l hl => kept_iff HP.out.leases now l hl)
  have HGI := Lib.hid (fun l hl => gone_iff HP.out.leases now l hl)
  have HKA := Lib.hid (kept_again now ls)
  have HGA := Lib.hid (gone_again now ls)
  clear hal hg3 ho3 K1 P2 B2 p0 p1 p2 p3 c0 HN hmod hz0
  generalize keptP now ls = ns at *
  generalize goneP now ls = gs at *
  go_upto_region 6 with fail
  generalize w3.alloc (.cells #[.int .i64 pa, .int .i64 pn, .slice na ns.length nc, .slice ma fs.length mc] PoolT) = V3 at *
  generalize w3.heap.size = gn at *
  clear w3 hg2
  clear w2
  have hkl : ns.length ≤ 6 ∧ gs.length ≤ 6 := by have := HKG.out; omega
  have n0 : V3.cell? ⟨gn, 0, none⟩ = some (.int .i64 pa) := W3.out.n.var.cell 0
  have n1 : V3.cell? ⟨gn, 1, none⟩ = some (.int .i64 pn) := W3.out.n.var.cell 1
  have n2 : V3.cell? ⟨gn, 2, none⟩ = some (.slice na ns.length nc) := W3.out.n.var.cell 2
  have n3 : V3.cell? ⟨gn, 3, none⟩ = some (.slice ma fs.length mc) := W3.out.n.var.cell 3
  have K2 := Lib.hid (HF.out.ok pa pn _ _ ns fs (by omega) (by omega) V3 (HT.out _ W3.out.below) W3.out.n.pool)
  go_wp2_with fail
  refine (K2.out).mono ?_
  rintro e w4 ⟨⟨_, rfl⟩ | ⟨hno, _⟩, hb4⟩
  rotate_left
  · exact absurd HKP.out hno
  have W4 := Lib.hid (W3.out.next hb4)
  clear hb4 W3 K2 n0 n1 n2 n3
  have n2 : w4.cell? ⟨gn, 2, none⟩ = some (.slice na ns.length nc) := W4.out.n.var.cell 2
  have p2 : w4.cell? ⟨gp, 2, none⟩ = some (.slice la ls.length lc) := W4.out.p.var.cell 2
  have hsum : IntKind.i64.wrap ((ns.length : Int) + (gs.length : Int)) = (ls.length : Int) := by have := HKG.out; rw [IntKind.wrap_i64]; omega
  go_wp2_with fail
  go_loopw [7] (fun c wr => ∃ j : Nat, j ≤ ls.length ∧ c = .int .i64 j ∧ EW w gp gn pa pn la fa na ma ga lc fc nc mc gc ls ns fs gs wr) (fun c _ => ls.length - (intOf c).toNat)
  case atStart => exact ⟨0, Nat.zero_le _, rfl, W4.out⟩
  case round =>
    obtain ⟨j, hj, rfl, hW⟩ := hrel
    have W5 := Lib.hid hW
    clear hW W4 n2 p2 hsum
    have p2 : wr.cell? ⟨gp, 2, none⟩ = some (.slice la ls.length lc) := W5.out.p.var.cell 2
    by_cases hlt : j < ls.length
    · have hlt' : (j : Int) < (ls.length : Int) := by omega
      obtain ⟨g, off, rfl, hg, d0, d1, d2⟩ := lease_cells W5.out.p.pool.leases j _ (List.getElem?_eq_getElem hlt)
      have hmem : ls[j] ∈ ls := List.getElem_mem hlt
      have hki := HKI.out _ hmem
      have hgi := HGI.out _ hmem
      clear hmem
      generalize ls[j] = x at d0 d1 d2 hki hgi
      obtain ⟨x0, x1, x2⟩ := x
      have d0' : wr.cell? ⟨g, off + j * 3, none⟩ = some (.int .i64 x0) := d0
      have d1' : wr.cell? ⟨g, off + j * 3 + 1, none⟩ = some (.int .i64 x1) := d1
      have d2' : wr.cell? ⟨g, off + j * 3 + 2, none⟩ = some (.int .i64 x2) := d2
      have hki' : holderP ns x0 = x1 ↔ now < x2 := hki
      have hgi' : x1 ∈ gs ↔ x2 ≤ now := hgi
      clear d0 d1 d2 hki hgi
      have hal : Below wr.heap.size wr (wr.alloc (.cells #[.int .i64 x0, .int .i64 x1, .int .i64 x2] LsT)) := (Below.refl _ _).alloc (Nat.le_refl _) _
      have W6 := Lib.hid (W5.out.next hal)
      have V6 := Lib.hid (VarA.new wr LsT #[.int .i64 x0, .int .i64 x1, .int .i64 x2])
      clear hal W5
      go_upto_region 12 with fail
      clear d0' d1' d2' p2
      generalize wr.alloc (.cells #[.int .i64 x0, .int .i64 x1, .int .i64 x2] LsT) = W at *
      generalize wr.heap.size = gl at *
      have S0 : Hid (∀ X, VarA gl LsT #[.int .i64 x0, .int .i64 x1, .int .i64 x2] X → EW w gp gn pa pn (some ⟨g, off, none⟩) fa na ma ga lc fc nc mc gc ls ns fs gs X → (X.cell? ⟨gl, 0, none⟩ = some (.int .i64 x0) ∧ X.cell? ⟨gl, 1, none⟩ = some (.int .i64 x1) ∧ X.cell? ⟨gl, 2, none⟩ = some (.int .i64 x2) ∧ X.cell? ⟨gn, 0, none⟩ = some (.int .i64 pa) ∧ X.cell? ⟨gn, 1, none⟩ = some (.int .i64 pn) ∧ X.cell? ⟨gn, 2, none⟩ = some (.slice na ns.length nc) ∧ X.cell? ⟨gn, 3, none⟩ = some (.slice ma fs.length mc) ∧ VarA gl LsT #[.int .i64 x0, .int .i64 x1, .int .i64 x2] X ∧ EW w gp gn pa pn (some ⟨g, off, none⟩) fa na ma ga lc fc nc mc gc ls ns fs gs X)) := fun X h1 h2 => ⟨h1.cell 0, h1.cell 1, h1.cell 2, h2.n.var.cell 0, h2.n.var.cell 1, h2.n.var.cell 2, h2.n.var.cell 3, h1, h2⟩
      have S1 : Hid (W.drew.cell? ⟨gl, 0, none⟩ = some (.int .i64 x0) ∧ W.drew.cell? ⟨gl, 1, none⟩ = some (.int .i64 x1) ∧ W.drew.cell? ⟨gl, 2, none⟩ = some (.int .i64 x2) ∧ W.drew.cell? ⟨gn, 0, none⟩ = some (.int .i64 pa) ∧ W.drew.cell? ⟨gn, 1, none⟩ = some (.int .i64 pn) ∧ W.drew.cell? ⟨gn, 2, none⟩ = some (.slice na ns.length nc) ∧ W.drew.cell? ⟨gn, 3, none⟩ = some (.slice ma fs.length mc) ∧ VarA gl LsT #[.int .i64 x0, .int .i64 x1, .int .i64 x2] W.drew ∧ EW w gp gn pa pn (some ⟨g, off, none⟩) fa na ma ga lc fc nc mc gc ls ns fs gs W.drew) := S0.out _ V6.out.drew (W6.out.next ((Below.refl _ _).drew))
      obtain ⟨hv, HHV⟩ : ∃ hv, Hid (hv = holderP ns x0) := ⟨_, rfl⟩
      rw [← HHV.out] at hki'
      have KHO : Hid (∀ X, (X.cell? ⟨gl, 0, none⟩ = some (.int .i64 x0) ∧ X.cell? ⟨gl, 1, none⟩ = some (.int .i64 x1) ∧ X.cell? ⟨gl, 2, none⟩ = some (.int .i64 x2) ∧ X.cell? ⟨gn, 0, none⟩ = some (.int .i64 pa) ∧ X.cell? ⟨gn, 1, none⟩ = some (.int .i64 pn) ∧ X.cell? ⟨gn, 2, none⟩ = some (.slice na ns.length nc) ∧ X.cell? ⟨gn, 3, none⟩ = some (.slice ma fs.length mc) ∧ VarA gl LsT #[.int .i64 x0, .int .i64 x1, .int .i64 x2] X ∧ EW w gp gn pa pn (some ⟨g, off, none⟩) fa na ma ga lc fc nc mc gc ls ns fs gs X) → Calls Try.prog 10 #[.agg #[.int .i64 pa, .int .i64 pn, .slice na ns.length nc, .slice ma fs.length mc], .int .i64 x0] X fun e Y => e = .returned (.int .i64 hv) ∧ (Y.cell? ⟨gl, 0, none⟩ = some (.int .i64 x0) ∧ Y.cell? ⟨gl, 1, none⟩ = some (.int .i64 x1) ∧ Y.cell? ⟨gl, 2, none⟩ = some (.int .i64 x2) ∧ Y.cell? ⟨gn, 0, none⟩ = some (.int .i64 pa) ∧ Y.cell? ⟨gn, 1, none⟩ = some (.int .i64 pn) ∧ Y.cell? ⟨gn, 2, none⟩ = some (.slice na ns.length nc) ∧ Y.cell? ⟨gn, 3, none⟩ = some (.slice ma fs.length mc) ∧ VarA gl LsT #[.int .i64 x0, .int .i64 x1, .int .i64 x2] Y ∧ EW w gp gn pa pn (some ⟨g, off, none⟩) fa na ma ga lc fc nc mc gc ls ns fs gs Y)) := fun X hX => by
        refine (HF.out.holder pa pn _ _ ns fs x0 (by omega) X (HT.out _ hX.2.2.2.2.2.2.2.2.below) hX.2.2.2.2.2.2.2.2.n.pool).mono ?_
        rintro e Y ⟨rfl, hb⟩
        exact ⟨by rw [HHV.out], S0.out _ (hX.2.2.2.2.2.2.2.1.next hb) (hX.2.2.2.2.2.2.2.2.next hb)⟩
      by_cases hu : x2 ≤ now
      · have hu2 : ¬ (now < x2) := by omega
        have hne : (hv == x1) = false := by rw [beq_eq_false_iff_ne]; exact fun e => hu2 (hki'.1 e)
        have KIN : Hid (∀ X, (X.cell? ⟨gl, 0, none⟩ = some (.int .i64 x0) ∧ X.cell? ⟨gl, 1, none⟩ = some (.int .i64 x1) ∧ X.cell? ⟨gl, 2, none⟩ = some (.int .i64 x2) ∧ X.cell? ⟨gn, 0, none⟩ = some (.int .i64 pa) ∧ X.cell? ⟨gn, 1, none⟩ = some (.int .i64 pn) ∧ X.cell? ⟨gn, 2, none⟩ = some (.slice na ns.length nc) ∧ X.cell? ⟨gn, 3, none⟩ = some (.slice ma fs.length mc) ∧ VarA gl LsT #[.int .i64 x0, .int .i64 x1, .int .i64 x2] X ∧ EW w gp gn pa pn (some ⟨g, off, none⟩) fa na ma ga lc fc nc mc gc ls ns fs gs X) → Calls Try.prog 9 #[.slice ga gs.length gc, .int .i64 x1] X fun e Y => e = .returned (.bool true) ∧ (Y.cell? ⟨gl, 0, none⟩ = some (.int .i64 x0) ∧ Y.cell? ⟨gl, 1, none⟩ = some (.int .i64 x1) ∧ Y.cell? ⟨gl, 2, none⟩ = some (.int .i64 x2) ∧ Y.cell? ⟨gn, 0, none⟩ = some (.int .i64 pa) ∧ Y.cell? ⟨gn, 1, none⟩ = some (.int .i64 pn) ∧ Y.cell? ⟨gn, 2, none⟩ = some (.slice na ns.length nc) ∧ Y.cell? ⟨gn, 3, none⟩ = some (.slice ma fs.length mc) ∧ VarA gl LsT #[.int .i64 x0, .int .i64 x1, .int .i64 x2] Y ∧ EW w gp gn pa pn (some ⟨g, off, none⟩) fa na ma ga lc fc nc mc gc ls ns fs gs Y)) := fun X hX => by
          refine (in_any _ gs x1 (by omega) X hX.2.2.2.2.2.2.2.2.g).mono ?_
          rintro e Y ⟨rfl, hw⟩
          exact ⟨by rw [decide_eq_true (hgi'.2 hu)], by rw [hw]; exact hX⟩
        clear hki' hgi'
        go_wp2_with fail
        refine wp_region_held_drew (S := (fun X => X.cell? ⟨gl, 0, none⟩ = some (.int .i64 x0) ∧ X.cell? ⟨gl, 1, none⟩ = some (.int .i64 x1) ∧ X.cell? ⟨gl, 2, none⟩ = some (.int .i64 x2) ∧ X.cell? ⟨gn, 0, none⟩ = some (.int .i64 pa) ∧ X.cell? ⟨gn, 1, none⟩ = some (.int .i64 pn) ∧ X.cell? ⟨gn, 2, none⟩ = some (.slice na ns.length nc) ∧ X.cell? ⟨gn, 3, none⟩ = some (.slice ma fs.length mc) ∧ VarA gl LsT #[.int .i64 x0, .int .i64 x1, .int .i64 x2] X ∧ EW w gp gn pa pn (some ⟨g, off, none⟩) fa na ma ga lc fc nc mc gc ls ns fs gs X)) (by kernel_rfl) S1.out (fun hHeld => ?_)
        refine wpAnyH_take (i := 0) (v := ?_) rfl (by kernel_rfl) (by kernel_rfl) (by kernel_rfl) (fun _ _ _ h => h) (Or.inl ⟨by kernel_rfl, ?_⟩) (by assumption) ?_
        rotate_left
        · intro X hX
          first | (go_simp; done) | (go_simp; with_reducible rfl)
        simp only [Act.put, List.getElem_toArray, List.getElem_cons_zero, List.setIfInBounds_toArray, List.set_cons_zero, List.set_cons_succ]
        refine wpAnyH_take (i := 1) (v := ?_) rfl (by kernel_rfl) (by kernel_rfl) (by kernel_rfl) (fun _ _ _ h => h) (Or.inl ⟨by kernel_rfl, ?_⟩) (by assumption) ?_
        rotate_left
        · intro X hX
          first | (go_simp; done) | (go_simp; with_reducible rfl)
        simp only [Act.put, List.getElem_toArray, List.getElem_cons_succ, List.getElem_cons_zero, List.setIfInBounds_toArray, List.set_cons_zero, List.set_cons_succ]
        refine wpAnyH_take (i := 2) (v := ?_) rfl (by kernel_rfl) (by kernel_rfl) (by kernel_rfl) (fun _ _ _ h => h) (Or.inl ⟨by kernel_rfl, ?_⟩) (by assumption) ?_
        rotate_left
        · intro X hX
          first | (go_simp; done) | (go_simp; with_reducible rfl)
        simp only [Act.put, List.getElem_toArray, List.getElem_cons_succ, List.getElem_cons_zero, List.setIfInBounds_toArray, List.set_cons_zero, List.set_cons_succ]
        refine wpAnyH_take (i := 3) (v := .bool true) rfl (by kernel_rfl) (by kernel_rfl) (by kernel_rfl) (fun _ _ _ h => h) (Or.inl ⟨by kernel_rfl, ?_⟩) (by assumption) ?_
        · intro X hX
          first | (go_simp; done) | (go_simp; with_reducible rfl)
        simp only [Act.put, List.getElem_toArray, List.getElem_cons_succ, List.getElem_cons_zero, List.setIfInBounds_toArray, List.set_cons_zero, List.set_cons_succ]
        refine wpAnyH_take (i := 4) (v := ?_) rfl (by kernel_rfl) (by kernel_rfl) (by kernel_rfl) (fun _ _ _ h => h) (Or.inl ⟨by kernel_rfl, ?_⟩) (by assumption) ?_
        rotate_left
        · intro X hX
          first | (go_simp; done) | (go_simp; with_reducible rfl)
        simp only [Act.put, List.getElem_toArray, List.getElem_cons_succ, List.getElem_cons_zero, List.setIfInBounds_toArray, List.set_cons_zero, List.set_cons_succ]
        refine wpAnyH_take (i := 5) (v := ?_) rfl (by kernel_rfl) (by kernel_rfl) (by kernel_rfl) (fun _ _ _ h => h) (Or.inl ⟨by kernel_rfl, ?_⟩) (by assumption) ?_
        rotate_left
        · intro X hX
          first | (go_simp; done) | (go_simp; with_reducible rfl)
        simp only [Act.put, List.getElem_toArray, List.getElem_cons_succ, List.getElem_cons_zero, List.setIfInBounds_toArray, List.set_cons_zero, List.set_cons_succ]
        refine wpAnyH_take (i := 6) (v := ?_) rfl (by kernel_rfl) (by kernel_rfl) (by kernel_rfl) (fun _ _ _ h => h) (Or.inl ⟨by kernel_rfl, ?_⟩) (by assumption) ?_
        rotate_left
        · intro X hX
          first | (go_simp; done) | (go_simp; with_reducible rfl)
        simp only [Act.put, List.getElem_toArray, List.getElem_cons_succ, List.getElem_cons_zero, List.setIfInBounds_toArray, List.set_cons_zero, List.set_cons_succ]
        refine wpAnyH_ready (rs := [7]) (by kernel_rfl) (by simp) ?_
        refine AllReadyH.cons rfl (fun K hK => ?_) AllReadyH.nil
        go_simp
        go_wp2_with ((go_at_call 9; refine (KIN.out _ hHeld).mono ?_; rintro e v1 ⟨rfl, hS⟩))
        refine hK.out _ _ hS (fun hHeld => ?_)
        clear hK K
        refine wpAnyH_take (i := 8) (v := .bool false) rfl (by kernel_rfl) (by kernel_rfl) (by kernel_rfl) (fun _ _ _ h => h) (Or.inl ⟨by kernel_rfl, ?_⟩) (by assumption) ?_
        · intro X hX
          first | (go_simp; done) | (go_simp; with_reducible rfl)
        simp only [Act.put, List.getElem_toArray, List.getElem_cons_succ, List.getElem_cons_zero, List.setIfInBounds_toArray, List.set_cons_zero, List.set_cons_succ]
        refine wpAnyH_take (i := 9) (v := ?_) rfl (by kernel_rfl) (by kernel_rfl) (by kernel_rfl) (fun _ _ _ h => h) (Or.inl ⟨by kernel_rfl, ?_⟩) (by assumption) ?_
        rotate_left
        · intro X hX
          first | (go_simp; done) | (go_simp; with_reducible rfl)
        simp only [Act.put, List.getElem_toArray, List.getElem_cons_succ, List.getElem_cons_zero, List.setIfInBounds_toArray, List.set_cons_zero, List.set_cons_succ]
        refine wpAnyH_take (i := 10) (v := ?_) rfl (by kernel_rfl) (by kernel_rfl) (by kernel_rfl) (fun _ _ _ h => h) (Or.inl ⟨by kernel_rfl, ?_⟩) (by assumption) ?_
        rotate_left
        · intro X hX
          first | (go_simp; done) | (go_simp; with_reducible rfl)
        simp only [Act.put, List.getElem_toArray, List.getElem_cons_succ, List.getElem_cons_zero, List.setIfInBounds_toArray, List.set_cons_zero, List.set_cons_succ]
        refine wpAnyH_take (i := 11) (v := ?_) rfl (by kernel_rfl) (by kernel_rfl) (by kernel_rfl) (fun _ _ _ h => h) (Or.inl ⟨by kernel_rfl, ?_⟩) (by assumption) ?_
        rotate_left
        · intro X hX
          first | (go_simp; done) | (go_simp; with_reducible rfl)
        simp only [Act.put, List.getElem_toArray, List.getElem_cons_succ, List.getElem_cons_zero, List.setIfInBounds_toArray, List.set_cons_zero, List.set_cons_succ]
        refine wpAnyH_take (i := 12) (v := ?_) rfl (by kernel_rfl) (by kernel_rfl) (by kernel_rfl) (fun _ _ _ h => h) (Or.inl ⟨by kernel_rfl, ?_⟩) (by assumption) ?_
        rotate_left
        · intro X hX
          first | (go_simp; done) | (go_simp; with_reducible rfl)
        simp only [Act.put, List.getElem_toArray, List.getElem_cons_succ, List.getElem_cons_zero, List.setIfInBounds_toArray, List.set_cons_zero, List.set_cons_succ]
        refine wpAnyH_take (i := 13) (v := .bool false) rfl (by kernel_rfl) (by kernel_rfl) (by kernel_rfl) (fun _ _ _ h => h) (Or.inl ⟨by kernel_rfl, ?_⟩) (by assumption) ?_
        · intro X hX
          first | (go_simp; done) | (go_simp; with_reducible rfl)
        simp only [Act.put, List.getElem_toArray, List.getElem_cons_succ, List.getElem_cons_zero, List.setIfInBounds_toArray, List.set_cons_zero, List.set_cons_succ]
        refine wpAnyH_take (i := 14) (v := ?_) rfl (by kernel_rfl) (by kernel_rfl) (by kernel_rfl) (fun _ _ _ h => h) (Or.inl ⟨by kernel_rfl, ?_⟩) (by assumption) ?_
        rotate_left
        · intro X hX
          first | (go_simp; done) | (go_simp; with_reducible rfl)
        simp only [Act.put, List.getElem_toArray, List.getElem_cons_succ, List.getElem_cons_zero, List.setIfInBounds_toArray, List.set_cons_zero, List.set_cons_succ]
        refine wpAnyH_take (i := 15) (v := ?_) rfl (by kernel_rfl) (by kernel_rfl) (by kernel_rfl) (fun _ _ _ h => h) (Or.inl ⟨by kernel_rfl, ?_⟩) (by assumption) ?_
        rotate_left
        · intro X hX
          first | (go_simp; done) | (go_simp; with_reducible rfl)
        simp only [Act.put, List.getElem_toArray, List.getElem_cons_succ, List.getElem_cons_zero, List.setIfInBounds_toArray, List.set_cons_zero, List.set_cons_succ]
        refine wpAnyH_take (i := 16) (v := ?_) rfl (by kernel_rfl) (by kernel_rfl) (by kernel_rfl) (fun _ _ _ h => h) (Or.inl ⟨by kernel_rfl, ?_⟩) (by assumption) ?_
        rotate_left
        · intro X hX
          first | (go_simp; done) | (go_simp; with_reducible rfl)
        simp only [Act.put, List.getElem_toArray, List.getElem_cons_succ, List.getElem_cons_zero, List.setIfInBounds_toArray, List.set_cons_zero, List.set_cons_succ]
        refine wpAnyH_take (i := 18) (v := ?_) rfl (by kernel_rfl) (by kernel_rfl) (by kernel_rfl) (fun _ _ _ h => h) (Or.inl ⟨by kernel_rfl, ?_⟩) (by assumption) ?_
        rotate_left
        · intro X hX
          first | (go_simp; done) | (go_simp; with_reducible rfl)
        simp only [Act.put, List.getElem_toArray, List.getElem_cons_succ, List.getElem_cons_zero, List.setIfInBounds_toArray, List.set_cons_zero, List.set_cons_succ]
        refine wpAnyH_take (i := 19) (v := ?_) rfl (by kernel_rfl) (by kernel_rfl) (by kernel_rfl) (fun _ _ _ h => h) (Or.inl ⟨by kernel_rfl, ?_⟩) (by assumption) ?_
        rotate_left
        · intro X hX
          first | (go_simp; done) | (go_simp; with_reducible rfl)
        simp only [Act.put, List.getElem_toArray, List.getElem_cons_succ, List.getElem_cons_zero, List.setIfInBounds_toArray, List.set_cons_zero, List.set_cons_succ]
        clear hS
        refine wpAnyH_ready (rs := [17]) (by kernel_rfl) (by simp) ?_
        refine AllReadyH.cons rfl (fun K hK => ?_) AllReadyH.nil
        go_simp
        go_wp2_with ((go_at_call 10; refine (KHO.out _ hHeld).mono ?_; rintro e v1 ⟨rfl, hS⟩))
        refine hK.out _ _ hS (fun hHeld => ?_)
        clear hK K
        refine wpAnyH_take (i := 20) (v := .bool false) rfl (by kernel_rfl) (by kernel_rfl) (by kernel_rfl) (fun _ _ _ h => h) (Or.inl ⟨by kernel_rfl, ?_⟩) (by assumption) ?_
        · intro X hX
          first | (go_simp; done) | (go_simp; with_reducible rfl)
        simp only [Act.put, List.getElem_toArray, List.getElem_cons_succ, List.getElem_cons_zero, List.setIfInBounds_toArray, List.set_cons_zero, List.set_cons_succ]
        refine wpAnyH_take (i := 21) (v := .bool false) rfl (by kernel_rfl) (by kernel_rfl) (by kernel_rfl) (fun _ _ _ h => h) (Or.inl ⟨by kernel_rfl, ?_⟩) (by assumption) ?_
        · intro X hX
          first | (go_simp; done) | (go_simp; with_reducible rfl)
        simp only [Act.put, List.getElem_toArray, List.getElem_cons_succ, List.getElem_cons_zero, List.setIfInBounds_toArray, List.set_cons_zero, List.set_cons_succ]
        refine wpAnyH_take (i := 22) (v := ?_) rfl (by kernel_rfl) (by kernel_rfl) (by kernel_rfl) (fun _ _ _ h => h) (Or.inl ⟨by kernel_rfl, ?_⟩) (by assumption) ?_
        rotate_left
        · intro X hX
          first | (go_simp; done) | (go_simp; with_reducible rfl)
        simp only [Act.put, List.getElem_toArray, List.getElem_cons_succ, List.getElem_cons_zero, List.setIfInBounds_toArray, List.set_cons_zero, List.set_cons_succ]
        refine wpAnyH_done (by kernel_rfl) ?_ _
        have HH := Lib.hid hHeld.2.2.2.2.2.2.2.2
        clear hHeld
        go_wp2_with fail
        go_roundw
        case rel => exact ⟨j + 1, by omega, by go_num, HH.out⟩
        case measure => simp [intOf]; omega
      · have hu2 : now < x2 := by omega
        have hne : (hv == x1) = true := by rw [beq_iff_eq]; exact hki'.2 hu2
        have KIN : Hid (∀ X, (X.cell? ⟨gl, 0, none⟩ = some (.int .i64 x0) ∧ X.cell? ⟨gl, 1, none⟩ = some (.int .i64 x1) ∧ X.cell? ⟨gl, 2, none⟩ = some (.int .i64 x2) ∧ X.cell? ⟨gn, 0, none⟩ = some (.int .i64 pa) ∧ X.cell? ⟨gn, 1, none⟩ = some (.int .i64 pn) ∧ X.cell? ⟨gn, 2, none⟩ = some (.slice na ns.length nc) ∧ X.cell? ⟨gn, 3, none⟩ = some (.slice ma fs.length mc) ∧ VarA gl LsT #[.int .i64 x0, .int .i64 x1, .int .i64 x2] X ∧ EW w gp gn pa pn (some ⟨g, off, none⟩) fa na ma ga lc fc nc mc gc ls ns fs gs X) → Calls Try.prog 9 #[.slice ga gs.length gc, .int .i64 x1] X fun e Y => e = .returned (.bool false) ∧ (Y.cell? ⟨gl, 0, none⟩ = some (.int .i64 x0) ∧ Y.cell? ⟨gl, 1, none⟩ = some (.int .i64 x1) ∧ Y.cell? ⟨gl, 2, none⟩ = some (.int .i64 x2) ∧ Y.cell? ⟨gn, 0, none⟩ = some (.int .i64 pa) ∧ Y.cell? ⟨gn, 1, none⟩ = some (.int .i64 pn) ∧ Y.cell? ⟨gn, 2, none⟩ = some (.slice na ns.length nc) ∧ Y.cell? ⟨gn, 3, none⟩ = some (.slice ma fs.length mc) ∧ VarA gl LsT #[.int .i64 x0, .int .i64 x1, .int .i64 x2] Y ∧ EW w gp gn pa pn (some ⟨g, off, none⟩) fa na ma ga lc fc nc mc gc ls ns fs gs Y)) := fun X hX => by
          refine (in_any _ gs x1 (by omega) X hX.2.2.2.2.2.2.2.2.g).mono ?_
          rintro e Y ⟨rfl, hw⟩
          exact ⟨by rw [decide_eq_false (fun h => hu (hgi'.1 h))], by rw [hw]; exact hX⟩
        clear hki' hgi'
        go_wp2_with fail
        refine wp_region_held_drew (S := (fun X => X.cell? ⟨gl, 0, none⟩ = some (.int .i64 x0) ∧ X.cell? ⟨gl, 1, none⟩ = some (.int .i64 x1) ∧ X.cell? ⟨gl, 2, none⟩ = some (.int .i64 x2) ∧ X.cell? ⟨gn, 0, none⟩ = some (.int .i64 pa) ∧ X.cell? ⟨gn, 1, none⟩ = some (.int .i64 pn) ∧ X.cell? ⟨gn, 2, none⟩ = some (.slice na ns.length nc) ∧ X.cell? ⟨gn, 3, none⟩ = some (.slice ma fs.length mc) ∧ VarA gl LsT #[.int .i64 x0, .int .i64 x1, .int .i64 x2] X ∧ EW w gp gn pa pn (some ⟨g, off, none⟩) fa na ma ga lc fc nc mc gc ls ns fs gs X)) (by kernel_rfl) S1.out (fun hHeld => ?_)
        refine wpAnyH_take (i := 0) (v := ?_) rfl (by kernel_rfl) (by kernel_rfl) (by kernel_rfl) (fun _ _ _ h => h) (Or.inl ⟨by kernel_rfl, ?_⟩) (by assumption) ?_
        rotate_left
        · intro X hX
          first | (go_simp; done) | (go_simp; with_reducible rfl)
        simp only [Act.put, List.getElem_toArray, List.getElem_cons_zero, List.setIfInBounds_toArray, List.set_cons_zero, List.set_cons_succ]
        refine wpAnyH_take (i := 1) (v := ?_) rfl (by kernel_rfl) (by kernel_rfl) (by kernel_rfl) (fun _ _ _ h => h) (Or.inl ⟨by kernel_rfl, ?_⟩) (by assumption) ?_
        rotate_left
        · intro X hX
          first | (go_simp; done) | (go_simp; with_reducible rfl)
        simp only [Act.put, List.getElem_toArray, List.getElem_cons_succ, List.getElem_cons_zero, List.setIfInBounds_toArray, List.set_cons_zero, List.set_cons_succ]
        refine wpAnyH_take (i := 2) (v := ?_) rfl (by kernel_rfl) (by kernel_rfl) (by kernel_rfl) (fun _ _ _ h => h) (Or.inl ⟨by kernel_rfl, ?_⟩) (by assumption) ?_
        rotate_left
        · intro X hX
          first | (go_simp; done) | (go_simp; with_reducible rfl)
        simp only [Act.put, List.getElem_toArray, List.getElem_cons_succ, List.getElem_cons_zero, List.setIfInBounds_toArray, List.set_cons_zero, List.set_cons_succ]
        refine wpAnyH_take (i := 3) (v := .bool false) rfl (by kernel_rfl) (by kernel_rfl) (by kernel_rfl) (fun _ _ _ h => h) (Or.inl ⟨by kernel_rfl, ?_⟩) (by assumption) ?_
        · intro X hX
          first | (go_simp; done) | (go_simp; with_reducible rfl)
        simp only [Act.put, List.getElem_toArray, List.getElem_cons_succ, List.getElem_cons_zero, List.setIfInBounds_toArray, List.set_cons_zero, List.set_cons_succ]
        refine wpAnyH_take (i := 4) (v := ?_) rfl (by kernel_rfl) (by kernel_rfl) (by kernel_rfl) (fun _ _ _ h => h) (Or.inl ⟨by kernel_rfl, ?_⟩) (by assumption) ?_
        rotate_left
        · intro X hX
          first | (go_simp; done) | (go_simp; with_reducible rfl)
        simp only [Act.put, List.getElem_toArray, List.getElem_cons_succ, List.getElem_cons_zero, List.setIfInBounds_toArray, List.set_cons_zero, List.set_cons_succ]
        refine wpAnyH_take (i := 5) (v := ?_) rfl (by kernel_rfl) (by kernel_rfl) (by kernel_rfl) (fun _ _ _ h => h) (Or.inl ⟨by kernel_rfl, ?_⟩) (by assumption) ?_
        rotate_left
        · intro X hX
          first | (go_simp; done) | (go_simp; with_reducible rfl)
        simp only [Act.put, List.getElem_toArray, List.getElem_cons_succ, List.getElem_cons_zero, List.setIfInBounds_toArray, List.set_cons_zero, List.set_cons_succ]
        refine wpAnyH_take (i := 6) (v := ?_) rfl (by kernel_rfl) (by kernel_rfl) (by kernel_rfl) (fun _ _ _ h => h) (Or.inl ⟨by kernel_rfl, ?_⟩) (by assumption) ?_
        rotate_left
        · intro X hX
          first | (go_simp; done) | (go_simp; with_reducible rfl)
        simp only [Act.put, List.getElem_toArray, List.getElem_cons_succ, List.getElem_cons_zero, List.setIfInBounds_toArray, List.set_cons_zero, List.set_cons_succ]
        refine wpAnyH_ready (rs := [7]) (by kernel_rfl) (by simp) ?_
        refine AllReadyH.cons rfl (fun K hK => ?_) AllReadyH.nil
        go_simp
        go_wp2_with ((go_at_call 9; refine (KIN.out _ hHeld).mono ?_; rintro e v1 ⟨rfl, hS⟩))
        refine hK.out _ _ hS (fun hHeld => ?_)
        clear hK K
        refine wpAnyH_take (i := 8) (v := .bool false) rfl (by kernel_rfl) (by kernel_rfl) (by kernel_rfl) (fun _ _ _ h => h) (Or.inl ⟨by kernel_rfl, ?_⟩) (by assumption) ?_
        · intro X hX
          first | (go_simp; done) | (go_simp; with_reducible rfl)
        simp only [Act.put, List.getElem_toArray, List.getElem_cons_succ, List.getElem_cons_zero, List.setIfInBounds_toArray, List.set_cons_zero, List.set_cons_succ]
        refine wpAnyH_take (i := 9) (v := ?_) rfl (by kernel_rfl) (by kernel_rfl) (by kernel_rfl) (fun _ _ _ h => h) (Or.inl ⟨by kernel_rfl, ?_⟩) (by assumption) ?_
        rotate_left
        · intro X hX
          first | (go_simp; done) | (go_simp; with_reducible rfl)
        simp only [Act.put, List.getElem_toArray, List.getElem_cons_succ, List.getElem_cons_zero, List.setIfInBounds_toArray, List.set_cons_zero, List.set_cons_succ]
        refine wpAnyH_take (i := 10) (v := ?_) rfl (by kernel_rfl) (by kernel_rfl) (by kernel_rfl) (fun _ _ _ h => h) (Or.inl ⟨by kernel_rfl, ?_⟩) (by assumption) ?_
        rotate_left
        · intro X hX
          first | (go_simp; done) | (go_simp; with_reducible rfl)
        simp only [Act.put, List.getElem_toArray, List.getElem_cons_succ, List.getElem_cons_zero, List.setIfInBounds_toArray, List.set_cons_zero, List.set_cons_succ]
        refine wpAnyH_take (i := 11) (v := ?_) rfl (by kernel_rfl) (by kernel_rfl) (by kernel_rfl) (fun _ _ _ h => h) (Or.inl ⟨by kernel_rfl, ?_⟩) (by assumption) ?_
        rotate_left
        · intro X hX
          first | (go_simp; done) | (go_simp; with_reducible rfl)
        simp only [Act.put, List.getElem_toArray, List.getElem_cons_succ, List.getElem_cons_zero, List.setIfInBounds_toArray, List.set_cons_zero, List.set_cons_succ]
        refine wpAnyH_take (i := 12) (v := ?_) rfl (by kernel_rfl) (by kernel_rfl) (by kernel_rfl) (fun _ _ _ h => h) (Or.inl ⟨by kernel_rfl, ?_⟩) (by assumption) ?_
        rotate_left
        · intro X hX
          first | (go_simp; done) | (go_simp; with_reducible rfl)
        simp only [Act.put, List.getElem_toArray, List.getElem_cons_succ, List.getElem_cons_zero, List.setIfInBounds_toArray, List.set_cons_zero, List.set_cons_succ]
        refine wpAnyH_take (i := 13) (v := .bool true) rfl (by kernel_rfl) (by kernel_rfl) (by kernel_rfl) (fun _ _ _ h => h) (Or.inl ⟨by kernel_rfl, ?_⟩) (by assumption) ?_
        · intro X hX
          first | (go_simp; done) | (go_simp; with_reducible rfl)
        simp only [Act.put, List.getElem_toArray, List.getElem_cons_succ, List.getElem_cons_zero, List.setIfInBounds_toArray, List.set_cons_zero, List.set_cons_succ]
        refine wpAnyH_take (i := 14) (v := ?_) rfl (by kernel_rfl) (by kernel_rfl) (by kernel_rfl) (fun _ _ _ h => h) (Or.inl ⟨by kernel_rfl, ?_⟩) (by assumption) ?_
        rotate_left
        · intro X hX
          first | (go_simp; done) | (go_simp; with_reducible rfl)
        simp only [Act.put, List.getElem_toArray, List.getElem_cons_succ, List.getElem_cons_zero, List.setIfInBounds_toArray, List.set_cons_zero, List.set_cons_succ]
        refine wpAnyH_take (i := 15) (v := ?_) rfl (by kernel_rfl) (by kernel_rfl) (by kernel_rfl) (fun _ _ _ h => h) (Or.inl ⟨by kernel_rfl, ?_⟩) (by assumption) ?_
        rotate_left
        · intro X hX
          first | (go_simp; done) | (go_simp; with_reducible rfl)
        simp only [Act.put, List.getElem_toArray, List.getElem_cons_succ, List.getElem_cons_zero, List.setIfInBounds_toArray, List.set_cons_zero, List.set_cons_succ]
        refine wpAnyH_take (i := 16) (v := ?_) rfl (by kernel_rfl) (by kernel_rfl) (by kernel_rfl) (fun _ _ _ h => h) (Or.inl ⟨by kernel_rfl, ?_⟩) (by assumption) ?_
        rotate_left
        · intro X hX
          first | (go_simp; done) | (go_simp; with_reducible rfl)
        simp only [Act.put, List.getElem_toArray, List.getElem_cons_succ, List.getElem_cons_zero, List.setIfInBounds_toArray, List.set_cons_zero, List.set_cons_succ]
        refine wpAnyH_take (i := 18) (v := ?_) rfl (by kernel_rfl) (by kernel_rfl) (by kernel_rfl) (fun _ _ _ h => h) (Or.inl ⟨by kernel_rfl, ?_⟩) (by assumption) ?_
        rotate_left
        · intro X hX
          first | (go_simp; done) | (go_simp; with_reducible rfl)
        simp only [Act.put, List.getElem_toArray, List.getElem_cons_succ, List.getElem_cons_zero, List.setIfInBounds_toArray, List.set_cons_zero, List.set_cons_succ]
        refine wpAnyH_take (i := 19) (v := ?_) rfl (by kernel_rfl) (by kernel_rfl) (by kernel_rfl) (fun _ _ _ h => h) (Or.inl ⟨by kernel_rfl, ?_⟩) (by assumption) ?_
        rotate_left
        · intro X hX
          first | (go_simp; done) | (go_simp; with_reducible rfl)
        simp only [Act.put, List.getElem_toArray, List.getElem_cons_succ, List.getElem_cons_zero, List.setIfInBounds_toArray, List.set_cons_zero, List.set_cons_succ]
        clear hS
        refine wpAnyH_ready (rs := [17]) (by kernel_rfl) (by simp) ?_
        refine AllReadyH.cons rfl (fun K hK => ?_) AllReadyH.nil
        go_simp
        go_wp2_with ((go_at_call 10; refine (KHO.out _ hHeld).mono ?_; rintro e v1 ⟨rfl, hS⟩))
        refine hK.out _ _ hS (fun hHeld => ?_)
        clear hK K
        refine wpAnyH_take (i := 20) (v := .bool true) rfl (by kernel_rfl) (by kernel_rfl) (by kernel_rfl) (fun _ _ _ h => h) (Or.inl ⟨by kernel_rfl, ?_⟩) (by assumption) ?_
        · intro X hX
          first | (go_simp; done) | (go_simp; with_reducible rfl)
        simp only [Act.put, List.getElem_toArray, List.getElem_cons_succ, List.getElem_cons_zero, List.setIfInBounds_toArray, List.set_cons_zero, List.set_cons_succ]
        refine wpAnyH_take (i := 21) (v := .bool false) rfl (by kernel_rfl) (by kernel_rfl) (by kernel_rfl) (fun _ _ _ h => h) (Or.inl ⟨by kernel_rfl, ?_⟩) (by assumption) ?_
        · intro X hX
          first | (go_simp; done) | (go_simp; with_reducible rfl)
        simp only [Act.put, List.getElem_toArray, List.getElem_cons_succ, List.getElem_cons_zero, List.setIfInBounds_toArray, List.set_cons_zero, List.set_cons_succ]
        refine wpAnyH_take (i := 22) (v := ?_) rfl (by kernel_rfl) (by kernel_rfl) (by kernel_rfl) (fun _ _ _ h => h) (Or.inl ⟨by kernel_rfl, ?_⟩) (by assumption) ?_
        rotate_left
        · intro X hX
          first | (go_simp; done) | (go_simp; with_reducible rfl)
        simp only [Act.put, List.getElem_toArray, List.getElem_cons_succ, List.getElem_cons_zero, List.setIfInBounds_toArray, List.set_cons_zero, List.set_cons_succ]
        refine wpAnyH_done (by kernel_rfl) ?_ _
        have HH := Lib.hid hHeld.2.2.2.2.2.2.2.2
        clear hHeld
        go_wp2_with fail
        go_roundw
        case rel => exact ⟨j + 1, by omega, by go_num, HH.out⟩
        case measure => simp [intOf]; omega
    · have hlt' : ¬ ((j : Int) < (ls.length : Int)) := by omega
      have n0 : wr.cell? ⟨gn, 0, none⟩ = some (.int .i64 pa) := W5.out.n.var.cell 0
      have n1 : wr.cell? ⟨gn, 1, none⟩ = some (.int .i64 pn) := W5.out.n.var.cell 1
      have n2 : wr.cell? ⟨gn, 2, none⟩ = some (.slice na ns.length nc) := W5.out.n.var.cell 2
      have n3 : wr.cell? ⟨gn, 3, none⟩ = some (.slice ma fs.length mc) := W5.out.n.var.cell 3
      have K3 := Lib.hid (HF.out.expire pa pn _ _ ns fs now (by omega) (by omega) HKP.out.leases.2.1 wr (HT.out _ W5.out.below) W5.out.n.pool)
      go_wp2_with fail
      refine (K3.out).mono ?_
      rintro e w5 ⟨lu, fu, gv, rfl, ⟨f5, hg5⟩, ho5⟩
      rw [HKA.out] at ho5
      rw [HGA.out] at hg5
      obtain ⟨ba, bc, rfl⟩ := rows_form ho5.pool.leases
      obtain ⟨da, dc, rfl⟩ := rows_form ho5.pool.fixes
      obtain ⟨ha, hc, rfl⟩ := rows_form (layIntS.read hg5)
      have hal : Below w5.heap.size w5 (w5.alloc (.cells #[.int .i64 pa, .int .i64 pn, .slice ba ns.length bc, .slice da fs.length dc] PoolT)) := (Below.refl _ _).alloc (Nat.le_refl _) _
      have W7 := Lib.hid ((W5.out.next ho5.below).next hal)
      have M7 := Lib.hid (PoV.new (pa := pa) (pn := pn) ho5)
      clear hal hg5 ho5 K3 W5 n0 n1 n2 n3 p2
      go_upto_region 15 with fail
      generalize w5.alloc (.cells #[.int .i64 pa, .int .i64 pn, .slice ba ns.length bc, .slice da fs.length dc] PoolT) = V7 at *
      generalize w5.heap.size = gm at *
      clear w5
      have n0 : V7.cell? ⟨gn, 0, none⟩ = some (.int .i64 pa) := W7.out.n.var.cell 0
      have n1 : V7.cell? ⟨gn, 1, none⟩ = some (.int .i64 pn) := W7.out.n.var.cell 1
      have n2 : V7.cell? ⟨gn, 2, none⟩ = some (.slice na ns.length nc) := W7.out.n.var.cell 2
      have n3 : V7.cell? ⟨gn, 3, none⟩ = some (.slice ma fs.length mc) := W7.out.n.var.cell 3
      have m0 : V7.cell? ⟨gm, 0, none⟩ = some (.int .i64 pa) := M7.out.var.cell 0
      have m1 : V7.cell? ⟨gm, 1, none⟩ = some (.int .i64 pn) := M7.out.var.cell 1
      have m2 : V7.cell? ⟨gm, 2, none⟩ = some (.slice ba ns.length bc) := M7.out.var.cell 2
      have m3 : V7.cell? ⟨gm, 3, none⟩ = some (.slice da fs.length dc) := M7.out.var.cell 3
      have K4 := Lib.hid (samePool_same pa pn _ _ _ _ ns fs (by omega) V7 M7.out.pool W7.out.n.pool)
      go_wp2_with fail
      refine (K4.out).mono ?_
      rintro e w8 ⟨rfl, hb8⟩
      have BZ := Lib.hid (W7.out.next hb8).below
      clear hb8
      go_wp2_with fail
      go_ret
      exact ⟨rfl, BZ.out⟩

end Go.Proofs.Ytphmomlgmnllkad
