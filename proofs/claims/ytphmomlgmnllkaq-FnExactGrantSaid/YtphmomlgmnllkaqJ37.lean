/-
  The program's areLeasesRight.
-/
import Derived.Test.YtphmomlgmnllkaqJ35
import Derived.Test.YtphmomlgmnllkaqJ36
namespace Go.Proofs.Ytphmomlgmnllkaq
open Go.RowKit

/-- Leases that are right. -/
def LeasesP (pa pn : Int) (ls : List Ls) (fs : List Fx) : Prop := ls.length ≤ 6 ∧ ∀ i l, ls[i]? = some l → LeaseOk pa pn ls fs i l
def LeTold (pa pn : Int) (ls : List Ls) (fs : List Fx) (e : Ending) : Prop := (LeasesP pa pn ls fs ∧ e = .returned (.bool true)) ∨ (¬ LeasesP pa pn ls fs ∧ e = .returned (.bool false))
/-- The pool in its box, a lease in its variable. -/
structure LV (w : World) (pa pn : Int) (lv fv : Value) (ls : List Ls) (fs : List Fx) (q : Nat) (l0 l1 l2 : Int) (X : World) : Prop where
  pb : PB w pa pn lv fv ls fs X
  var : VarA q LeaseT #[.int .i64 l0, .int .i64 l1, .int .i64 l2] X
theorem LV.next {w : World} {pa pn : Int} {lv fv : Value} {ls : List Ls} {fs : List Fx} {q : Nat} {l0 l1 l2 : Int} {X Y : World} (h : LV w pa pn lv fv ls fs q l0 l1 l2 X) (hb : Below X.heap.size X Y) : LV w pa pn lv fv ls fs q l0 l1 l2 Y := ⟨h.pb.next hb, h.var.next hb⟩
theorem LV.drewN {w : World} {pa pn : Int} {lv fv : Value} {ls : List Ls} {fs : List Fx} {q : Nat} {l0 l1 l2 : Int} {X : World} (h : LV w pa pn lv fv ls fs q l0 l1 l2 X) (n : Nat) : LV w pa pn lv fv ls fs q l0 l1 l2 (X.drewN n) := h.next (below_drewN (Below.refl _ X) n)

set_option maxRecDepth 100000 in
set_option maxHeartbeats 6400000 in
theorem areLeasesRight_any (pa pn : Int) (lv fv : Value) (ls : List Ls) (fs : List Fx) (hpr : PrefOk pa pn) (hn : 24 ≤ pn) (hn2 : pn ≤ 30) (hl : ls.length ≤ 2000000) (hfl : fs.length ≤ 2000000) (w : World) (h : PoolR w lv fv ls fs) :
    Calls Try.prog 51 #[.agg #[.int .i64 pa, .int .i64 pn, lv, fv]] w fun e w' => LeTold pa pn ls fs e ∧ Below w.heap.size w w' := by
  obtain ⟨la, lc, rfl⟩ := rows_form h.leases
  obtain ⟨fa, fc, rfl⟩ := rows_form h.fixes
  have hroom := rows_room h.leases
  have hB0 : Below w.heap.size w (w.alloc (.cells #[.int .i64 pa, .int .i64 pn, .slice la ls.length lc, .slice fa fs.length fc] PoolT)) := (Below.refl _ _).alloc (Nat.le_refl _) _
  have HP1 : Hid (PB w pa pn (.slice la ls.length lc) (.slice fa fs.length fc) ls fs (w.alloc (.cells #[.int .i64 pa, .int .i64 pn, .slice la ls.length lc, .slice fa fs.length fc] PoolT))) := ⟨VarA.new w PoolT _, h.next hB0, hB0⟩
  have HPR := Lib.hid hpr
  clear h hB0 hpr
  go_enter Try.func51, Try.ntmps51
  go_upto_region 1 with fail
  generalize w.alloc (.cells #[.int .i64 pa, .int .i64 pn, .slice la ls.length lc, .slice fa fs.length fc] PoolT) = X0 at *
  have c2 : X0.cell? ⟨w.heap.size, 2, none⟩ = some (.slice la ls.length lc) := HP1.out.box.cell 2
  by_cases hl6 : ls.length ≤ 6
  rotate_left
  · have hend : Hid (¬ LeasesP pa pn ls fs) := fun h => hl6 h.1
    have hl6' : (6 : Int) < (ls.length : Int) := by omega
    go_wp2_with fail
    go_ret
    exact ⟨.inr ⟨hend.out, rfl⟩, HP1.out.below⟩
  have hl6' : ¬ ((6 : Int) < (ls.length : Int)) := by omega
  go_wp2_with fail
  clear hl6' c2
  go_loopw [13] (fun c wr => ∃ k : Nat, k ≤ ls.length ∧ c = .int .i64 k ∧ Hid (∀ j, j < k → ∀ l, ls[j]? = some l → LeaseOk pa pn ls fs j l) ∧ PB w pa pn (.slice la ls.length lc) (.slice fa fs.length fc) ls fs wr) (fun c _ => ls.length - (intOf c).toNat)
  case atStart => exact ⟨0, Nat.zero_le _, rfl, fun j hj => absurd hj (by omega), HP1.out⟩
  case round =>
    obtain ⟨k, hk, rfl, HF, hpb⟩ := hrel
    have HPB := Lib.hid hpb
    clear hpb HP1
    by_cases hlt : k < ls.length
    · have hlt' : (k : Int) < (ls.length : Int) := by omega
      have hget : ls[k]? = some ls[k] := List.getElem?_eq_getElem hlt
      obtain ⟨g, off, rfl, hg, d0, d1, d2⟩ := lease_cells HPB.out.rd.leases k _ hget
      generalize ls[k] = l at hget d0 d1 d2
      obtain ⟨l0, l1, l2⟩ := l
      have HG := Lib.hid hget
      have hbn : Below wr.heap.size wr (wr.alloc (.cells #[.int .i64 l0, .int .i64 l1, .int .i64 l2] LeaseT)) := (Below.refl _ _).alloc (Nat.le_refl _) _
      have V0 : Hid (LV w pa pn (.slice (some ⟨g, off, none⟩) ls.length lc) (.slice fa fs.length fc) ls fs wr.heap.size l0 l1 l2 (wr.alloc (.cells #[.int .i64 l0, .int .i64 l1, .int .i64 l2] LeaseT))) := ⟨HPB.out.next hbn, VarA.new wr LeaseT _⟩
      obtain ⟨bw, HBW⟩ : ∃ b : Bool, Hid (b = true ↔ (1 ≤ l1 ∧ l1 ≤ 99)) := ⟨decide (1 ≤ l1 ∧ l1 ≤ 99), by show _ ↔ _; rw [decide_eq_true_eq]⟩
      obtain ⟨bi, hbi⟩ : ∃ b, Hid (b = insideP pa pn l0) := ⟨_, rfl⟩
      obtain ⟨ff, hff⟩ : ∃ z, Hid (z = fixedP fs l0) := ⟨_, rfl⟩
      have CG : Hid (∀ X, Calls Try.prog 62 #[.agg #[.int .i64 pa, .int .i64 pn], .int .i64 l0] X fun e Y => e = .returned (.bool bi) ∧ Below X.heap.size X Y) := fun X => by rw [hbi.out]; exact canGive_in HPR.out hn hn2 l0 X
      have CW := Lib.hid (fun X => isWho_any l1 bw HBW.out X)
      have CF : Hid (∀ X, layFixedS.rd X [.slice fa fs.length fc] fs → Calls Try.prog 53 #[.slice fa fs.length fc, .int .i64 l0] X fun e Y => e = .returned (.int .i64 ff) ∧ Below X.heap.size X Y) := fun X hX => by rw [hff.out]; exact fixedFor_any _ fs l0 (by omega) X hX
      clear hget hbn HPB
      go_upto_region 6 with fail
      obtain ⟨q, hq⟩ : ∃ q, Hid (q = wr.heap.size) := ⟨_, rfl⟩
      rw [← hq.out] at V0 ⊢
      generalize wr.alloc (.cells #[.int .i64 l0, .int .i64 l1, .int .i64 l2] LeaseT) = Y0 at *
      have q0 : Y0.cell? ⟨q, 0, none⟩ = some (.int .i64 l0) := V0.out.var.cell 0
      have q1 : Y0.cell? ⟨q, 1, none⟩ = some (.int .i64 l1) := V0.out.var.cell 1
      have b0 : Y0.cell? ⟨w.heap.size, 0, none⟩ = some (.int .i64 pa) := V0.out.pb.box.cell 0
      have b1 : Y0.cell? ⟨w.heap.size, 1, none⟩ = some (.int .i64 pn) := V0.out.pb.box.cell 1
      clear d0 d1 d2
      cases bw
      · have hend : Hid (¬ LeasesP pa pn ls fs) := fun h => by have := HBW.out.2 (h.2 k _ HG.out).2.1; cases this
        go_wp2_with (go_at_call 27; refine (CW.out _).mono ?_; rintro e w' ⟨rfl, hw⟩; rw [hw])
        go_ret
        exact ⟨.inr ⟨hend.out, rfl⟩, V0.out.pb.below⟩
      have HW := Lib.hid (HBW.out.1 rfl)
      cases bi
      · have hend : Hid (¬ LeasesP pa pn ls fs) := fun h => by
          have := (h.2 k _ HG.out).1
          simp only at this
          rw [← hbi.out] at this
          cases this
        go_wp2_with (go_at_call 27; refine (CW.out _).mono ?_; rintro e w' ⟨rfl, hw⟩; rw [hw])
        refine (CG.out _).mono ?_
        rintro e Y1 ⟨rfl, hb1⟩
        have V1 := Lib.hid (V0.out.next hb1)
        clear hb1
        go_wp2_with fail
        go_ret
        exact ⟨.inr ⟨hend.out, rfl⟩, V1.out.pb.below⟩
      have HIN : Hid (insideP pa pn l0 = true) := hbi.out.symm
      go_wp2_with (go_at_call 27; refine (CW.out _).mono ?_; rintro e w' ⟨rfl, hw⟩; rw [hw])
      refine (CG.out _).mono ?_
      rintro e Y1 ⟨rfl, hb1⟩
      have V1 := Lib.hid (V0.out.next hb1)
      clear hb1 V0 q0 q1 b0 b1 CG CW
      have q2 : Y1.cell? ⟨q, 2, none⟩ = some (.int .i64 l2) := V1.out.var.cell 2
      by_cases hu0 : l2 < 0
      · have hend : Hid (¬ LeasesP pa pn ls fs) := fun h => by have := (h.2 k _ HG.out).2.2.1; simp only at this; omega
        go_wp2_with fail
        go_ret
        exact ⟨.inr ⟨hend.out, rfl⟩, V1.out.pb.below⟩
      by_cases hu1 : 1000000000 < l2
      · have hend : Hid (¬ LeasesP pa pn ls fs) := fun h => by have := (h.2 k _ HG.out).2.2.1; simp only at this; omega
        have hd0 : decide (l2 < 0) = false := decide_eq_false hu0
        go_wp2_with fail
        go_ret
        exact ⟨.inr ⟨hend.out, rfl⟩, V1.out.pb.below⟩
      have hd0 : decide (l2 < 0) = false := decide_eq_false hu0
      have hd1 : decide (1000000000 < l2) = false := decide_eq_false hu1
      have HU : Hid (0 ≤ l2 ∧ l2 ≤ 1000000000) := ⟨by omega, by omega⟩
      go_wp2_with fail
      clear q2 hd0 hd1 hu0 hu1
      have q0 : Y1.cell? ⟨q, 0, none⟩ = some (.int .i64 l0) := V1.out.var.cell 0
      have b2 : Y1.cell? ⟨w.heap.size, 2, none⟩ = some (.slice (some ⟨g, off, none⟩) ls.length lc) := V1.out.pb.box.cell 2
      go_cut [53] (fun v wx => ∃ r : Bool, v = .bool r ∧ Hid (r = true → ¬ LeasesP pa pn ls fs) ∧ Hid (r = false → ∀ x, 0 < k → ls[k - 1]? = some x → x.1 < l0) ∧ Hid (LV w pa pn (.slice (some ⟨g, off, none⟩) ls.length lc) (.slice fa fs.length fc) ls fs q l0 l1 l2 wx))
      case first =>
        by_cases hk0 : k = 0
        · subst hk0
          go_quiet (fail)
          have V2 := Lib.hid (V1.out.drewN nq)
          go_wp2_with fail
          go_meet
          exact ⟨false, rfl, fun h => (by cases h), fun _ x h => absurd h (by omega), V2.out⟩
        · obtain ⟨j, hj⟩ : ∃ j, k = j + 1 := ⟨k - 1, by omega⟩
          have HKJ : Hid (k - 1 = j) := by show _ = _; omega
          have hjl : j < ls.length := by omega
          have hgj : ls[j]? = some ls[j] := List.getElem?_eq_getElem hjl
          obtain ⟨g', off', e1, _, z0, _, _⟩ := lease_cells V1.out.pb.rd.leases j _ hgj
          simp only [Option.some.injEq, Addr.mk.injEq, and_true] at e1
          obtain ⟨rfl, rfl⟩ := e1
          generalize ls[j] = x at hgj z0
          obtain ⟨ew, ez⟩ := x
          have z1 : Y1.cell? ⟨g, off + j * 3, none⟩ = some (.int .i64 ew) := z0
          have HGZ := Lib.hid hgj
          have hz : decide ((0 : Int) < (k : Int)) = true := decide_eq_true (by omega)
          have hz1 : (0 : Int) < (k : Int) := by omega
          have hj1 : (j : Int) < (ls.length : Int) := by omega
          have hsub : IntKind.i64.wrap ((k : Int) - 1) = (j : Int) := by rw [IntKind.wrap_i64]; omega
          have hsub2 : (k : Int) - 1 = (j : Int) := by omega
          have hkp : 0 < k := by omega
          clear hgj z0 hk0
          by_cases hge : l0 ≤ ew
          · have hend : Hid (¬ LeasesP pa pn ls fs) := fun h => by
              have h2 := (h.2 k _ HG.out).2.2.2.1 (ew, ez) hkp (by rw [HKJ.out]; exact HGZ.out)
              simp only at h2
              omega
            have hgd : decide (l0 ≤ ew) = true := decide_eq_true hge
            clear hj
            go_quiet (fail)
            have V2 := Lib.hid (V1.out.drewN nq)
            go_wp2_with fail
            go_meet
            exact ⟨true, rfl, fun _ => hend.out, fun h => (by cases h), V2.out⟩
          · have hgd : decide (l0 ≤ ew) = false := decide_eq_false hge
            have HLT : Hid (ew < l0) := by show ew < l0; omega
            clear hj
            go_quiet (fail)
            have V2 := Lib.hid (V1.out.drewN nq)
            go_wp2_with fail
            go_meet
            exact ⟨false, rfl, fun h => (by cases h), fun _ x _ hx => by rw [HKJ.out, HGZ.out] at hx; cases hx; exact HLT.out, V2.out⟩
      case rest =>
        obtain ⟨r, rfl, HRT, HRF, HV⟩ := hcut
        generalize wc = Y2 at *
        clear V1 q0 b2
        cases r
        rotate_left
        · have hend := Lib.hid (HRT.out rfl)
          go_wp2_with fail
          go_ret
          exact ⟨.inr ⟨hend.out, rfl⟩, HV.out.pb.below⟩
        have HPV := Lib.hid (HRF.out rfl)
        clear HRT HRF
        have b2 : Y2.cell? ⟨w.heap.size, 2, none⟩ = some (.slice (some ⟨g, off, none⟩) ls.length lc) := HV.out.pb.box.cell 2
        have hkc : (k : Int) ≤ (lc : Int) := by omega
        have hkc2 : k ≤ lc := by omega
        obtain ⟨bc, HBC⟩ : ∃ b : Bool, Hid (b = true ↔ HasWho ls k l1) := by
          by_cases h : HasWho ls k l1
          · exact ⟨true, by show _ ↔ _; simp [h]⟩
          · exact ⟨false, by show _ ↔ _; simp [h]⟩
        have CC := Lib.hid (fun lc2 => containsWho_any (some ⟨g, off, none⟩) ls.length lc lc2 ls k hk hl q l1 Y2 HV.out.pb.rd.leases (HV.out.var.cell 1) bc HBC.out)
        go_wp2_with fail
        refine (CC.out _).mono ?_
        rintro e Y3 ⟨rfl, hb3⟩
        have V3 := Lib.hid (HV.out.next hb3)
        clear hb3 CC b2 HV
        cases bc
        rotate_left
        · have hend : Hid (¬ LeasesP pa pn ls fs) := fun h => by
            obtain ⟨j, x, hj, hx, hw⟩ := HBC.out.1 rfl
            exact (h.2 k _ HG.out).2.2.2.2.2 j hj x hx hw
          go_wp2_with fail
          go_ret
          exact ⟨.inr ⟨hend.out, rfl⟩, V3.out.pb.below⟩
        have HNO : Hid (∀ j, j < k → ∀ x, ls[j]? = some x → x.2.1 ≠ l1) := fun j hj x hx hw => by have := HBC.out.2 ⟨j, x, hj, hx, hw⟩; cases this
        have b3 : Y3.cell? ⟨w.heap.size, 3, none⟩ = some (.slice fa fs.length fc) := V3.out.pb.box.cell 3
        have q0 : Y3.cell? ⟨q, 0, none⟩ = some (.int .i64 l0) := V3.out.var.cell 0
        go_wp2_with fail
        refine (CF.out _ V3.out.pb.rd.fixes).mono ?_
        rintro e Y4 ⟨rfl, hb4⟩
        have V4 := Lib.hid (V3.out.next hb4)
        clear hb4 b3 q0 V3 CF
        have q1 : Y4.cell? ⟨q, 1, none⟩ = some (.int .i64 l1) := V4.out.var.cell 1
        by_cases h0 : ff = 0
        · have hb1 : (ff != 0) = false := by rw [bne_eq_false_iff_eq]; exact h0
          have HX : Hid (∀ j, j < k + 1 → ∀ l, ls[j]? = some l → LeaseOk pa pn ls fs j l) := fun j hj l hl2 => by
            rcases Nat.lt_or_ge j k with h1 | h1
            · exact HF.out j h1 l hl2
            · have : j = k := by omega
              subst this
              rw [HG.out] at hl2
              cases hl2
              exact ⟨HIN.out, HW.out, HU.out, HPV.out, .inl (by rw [← hff.out]; exact h0), HNO.out⟩
          clear h0
          go_wp2_with fail
          go_roundw
          case rel => exact ⟨k + 1, by omega, by go_num, HX, V4.out.pb⟩
          case measure => simp [intOf]; omega
        · have hb1 : (ff != 0) = true := by rw [bne_iff_ne]; exact h0
          by_cases h1 : ff = l1
          · have hb2 : (ff != l1) = false := by rw [bne_eq_false_iff_eq]; exact h1
            have HX : Hid (∀ j, j < k + 1 → ∀ l, ls[j]? = some l → LeaseOk pa pn ls fs j l) := fun j hj l hl2 => by
              rcases Nat.lt_or_ge j k with h2 | h2
              · exact HF.out j h2 l hl2
              · have : j = k := by omega
                subst this
                rw [HG.out] at hl2
                cases hl2
                exact ⟨HIN.out, HW.out, HU.out, HPV.out, .inr (by rw [← hff.out]; exact h1), HNO.out⟩
            clear h0 h1
            go_wp2_with fail
            go_roundw
            case rel => exact ⟨k + 1, by omega, by go_num, HX, V4.out.pb⟩
            case measure => simp [intOf]; omega
          · have hb2 : (ff != l1) = true := by rw [bne_iff_ne]; exact h1
            have hend : Hid (¬ LeasesP pa pn ls fs) := fun h => by
              have h2 := (h.2 k _ HG.out).2.2.2.2.1
              simp only at h2
              rw [← hff.out] at h2
              omega
            clear h0 h1
            go_wp2_with fail
            go_ret
            exact ⟨.inr ⟨hend.out, rfl⟩, V4.out.pb.below⟩
    · have hlt' : ¬ ((k : Int) < (ls.length : Int)) := by omega
      have HE : Hid (LeasesP pa pn ls fs) := ⟨hl6, fun i l hl2 => HF.out i (by have := (List.getElem?_eq_some_iff.1 hl2).1; omega) l hl2⟩
      go_wp2_with fail
      go_ret
      exact ⟨.inl ⟨HE.out, rfl⟩, HPB.out.below⟩

/-- The program's PoolOk. -/
theorem implPoolOk_any (pa pn : Int) (lv fv : Value) (ls : List Ls) (fs : List Fx) (hl : ls.length ≤ 2000000) (hfl : fs.length ≤ 2000000) (w : World) (h : PoolR w lv fv ls fs) :
    Calls Try.prog 26 #[.agg #[.int .i64 pa, .int .i64 pn, lv, fv]] w fun e w' => PoolTold pa pn ls fs e ∧ Below w.heap.size w w' := by
  obtain ⟨la, lc, rfl⟩ := rows_form h.leases
  obtain ⟨fa, fc, rfl⟩ := rows_form h.fixes
  have hB0 : Below w.heap.size w (w.alloc (.cells #[.int .i64 pa, .int .i64 pn, .slice la ls.length lc, .slice fa fs.length fc] PoolT)) := (Below.refl _ _).alloc (Nat.le_refl _) _
  have HP1 : Hid (PB w pa pn (.slice la ls.length lc) (.slice fa fs.length fc) ls fs (w.alloc (.cells #[.int .i64 pa, .int .i64 pn, .slice la ls.length lc, .slice fa fs.length fc] PoolT))) := ⟨VarA.new w PoolT _, h.next hB0, hB0⟩
  clear h hB0
  obtain ⟨bn, HBN⟩ : ∃ b : Bool, Hid (b = true ↔ (PrefOk pa pn ∧ 24 ≤ pn ∧ pn ≤ 30)) := by
    by_cases h : PrefOk pa pn ∧ 24 ≤ pn ∧ pn ≤ 30
    · exact ⟨true, by show _ ↔ _; simp [h]⟩
    · exact ⟨false, by show _ ↔ _; simp [h]⟩
  have CN := Lib.hid (fun X => isPoolNet_any pa pn bn HBN.out X)
  go_enter Try.func26, Try.ntmps26
  go_upto_region 1 with fail
  generalize w.alloc (.cells #[.int .i64 pa, .int .i64 pn, .slice la ls.length lc, .slice fa fs.length fc] PoolT) = X0 at *
  have c0 : X0.cell? ⟨w.heap.size, 0, none⟩ = some (.int .i64 pa) := HP1.out.box.cell 0
  have c1 : X0.cell? ⟨w.heap.size, 1, none⟩ = some (.int .i64 pn) := HP1.out.box.cell 1
  go_wp2_with fail
  refine (CN.out _).mono ?_
  rintro e X1 ⟨rfl, hb1⟩
  have P1 := Lib.hid (HP1.out.next hb1)
  clear hb1 c0 c1 HP1 CN
  have d0 : X1.cell? ⟨w.heap.size, 0, none⟩ = some (.int .i64 pa) := P1.out.box.cell 0
  have d1 : X1.cell? ⟨w.heap.size, 1, none⟩ = some (.int .i64 pn) := P1.out.box.cell 1
  have d2 : X1.cell? ⟨w.heap.size, 2, none⟩ = some (.slice la ls.length lc) := P1.out.box.cell 2
  have d3 : X1.cell? ⟨w.heap.size, 3, none⟩ = some (.slice fa fs.length fc) := P1.out.box.cell 3
  cases bn
  · have hend : Hid (¬ PoolOkP pa pn ls fs) := fun h => by have := HBN.out.2 ⟨h.1.1, h.1.2.1, h.1.2.2.1⟩; cases this
    go_wp2_with fail
    go_ret
    exact ⟨.inr ⟨hend.out, rfl⟩, P1.out.below⟩
  have HNT := Lib.hid (HBN.out.1 rfl)
  have CFX := Lib.hid (areFixesRight_any pa pn _ _ ls fs HNT.out.1 HNT.out.2.1 HNT.out.2.2 hfl X1 P1.out.rd)
  go_wp2_with fail
  refine CFX.out.mono ?_
  rintro e X2 ⟨ht, hb2⟩
  have P2 := Lib.hid (P1.out.next hb2)
  clear hb2 CFX d0 d1 d2 d3 P1
  have d0 : X2.cell? ⟨w.heap.size, 0, none⟩ = some (.int .i64 pa) := P2.out.box.cell 0
  have d1 : X2.cell? ⟨w.heap.size, 1, none⟩ = some (.int .i64 pn) := P2.out.box.cell 1
  have d2 : X2.cell? ⟨w.heap.size, 2, none⟩ = some (.slice la ls.length lc) := P2.out.box.cell 2
  have d3 : X2.cell? ⟨w.heap.size, 3, none⟩ = some (.slice fa fs.length fc) := P2.out.box.cell 3
  rcases ht with ⟨hF, rfl⟩ | ⟨hF, rfl⟩
  rotate_left
  · have hend : Hid (¬ PoolOkP pa pn ls fs) := fun h => hF ⟨h.1.2.2.2.2, h.2.1⟩
    clear hF
    go_wp2_with fail
    go_ret
    exact ⟨.inr ⟨hend.out, rfl⟩, P2.out.below⟩
  have HFX := Lib.hid hF
  clear hF
  have CLE := Lib.hid (areLeasesRight_any pa pn _ _ ls fs HNT.out.1 HNT.out.2.1 HNT.out.2.2 hl hfl X2 P2.out.rd)
  go_wp2_with fail
  refine CLE.out.mono ?_
  rintro e X3 ⟨ht, hb3⟩
  have P3 := Lib.hid (P2.out.next hb3)
  clear hb3 CLE d0 d1 d2 d3 P2
  rcases ht with ⟨hL, rfl⟩ | ⟨hL, rfl⟩
  · have HE : Hid (PoolOkP pa pn ls fs) := ⟨⟨HNT.out.1, HNT.out.2.1, HNT.out.2.2, hL.1, HFX.out.1⟩, HFX.out.2, hL.2⟩
    clear hL
    go_wp2_with fail
    go_ret
    exact ⟨.inl ⟨HE.out, rfl⟩, P3.out.below⟩
  · have hend : Hid (¬ PoolOkP pa pn ls fs) := fun h => hL ⟨h.1.2.2.2.1, h.2.2⟩
    clear hL
    go_wp2_with fail
    go_ret
    exact ⟨.inr ⟨hend.out, rfl⟩, P3.out.below⟩

end Go.Proofs.Ytphmomlgmnllkaq
