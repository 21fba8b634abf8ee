/-
  The law on grants, out of the program's contracts.
-/
import Derived.Test.YtphmomlgmnllkacJ42
namespace Go.Proofs.Ytphmomlgmnllkac
open Go.RowKit

/-- What the law on grants holds while it goes on: the pool, the one with the grant, the one with it again, the one without it. -/
structure GW (w : World) (gp gq gk gd : Nat) (pa pn : Int) (la fa aa ba ca da ia ja : Option Addr) (lc fc ac bc cc dc ic jc : Nat) (ls rs qs us : List Ls) (fs : List Fx) (X : World) : Prop where
  p : PoV gp pa pn (.slice la ls.length lc) (.slice fa fs.length fc) ls fs X
  a : PoV gq pa pn (.slice aa rs.length ac) (.slice ba fs.length bc) rs fs X
  c : PoV gk pa pn (.slice ca qs.length cc) (.slice da fs.length dc) qs fs X
  d : PoV gd pa pn (.slice ia us.length ic) (.slice ja fs.length jc) us fs X
  below : Below w.heap.size w X
theorem GW.next {w : World} {gp gq gk gd : Nat} {pa pn : Int} {la fa aa ba ca da ia ja : Option Addr} {lc fc ac bc cc dc ic jc : Nat} {ls rs qs us : List Ls} {fs : List Fx} {X Y : World} (h : GW w gp gq gk gd pa pn la fa aa ba ca da ia ja lc fc ac bc cc dc ic jc ls rs qs us fs X) (hb : Below X.heap.size X Y) : GW w gp gq gk gd pa pn la fa aa ba ca da ia ja lc fc ac bc cc dc ic jc ls rs qs us fs Y :=
  ⟨h.p.next hb, h.a.next hb, h.c.next hb, h.d.next hb, h.below.trans (hb.mono h.below.size)⟩

set_option maxRecDepth 100000 in
set_option maxHeartbeats 12800000 in
theorem lawGrantsF (L : World → Prop) (F : GrantFns L) (a : Option Addr) (len cap : Nat) (w : World) (H : Src a len w) (ht : L w) :
    Calls Try.prog 7 #[.slice a len cap] w fun e w' => e = .returned (.bool true) ∧ Below w.heap.size w w' := by
  have hd : decide (1048576 < (len : Int)) = false := decide_eq_false (by have := H.few; omega)
  have HB := Lib.hid (fun w => bigE_any a len cap w)
  rw [hd] at HB
  have HS := Lib.hid H
  have HT : Hid (∀ X, Below w.heap.size w X → L X) := fun X hX => F.stays w X ht hX
  have HF := Lib.hid F
  clear H ht hd F
  go_enter Try.func7, Try.ntmps7
  go_wp2_with fail
  refine (HB.out _).mono ?_
  rintro e w0 ⟨rfl, hw0⟩
  have hw1 := hw0.symm
  subst hw1
  clear hw0
  go_wp2_with fail
  refine (drawPool_any a len cap _ HS.out).mono ?_
  rintro e w1 ⟨pa, pn, lv, fv, ls, fs, hP, rfl, hpo⟩
  obtain ⟨la, lc, rfl⟩ := rows_form hpo.pool.leases
  obtain ⟨fa, fc, rfl⟩ := rows_form hpo.pool.fixes
  have HP := Lib.hid hP
  have hl6 : ls.length ≤ 6 := hP.1.2.2.2.1
  have hf4 : fs.length ≤ 4 := hP.1.2.2.2.2
  have P1 := Lib.hid (PoV.new (pa := pa) (pn := pn) hpo)
  have B1 := Lib.hid (hpo.below.alloc hpo.below.size (.cells #[.int .i64 pa, .int .i64 pn, .slice la ls.length lc, .slice fa fs.length fc] PoolT))
  clear hpo hP HB
  go_upto_region 4 with fail
  generalize w1.alloc (.cells #[.int .i64 pa, .int .i64 pn, .slice la ls.length lc, .slice fa fs.length fc] PoolT) = V1 at *
  generalize w1.heap.size = gp at *
  clear w1
  go_wp2_with fail
  refine (drawPlaces_any a len cap _ (HS.out.below B1.out)).mono ?_
  rintro e w2 ⟨g2, cap2, zs, hz12, hzr, rfl, hg2, hcz, hb2⟩
  have P2 := Lib.hid (P1.out.next hb2)
  have B2 := Lib.hid (B1.out.trans (hb2.mono B1.out.size))
  have c0 : w2.cell? ⟨g2, 0, none⟩ = some (.int .i64 (zs.getD 0 0)) := hcz 0 (by omega)
  have hz0 : 0 ≤ zs.getD 0 0 ∧ zs.getD 0 0 ≤ 9999 := hzr _ (by rw [List.getD_eq_getElem?_getD, List.getElem?_eq_getElem (by omega)]; exact List.getElem_mem _)
  clear hb2 hcz hzr hz12 P1 B1 HS
  generalize zs.getD 0 0 = z at *
  obtain ⟨m9, HM⟩ : ∃ m9 : Int, Hid (Int.tmod z 9 = m9) := ⟨_, rfl⟩
  have hm9 : 0 ≤ m9 ∧ m9 ≤ 8 := by
    have h1 := Int.tmod_nonneg 9 hz0.1
    have h2 := Int.tmod_lt_of_pos z (show (0 : Int) < 9 by omega)
    rw [HM.out] at h1 h2
    omega
  have hmod : Int.tmod z 9 = m9 := HM.out
  obtain ⟨who, HW⟩ : ∃ who : Int, Hid (who = 1 + m9) := ⟨_, rfl⟩
  have hwho : 1 ≤ who ∧ who ≤ 9 := by have := HW.out; omega
  have hsum : IntKind.i64.wrap (1 + m9) = who := by rw [IntKind.wrap_i64, HW.out]; omega
  have p0 : w2.cell? ⟨gp, 0, none⟩ = some (.int .i64 pa) := P2.out.var.cell 0
  have p1 : w2.cell? ⟨gp, 1, none⟩ = some (.int .i64 pn) := P2.out.var.cell 1
  have p2 : w2.cell? ⟨gp, 2, none⟩ = some (.slice la ls.length lc) := P2.out.var.cell 2
  have p3 : w2.cell? ⟨gp, 3, none⟩ = some (.slice fa fs.length fc) := P2.out.var.cell 3
  have K1 := Lib.hid (HF.out.grant pa pn _ _ ls fs who 50 (by omega) (by omega) w2 (HT.out _ B2.out) P2.out.pool)
  go_upto_region 6 with fail
  clear hmod hsum c0 hz0 hm9
  go_wp2_with fail
  refine (K1.out).mono ?_
  rintro e w3 ⟨lu, fu, rs, ad, b, rfl, ht3, ho3⟩
  obtain ⟨aa, ac, rfl⟩ := rows_form ho3.pool.leases
  obtain ⟨ba, bc, rfl⟩ := rows_form ho3.pool.fixes
  have HT3 := Lib.hid ht3
  have HRP := Lib.hid (ht3.right HP.out)
  have hr6 : rs.length ≤ 6 := HRP.out.1.2.2.2.1
  have hal3 : Below w3.heap.size w3 (w3.alloc (.cells #[.int .i64 pa, .int .i64 pn, .slice aa rs.length ac, .slice ba fs.length bc] PoolT)) := (Below.refl _ _).alloc (Nat.le_refl _) _
  have P3 := Lib.hid ((P2.out.next ho3.below).next hal3)
  have A3 := Lib.hid (PoV.new (pa := pa) (pn := pn) ho3)
  have B3 := Lib.hid ((B2.out.trans (ho3.below.mono B2.out.size)).trans (hal3.mono (B2.out.trans (ho3.below.mono B2.out.size)).size))
  clear ht3 ho3 hal3 K1 P2 B2 p0 p1 p2 p3
  go_upto_region 7 with fail
  generalize w3.alloc (.cells #[.int .i64 pa, .int .i64 pn, .slice aa rs.length ac, .slice ba fs.length bc] PoolT) = V3 at *
  generalize w3.heap.size = gq at *
  clear w3 hg2
  clear w2
  have p0 : V3.cell? ⟨gp, 0, none⟩ = some (.int .i64 pa) := P3.out.var.cell 0
  have p1 : V3.cell? ⟨gp, 1, none⟩ = some (.int .i64 pn) := P3.out.var.cell 1
  have p2 : V3.cell? ⟨gp, 2, none⟩ = some (.slice la ls.length lc) := P3.out.var.cell 2
  have p3 : V3.cell? ⟨gp, 3, none⟩ = some (.slice fa fs.length fc) := P3.out.var.cell 3
  have K2 := Lib.hid (specGrant_any pa pn _ _ ls fs who 50 (by omega) (by omega) V3 P3.out.pool)
  go_wp2_with fail
  refine (K2.out).mono ?_
  rintro e w4 ⟨g4, gc4, k4, kc4, rs4, ad4, b4, rfl, ht4, hl4, hf4', hb4⟩
  obtain ⟨e1, e2, e3⟩ := ht4.one HT3.out
  subst e1 e2 e3
  have hal4 : Below w4.heap.size w4 (w4.alloc (.cells #[.int .i64 pa, .int .i64 pn, .slice (some ⟨g4, 0, none⟩) rs4.length gc4, .slice (some ⟨k4, 0, none⟩) fs.length kc4] PoolT)) := (Below.refl _ _).alloc (Nat.le_refl _) _
  have P4 := Lib.hid ((P3.out.next hb4).next hal4)
  have A4 := Lib.hid ((A3.out.next hb4).next hal4)
  have O4 : PoolOut V3 (.slice (some ⟨g4, 0, none⟩) rs4.length gc4) (.slice (some ⟨k4, 0, none⟩) fs.length kc4) rs4 fs w4 := ⟨⟨_, hl4⟩, ⟨_, hf4'⟩, hb4⟩
  have C4 := Lib.hid (PoV.new (pa := pa) (pn := pn) O4)
  have B4 := Lib.hid ((B3.out.trans (hb4.mono B3.out.size)).trans (hal4.mono (B3.out.trans (hb4.mono B3.out.size)).size))
  clear ht4 hl4 hf4' hb4 hal4 O4 K2 P3 A3 B3 p0 p1 p2 p3
  go_upto_region 8 with fail
  generalize w4.alloc (.cells #[.int .i64 pa, .int .i64 pn, .slice (some ⟨g4, 0, none⟩) rs4.length gc4, .slice (some ⟨k4, 0, none⟩) fs.length kc4] PoolT) = V4 at *
  generalize w4.heap.size = gb at *
  clear w4
  have q0 : V4.cell? ⟨gq, 0, none⟩ = some (.int .i64 pa) := A4.out.var.cell 0
  have q1 : V4.cell? ⟨gq, 1, none⟩ = some (.int .i64 pn) := A4.out.var.cell 1
  have q2 : V4.cell? ⟨gq, 2, none⟩ = some (.slice aa rs4.length ac) := A4.out.var.cell 2
  have q3 : V4.cell? ⟨gq, 3, none⟩ = some (.slice ba fs.length bc) := A4.out.var.cell 3
  have r0 : V4.cell? ⟨gb, 0, none⟩ = some (.int .i64 pa) := C4.out.var.cell 0
  have r1 : V4.cell? ⟨gb, 1, none⟩ = some (.int .i64 pn) := C4.out.var.cell 1
  have r2 : V4.cell? ⟨gb, 2, none⟩ = some (.slice (some ⟨g4, 0, none⟩) rs4.length gc4) := C4.out.var.cell 2
  have r3 : V4.cell? ⟨gb, 3, none⟩ = some (.slice (some ⟨k4, 0, none⟩) fs.length kc4) := C4.out.var.cell 3
  have K3 := Lib.hid (samePool_same pa pn _ _ _ _ rs4 fs (by omega) V4 A4.out.pool C4.out.pool)
  have hbb : (b4 != b4) = false := by cases b4 <;> rfl
  go_wp2_with fail
  refine (K3.out).mono ?_
  rintro e w5 ⟨rfl, hb5⟩
  have P5 := Lib.hid (P4.out.next hb5)
  have A5 := Lib.hid (A4.out.next hb5)
  have B5 := Lib.hid (B4.out.trans (hb5.mono B4.out.size))
  clear hb5 P4 A4 B4 C4 K3 q0 q1 q2 q3 r0 r1 r2 r3
  have p0 : w5.cell? ⟨gp, 0, none⟩ = some (.int .i64 pa) := P5.out.var.cell 0
  have p1 : w5.cell? ⟨gp, 1, none⟩ = some (.int .i64 pn) := P5.out.var.cell 1
  have p2 : w5.cell? ⟨gp, 2, none⟩ = some (.slice la ls.length lc) := P5.out.var.cell 2
  have p3 : w5.cell? ⟨gp, 3, none⟩ = some (.slice fa fs.length fc) := P5.out.var.cell 3
  have K4 := Lib.hid (HF.out.ok pa pn _ _ ls fs (by omega) (by omega) w5 (HT.out _ B5.out) P5.out.pool)
  go_wp2_with fail
  refine (K4.out).mono ?_
  rintro e w6 ⟨⟨_, rfl⟩ | ⟨hno, _⟩, hb6⟩
  rotate_left
  · exact absurd HP.out hno
  have P6 := Lib.hid (P5.out.next hb6)
  have A6 := Lib.hid (A5.out.next hb6)
  have B6 := Lib.hid (B5.out.trans (hb6.mono B5.out.size))
  clear hb6 P5 A5 B5 K4 p0 p1 p2 p3
  have q0 : w6.cell? ⟨gq, 0, none⟩ = some (.int .i64 pa) := A6.out.var.cell 0
  have q1 : w6.cell? ⟨gq, 1, none⟩ = some (.int .i64 pn) := A6.out.var.cell 1
  have q2 : w6.cell? ⟨gq, 2, none⟩ = some (.slice aa rs4.length ac) := A6.out.var.cell 2
  have q3 : w6.cell? ⟨gq, 3, none⟩ = some (.slice ba fs.length bc) := A6.out.var.cell 3
  have K5 := Lib.hid (HF.out.ok pa pn _ _ rs4 fs (by omega) (by omega) w6 (HT.out _ B6.out) A6.out.pool)
  go_wp2_with fail
  refine (K5.out).mono ?_
  rintro e w7 ⟨⟨_, rfl⟩ | ⟨hno, _⟩, hb7⟩
  rotate_left
  · exact absurd HRP.out hno
  have P7 := Lib.hid (P6.out.next hb7)
  have A7 := Lib.hid (A6.out.next hb7)
  have B7 := Lib.hid (B6.out.trans (hb7.mono B6.out.size))
  clear hb7 P6 A6 B6 K5 q0 q1 q2 q3 hbb
  cases b4 with
  | false =>
    have hsame : rs4 = ls := HT3.out.same
    subst hsame
    have p0 : w7.cell? ⟨gp, 0, none⟩ = some (.int .i64 pa) := P7.out.var.cell 0
    have p1 : w7.cell? ⟨gp, 1, none⟩ = some (.int .i64 pn) := P7.out.var.cell 1
    have p2 : w7.cell? ⟨gp, 2, none⟩ = some (.slice la rs4.length lc) := P7.out.var.cell 2
    have p3 : w7.cell? ⟨gp, 3, none⟩ = some (.slice fa fs.length fc) := P7.out.var.cell 3
    have q0 : w7.cell? ⟨gq, 0, none⟩ = some (.int .i64 pa) := A7.out.var.cell 0
    have q1 : w7.cell? ⟨gq, 1, none⟩ = some (.int .i64 pn) := A7.out.var.cell 1
    have q2 : w7.cell? ⟨gq, 2, none⟩ = some (.slice aa rs4.length ac) := A7.out.var.cell 2
    have q3 : w7.cell? ⟨gq, 3, none⟩ = some (.slice ba fs.length bc) := A7.out.var.cell 3
    have K6 := Lib.hid (samePool_same pa pn _ _ _ _ rs4 fs (by omega) w7 A7.out.pool P7.out.pool)
    go_wp2_with fail
    refine (K6.out).mono ?_
    rintro e w8 ⟨rfl, hb8⟩
    have BZ := Lib.hid (B7.out.trans (hb8.mono B7.out.size))
    clear hb8
    go_wp2_with fail
    go_ret
    exact ⟨rfl, BZ.out⟩
  | true =>
    obtain ⟨l1, hl1, hl1a, hl1w, -⟩ := HT3.out.has HP.out
    have HAG : Hid (∀ (rs' : List Ls) (c' : Int) (b' : Bool), GrTold pa pn rs4 fs who 60 rs' c' b' → b' = true ∧ c' = ad4) := fun rs' c' b' h => by
      have h2 := h.again HRP.out ⟨by omega, by omega⟩ l1 hl1 hl1w
      exact ⟨h2.1, by rw [h2.2, hl1a]⟩
    have HIN : Hid (inB pa pn ad4 = true) := inside_in (HT3.out.inside HP.out)
    have HOT : Hid (∀ l ∈ ls, l.2.1 ≠ who → holderP rs4 l.1 = l.2.1) := fun l hl hw => HT3.out.others HP.out l hl hw
    clear hl1 hl1a hl1w l1
    have q0 : w7.cell? ⟨gq, 0, none⟩ = some (.int .i64 pa) := A7.out.var.cell 0
    have q1 : w7.cell? ⟨gq, 1, none⟩ = some (.int .i64 pn) := A7.out.var.cell 1
    have q2 : w7.cell? ⟨gq, 2, none⟩ = some (.slice aa rs4.length ac) := A7.out.var.cell 2
    have q3 : w7.cell? ⟨gq, 3, none⟩ = some (.slice ba fs.length bc) := A7.out.var.cell 3
    have K6 := Lib.hid (HF.out.grant pa pn _ _ rs4 fs who 60 (by omega) (by omega) w7 (HT.out _ B7.out) A7.out.pool)
    go_wp2_with fail
    refine (K6.out).mono ?_
    rintro e w8 ⟨lu, fu, qs, ad8, b8, rfl, ht8, ho8⟩
    obtain ⟨e1, e2⟩ := HAG.out _ _ _ ht8
    subst e1 e2
    obtain ⟨ca, cc, rfl⟩ := rows_form ho8.pool.leases
    obtain ⟨da, dc, rfl⟩ := rows_form ho8.pool.fixes
    have HQP := Lib.hid (ht8.right HRP.out)
    have hq6 : qs.length ≤ 6 := HQP.out.1.2.2.2.1
    obtain ⟨l2, hl2, hl2a, hl2w, -⟩ := ht8.has HRP.out
    have HHO : Hid (holderP qs ad8 = who) := by show _ = _; rw [← hl2a, holder_mem HQP.out.leases l2 hl2, hl2w]
    have HFR : Hid (∀ (us : List Ls) (b : Bool), RelTold pa pn qs fs who us b → b = true ∧ holderP us ad8 = 0) := fun us b h => by
      have h2 := h.free HQP.out l2 hl2 hl2w
      rw [hl2a] at h2
      exact h2
    have hal8 : Below w8.heap.size w8 (w8.alloc (.cells #[.int .i64 pa, .int .i64 pn, .slice ca qs.length cc, .slice da fs.length dc] PoolT)) := (Below.refl _ _).alloc (Nat.le_refl _) _
    have P8 := Lib.hid ((P7.out.next ho8.below).next hal8)
    have A8 := Lib.hid ((A7.out.next ho8.below).next hal8)
    have C8 := Lib.hid (PoV.new (pa := pa) (pn := pn) ho8)
    have B8 := Lib.hid ((B7.out.trans (ho8.below.mono B7.out.size)).trans (hal8.mono (B7.out.trans (ho8.below.mono B7.out.size)).size))
    clear ht8 ho8 hal8 K6 P7 A7 B7 q0 q1 q2 q3 hl2 hl2a hl2w l2 HAG
    go_upto_region 13 with fail
    generalize w8.alloc (.cells #[.int .i64 pa, .int .i64 pn, .slice ca qs.length cc, .slice da fs.length dc] PoolT) = V8 at *
    generalize w8.heap.size = gk at *
    clear w8
    have s0 : V8.cell? ⟨gk, 0, none⟩ = some (.int .i64 pa) := C8.out.var.cell 0
    have s1 : V8.cell? ⟨gk, 1, none⟩ = some (.int .i64 pn) := C8.out.var.cell 1
    have s2 : V8.cell? ⟨gk, 2, none⟩ = some (.slice ca qs.length cc) := C8.out.var.cell 2
    have s3 : V8.cell? ⟨gk, 3, none⟩ = some (.slice da fs.length dc) := C8.out.var.cell 3
    have K7 := Lib.hid (HF.out.release pa pn _ _ qs fs who (by omega) (by omega) V8 (HT.out _ B8.out) C8.out.pool)
    go_wp2_with fail
    refine (K7.out).mono ?_
    rintro e w9 ⟨lu, fu, us, b9, rfl, ht9, ho9⟩
    obtain ⟨e1, HUZ'⟩ := HFR.out _ _ ht9
    subst e1
    have HUZ := Lib.hid HUZ'
    obtain ⟨ia, ic, rfl⟩ := rows_form ho9.pool.leases
    obtain ⟨ja, jc, rfl⟩ := rows_form ho9.pool.fixes
    have HUP := Lib.hid (ht9.right HQP.out)
    have hu6 : us.length ≤ 6 := HUP.out.1.2.2.2.1
    have hal9 : Below w9.heap.size w9 (w9.alloc (.cells #[.int .i64 pa, .int .i64 pn, .slice ia us.length ic, .slice ja fs.length jc] PoolT)) := (Below.refl _ _).alloc (Nat.le_refl _) _
    have G9 : Hid (GW w gp gq gk w9.heap.size pa pn la fa aa ba ca da ia ja lc fc ac bc cc dc ic jc ls rs4 qs us fs (w9.alloc (.cells #[.int .i64 pa, .int .i64 pn, .slice ia us.length ic, .slice ja fs.length jc] PoolT))) :=
      ⟨(P8.out.next ho9.below).next hal9, (A8.out.next ho9.below).next hal9, (C8.out.next ho9.below).next hal9, PoV.new ho9, (B8.out.trans (ho9.below.mono B8.out.size)).trans (hal9.mono (B8.out.trans (ho9.below.mono B8.out.size)).size)⟩
    clear ht9 ho9 hal9 K7 P8 A8 C8 B8 s0 s1 s2 s3 HUZ' HFR
    go_upto_region 14 with fail
    generalize w9.alloc (.cells #[.int .i64 pa, .int .i64 pn, .slice ia us.length ic, .slice ja fs.length jc] PoolT) = V9 at *
    generalize w9.heap.size = gd at *
    clear w9
    go_wp2_with fail
    go_loopw [17] (fun c wr => ∃ j : Nat, j ≤ ls.length ∧ c = .int .i64 j ∧ GW w gp gq gk gd pa pn la fa aa ba ca da ia ja lc fc ac bc cc dc ic jc ls rs4 qs us fs wr) (fun c _ => ls.length - (intOf c).toNat)
    case atStart => exact ⟨0, Nat.zero_le _, rfl, G9.out⟩
    case round =>
      obtain ⟨j, hj, rfl, hG⟩ := hrel
      have G := Lib.hid hG
      clear hG G9
      by_cases hlt : j < ls.length
      · have hlt' : (j : Int) < (ls.length : Int) := by omega
        obtain ⟨g, off, rfl, hg, d0, d1, d2⟩ := lease_cells G.out.p.pool.leases j _ (List.getElem?_eq_getElem hlt)
        have hot := HOT.out _ (List.getElem_mem hlt)
        generalize ls[j] = x at d0 d1 d2 hot
        obtain ⟨x0, x1, x2⟩ := x
        have d0' : wr.cell? ⟨g, off + j * 3, none⟩ = some (.int .i64 x0) := d0
        have d1' : wr.cell? ⟨g, off + j * 3 + 1, none⟩ = some (.int .i64 x1) := d1
        have hot' : x1 ≠ who → holderP rs4 x0 = x1 := hot
        have pp2 : wr.cell? ⟨gp, 2, none⟩ = some (.slice (some ⟨g, off, none⟩) ls.length lc) := G.out.p.var.cell 2
        clear d0 d1 d2 hot
        have S0 : Hid (∀ X, (X.cell? ⟨g, off + j * 3, none⟩ = some (.int .i64 x0)) → (X.cell? ⟨g, off + j * 3 + 1, none⟩ = some (.int .i64 x1)) → GW w gp gq gk gd pa pn (some ⟨g, off, none⟩) fa aa ba ca da ia ja lc fc ac bc cc dc ic jc ls rs4 qs us fs X → (X.cell? ⟨gp, 2, none⟩ = some (.slice (some ⟨g, off, none⟩) ls.length lc) ∧ X.cell? ⟨g, off + j * 3, none⟩ = some (.int .i64 x0) ∧ X.cell? ⟨g, off + j * 3 + 1, none⟩ = some (.int .i64 x1) ∧ X.cell? ⟨gq, 0, none⟩ = some (.int .i64 pa) ∧ X.cell? ⟨gq, 1, none⟩ = some (.int .i64 pn) ∧ X.cell? ⟨gq, 2, none⟩ = some (.slice aa rs4.length ac) ∧ X.cell? ⟨gq, 3, none⟩ = some (.slice ba fs.length bc) ∧ GW w gp gq gk gd pa pn (some ⟨g, off, none⟩) fa aa ba ca da ia ja lc fc ac bc cc dc ic jc ls rs4 qs us fs X)) := fun X h0 h1 h2 => ⟨h2.p.var.cell 2, h0, h1, h2.a.var.cell 0, h2.a.var.cell 1, h2.a.var.cell 2, h2.a.var.cell 3, h2⟩
        have S1 : Hid (wr.drew.cell? ⟨gp, 2, none⟩ = some (.slice (some ⟨g, off, none⟩) ls.length lc) ∧ wr.drew.cell? ⟨g, off + j * 3, none⟩ = some (.int .i64 x0) ∧ wr.drew.cell? ⟨g, off + j * 3 + 1, none⟩ = some (.int .i64 x1) ∧ wr.drew.cell? ⟨gq, 0, none⟩ = some (.int .i64 pa) ∧ wr.drew.cell? ⟨gq, 1, none⟩ = some (.int .i64 pn) ∧ wr.drew.cell? ⟨gq, 2, none⟩ = some (.slice aa rs4.length ac) ∧ wr.drew.cell? ⟨gq, 3, none⟩ = some (.slice ba fs.length bc) ∧ GW w gp gq gk gd pa pn (some ⟨g, off, none⟩) fa aa ba ca da ia ja lc fc ac bc cc dc ic jc ls rs4 qs us fs wr.drew) := S0.out _ d0' d1' (G.out.next ((Below.refl _ _).drew))
        by_cases hw : x1 = who
        · subst hw
          have KHO : Hid True := trivial
          go_wp2_with fail
          refine wp_region_held_drew (S := (fun X => X.cell? ⟨gp, 2, none⟩ = some (.slice (some ⟨g, off, none⟩) ls.length lc) ∧ X.cell? ⟨g, off + j * 3, none⟩ = some (.int .i64 x0) ∧ X.cell? ⟨g, off + j * 3 + 1, none⟩ = some (.int .i64 x1) ∧ X.cell? ⟨gq, 0, none⟩ = some (.int .i64 pa) ∧ X.cell? ⟨gq, 1, none⟩ = some (.int .i64 pn) ∧ X.cell? ⟨gq, 2, none⟩ = some (.slice aa rs4.length ac) ∧ X.cell? ⟨gq, 3, none⟩ = some (.slice ba fs.length bc) ∧ GW w gp gq gk gd pa pn (some ⟨g, off, none⟩) fa aa ba ca da ia ja lc fc ac bc cc dc ic jc ls rs4 qs us fs X)) (by kernel_rfl) S1.out (fun hHeld => ?_)
          refine wpAnyH_take (i := 0) (v := ?_) rfl (by kernel_rfl) (by kernel_rfl) (by kernel_rfl) (fun _ _ _ h => h) (Or.inl ⟨by kernel_rfl, ?_⟩) (by assumption) ?_
          rotate_left
          · intro X hX
            first | (go_simp; done) | (go_simp; with_reducible rfl)
          simp only [Act.put, List.getElem_toArray, List.getElem_cons_zero, List.setIfInBounds_toArray, List.set_cons_zero, List.set_cons_succ]
          refine wpAnyH_take (i := 1) (v := ?_) rfl (by kernel_rfl) (by kernel_rfl) (by kernel_rfl) (fun _ _ _ h => h) (Or.inl ⟨by kernel_rfl, ?_⟩) (by assumption) ?_
          rotate_left
          · intro X hX
            first | (go_simp; done) | (go_simp; with_reducible rfl)
          simp only [Act.put, List.getElem_toArray, List.getElem_cons_succ, List.getElem_cons_zero, List.setIfInBounds_toArray, List.set_cons_zero, List.set_cons_succ]
          refine wpAnyH_take (i := 2) (v := ?_) rfl (by kernel_rfl) (by kernel_rfl) (by kernel_rfl) (fun _ _ _ h => h) (Or.inl ⟨by kernel_rfl, ?_⟩) (by assumption) ?_
          rotate_left
          · intro X hX
            first | (go_simp; done) | (go_simp; with_reducible rfl)
          simp only [Act.put, List.getElem_toArray, List.getElem_cons_succ, List.getElem_cons_zero, List.setIfInBounds_toArray, List.set_cons_zero, List.set_cons_succ]
          refine wpAnyH_take (i := 3) (v := ?_) rfl (by kernel_rfl) (by kernel_rfl) (by kernel_rfl) (fun _ _ _ h => h) (Or.inl ⟨by kernel_rfl, ?_⟩) (by assumption) ?_
          rotate_left
          · intro X hX
            first | (go_simp; done) | (go_simp; with_reducible rfl)
          simp only [Act.put, List.getElem_toArray, List.getElem_cons_succ, List.getElem_cons_zero, List.setIfInBounds_toArray, List.set_cons_zero, List.set_cons_succ]
          refine wpAnyH_take (i := 4) (v := ?_) rfl (by kernel_rfl) (by kernel_rfl) (by kernel_rfl) (fun _ _ _ h => h) (Or.inl ⟨by kernel_rfl, ?_⟩) (by assumption) ?_
          rotate_left
          · intro X hX
            first | (go_simp; done) | (go_simp; with_reducible rfl)
          simp only [Act.put, List.getElem_toArray, List.getElem_cons_succ, List.getElem_cons_zero, List.setIfInBounds_toArray, List.set_cons_zero, List.set_cons_succ]
          refine wpAnyH_take (i := 5) (v := ?_) rfl (by kernel_rfl) (by kernel_rfl) (by kernel_rfl) (fun _ _ _ h => h) (Or.inl ⟨by kernel_rfl, ?_⟩) (by assumption) ?_
          rotate_left
          · intro X hX
            first | (go_simp; done) | (go_simp; with_reducible rfl)
          simp only [Act.put, List.getElem_toArray, List.getElem_cons_succ, List.getElem_cons_zero, List.setIfInBounds_toArray, List.set_cons_zero, List.set_cons_succ]
          refine wpAnyH_take (i := 6) (v := ?_) rfl (by kernel_rfl) (by kernel_rfl) (by kernel_rfl) (fun _ _ _ h => h) (Or.inl ⟨by kernel_rfl, ?_⟩) (by assumption) ?_
          rotate_left
          · intro X hX
            first | (go_simp; done) | (go_simp; with_reducible rfl)
          simp only [Act.put, List.getElem_toArray, List.getElem_cons_succ, List.getElem_cons_zero, List.setIfInBounds_toArray, List.set_cons_zero, List.set_cons_succ]
          refine wpAnyH_take (i := 7) (v := .bool false) rfl (by kernel_rfl) (by kernel_rfl) (by kernel_rfl) (fun _ _ _ h => h) (Or.inl ⟨by kernel_rfl, ?_⟩) (by assumption) ?_
          · intro X hX
            first | (go_simp; done) | (go_simp; with_reducible rfl)
          simp only [Act.put, List.getElem_toArray, List.getElem_cons_succ, List.getElem_cons_zero, List.setIfInBounds_toArray, List.set_cons_zero, List.set_cons_succ]
          refine wpAnyH_take (i := 8) (v := ?_) rfl (by kernel_rfl) (by kernel_rfl) (by kernel_rfl) (fun _ _ _ h => h) (Or.inl ⟨by kernel_rfl, ?_⟩) (by assumption) ?_
          rotate_left
          · intro X hX
            first | (go_simp; done) | (go_simp; with_reducible rfl)
          simp only [Act.put, List.getElem_toArray, List.getElem_cons_succ, List.getElem_cons_zero, List.setIfInBounds_toArray, List.set_cons_zero, List.set_cons_succ]
          refine wpAnyH_take (i := 9) (v := undef) rfl (by kernel_rfl) (by kernel_rfl) (by kernel_rfl) (fun _ _ _ h => h) (Or.inr ⟨by kernel_rfl, rfl⟩) (by assumption) ?_
          simp only [Act.put, List.getElem_toArray, List.getElem_cons_succ, List.getElem_cons_zero, List.setIfInBounds_toArray, List.set_cons_zero, List.set_cons_succ]
          refine wpAnyH_take (i := 10) (v := undef) rfl (by kernel_rfl) (by kernel_rfl) (by kernel_rfl) (fun _ _ _ h => h) (Or.inr ⟨by kernel_rfl, rfl⟩) (by assumption) ?_
          simp only [Act.put, List.getElem_toArray, List.getElem_cons_succ, List.getElem_cons_zero, List.setIfInBounds_toArray, List.set_cons_zero, List.set_cons_succ]
          refine wpAnyH_take (i := 11) (v := undef) rfl (by kernel_rfl) (by kernel_rfl) (by kernel_rfl) (fun _ _ _ h => h) (Or.inr ⟨by kernel_rfl, rfl⟩) (by assumption) ?_
          simp only [Act.put, List.getElem_toArray, List.getElem_cons_succ, List.getElem_cons_zero, List.setIfInBounds_toArray, List.set_cons_zero, List.set_cons_succ]
          refine wpAnyH_take (i := 12) (v := undef) rfl (by kernel_rfl) (by kernel_rfl) (by kernel_rfl) (fun _ _ _ h => h) (Or.inr ⟨by kernel_rfl, rfl⟩) (by assumption) ?_
          simp only [Act.put, List.getElem_toArray, List.getElem_cons_succ, List.getElem_cons_zero, List.setIfInBounds_toArray, List.set_cons_zero, List.set_cons_succ]
          refine wpAnyH_take (i := 13) (v := undef) rfl (by kernel_rfl) (by kernel_rfl) (by kernel_rfl) (fun _ _ _ h => h) (Or.inr ⟨by kernel_rfl, rfl⟩) (by assumption) ?_
          simp only [Act.put, List.getElem_toArray, List.getElem_cons_succ, List.getElem_cons_zero, List.setIfInBounds_toArray, List.set_cons_zero, List.set_cons_succ]
          refine wpAnyH_take (i := 14) (v := undef) rfl (by kernel_rfl) (by kernel_rfl) (by kernel_rfl) (fun _ _ _ h => h) (Or.inr ⟨by kernel_rfl, rfl⟩) (by assumption) ?_
          simp only [Act.put, List.getElem_toArray, List.getElem_cons_succ, List.getElem_cons_zero, List.setIfInBounds_toArray, List.set_cons_zero, List.set_cons_succ]
          refine wpAnyH_take (i := 15) (v := undef) rfl (by kernel_rfl) (by kernel_rfl) (by kernel_rfl) (fun _ _ _ h => h) (Or.inr ⟨by kernel_rfl, rfl⟩) (by assumption) ?_
          simp only [Act.put, List.getElem_toArray, List.getElem_cons_succ, List.getElem_cons_zero, List.setIfInBounds_toArray, List.set_cons_zero, List.set_cons_succ]
          refine wpAnyH_take (i := 16) (v := undef) rfl (by kernel_rfl) (by kernel_rfl) (by kernel_rfl) (fun _ _ _ h => h) (Or.inr ⟨by kernel_rfl, rfl⟩) (by assumption) ?_
          simp only [Act.put, List.getElem_toArray, List.getElem_cons_succ, List.getElem_cons_zero, List.setIfInBounds_toArray, List.set_cons_zero, List.set_cons_succ]
          refine wpAnyH_take (i := 17) (v := undef) rfl (by kernel_rfl) (by kernel_rfl) (by kernel_rfl) (fun _ _ _ h => h) (Or.inr ⟨by kernel_rfl, rfl⟩) (by assumption) ?_
          simp only [Act.put, List.getElem_toArray, List.getElem_cons_succ, List.getElem_cons_zero, List.setIfInBounds_toArray, List.set_cons_zero, List.set_cons_succ]
          refine wpAnyH_take (i := 18) (v := undef) rfl (by kernel_rfl) (by kernel_rfl) (by kernel_rfl) (fun _ _ _ h => h) (Or.inr ⟨by kernel_rfl, rfl⟩) (by assumption) ?_
          simp only [Act.put, List.getElem_toArray, List.getElem_cons_succ, List.getElem_cons_zero, List.setIfInBounds_toArray, List.set_cons_zero, List.set_cons_succ]
          refine wpAnyH_take (i := 19) (v := undef) rfl (by kernel_rfl) (by kernel_rfl) (by kernel_rfl) (fun _ _ _ h => h) (Or.inr ⟨by kernel_rfl, rfl⟩) (by assumption) ?_
          simp only [Act.put, List.getElem_toArray, List.getElem_cons_succ, List.getElem_cons_zero, List.setIfInBounds_toArray, List.set_cons_zero, List.set_cons_succ]
          refine wpAnyH_take (i := 20) (v := undef) rfl (by kernel_rfl) (by kernel_rfl) (by kernel_rfl) (fun _ _ _ h => h) (Or.inr ⟨by kernel_rfl, rfl⟩) (by assumption) ?_
          simp only [Act.put, List.getElem_toArray, List.getElem_cons_succ, List.getElem_cons_zero, List.setIfInBounds_toArray, List.set_cons_zero, List.set_cons_succ]
          refine wpAnyH_take (i := 21) (v := undef) rfl (by kernel_rfl) (by kernel_rfl) (by kernel_rfl) (fun _ _ _ h => h) (Or.inr ⟨by kernel_rfl, rfl⟩) (by assumption) ?_
          simp only [Act.put, List.getElem_toArray, List.getElem_cons_succ, List.getElem_cons_zero, List.setIfInBounds_toArray, List.set_cons_zero, List.set_cons_succ]
          refine wpAnyH_take (i := 22) (v := undef) rfl (by kernel_rfl) (by kernel_rfl) (by kernel_rfl) (fun _ _ _ h => h) (Or.inr ⟨by kernel_rfl, rfl⟩) (by assumption) ?_
          simp only [Act.put, List.getElem_toArray, List.getElem_cons_succ, List.getElem_cons_zero, List.setIfInBounds_toArray, List.set_cons_zero, List.set_cons_succ]
          refine wpAnyH_take (i := 23) (v := undef) rfl (by kernel_rfl) (by kernel_rfl) (by kernel_rfl) (fun _ _ _ h => h) (Or.inr ⟨by kernel_rfl, rfl⟩) (by assumption) ?_
          simp only [Act.put, List.getElem_toArray, List.getElem_cons_succ, List.getElem_cons_zero, List.setIfInBounds_toArray, List.set_cons_zero, List.set_cons_succ]
          refine wpAnyH_take (i := 24) (v := ?_) rfl (by kernel_rfl) (by kernel_rfl) (by kernel_rfl) (fun _ _ _ h => h) (Or.inl ⟨by kernel_rfl, ?_⟩) (by assumption) ?_
          rotate_left
          · intro X hX
            first | (go_simp; done) | (go_simp; with_reducible rfl)
          simp only [Act.put, List.getElem_toArray, List.getElem_cons_succ, List.getElem_cons_zero, List.setIfInBounds_toArray, List.set_cons_zero, List.set_cons_succ]
          refine wpAnyH_done (by kernel_rfl) ?_ _
          have HH := Lib.hid hHeld.2.2.2.2.2.2.2
          clear hHeld
          go_wp2_with fail
          go_roundw
          case rel => exact ⟨j + 1, by omega, by go_num, HH.out⟩
          case measure => simp [intOf]; omega
        · have hne : (x1 != who) = true := by rw [bne_iff_ne]; exact hw
          have KHO : Hid (∀ X, (X.cell? ⟨gp, 2, none⟩ = some (.slice (some ⟨g, off, none⟩) ls.length lc) ∧ X.cell? ⟨g, off + j * 3, none⟩ = some (.int .i64 x0) ∧ X.cell? ⟨g, off + j * 3 + 1, none⟩ = some (.int .i64 x1) ∧ X.cell? ⟨gq, 0, none⟩ = some (.int .i64 pa) ∧ X.cell? ⟨gq, 1, none⟩ = some (.int .i64 pn) ∧ X.cell? ⟨gq, 2, none⟩ = some (.slice aa rs4.length ac) ∧ X.cell? ⟨gq, 3, none⟩ = some (.slice ba fs.length bc) ∧ GW w gp gq gk gd pa pn (some ⟨g, off, none⟩) fa aa ba ca da ia ja lc fc ac bc cc dc ic jc ls rs4 qs us fs X) → Calls Try.prog 33 #[.agg #[.int .i64 pa, .int .i64 pn, .slice aa rs4.length ac, .slice ba fs.length bc], .int .i64 x0] X fun e Y => e = .returned (.int .i64 x1) ∧ (Y.cell? ⟨gp, 2, none⟩ = some (.slice (some ⟨g, off, none⟩) ls.length lc) ∧ Y.cell? ⟨g, off + j * 3, none⟩ = some (.int .i64 x0) ∧ Y.cell? ⟨g, off + j * 3 + 1, none⟩ = some (.int .i64 x1) ∧ Y.cell? ⟨gq, 0, none⟩ = some (.int .i64 pa) ∧ Y.cell? ⟨gq, 1, none⟩ = some (.int .i64 pn) ∧ Y.cell? ⟨gq, 2, none⟩ = some (.slice aa rs4.length ac) ∧ Y.cell? ⟨gq, 3, none⟩ = some (.slice ba fs.length bc) ∧ GW w gp gq gk gd pa pn (some ⟨g, off, none⟩) fa aa ba ca da ia ja lc fc ac bc cc dc ic jc ls rs4 qs us fs Y)) := fun X hX => by
            refine (HF.out.holder pa pn _ _ rs4 fs x0 (by omega) X (HT.out _ hX.2.2.2.2.2.2.2.below) hX.2.2.2.2.2.2.2.a.pool).mono ?_
            rintro e Y ⟨rfl, hb⟩
            exact ⟨by rw [hot' hw], S0.out _ (by rw [hb.cell (p := ⟨g, off + j * 3, none⟩) (cell_size (p := ⟨g, off + j * 3, none⟩) hX.2.1)]; exact hX.2.1) (by rw [hb.cell (p := ⟨g, off + j * 3 + 1, none⟩) (cell_size (p := ⟨g, off + j * 3 + 1, none⟩) hX.2.2.1)]; exact hX.2.2.1) (hX.2.2.2.2.2.2.2.next hb)⟩
          clear hw
          go_wp2_with fail
          refine wp_region_held_drew (S := (fun X => X.cell? ⟨gp, 2, none⟩ = some (.slice (some ⟨g, off, none⟩) ls.length lc) ∧ X.cell? ⟨g, off + j * 3, none⟩ = some (.int .i64 x0) ∧ X.cell? ⟨g, off + j * 3 + 1, none⟩ = some (.int .i64 x1) ∧ X.cell? ⟨gq, 0, none⟩ = some (.int .i64 pa) ∧ X.cell? ⟨gq, 1, none⟩ = some (.int .i64 pn) ∧ X.cell? ⟨gq, 2, none⟩ = some (.slice aa rs4.length ac) ∧ X.cell? ⟨gq, 3, none⟩ = some (.slice ba fs.length bc) ∧ GW w gp gq gk gd pa pn (some ⟨g, off, none⟩) fa aa ba ca da ia ja lc fc ac bc cc dc ic jc ls rs4 qs us fs X)) (by kernel_rfl) S1.out (fun hHeld => ?_)
          refine wpAnyH_take (i := 0) (v := ?_) rfl (by kernel_rfl) (by kernel_rfl) (by kernel_rfl) (fun _ _ _ h => h) (Or.inl ⟨by kernel_rfl, ?_⟩) (by assumption) ?_
          rotate_left
          · intro X hX
            first | (go_simp; done) | (go_simp; with_reducible rfl)
          simp only [Act.put, List.getElem_toArray, List.getElem_cons_zero, List.setIfInBounds_toArray, List.set_cons_zero, List.set_cons_succ]
          refine wpAnyH_take (i := 1) (v := ?_) rfl (by kernel_rfl) (by kernel_rfl) (by kernel_rfl) (fun _ _ _ h => h) (Or.inl ⟨by kernel_rfl, ?_⟩) (by assumption) ?_
          rotate_left
          · intro X hX
            first | (go_simp; done) | (go_simp; with_reducible rfl)
          simp only [Act.put, List.getElem_toArray, List.getElem_cons_succ, List.getElem_cons_zero, List.setIfInBounds_toArray, List.set_cons_zero, List.set_cons_succ]
          refine wpAnyH_take (i := 2) (v := ?_) rfl (by kernel_rfl) (by kernel_rfl) (by kernel_rfl) (fun _ _ _ h => h) (Or.inl ⟨by kernel_rfl, ?_⟩) (by assumption) ?_
          rotate_left
          · intro X hX
            first | (go_simp; done) | (go_simp; with_reducible rfl)
          simp only [Act.put, List.getElem_toArray, List.getElem_cons_succ, List.getElem_cons_zero, List.setIfInBounds_toArray, List.set_cons_zero, List.set_cons_succ]
          refine wpAnyH_take (i := 3) (v := ?_) rfl (by kernel_rfl) (by kernel_rfl) (by kernel_rfl) (fun _ _ _ h => h) (Or.inl ⟨by kernel_rfl, ?_⟩) (by assumption) ?_
          rotate_left
          · intro X hX
            first | (go_simp; done) | (go_simp; with_reducible rfl)
          simp only [Act.put, List.getElem_toArray, List.getElem_cons_succ, List.getElem_cons_zero, List.setIfInBounds_toArray, List.set_cons_zero, List.set_cons_succ]
          refine wpAnyH_take (i := 4) (v := ?_) rfl (by kernel_rfl) (by kernel_rfl) (by kernel_rfl) (fun _ _ _ h => h) (Or.inl ⟨by kernel_rfl, ?_⟩) (by assumption) ?_
          rotate_left
          · intro X hX
            first | (go_simp; done) | (go_simp; with_reducible rfl)
          simp only [Act.put, List.getElem_toArray, List.getElem_cons_succ, List.getElem_cons_zero, List.setIfInBounds_toArray, List.set_cons_zero, List.set_cons_succ]
          refine wpAnyH_take (i := 5) (v := ?_) rfl (by kernel_rfl) (by kernel_rfl) (by kernel_rfl) (fun _ _ _ h => h) (Or.inl ⟨by kernel_rfl, ?_⟩) (by assumption) ?_
          rotate_left
          · intro X hX
            first | (go_simp; done) | (go_simp; with_reducible rfl)
          simp only [Act.put, List.getElem_toArray, List.getElem_cons_succ, List.getElem_cons_zero, List.setIfInBounds_toArray, List.set_cons_zero, List.set_cons_succ]
          refine wpAnyH_take (i := 6) (v := ?_) rfl (by kernel_rfl) (by kernel_rfl) (by kernel_rfl) (fun _ _ _ h => h) (Or.inl ⟨by kernel_rfl, ?_⟩) (by assumption) ?_
          rotate_left
          · intro X hX
            first | (go_simp; done) | (go_simp; with_reducible rfl)
          simp only [Act.put, List.getElem_toArray, List.getElem_cons_succ, List.getElem_cons_zero, List.setIfInBounds_toArray, List.set_cons_zero, List.set_cons_succ]
          refine wpAnyH_take (i := 7) (v := .bool true) rfl (by kernel_rfl) (by kernel_rfl) (by kernel_rfl) (fun _ _ _ h => h) (Or.inl ⟨by kernel_rfl, ?_⟩) (by assumption) ?_
          · intro X hX
            first | (go_simp; done) | (go_simp; with_reducible rfl)
          simp only [Act.put, List.getElem_toArray, List.getElem_cons_succ, List.getElem_cons_zero, List.setIfInBounds_toArray, List.set_cons_zero, List.set_cons_succ]
          refine wpAnyH_take (i := 8) (v := ?_) rfl (by kernel_rfl) (by kernel_rfl) (by kernel_rfl) (fun _ _ _ h => h) (Or.inl ⟨by kernel_rfl, ?_⟩) (by assumption) ?_
          rotate_left
          · intro X hX
            first | (go_simp; done) | (go_simp; with_reducible rfl)
          simp only [Act.put, List.getElem_toArray, List.getElem_cons_succ, List.getElem_cons_zero, List.setIfInBounds_toArray, List.set_cons_zero, List.set_cons_succ]
          refine wpAnyH_take (i := 9) (v := ?_) rfl (by kernel_rfl) (by kernel_rfl) (by kernel_rfl) (fun _ _ _ h => h) (Or.inl ⟨by kernel_rfl, ?_⟩) (by assumption) ?_
          rotate_left
          · intro X hX
            first | (go_simp; done) | (go_simp; with_reducible rfl)
          simp only [Act.put, List.getElem_toArray, List.getElem_cons_succ, List.getElem_cons_zero, List.setIfInBounds_toArray, List.set_cons_zero, List.set_cons_succ]
          refine wpAnyH_take (i := 10) (v := ?_) rfl (by kernel_rfl) (by kernel_rfl) (by kernel_rfl) (fun _ _ _ h => h) (Or.inl ⟨by kernel_rfl, ?_⟩) (by assumption) ?_
          rotate_left
          · intro X hX
            first | (go_simp; done) | (go_simp; with_reducible rfl)
          simp only [Act.put, List.getElem_toArray, List.getElem_cons_succ, List.getElem_cons_zero, List.setIfInBounds_toArray, List.set_cons_zero, List.set_cons_succ]
          refine wpAnyH_take (i := 11) (v := ?_) rfl (by kernel_rfl) (by kernel_rfl) (by kernel_rfl) (fun _ _ _ h => h) (Or.inl ⟨by kernel_rfl, ?_⟩) (by assumption) ?_
          rotate_left
          · intro X hX
            first | (go_simp; done) | (go_simp; with_reducible rfl)
          simp only [Act.put, List.getElem_toArray, List.getElem_cons_succ, List.getElem_cons_zero, List.setIfInBounds_toArray, List.set_cons_zero, List.set_cons_succ]
          refine wpAnyH_take (i := 12) (v := ?_) rfl (by kernel_rfl) (by kernel_rfl) (by kernel_rfl) (fun _ _ _ h => h) (Or.inl ⟨by kernel_rfl, ?_⟩) (by assumption) ?_
          rotate_left
          · intro X hX
            first | (go_simp; done) | (go_simp; with_reducible rfl)
          simp only [Act.put, List.getElem_toArray, List.getElem_cons_succ, List.getElem_cons_zero, List.setIfInBounds_toArray, List.set_cons_zero, List.set_cons_succ]
          refine wpAnyH_take (i := 13) (v := ?_) rfl (by kernel_rfl) (by kernel_rfl) (by kernel_rfl) (fun _ _ _ h => h) (Or.inl ⟨by kernel_rfl, ?_⟩) (by assumption) ?_
          rotate_left
          · intro X hX
            first | (go_simp; done) | (go_simp; with_reducible rfl)
          simp only [Act.put, List.getElem_toArray, List.getElem_cons_succ, List.getElem_cons_zero, List.setIfInBounds_toArray, List.set_cons_zero, List.set_cons_succ]
          refine wpAnyH_take (i := 14) (v := ?_) rfl (by kernel_rfl) (by kernel_rfl) (by kernel_rfl) (fun _ _ _ h => h) (Or.inl ⟨by kernel_rfl, ?_⟩) (by assumption) ?_
          rotate_left
          · intro X hX
            first | (go_simp; done) | (go_simp; with_reducible rfl)
          simp only [Act.put, List.getElem_toArray, List.getElem_cons_succ, List.getElem_cons_zero, List.setIfInBounds_toArray, List.set_cons_zero, List.set_cons_succ]
          refine wpAnyH_take (i := 15) (v := ?_) rfl (by kernel_rfl) (by kernel_rfl) (by kernel_rfl) (fun _ _ _ h => h) (Or.inl ⟨by kernel_rfl, ?_⟩) (by assumption) ?_
          rotate_left
          · intro X hX
            first | (go_simp; done) | (go_simp; with_reducible rfl)
          simp only [Act.put, List.getElem_toArray, List.getElem_cons_succ, List.getElem_cons_zero, List.setIfInBounds_toArray, List.set_cons_zero, List.set_cons_succ]
          refine wpAnyH_take (i := 17) (v := ?_) rfl (by kernel_rfl) (by kernel_rfl) (by kernel_rfl) (fun _ _ _ h => h) (Or.inl ⟨by kernel_rfl, ?_⟩) (by assumption) ?_
          rotate_left
          · intro X hX
            first | (go_simp; done) | (go_simp; with_reducible rfl)
          simp only [Act.put, List.getElem_toArray, List.getElem_cons_succ, List.getElem_cons_zero, List.setIfInBounds_toArray, List.set_cons_zero, List.set_cons_succ]
          refine wpAnyH_take (i := 18) (v := ?_) rfl (by kernel_rfl) (by kernel_rfl) (by kernel_rfl) (fun _ _ _ h => h) (Or.inl ⟨by kernel_rfl, ?_⟩) (by assumption) ?_
          rotate_left
          · intro X hX
            first | (go_simp; done) | (go_simp; with_reducible rfl)
          simp only [Act.put, List.getElem_toArray, List.getElem_cons_succ, List.getElem_cons_zero, List.setIfInBounds_toArray, List.set_cons_zero, List.set_cons_succ]
          refine wpAnyH_take (i := 19) (v := ?_) rfl (by kernel_rfl) (by kernel_rfl) (by kernel_rfl) (fun _ _ _ h => h) (Or.inl ⟨by kernel_rfl, ?_⟩) (by assumption) ?_
          rotate_left
          · intro X hX
            first | (go_simp; done) | (go_simp; with_reducible rfl)
          simp only [Act.put, List.getElem_toArray, List.getElem_cons_succ, List.getElem_cons_zero, List.setIfInBounds_toArray, List.set_cons_zero, List.set_cons_succ]
          refine wpAnyH_take (i := 20) (v := ?_) rfl (by kernel_rfl) (by kernel_rfl) (by kernel_rfl) (fun _ _ _ h => h) (Or.inl ⟨by kernel_rfl, ?_⟩) (by assumption) ?_
          rotate_left
          · intro X hX
            first | (go_simp; done) | (go_simp; with_reducible rfl)
          simp only [Act.put, List.getElem_toArray, List.getElem_cons_succ, List.getElem_cons_zero, List.setIfInBounds_toArray, List.set_cons_zero, List.set_cons_succ]
          refine wpAnyH_take (i := 21) (v := ?_) rfl (by kernel_rfl) (by kernel_rfl) (by kernel_rfl) (fun _ _ _ h => h) (Or.inl ⟨by kernel_rfl, ?_⟩) (by assumption) ?_
          rotate_left
          · intro X hX
            first | (go_simp; done) | (go_simp; with_reducible rfl)
          simp only [Act.put, List.getElem_toArray, List.getElem_cons_succ, List.getElem_cons_zero, List.setIfInBounds_toArray, List.set_cons_zero, List.set_cons_succ]
          refine wpAnyH_take (i := 22) (v := ?_) rfl (by kernel_rfl) (by kernel_rfl) (by kernel_rfl) (fun _ _ _ h => h) (Or.inl ⟨by kernel_rfl, ?_⟩) (by assumption) ?_
          rotate_left
          · intro X hX
            first | (go_simp; done) | (go_simp; with_reducible rfl)
          simp only [Act.put, List.getElem_toArray, List.getElem_cons_succ, List.getElem_cons_zero, List.setIfInBounds_toArray, List.set_cons_zero, List.set_cons_succ]
          refine wpAnyH_ready (rs := [16]) (by kernel_rfl) (by simp) ?_
          refine AllReadyH.cons rfl (fun K hK => ?_) AllReadyH.nil
          go_simp
          go_wp2_with ((go_at_call 33; refine (KHO.out _ hHeld).mono ?_; rintro e v1 ⟨rfl, hS⟩))
          refine hK.out _ _ hS (fun hHeld => ?_)
          clear hK K
          refine wpAnyH_take (i := 23) (v := .bool false) rfl (by kernel_rfl) (by kernel_rfl) (by kernel_rfl) (fun _ _ _ h => h) (Or.inl ⟨by kernel_rfl, ?_⟩) (by assumption) ?_
          · intro X hX
            first | (go_simp; done) | (go_simp; with_reducible rfl)
          simp only [Act.put, List.getElem_toArray, List.getElem_cons_succ, List.getElem_cons_zero, List.setIfInBounds_toArray, List.set_cons_zero, List.set_cons_succ]
          refine wpAnyH_take (i := 24) (v := ?_) rfl (by kernel_rfl) (by kernel_rfl) (by kernel_rfl) (fun _ _ _ h => h) (Or.inl ⟨by kernel_rfl, ?_⟩) (by assumption) ?_
          rotate_left
          · intro X hX
            first | (go_simp; done) | (go_simp; with_reducible rfl)
          simp only [Act.put, List.getElem_toArray, List.getElem_cons_succ, List.getElem_cons_zero, List.setIfInBounds_toArray, List.set_cons_zero, List.set_cons_succ]
          refine wpAnyH_done (by kernel_rfl) ?_ _
          have HH := Lib.hid hHeld.2.2.2.2.2.2.2
          clear hHeld
          go_wp2_with fail
          go_roundw
          case rel => exact ⟨j + 1, by omega, by go_num, HH.out⟩
          case measure => simp [intOf]; omega
      · have hlt' : ¬ ((j : Int) < (ls.length : Int)) := by omega
        have pp2 : wr.cell? ⟨gp, 2, none⟩ = some (.slice la ls.length lc) := G.out.p.var.cell 2
        have s0 : wr.cell? ⟨gk, 0, none⟩ = some (.int .i64 pa) := G.out.c.var.cell 0
        have s1 : wr.cell? ⟨gk, 1, none⟩ = some (.int .i64 pn) := G.out.c.var.cell 1
        have s2 : wr.cell? ⟨gk, 2, none⟩ = some (.slice ca qs.length cc) := G.out.c.var.cell 2
        have s3 : wr.cell? ⟨gk, 3, none⟩ = some (.slice da fs.length dc) := G.out.c.var.cell 3
        have K8 := Lib.hid (HF.out.holder pa pn _ _ qs fs ad8 (by omega) wr (HT.out _ G.out.below) G.out.c.pool)
        rw [HHO.out] at K8
        go_wp2_with fail
        refine (K8.out).mono ?_
        rintro e w10 ⟨rfl, hb10⟩
        have G10 := Lib.hid (G.out.next hb10)
        clear hb10 G K8 pp2 s0 s1 s2 s3
        have u0 : w10.cell? ⟨gd, 0, none⟩ = some (.int .i64 pa) := G10.out.d.var.cell 0
        have u1 : w10.cell? ⟨gd, 1, none⟩ = some (.int .i64 pn) := G10.out.d.var.cell 1
        have u2 : w10.cell? ⟨gd, 2, none⟩ = some (.slice ia us.length ic) := G10.out.d.var.cell 2
        have u3 : w10.cell? ⟨gd, 3, none⟩ = some (.slice ja fs.length jc) := G10.out.d.var.cell 3
        have K9 := Lib.hid (HF.out.holder pa pn _ _ us fs ad8 (by omega) w10 (HT.out _ G10.out.below) G10.out.d.pool)
        rw [HUZ.out] at K9
        go_wp2_with fail
        refine (K9.out).mono ?_
        rintro e w11 ⟨rfl, hb11⟩
        have G11 := Lib.hid (G10.out.next hb11)
        clear hb11 G10 K9 u0 u1 u2 u3
        have u0 : w11.cell? ⟨gd, 0, none⟩ = some (.int .i64 pa) := G11.out.d.var.cell 0
        have u1 : w11.cell? ⟨gd, 1, none⟩ = some (.int .i64 pn) := G11.out.d.var.cell 1
        have u2 : w11.cell? ⟨gd, 2, none⟩ = some (.slice ia us.length ic) := G11.out.d.var.cell 2
        have u3 : w11.cell? ⟨gd, 3, none⟩ = some (.slice ja fs.length jc) := G11.out.d.var.cell 3
        have K10 := Lib.hid (HF.out.ok pa pn _ _ us fs (by omega) (by omega) w11 (HT.out _ G11.out.below) G11.out.d.pool)
        go_wp2_with fail
        refine (K10.out).mono ?_
        rintro e w12 ⟨⟨_, rfl⟩ | ⟨hno, _⟩, hb12⟩
        rotate_left
        · exact absurd HUP.out hno
        have G12 := Lib.hid (G11.out.next hb12)
        clear hb12 G11 K10 u0 u1 u2 u3
        have t0 : w12.cell? ⟨gp, 0, none⟩ = some (.int .i64 pa) := G12.out.p.var.cell 0
        have t1 : w12.cell? ⟨gp, 1, none⟩ = some (.int .i64 pn) := G12.out.p.var.cell 1
        have K11 := Lib.hid (specInPrefix_any pa pn ad8 w12)
        rw [HIN.out] at K11
        go_wp2_with fail
        refine (K11.out).mono ?_
        rintro e w13 ⟨rfl, hb13⟩
        have BZ := Lib.hid (G12.out.next hb13).below
        clear hb13
        go_wp2_with fail
        go_ret
        exact ⟨rfl, BZ.out⟩

end Go.Proofs.Ytphmomlgmnllkac
