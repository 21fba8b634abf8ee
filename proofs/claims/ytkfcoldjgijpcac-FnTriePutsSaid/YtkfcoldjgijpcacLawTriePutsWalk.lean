/-
  The law on a prefix that is put into a tree of bits: its walk, out of the program's contracts.
-/
import Derived.Test.YtkfcoldjgijpcacLawTriesWalk
namespace Go.Proofs.Ytkfcoldjgijpcac
open Go.RowKit

set_option maxRecDepth 100000 in
set_option maxHeartbeats 400000 in
theorem lawTriePuts_big (a : Option Addr) (len cap : Nat) (h : 1048576 < len) (w : World) :
    Calls Try.prog 6 #[.slice a len cap] w fun e w' => e = .returned (.bool true) ∧ Below w.heap.size w w' := by
  have hd : decide (1048576 < (len : Int)) = true := decide_eq_true (by omega)
  have HB := Lib.hid (fun w => bigL_any a len cap w)
  rw [hd] at HB
  clear hd
  go_enter Try.func6, Try.ntmps6
  go_wp2_with fail
  refine (HB.out _).mono ?_
  rintro e w1 ⟨rfl, rfl⟩
  go_wp2_with fail
  go_ret
  exact ⟨rfl, Below.refl _ _⟩

abbrev PT0 : TypeId := 29
/-- The variables of two trees and a prefix, the trees, the addresses. -/
structure TW (w : World) (q gt gn pa pn : Nat) (tv nv sv : Value) (fp fn : List Nat) (t n : List Tw) (ss : List Int) (X : World) : Prop where
  pv : VarA q PT0 #[.int .i64 (pa : Int), .int .i64 (pn : Int)] X
  var : VarA gt TrT0 #[tv] X
  tree : layTwigS.own X w.heap.size fp [tv] t
  nvar : VarA gn TrT0 #[nv] X
  ntree : layTwigS.own X w.heap.size fn [nv] n
  adrs : OwnR intRec X w.heap.size IT0 sv ss
  below : Below w.heap.size w X
section
variable {w : World} {q gt gn pa pn : Nat} {tv nv sv : Value} {fp fn : List Nat} {t n : List Tw} {ss : List Int} {X Y : World}
theorem TW.next (h : TW w q gt gn pa pn tv nv sv fp fn t n ss X) (hb : Below X.heap.size X Y) : TW w q gt gn pa pn tv nv sv fp fn t n ss Y :=
  ⟨h.pv.next hb, h.var.next hb, layTwigS.next h.tree hb, h.nvar.next hb, layTwigS.next h.ntree hb, h.adrs.below hb, h.below.trans (hb.mono h.below.size)⟩
theorem TW.drew (h : TW w q gt gn pa pn tv nv sv fp fn t n ss X) : TW w q gt gn pa pn tv nv sv fp fn t n ss X.drew := h.next ((Below.refl _ X).drew)
theorem TW.push {sv' : Value} {ss' : List Int} (h : TW w q gt gn pa pn tv nv sv fp fn t n ss X) (ho : OwnR intRec Y w.heap.size IT0 sv' ss') (hg : X.grownBy Y sv.ownBlock) (hb : Below w.heap.size X Y) : TW w q gt gn pa pn tv nv sv' fp fn t n ss' Y :=
  ⟨h.pv.grown hg (h.adrs.ne_var h.pv (by decide)), h.var.grown hg (h.adrs.ne_var h.var (by decide)), twig_keep h.tree h.adrs (by decide) hg, h.nvar.grown hg (h.adrs.ne_var h.nvar (by decide)), twig_keep h.ntree h.adrs (by decide) hg, ho, h.below.trans hb⟩
theorem TW.four (h : TW w q gt gn pa pn tv nv sv fp fn t n ss X) : X.cell? ⟨gt, 0, none⟩ = some tv ∧ X.cell? ⟨gn, 0, none⟩ = some nv ∧ X.cell? ⟨q, 0, none⟩ = some (.int .i64 (pa : Int)) ∧ X.cell? ⟨q, 1, none⟩ = some (.int .i64 (pn : Int)) ∧ TW w q gt gn pa pn tv nv sv fp fn t n ss X :=
  ⟨h.var.cell 0, h.nvar.cell 0, h.pv.cell 0, h.pv.cell 1, h⟩
theorem TW.five (h : TW w q gt gn pa pn tv nv sv fp fn t n ss X) {p : Addr} {u : Value} (hp : X.cell? p = some u) : X.cell? ⟨gt, 0, none⟩ = some tv ∧ X.cell? ⟨gn, 0, none⟩ = some nv ∧ X.cell? ⟨q, 0, none⟩ = some (.int .i64 (pa : Int)) ∧ X.cell? ⟨q, 1, none⟩ = some (.int .i64 (pn : Int)) ∧ X.cell? p = some u ∧ TW w q gt gn pa pn tv nv sv fp fn t n ss X :=
  ⟨h.var.cell 0, h.nvar.cell 0, h.pv.cell 0, h.pv.cell 1, hp, h⟩
theorem TW.on {p : Addr} {u : Value} (h : X.cell? ⟨gt, 0, none⟩ = some tv ∧ X.cell? ⟨gn, 0, none⟩ = some nv ∧ X.cell? ⟨q, 0, none⟩ = some (.int .i64 (pa : Int)) ∧ X.cell? ⟨q, 1, none⟩ = some (.int .i64 (pn : Int)) ∧ X.cell? p = some u ∧ TW w q gt gn pa pn tv nv sv fp fn t n ss X) (hb : Below X.heap.size X Y) : Y.cell? ⟨gt, 0, none⟩ = some tv ∧ Y.cell? ⟨gn, 0, none⟩ = some nv ∧ Y.cell? ⟨q, 0, none⟩ = some (.int .i64 (pa : Int)) ∧ Y.cell? ⟨q, 1, none⟩ = some (.int .i64 (pn : Int)) ∧ Y.cell? p = some u ∧ TW w q gt gn pa pn tv nv sv fp fn t n ss Y :=
  (h.2.2.2.2.2.next hb).five (by rw [hb.cell (p := p) (cell_size h.2.2.2.2.1)]; exact h.2.2.2.2.1)
end
theorem own_low {X : World} {b b' : Nat} {f : List Nat} {v : Value} {t : List Tw} (h : layTwigS.own X b f [v] t) (hb : b' ≤ b) : layTwigS.own X b' f [v] t := by
  obtain ⟨us, hou, hrd, rfl⟩ := flat_inv flatTwig h
  refine flat_own flatTwig ⟨hou.1, ?_⟩ hrd
  rcases hou.2 with hn | ⟨g, cap, cur, hv, hg, rest⟩
  · exact .inl hn
  · exact .inr ⟨g, cap, cur, hv, Nat.le_trans hb hg, rest⟩
theorem pref_no : ¬ PrefOk 1 8 := fun h => by
  have h2 := h.2.2
  revert h2
  decide

set_option maxRecDepth 100000 in
set_option maxHeartbeats 6400000 in
theorem lawTriePutsF (L : World → Prop) (F : TrieFns L) (a : Option Addr) (len cap : Nat) (w : World) (H : Src a len w) (ht : L w) :
    Calls Try.prog 6 #[.slice a len cap] w fun e w' => e = .returned (.bool true) ∧ Below w.heap.size w w' := by
  have hd : decide (1048576 < (len : Int)) = false := decide_eq_false (by have := H.few; omega)
  have HB := Lib.hid (fun w => bigL_any a len cap w)
  rw [hd] at HB
  obtain ⟨i1, z1, hi1, hz1, hzs1, hsz1, hby1⟩ := info_rec infoInt0
  have HS := Lib.hid H
  have HT : Hid (∀ X, Below w.heap.size w X → L X) := fun X hX => F.stays w X ht hX
  have HF := Lib.hid F
  clear H ht hd F
  go_enter Try.func6, Try.ntmps6
  go_wp2_with fail
  refine (HB.out _).mono ?_
  rintro e w0 ⟨rfl, hw0⟩
  have hw1 := hw0.symm
  subst hw1
  clear hw0
  go_wp2_with fail
  refine (drawRoutes_any a len cap _ HS.out).mono ?_
  rintro e w1 ⟨xs, lv, x0, ⟨hP, hl8, _⟩, hx0, rfl, hown, hb1⟩
  have HP := Lib.hid hP
  have HB1 := Lib.hid hb1
  have HR1 := Lib.hid hown
  have HS1 := Lib.hid (HS.out.below hb1)
  obtain ⟨xm, rfl⟩ : ∃ m : Nat, x0 = m := ⟨x0.toNat, by omega⟩
  have hxm : xm ≤ 4294967295 := by omega
  have hxm0 : 167772160 ≤ xm := by omega
  clear hP hb1 hown HB HS hx0
  go_wp2_with fail
  refine (drawAddrs_own a len cap _ HS1.out).mono ?_
  rintro e w2 ⟨g2, cap2, zs, pa, pn, hz6, hzr, hpok, rfl, ho2, hb2⟩
  have HB2 := Lib.hid (HB1.out.trans (hb2.mono HB1.out.size))
  have HR2 := Lib.hid (HR1.out.below hb2)
  have hal : Below w2.heap.size w2 (w2.alloc (.cells #[.int .i64 (pa : Int), .int .i64 (pn : Int)] 29)) := (Below.refl _ _).alloc (Nat.le_refl _) _
  have HB3 := Lib.hid (HB2.out.trans (hal.mono HB2.out.size))
  have HR3 := Lib.hid (HR2.out.below hal)
  have HO3 := Lib.hid (((own_ints ho2).lower HB1.out.size).below hal)
  have HZR := Lib.hid hzr
  have HPO := Lib.hid hpok
  have hpa : pa ≤ 4294967295 := by have := hpok.1.2; omega
  have HWa := Lib.hid (show (Lit.int .i64 (pa : Int)).wf = true from WalkArith.wf_i64 (by omega))
  have HWn := Lib.hid (show (Lit.int .i64 (pn : Int)).wf = true from WalkArith.wf_i64 (by have := hpok.2.1.2; omega))
  have HQ := Lib.hid (VarA.new w2 PT0 #[.int .i64 (pa : Int), .int .i64 (pn : Int)])
  have hz6' : Hid (zs.length = 6) := hz6
  clear hb2 hal HB1 HR1 HS1 HB2 HR2 ho2 hzr hz6 hpok
  go_upto_region 5 with fail
  generalize w2.alloc (.cells #[.int .i64 (pa : Int), .int .i64 (pn : Int)] 29) = w3 at *
  generalize w2.heap.size = q at *
  have KO := Lib.hid (HF.out.of lv xs (by omega) w3 (HT.out _ HB3.out) HR3.out.row)
  go_wp2_with fail
  refine (KO.out).mono ?_
  rintro e w4 ⟨r, hr, cs, fp, rfl, hdf, hot, hb4⟩
  obtain ⟨tv, rfl⟩ : ∃ v, cs = [v] := List.length_eq_one_iff.1 (layTwigS.len (layTwigS.read hot))
  obtain ⟨ta, tc, rfl⟩ := rows_form (layTwigS.read hot)
  have hrt : r = trieOfP xs := by
    rcases hr with ⟨_, h⟩ | ⟨h, _⟩
    · exact h
    · exact absurd HP.out h
  have HTK : Hid (TrieOkP r) := by show TrieOkP r; rw [hrt]; exact tree_ok xs HP.out
  have HFD : Hid (∀ x : Nat, x ≤ 4294967295 → findP r x = (lookTo x xs).2) := fun x hx => by rw [hrt]; exact trie_finds xs HP.out x hx
  have hr400 : r.length ≤ 400 := HTK.out.2
  have hbits := bit_len (pa : Int) (pn : Int) HPO.out
  have hput : Hid (PutTold r (pa : Int) (pn : Int) 9 (putT r (bitsP (pa : Int).toNat (pn : Int).toNat) 9) true) := by
    refine .inl ⟨rfl, ⟨HTK.out, HPO.out, by decide, by decide⟩, ?_, rfl⟩
    have h1 := put_length_le HTK.out.1 (bitsP (pa : Int).toNat (pn : Int).toNat) (bitsP_bits _ _) 9 (by decide) (by decide)
    have h2 := (trieOf_right xs ((routesP_iff xs).1 HP.out).1).2
    rw [← hrt] at h2
    omega
  have HFN : Hid (∀ x : Nat, x ≤ 4294967295 → (inB (pa : Int) (pn : Int) x = false → findP r x = findP (putT r (bitsP (pa : Int).toNat (pn : Int).toNat) 9) x) ∧ (x = pa → findP (putT r (bitsP (pa : Int).toNat (pn : Int).toNat) 9) x = 9 ∨ findP (putT r (bitsP (pa : Int).toNat (pn : Int).toNat) 9) x = findP r x)) := fun x hx => by
    have h := put_finds HTK.out.1 ((pa : Int), (pn : Int), 9) HPO.out (show (0 : Int) ≤ 9 by decide) (show (9 : Int) ≤ 99 by decide) x hx
    refine ⟨fun hb => (h.1 fun hin => by rw [(inB_iff _ _ _).2 hin] at hb; cases hb).symm, fun hxp => ?_⟩
    by_cases hin : InPref (pa : Int) (pn : Int) x
    · exact h.2 hin (show (9 : Int) ≠ 0 by decide)
    · exact .inr (h.1 hin)
  obtain ⟨s, HSE⟩ : ∃ s, Hid (s = putT r (bitsP (pa : Int).toNat (pn : Int).toNat) 9) := ⟨_, rfl⟩
  rw [← HSE.out] at hput HFN
  have hb5 : Below w4.heap.size w4 (w4.alloc (.cells #[.slice ta r.length tc] TrT0)) := (Below.refl _ _).alloc (Nat.le_refl _) _
  have HB5 : Hid (Below w.heap.size w (w4.alloc (.cells #[.slice ta r.length tc] TrT0))) := (HB3.out.trans (hb4.mono HB3.out.size)).trans (hb5.mono (HB3.out.trans (hb4.mono HB3.out.size)).size)
  have HV5 := Lib.hid (VarA.new w4 TrT0 #[.slice ta r.length tc])
  have HT5 := Lib.hid (layTwigS.next (own_low hot HB3.out.size) hb5)
  have HO5 := Lib.hid ((HO3.out.below hb4).below hb5)
  have HQ5 := Lib.hid ((HQ.out.next hb4).next hb5)
  clear hb4 hb5 hot hdf hr hrt KO HB3 HR3 HO3 HQ hbits
  go_upto_region 6 with fail
  generalize w4.alloc (.cells #[.slice ta r.length tc] TrT0) = X5 at *
  generalize w4.heap.size = gt at *
  have v0 := HV5.out.cell 0
  have p0 := HQ5.out.cell 0
  have p1 := HQ5.out.cell 1
  have KP := Lib.hid (HF.out.put _ r (pa : Int) (pn : Int) 9 (by omega) HWa.out HWn.out (by decide) X5 (HT.out _ HB5.out) (layTwigS.read HT5.out))
  go_wp2_with fail
  refine (KP.out).mono ?_
  rintro e X6 ⟨nv, fn, s', b', rfl, hpt, _, hon, hb6⟩
  obtain ⟨rfl, rfl⟩ : s' = s ∧ b' = true := hpt.one hput.out
  obtain ⟨na, nc, rfl⟩ := rows_form (layTwigS.read hon)
  have HSK : Hid (TrieOkP s') := by
    rcases hput.out with ⟨_, _, h, rfl⟩ | ⟨h, _⟩
    · exact ⟨(putT_ok HTK.out.1 _ (bitsP_bits _ _) 9 (by decide) (by decide)).1, h⟩
    · cases h
  have hb7 : Below X6.heap.size X6 (X6.alloc (.cells #[.slice na s'.length nc] TrT0)) := (Below.refl _ _).alloc (Nat.le_refl _) _
  have V7 : Hid (TW w q gt X6.heap.size pa pn (.slice ta r.length tc) (.slice na s'.length nc) (.slice (some ⟨g2, 0, none⟩) 6 cap2) fp fn r s' zs (X6.alloc (.cells #[.slice na s'.length nc] TrT0))) :=
    ⟨(HQ5.out.next hb6).next hb7, (HV5.out.next hb6).next hb7, layTwigS.next (layTwigS.next HT5.out hb6) hb7, VarA.new X6 TrT0 _, layTwigS.next (own_low hon HB5.out.size) hb7, (HO5.out.below hb6).below hb7, (HB5.out.trans (hb6.mono HB5.out.size)).trans (hb7.mono (HB5.out.trans (hb6.mono HB5.out.size)).size)⟩
  have hs4 : s'.length ≤ 400 := HSK.out.2
  clear hb6 hb7 hon hpt KP v0 p0 p1 HB5 HV5 HT5 HO5 HQ5 hput
  go_upto_region 7 with fail
  generalize X6.alloc (.cells #[.slice na s'.length nc] TrT0) = X7 at *
  generalize X6.heap.size = gn at *
  have hx7 := V7.out.below.size
  have p0 := V7.out.pv.cell 0
  go_wp2_with (at_builtin; refine wpList_pushL X7 rfl _ _ 27 rfl w.heap.size IT0 i1 z1 8 Try.underlying27 hi1 hz1 hsz1 hby1 hzs1 (by decide) _ zs rfl V7.out.adrs [(xm : Int), (pa : Int)] 2 rfl _ rfl rfl (by have := hz6'.out; simp; omega) hx7 ?_; intro sv8 X8 hO8 hg8 hb8)
  have V8 := Lib.hid (V7.out.push hO8 hg8 hb8)
  have HR8 : Hid (∀ z ∈ zs ++ [(xm : Int), (pa : Int)], 0 ≤ z ∧ z ≤ 4294967295) := fun z hz => by
    rcases List.mem_append.1 hz with h | h
    · have := HZR.out z h
      omega
    · simp only [List.mem_cons, List.not_mem_nil, or_false] at h
      rcases h with rfl | rfl <;> omega
  have hl8' : (zs ++ [(xm : Int), (pa : Int)]).length ≤ 20 := by rw [List.length_append, hz6'.out]; simp
  clear hO8 hg8 hb8 V7 hx7 p0
  generalize zs ++ [(xm : Int), (pa : Int)] = ss at *
  obtain ⟨so, sp, hsv, _⟩ := V8.out.adrs.row.form
  subst hsv
  go_loopw [10] (fun c wr => ∃ k : Nat, k ≤ ss.length ∧ c = .int .i64 k ∧ TW w q gt gn pa pn (.slice ta r.length tc) (.slice na s'.length nc) (.slice so ss.length sp) fp fn r s' ss wr) (fun c _ => ss.length - (intOf c).toNat)
  case atStart => exact ⟨0, Nat.zero_le _, rfl, V8.out⟩
  case round =>
    obtain ⟨j, hj, rfl, hV⟩ := hrel
    have VW := Lib.hid hV
    clear hV V8
    by_cases hjl : j < ss.length
    · have hjl' : (j : Int) < (ss.length : Int) := by omega
      obtain ⟨so', sp', hv, hf⟩ := VW.out.adrs.row.form
      injection hv with hv1 hv2 hv3
      subst hv1
      obtain ⟨g, rfl, hg, hcell⟩ := hf (by omega)
      have c0 := hcell j 0 ss[j] (List.getElem?_eq_getElem hjl) (by decide)
      have e1 : intRec.k * j + 0 = j := by show 1 * j + 0 = j; omega
      rw [e1] at c0
      have c0' : wr.cell? ⟨g, j, none⟩ = some (.int .i64 ss[j]) := c0
      have hzr := HR8.out ss[j] (List.getElem_mem hjl)
      generalize ss[j] = z at c0' hzr
      obtain ⟨zn, rfl⟩ : ∃ m : Nat, z = m := ⟨z.toNat, by omega⟩
      have hzn : zn ≤ 4294967295 := by omega
      have hfn := (HFN.out zn hzn).1
      obtain ⟨x, hx⟩ : ∃ f, Hid (f = findP r zn) := ⟨_, rfl⟩
      obtain ⟨y, hy⟩ : ∃ f, Hid (f = findP s' zn) := ⟨_, rfl⟩
      obtain ⟨b, hbe⟩ : ∃ b, Hid (b = inB (pa : Int) (pn : Int) (zn : Int)) := ⟨_, rfl⟩
      rw [← hx.out, ← hy.out, ← hbe.out] at hfn
      have HXY := Lib.hid hfn
      have E0 : Hid (wr.drew.cell? ⟨gt, 0, none⟩ = some (.slice ta r.length tc) ∧ wr.drew.cell? ⟨gn, 0, none⟩ = some (.slice na s'.length nc) ∧ wr.drew.cell? ⟨q, 0, none⟩ = some (.int .i64 (pa : Int)) ∧ wr.drew.cell? ⟨q, 1, none⟩ = some (.int .i64 (pn : Int)) ∧ wr.drew.cell? ⟨g, j, none⟩ = some (.int .i64 (zn : Int)) ∧ TW w q gt gn pa pn (.slice ta r.length tc) (.slice na s'.length nc) (.slice (some ⟨g, 0, none⟩) ss.length sp) fp fn r s' ss wr.drew) := VW.out.drew.five c0'
      have KT : Hid (∀ X, (X.cell? ⟨gt, 0, none⟩ = some (.slice ta r.length tc) ∧ X.cell? ⟨gn, 0, none⟩ = some (.slice na s'.length nc) ∧ X.cell? ⟨q, 0, none⟩ = some (.int .i64 (pa : Int)) ∧ X.cell? ⟨q, 1, none⟩ = some (.int .i64 (pn : Int)) ∧ X.cell? ⟨g, j, none⟩ = some (.int .i64 (zn : Int)) ∧ TW w q gt gn pa pn (.slice ta r.length tc) (.slice na s'.length nc) (.slice (some ⟨g, 0, none⟩) ss.length sp) fp fn r s' ss X) → Calls Try.prog 20 #[.agg #[.slice ta r.length tc], .int .i64 (zn : Int)] X fun e Y => e = .returned (.int .i64 x) ∧ (Y.cell? ⟨gt, 0, none⟩ = some (.slice ta r.length tc) ∧ Y.cell? ⟨gn, 0, none⟩ = some (.slice na s'.length nc) ∧ Y.cell? ⟨q, 0, none⟩ = some (.int .i64 (pa : Int)) ∧ Y.cell? ⟨q, 1, none⟩ = some (.int .i64 (pn : Int)) ∧ Y.cell? ⟨g, j, none⟩ = some (.int .i64 (zn : Int)) ∧ TW w q gt gn pa pn (.slice ta r.length tc) (.slice na s'.length nc) (.slice (some ⟨g, 0, none⟩) ss.length sp) fp fn r s' ss Y)) := fun X hX => by
        refine (HF.out.yes _ r zn HTK.out hzn X (HT.out _ hX.2.2.2.2.2.below) (layTwigS.read hX.2.2.2.2.2.tree)).mono ?_
        rintro e Y ⟨rfl, hb⟩
        exact ⟨by rw [hx.out], TW.on hX hb⟩
      have KN : Hid (∀ X, (X.cell? ⟨gt, 0, none⟩ = some (.slice ta r.length tc) ∧ X.cell? ⟨gn, 0, none⟩ = some (.slice na s'.length nc) ∧ X.cell? ⟨q, 0, none⟩ = some (.int .i64 (pa : Int)) ∧ X.cell? ⟨q, 1, none⟩ = some (.int .i64 (pn : Int)) ∧ X.cell? ⟨g, j, none⟩ = some (.int .i64 (zn : Int)) ∧ TW w q gt gn pa pn (.slice ta r.length tc) (.slice na s'.length nc) (.slice (some ⟨g, 0, none⟩) ss.length sp) fp fn r s' ss X) → Calls Try.prog 20 #[.agg #[.slice na s'.length nc], .int .i64 (zn : Int)] X fun e Y => e = .returned (.int .i64 y) ∧ (Y.cell? ⟨gt, 0, none⟩ = some (.slice ta r.length tc) ∧ Y.cell? ⟨gn, 0, none⟩ = some (.slice na s'.length nc) ∧ Y.cell? ⟨q, 0, none⟩ = some (.int .i64 (pa : Int)) ∧ Y.cell? ⟨q, 1, none⟩ = some (.int .i64 (pn : Int)) ∧ Y.cell? ⟨g, j, none⟩ = some (.int .i64 (zn : Int)) ∧ TW w q gt gn pa pn (.slice ta r.length tc) (.slice na s'.length nc) (.slice (some ⟨g, 0, none⟩) ss.length sp) fp fn r s' ss Y)) := fun X hX => by
        refine (HF.out.yes _ s' zn HSK.out hzn X (HT.out _ hX.2.2.2.2.2.below) (layTwigS.read hX.2.2.2.2.2.ntree)).mono ?_
        rintro e Y ⟨rfl, hb⟩
        exact ⟨by rw [hy.out], TW.on hX hb⟩
      have KI : Hid (∀ X, (X.cell? ⟨gt, 0, none⟩ = some (.slice ta r.length tc) ∧ X.cell? ⟨gn, 0, none⟩ = some (.slice na s'.length nc) ∧ X.cell? ⟨q, 0, none⟩ = some (.int .i64 (pa : Int)) ∧ X.cell? ⟨q, 1, none⟩ = some (.int .i64 (pn : Int)) ∧ X.cell? ⟨g, j, none⟩ = some (.int .i64 (zn : Int)) ∧ TW w q gt gn pa pn (.slice ta r.length tc) (.slice na s'.length nc) (.slice (some ⟨g, 0, none⟩) ss.length sp) fp fn r s' ss X) → Calls Try.prog 18 #[.agg #[.int .i64 (pa : Int), .int .i64 (pn : Int)], .int .i64 (zn : Int)] X fun e Y => e = .returned (.bool b) ∧ (Y.cell? ⟨gt, 0, none⟩ = some (.slice ta r.length tc) ∧ Y.cell? ⟨gn, 0, none⟩ = some (.slice na s'.length nc) ∧ Y.cell? ⟨q, 0, none⟩ = some (.int .i64 (pa : Int)) ∧ Y.cell? ⟨q, 1, none⟩ = some (.int .i64 (pn : Int)) ∧ Y.cell? ⟨g, j, none⟩ = some (.int .i64 (zn : Int)) ∧ TW w q gt gn pa pn (.slice ta r.length tc) (.slice na s'.length nc) (.slice (some ⟨g, 0, none⟩) ss.length sp) fp fn r s' ss Y)) := fun X hX => by
        refine (specInPrefix_any (pa : Int) (pn : Int) (zn : Int) X).mono ?_
        rintro e Y ⟨rfl, hb⟩
        exact ⟨by rw [hbe.out], TW.on hX hb⟩
      have KS : Hid (∀ X, (X.cell? ⟨gt, 0, none⟩ = some (.slice ta r.length tc) ∧ X.cell? ⟨gn, 0, none⟩ = some (.slice na s'.length nc) ∧ X.cell? ⟨q, 0, none⟩ = some (.int .i64 (pa : Int)) ∧ X.cell? ⟨q, 1, none⟩ = some (.int .i64 (pn : Int)) ∧ X.cell? ⟨g, j, none⟩ = some (.int .i64 (zn : Int)) ∧ TW w q gt gn pa pn (.slice ta r.length tc) (.slice na s'.length nc) (.slice (some ⟨g, 0, none⟩) ss.length sp) fp fn r s' ss X) → Calls Try.prog 24 #[.agg #[.slice na s'.length nc], .int .i64 (zn : Int)] X fun e Y => e = .returned (.int .i64 y) ∧ (Y.cell? ⟨gt, 0, none⟩ = some (.slice ta r.length tc) ∧ Y.cell? ⟨gn, 0, none⟩ = some (.slice na s'.length nc) ∧ Y.cell? ⟨q, 0, none⟩ = some (.int .i64 (pa : Int)) ∧ Y.cell? ⟨q, 1, none⟩ = some (.int .i64 (pn : Int)) ∧ Y.cell? ⟨g, j, none⟩ = some (.int .i64 (zn : Int)) ∧ TW w q gt gn pa pn (.slice ta r.length tc) (.slice na s'.length nc) (.slice (some ⟨g, 0, none⟩) ss.length sp) fp fn r s' ss Y)) := fun X hX => by
        refine (specTrieFind_yes _ s' zn X (layTwigS.read hX.2.2.2.2.2.ntree) HSK.out hzn).mono ?_
        rintro e Y ⟨rfl, hb⟩
        exact ⟨by rw [hy.out], TW.on hX hb⟩
      clear hv2 hv3 hcell hf c0 e1 hfn c0' hzr VW
      go_wp2_with fail
      go_region_held3 (fun X => X.cell? ⟨gt, 0, none⟩ = some (.slice ta r.length tc) ∧ X.cell? ⟨gn, 0, none⟩ = some (.slice na s'.length nc) ∧ X.cell? ⟨q, 0, none⟩ = some (.int .i64 (pa : Int)) ∧ X.cell? ⟨q, 1, none⟩ = some (.int .i64 (pn : Int)) ∧ X.cell? ⟨g, j, none⟩ = some (.int .i64 (zn : Int)) ∧ TW w q gt gn pa pn (.slice ta r.length tc) (.slice na s'.length nc) (.slice (some ⟨g, 0, none⟩) ss.length sp) fp fn r s' ss X) (first | (with_reducible assumption) | (with_reducible exact E0.out)) (first | (go_at_call 20; refine (KT.out _ (by assumption)).mono ?_; rintro e v1 ⟨rfl, hS⟩))
      have E1 := Lib.hid (TW.on hS ((Below.refl _ _).drew))
      clear hS
      go_wp2_with fail
      go_region_held3 (fun X => X.cell? ⟨gt, 0, none⟩ = some (.slice ta r.length tc) ∧ X.cell? ⟨gn, 0, none⟩ = some (.slice na s'.length nc) ∧ X.cell? ⟨q, 0, none⟩ = some (.int .i64 (pa : Int)) ∧ X.cell? ⟨q, 1, none⟩ = some (.int .i64 (pn : Int)) ∧ X.cell? ⟨g, j, none⟩ = some (.int .i64 (zn : Int)) ∧ TW w q gt gn pa pn (.slice ta r.length tc) (.slice na s'.length nc) (.slice (some ⟨g, 0, none⟩) ss.length sp) fp fn r s' ss X) (first | (with_reducible assumption) | (with_reducible exact E1.out)) (first | (go_at_call 20; refine (KN.out _ (by assumption)).mono ?_; rintro e v1 ⟨rfl, hS⟩))
      have E2 := Lib.hid (TW.on hS ((Below.refl _ _).drew))
      clear hS
      go_wp2_with fail
      cases b
      · have hxy := HXY.out rfl
        subst hxy
        refine wp_region_held_drew (S := (fun X => X.cell? ⟨gt, 0, none⟩ = some (.slice ta r.length tc) ∧ X.cell? ⟨gn, 0, none⟩ = some (.slice na s'.length nc) ∧ X.cell? ⟨q, 0, none⟩ = some (.int .i64 (pa : Int)) ∧ X.cell? ⟨q, 1, none⟩ = some (.int .i64 (pn : Int)) ∧ X.cell? ⟨g, j, none⟩ = some (.int .i64 (zn : Int)) ∧ TW w q gt gn pa pn (.slice ta r.length tc) (.slice na s'.length nc) (.slice (some ⟨g, 0, none⟩) ss.length sp) fp fn r s' ss X)) (by kernel_rfl) E2.out (fun hHeld => ?_)
        refine wpAnyH_take (i := 0) (v := ?_) rfl (by kernel_rfl) (by kernel_rfl) (by kernel_rfl) (fun _ _ _ h => h) (Or.inl ⟨by kernel_rfl, ?_⟩) (by assumption) ?_
        rotate_left
        · intro X hX
          first | (go_simp; done) | (go_simp; with_reducible rfl)
        simp only [Act.put, List.getElem_toArray, List.getElem_cons_zero, List.setIfInBounds_toArray, List.set_cons_zero, List.set_cons_succ]
        refine wpAnyH_take (i := 1) (v := ?_) rfl (by kernel_rfl) (by kernel_rfl) (by kernel_rfl) (fun _ _ _ h => h) (Or.inl ⟨by kernel_rfl, ?_⟩) (by assumption) ?_
        rotate_left
        · intro X hX
          first | (go_simp; done) | (go_simp; with_reducible rfl)
        simp only [Act.put, List.getElem_toArray, List.getElem_cons_succ, List.getElem_cons_zero, List.setIfInBounds_toArray, List.set_cons_zero, List.set_cons_succ]
        refine wpAnyH_take (i := 2) (v := ?_) rfl (by kernel_rfl) (by kernel_rfl) (by kernel_rfl) (fun _ _ _ h => h) (Or.inl ⟨by kernel_rfl, ?_⟩) (by assumption) ?_
        rotate_left
        · intro X hX
          first | (go_simp; done) | (go_simp; with_reducible rfl)
        simp only [Act.put, List.getElem_toArray, List.getElem_cons_succ, List.getElem_cons_zero, List.setIfInBounds_toArray, List.set_cons_zero, List.set_cons_succ]
        refine wpAnyH_take (i := 3) (v := ?_) rfl (by kernel_rfl) (by kernel_rfl) (by kernel_rfl) (fun _ _ _ h => h) (Or.inl ⟨by kernel_rfl, ?_⟩) (by assumption) ?_
        rotate_left
        · intro X hX
          first | (go_simp; done) | (go_simp; with_reducible rfl)
        simp only [Act.put, List.getElem_toArray, List.getElem_cons_succ, List.getElem_cons_zero, List.setIfInBounds_toArray, List.set_cons_zero, List.set_cons_succ]
        refine wpAnyH_take (i := 4) (v := ?_) rfl (by kernel_rfl) (by kernel_rfl) (by kernel_rfl) (fun _ _ _ h => h) (Or.inl ⟨by kernel_rfl, ?_⟩) (by assumption) ?_
        rotate_left
        · intro X hX
          first | (go_simp; done) | (go_simp; with_reducible rfl)
        simp only [Act.put, List.getElem_toArray, List.getElem_cons_succ, List.getElem_cons_zero, List.setIfInBounds_toArray, List.set_cons_zero, List.set_cons_succ]
        refine wpAnyH_ready (rs := [5]) (by kernel_rfl) (by simp) ?_
        refine AllReadyH.cons rfl (fun K hK => ?_) AllReadyH.nil
        go_simp
        go_wp2_with ((go_at_call 18; refine (KI.out _ hHeld).mono ?_; rintro e v1 ⟨rfl, hS⟩))
        refine hK.out _ _ hS (fun hHeld => ?_)
        clear hK K
        clear hS
        refine wpAnyH_take (i := 6) (v := ?_) rfl (by kernel_rfl) (by kernel_rfl) (by kernel_rfl) (fun _ _ _ h => h) (Or.inl ⟨by kernel_rfl, ?_⟩) (by assumption) ?_
        rotate_left
        · intro X hX
          first | (go_simp; done) | (go_simp; with_reducible rfl)
        simp only [Act.put, List.getElem_toArray, List.getElem_cons_succ, List.getElem_cons_zero, List.setIfInBounds_toArray, List.set_cons_zero, List.set_cons_succ]
        refine wpAnyH_take (i := 7) (v := ?_) rfl (by kernel_rfl) (by kernel_rfl) (by kernel_rfl) (fun _ _ _ h => h) (Or.inl ⟨by kernel_rfl, ?_⟩) (by assumption) ?_
        rotate_left
        · intro X hX
          first | (go_simp; done) | (go_simp; with_reducible rfl)
        simp only [Act.put, List.getElem_toArray, List.getElem_cons_succ, List.getElem_cons_zero, List.setIfInBounds_toArray, List.set_cons_zero, List.set_cons_succ]
        refine wpAnyH_take (i := 8) (v := ?_) rfl (by kernel_rfl) (by kernel_rfl) (by kernel_rfl) (fun _ _ _ h => h) (Or.inl ⟨by kernel_rfl, ?_⟩) (by assumption) ?_
        rotate_left
        · intro X hX
          first | (go_simp; done) | (go_simp; with_reducible rfl)
        simp only [Act.put, List.getElem_toArray, List.getElem_cons_succ, List.getElem_cons_zero, List.setIfInBounds_toArray, List.set_cons_zero, List.set_cons_succ]
        refine wpAnyH_take (i := 9) (v := ?_) rfl (by kernel_rfl) (by kernel_rfl) (by kernel_rfl) (fun _ _ _ h => h) (Or.inl ⟨by kernel_rfl, ?_⟩) (by assumption) ?_
        rotate_left
        · intro X hX
          first | (go_simp; done) | (go_simp; with_reducible rfl)
        simp only [Act.put, List.getElem_toArray, List.getElem_cons_succ, List.getElem_cons_zero, List.setIfInBounds_toArray, List.set_cons_zero, List.set_cons_succ]
        refine wpAnyH_take (i := 10) (v := ?_) rfl (by kernel_rfl) (by kernel_rfl) (by kernel_rfl) (fun _ _ _ h => h) (Or.inl ⟨by kernel_rfl, ?_⟩) (by assumption) ?_
        rotate_left
        · intro X hX
          first | (go_simp; done) | (go_simp; with_reducible rfl)
        simp only [Act.put, List.getElem_toArray, List.getElem_cons_succ, List.getElem_cons_zero, List.setIfInBounds_toArray, List.set_cons_zero, List.set_cons_succ]
        refine wpAnyH_take (i := 11) (v := ?_) rfl (by kernel_rfl) (by kernel_rfl) (by kernel_rfl) (fun _ _ _ h => h) (Or.inl ⟨by kernel_rfl, ?_⟩) (by assumption) ?_
        rotate_left
        · intro X hX
          first | (go_simp; done) | (go_simp; with_reducible rfl)
        simp only [Act.put, List.getElem_toArray, List.getElem_cons_succ, List.getElem_cons_zero, List.setIfInBounds_toArray, List.set_cons_zero, List.set_cons_succ]
        refine wpAnyH_take (i := 12) (v := ?_) rfl (by kernel_rfl) (by kernel_rfl) (by kernel_rfl) (fun _ _ _ h => h) (Or.inl ⟨by kernel_rfl, ?_⟩) (by assumption) ?_
        rotate_left
        · intro X hX
          first | (go_simp; done) | (go_simp; with_reducible rfl)
        simp only [Act.put, List.getElem_toArray, List.getElem_cons_succ, List.getElem_cons_zero, List.setIfInBounds_toArray, List.set_cons_zero, List.set_cons_succ]
        refine wpAnyH_take (i := 13) (v := ?_) rfl (by kernel_rfl) (by kernel_rfl) (by kernel_rfl) (fun _ _ _ h => h) (Or.inl ⟨by kernel_rfl, ?_⟩) (by assumption) ?_
        rotate_left
        · intro X hX
          first | (go_simp; done) | (go_simp; with_reducible rfl)
        simp only [Act.put, List.getElem_toArray, List.getElem_cons_succ, List.getElem_cons_zero, List.setIfInBounds_toArray, List.set_cons_zero, List.set_cons_succ]
        refine wpAnyH_take (i := 14) (v := ?_) rfl (by kernel_rfl) (by kernel_rfl) (by kernel_rfl) (fun _ _ _ h => h) (Or.inl ⟨by kernel_rfl, ?_⟩) (by assumption) ?_
        rotate_left
        · intro X hX
          first | (go_simp; done) | (go_simp; with_reducible rfl)
        simp only [Act.put, List.getElem_toArray, List.getElem_cons_succ, List.getElem_cons_zero, List.setIfInBounds_toArray, List.set_cons_zero, List.set_cons_succ]
        refine wpAnyH_take (i := 15) (v := ?_) rfl (by kernel_rfl) (by kernel_rfl) (by kernel_rfl) (fun _ _ _ h => h) (Or.inl ⟨by kernel_rfl, ?_⟩) (by assumption) ?_
        rotate_left
        · intro X hX
          first | (go_simp; done) | (go_simp; with_reducible rfl)
        simp only [Act.put, List.getElem_toArray, List.getElem_cons_succ, List.getElem_cons_zero, List.setIfInBounds_toArray, List.set_cons_zero, List.set_cons_succ]
        refine wpAnyH_take (i := 16) (v := ?_) rfl (by kernel_rfl) (by kernel_rfl) (by kernel_rfl) (fun _ _ _ h => h) (Or.inl ⟨by kernel_rfl, ?_⟩) (by assumption) ?_
        rotate_left
        · intro X hX
          first | (go_simp; done) | (go_simp; with_reducible rfl)
        simp only [Act.put, List.getElem_toArray, List.getElem_cons_succ, List.getElem_cons_zero, List.setIfInBounds_toArray, List.set_cons_zero, List.set_cons_succ]
        refine wpAnyH_take (i := 17) (v := ?_) rfl (by kernel_rfl) (by kernel_rfl) (by kernel_rfl) (fun _ _ _ h => h) (Or.inl ⟨by kernel_rfl, ?_⟩) (by assumption) ?_
        rotate_left
        · intro X hX
          first | (go_simp; done) | (go_simp; with_reducible rfl)
        simp only [Act.put, List.getElem_toArray, List.getElem_cons_succ, List.getElem_cons_zero, List.setIfInBounds_toArray, List.set_cons_zero, List.set_cons_succ]
        refine wpAnyH_take (i := 18) (v := ?_) rfl (by kernel_rfl) (by kernel_rfl) (by kernel_rfl) (fun _ _ _ h => h) (Or.inl ⟨by kernel_rfl, ?_⟩) (by assumption) ?_
        rotate_left
        · intro X hX
          first | (go_simp; done) | (go_simp; with_reducible rfl)
        simp only [Act.put, List.getElem_toArray, List.getElem_cons_succ, List.getElem_cons_zero, List.setIfInBounds_toArray, List.set_cons_zero, List.set_cons_succ]
        refine wpAnyH_ready (rs := [19]) (by kernel_rfl) (by simp) ?_
        refine AllReadyH.cons rfl (fun K hK => ?_) AllReadyH.nil
        go_simp
        go_wp2_with ((go_at_call 24; refine (KS.out _ hHeld).mono ?_; rintro e v1 ⟨rfl, hS⟩))
        refine hK.out _ _ hS (fun hHeld => ?_)
        clear hK K
        refine wpAnyH_take (i := 20) (v := ?_) rfl (by kernel_rfl) (by kernel_rfl) (by kernel_rfl) (fun _ _ _ h => h) (Or.inl ⟨by kernel_rfl, ?_⟩) (by assumption) ?_
        rotate_left
        · intro X hX
          first | (go_simp; done) | (go_simp; with_reducible rfl)
        simp only [Act.put, List.getElem_toArray, List.getElem_cons_succ, List.getElem_cons_zero, List.setIfInBounds_toArray, List.set_cons_zero, List.set_cons_succ]
        refine wpAnyH_take (i := 21) (v := ?_) rfl (by kernel_rfl) (by kernel_rfl) (by kernel_rfl) (fun _ _ _ h => h) (Or.inl ⟨by kernel_rfl, ?_⟩) (by assumption) ?_
        rotate_left
        · intro X hX
          first | (go_simp; done) | (go_simp; with_reducible rfl)
        simp only [Act.put, List.getElem_toArray, List.getElem_cons_succ, List.getElem_cons_zero, List.setIfInBounds_toArray, List.set_cons_zero, List.set_cons_succ]
        refine wpAnyH_done (by kernel_rfl) ?_ _
        have HZ := Lib.hid hS.2.2.2.2.2
        clear hS
        go_wp2_with fail
        go_roundw
        case rel => exact ⟨j + 1, by omega, by go_num, HZ.out⟩
        case measure => simp [intOf]; omega
      · clear HXY
        refine wp_region_held_drew (S := (fun X => X.cell? ⟨gt, 0, none⟩ = some (.slice ta r.length tc) ∧ X.cell? ⟨gn, 0, none⟩ = some (.slice na s'.length nc) ∧ X.cell? ⟨q, 0, none⟩ = some (.int .i64 (pa : Int)) ∧ X.cell? ⟨q, 1, none⟩ = some (.int .i64 (pn : Int)) ∧ X.cell? ⟨g, j, none⟩ = some (.int .i64 (zn : Int)) ∧ TW w q gt gn pa pn (.slice ta r.length tc) (.slice na s'.length nc) (.slice (some ⟨g, 0, none⟩) ss.length sp) fp fn r s' ss X)) (by kernel_rfl) E2.out (fun hHeld => ?_)
        refine wpAnyH_take (i := 0) (v := ?_) rfl (by kernel_rfl) (by kernel_rfl) (by kernel_rfl) (fun _ _ _ h => h) (Or.inl ⟨by kernel_rfl, ?_⟩) (by assumption) ?_
        rotate_left
        · intro X hX
          first | (go_simp; done) | (go_simp; with_reducible rfl)
        simp only [Act.put, List.getElem_toArray, List.getElem_cons_zero, List.setIfInBounds_toArray, List.set_cons_zero, List.set_cons_succ]
        refine wpAnyH_take (i := 1) (v := ?_) rfl (by kernel_rfl) (by kernel_rfl) (by kernel_rfl) (fun _ _ _ h => h) (Or.inl ⟨by kernel_rfl, ?_⟩) (by assumption) ?_
        rotate_left
        · intro X hX
          first | (go_simp; done) | (go_simp; with_reducible rfl)
        simp only [Act.put, List.getElem_toArray, List.getElem_cons_succ, List.getElem_cons_zero, List.setIfInBounds_toArray, List.set_cons_zero, List.set_cons_succ]
        refine wpAnyH_take (i := 2) (v := ?_) rfl (by kernel_rfl) (by kernel_rfl) (by kernel_rfl) (fun _ _ _ h => h) (Or.inl ⟨by kernel_rfl, ?_⟩) (by assumption) ?_
        rotate_left
        · intro X hX
          first | (go_simp; done) | (go_simp; with_reducible rfl)
        simp only [Act.put, List.getElem_toArray, List.getElem_cons_succ, List.getElem_cons_zero, List.setIfInBounds_toArray, List.set_cons_zero, List.set_cons_succ]
        refine wpAnyH_take (i := 3) (v := ?_) rfl (by kernel_rfl) (by kernel_rfl) (by kernel_rfl) (fun _ _ _ h => h) (Or.inl ⟨by kernel_rfl, ?_⟩) (by assumption) ?_
        rotate_left
        · intro X hX
          first | (go_simp; done) | (go_simp; with_reducible rfl)
        simp only [Act.put, List.getElem_toArray, List.getElem_cons_succ, List.getElem_cons_zero, List.setIfInBounds_toArray, List.set_cons_zero, List.set_cons_succ]
        refine wpAnyH_take (i := 4) (v := ?_) rfl (by kernel_rfl) (by kernel_rfl) (by kernel_rfl) (fun _ _ _ h => h) (Or.inl ⟨by kernel_rfl, ?_⟩) (by assumption) ?_
        rotate_left
        · intro X hX
          first | (go_simp; done) | (go_simp; with_reducible rfl)
        simp only [Act.put, List.getElem_toArray, List.getElem_cons_succ, List.getElem_cons_zero, List.setIfInBounds_toArray, List.set_cons_zero, List.set_cons_succ]
        refine wpAnyH_ready (rs := [5]) (by kernel_rfl) (by simp) ?_
        refine AllReadyH.cons rfl (fun K hK => ?_) AllReadyH.nil
        go_simp
        go_wp2_with ((go_at_call 18; refine (KI.out _ hHeld).mono ?_; rintro e v1 ⟨rfl, hS⟩))
        refine hK.out _ _ hS (fun hHeld => ?_)
        clear hK K
        clear hS
        refine wpAnyH_take (i := 6) (v := ?_) rfl (by kernel_rfl) (by kernel_rfl) (by kernel_rfl) (fun _ _ _ h => h) (Or.inl ⟨by kernel_rfl, ?_⟩) (by assumption) ?_
        rotate_left
        · intro X hX
          first | (go_simp; done) | (go_simp; with_reducible rfl)
        simp only [Act.put, List.getElem_toArray, List.getElem_cons_succ, List.getElem_cons_zero, List.setIfInBounds_toArray, List.set_cons_zero, List.set_cons_succ]
        refine wpAnyH_take (i := 7) (v := ?_) rfl (by kernel_rfl) (by kernel_rfl) (by kernel_rfl) (fun _ _ _ h => h) (Or.inl ⟨by kernel_rfl, ?_⟩) (by assumption) ?_
        rotate_left
        · intro X hX
          first | (go_simp; done) | (go_simp; with_reducible rfl)
        simp only [Act.put, List.getElem_toArray, List.getElem_cons_succ, List.getElem_cons_zero, List.setIfInBounds_toArray, List.set_cons_zero, List.set_cons_succ]
        refine wpAnyH_take (i := 8) (v := undef) rfl (by kernel_rfl) (by kernel_rfl) (by kernel_rfl) (fun _ _ _ h => h) (Or.inr ⟨by kernel_rfl, rfl⟩) (by assumption) ?_
        simp only [Act.put, List.getElem_toArray, List.getElem_cons_succ, List.getElem_cons_zero, List.setIfInBounds_toArray, List.set_cons_zero, List.set_cons_succ]
        refine wpAnyH_take (i := 9) (v := undef) rfl (by kernel_rfl) (by kernel_rfl) (by kernel_rfl) (fun _ _ _ h => h) (Or.inr ⟨by kernel_rfl, rfl⟩) (by assumption) ?_
        simp only [Act.put, List.getElem_toArray, List.getElem_cons_succ, List.getElem_cons_zero, List.setIfInBounds_toArray, List.set_cons_zero, List.set_cons_succ]
        refine wpAnyH_take (i := 10) (v := undef) rfl (by kernel_rfl) (by kernel_rfl) (by kernel_rfl) (fun _ _ _ h => h) (Or.inr ⟨by kernel_rfl, rfl⟩) (by assumption) ?_
        simp only [Act.put, List.getElem_toArray, List.getElem_cons_succ, List.getElem_cons_zero, List.setIfInBounds_toArray, List.set_cons_zero, List.set_cons_succ]
        refine wpAnyH_take (i := 11) (v := ?_) rfl (by kernel_rfl) (by kernel_rfl) (by kernel_rfl) (fun _ _ _ h => h) (Or.inl ⟨by kernel_rfl, ?_⟩) (by assumption) ?_
        rotate_left
        · intro X hX
          first | (go_simp; done) | (go_simp; with_reducible rfl)
        simp only [Act.put, List.getElem_toArray, List.getElem_cons_succ, List.getElem_cons_zero, List.setIfInBounds_toArray, List.set_cons_zero, List.set_cons_succ]
        refine wpAnyH_take (i := 12) (v := ?_) rfl (by kernel_rfl) (by kernel_rfl) (by kernel_rfl) (fun _ _ _ h => h) (Or.inl ⟨by kernel_rfl, ?_⟩) (by assumption) ?_
        rotate_left
        · intro X hX
          first | (go_simp; done) | (go_simp; with_reducible rfl)
        simp only [Act.put, List.getElem_toArray, List.getElem_cons_succ, List.getElem_cons_zero, List.setIfInBounds_toArray, List.set_cons_zero, List.set_cons_succ]
        refine wpAnyH_take (i := 13) (v := ?_) rfl (by kernel_rfl) (by kernel_rfl) (by kernel_rfl) (fun _ _ _ h => h) (Or.inl ⟨by kernel_rfl, ?_⟩) (by assumption) ?_
        rotate_left
        · intro X hX
          first | (go_simp; done) | (go_simp; with_reducible rfl)
        simp only [Act.put, List.getElem_toArray, List.getElem_cons_succ, List.getElem_cons_zero, List.setIfInBounds_toArray, List.set_cons_zero, List.set_cons_succ]
        refine wpAnyH_take (i := 14) (v := ?_) rfl (by kernel_rfl) (by kernel_rfl) (by kernel_rfl) (fun _ _ _ h => h) (Or.inl ⟨by kernel_rfl, ?_⟩) (by assumption) ?_
        rotate_left
        · intro X hX
          first | (go_simp; done) | (go_simp; with_reducible rfl)
        simp only [Act.put, List.getElem_toArray, List.getElem_cons_succ, List.getElem_cons_zero, List.setIfInBounds_toArray, List.set_cons_zero, List.set_cons_succ]
        refine wpAnyH_take (i := 15) (v := ?_) rfl (by kernel_rfl) (by kernel_rfl) (by kernel_rfl) (fun _ _ _ h => h) (Or.inl ⟨by kernel_rfl, ?_⟩) (by assumption) ?_
        rotate_left
        · intro X hX
          first | (go_simp; done) | (go_simp; with_reducible rfl)
        simp only [Act.put, List.getElem_toArray, List.getElem_cons_succ, List.getElem_cons_zero, List.setIfInBounds_toArray, List.set_cons_zero, List.set_cons_succ]
        refine wpAnyH_take (i := 16) (v := ?_) rfl (by kernel_rfl) (by kernel_rfl) (by kernel_rfl) (fun _ _ _ h => h) (Or.inl ⟨by kernel_rfl, ?_⟩) (by assumption) ?_
        rotate_left
        · intro X hX
          first | (go_simp; done) | (go_simp; with_reducible rfl)
        simp only [Act.put, List.getElem_toArray, List.getElem_cons_succ, List.getElem_cons_zero, List.setIfInBounds_toArray, List.set_cons_zero, List.set_cons_succ]
        refine wpAnyH_take (i := 17) (v := ?_) rfl (by kernel_rfl) (by kernel_rfl) (by kernel_rfl) (fun _ _ _ h => h) (Or.inl ⟨by kernel_rfl, ?_⟩) (by assumption) ?_
        rotate_left
        · intro X hX
          first | (go_simp; done) | (go_simp; with_reducible rfl)
        simp only [Act.put, List.getElem_toArray, List.getElem_cons_succ, List.getElem_cons_zero, List.setIfInBounds_toArray, List.set_cons_zero, List.set_cons_succ]
        refine wpAnyH_take (i := 18) (v := ?_) rfl (by kernel_rfl) (by kernel_rfl) (by kernel_rfl) (fun _ _ _ h => h) (Or.inl ⟨by kernel_rfl, ?_⟩) (by assumption) ?_
        rotate_left
        · intro X hX
          first | (go_simp; done) | (go_simp; with_reducible rfl)
        simp only [Act.put, List.getElem_toArray, List.getElem_cons_succ, List.getElem_cons_zero, List.setIfInBounds_toArray, List.set_cons_zero, List.set_cons_succ]
        refine wpAnyH_ready (rs := [19]) (by kernel_rfl) (by simp) ?_
        refine AllReadyH.cons rfl (fun K hK => ?_) AllReadyH.nil
        go_simp
        go_wp2_with ((go_at_call 24; refine (KS.out _ hHeld).mono ?_; rintro e v1 ⟨rfl, hS⟩))
        refine hK.out _ _ hS (fun hHeld => ?_)
        clear hK K
        refine wpAnyH_take (i := 20) (v := ?_) rfl (by kernel_rfl) (by kernel_rfl) (by kernel_rfl) (fun _ _ _ h => h) (Or.inl ⟨by kernel_rfl, ?_⟩) (by assumption) ?_
        rotate_left
        · intro X hX
          first | (go_simp; done) | (go_simp; with_reducible rfl)
        simp only [Act.put, List.getElem_toArray, List.getElem_cons_succ, List.getElem_cons_zero, List.setIfInBounds_toArray, List.set_cons_zero, List.set_cons_succ]
        refine wpAnyH_take (i := 21) (v := ?_) rfl (by kernel_rfl) (by kernel_rfl) (by kernel_rfl) (fun _ _ _ h => h) (Or.inl ⟨by kernel_rfl, ?_⟩) (by assumption) ?_
        rotate_left
        · intro X hX
          first | (go_simp; done) | (go_simp; with_reducible rfl)
        simp only [Act.put, List.getElem_toArray, List.getElem_cons_succ, List.getElem_cons_zero, List.setIfInBounds_toArray, List.set_cons_zero, List.set_cons_succ]
        refine wpAnyH_done (by kernel_rfl) ?_ _
        have HZ := Lib.hid hS.2.2.2.2.2
        clear hS
        go_wp2_with fail
        go_roundw
        case rel => exact ⟨j + 1, by omega, by go_num, HZ.out⟩
        case measure => simp [intOf]; omega
    · have hjl' : ¬ ((j : Int) < (ss.length : Int)) := by omega
      have v0 := VW.out.var.cell 0
      have KQ := Lib.hid (HF.out.put _ r 1 8 3 (by omega) (by decide) (by decide) (by decide) wr (HT.out _ VW.out.below) (layTwigS.read VW.out.tree))
      go_wp2_with fail
      refine (KQ.out).mono ?_
      rintro e Y1 ⟨kv, fk, u, b', rfl, hpt, _, hok, hb1⟩
      obtain rfl : b' = false := by
        rcases hpt with ⟨_, h, _⟩ | ⟨h, _⟩
        · exact absurd h.2.1 pref_no
        · exact h
      have hb2 : Below Y1.heap.size Y1 (Y1.alloc (.cells #[kv] TrT0)) := (Below.refl _ _).alloc (Nat.le_refl _) _
      obtain ⟨ka, kc, rfl⟩ := rows_form (layTwigS.read hok)
      have V9 := Lib.hid ((VW.out.next hb1).next hb2)
      clear hb1 hb2 hok hpt KQ v0 VW
      go_upto_region 16 with fail
      generalize Y1.alloc (.cells #[.slice ka u.length kc] TrT0) = Y2 at *
      generalize Y1.heap.size = gk at *
      have hfn := (HFN.out pa hpa).2 rfl
      obtain ⟨y, hy⟩ : ∃ f, Hid (f = findP s' pa) := ⟨_, rfl⟩
      have E9 : Hid (Y2.drew.cell? ⟨gt, 0, none⟩ = some (.slice ta r.length tc) ∧ Y2.drew.cell? ⟨gn, 0, none⟩ = some (.slice na s'.length nc) ∧ Y2.drew.cell? ⟨q, 0, none⟩ = some (.int .i64 (pa : Int)) ∧ Y2.drew.cell? ⟨q, 1, none⟩ = some (.int .i64 (pn : Int)) ∧ TW w q gt gn pa pn (.slice ta r.length tc) (.slice na s'.length nc) (.slice so ss.length sp) fp fn r s' ss Y2.drew) := V9.out.drew.four
      have KO : Hid (∀ X, (X.cell? ⟨gt, 0, none⟩ = some (.slice ta r.length tc) ∧ X.cell? ⟨gn, 0, none⟩ = some (.slice na s'.length nc) ∧ X.cell? ⟨q, 0, none⟩ = some (.int .i64 (pa : Int)) ∧ X.cell? ⟨q, 1, none⟩ = some (.int .i64 (pn : Int)) ∧ TW w q gt gn pa pn (.slice ta r.length tc) (.slice na s'.length nc) (.slice so ss.length sp) fp fn r s' ss X) → Calls Try.prog 21 #[.agg #[.slice na s'.length nc]] X fun e Y => e = .returned (.bool true) ∧ (Y.cell? ⟨gt, 0, none⟩ = some (.slice ta r.length tc) ∧ Y.cell? ⟨gn, 0, none⟩ = some (.slice na s'.length nc) ∧ Y.cell? ⟨q, 0, none⟩ = some (.int .i64 (pa : Int)) ∧ Y.cell? ⟨q, 1, none⟩ = some (.int .i64 (pn : Int)) ∧ TW w q gt gn pa pn (.slice ta r.length tc) (.slice na s'.length nc) (.slice so ss.length sp) fp fn r s' ss Y)) := fun X hX => by
        refine (HF.out.ok _ s' (by omega) X (HT.out _ hX.2.2.2.2.below) (layTwigS.read hX.2.2.2.2.ntree)).mono ?_
        rintro e Y ⟨⟨_, rfl⟩ | ⟨hno, _⟩, hb⟩
        · exact ⟨rfl, (hX.2.2.2.2.next hb).four⟩
        · exact absurd HSK.out hno
      have KA : Hid (∀ X, (X.cell? ⟨gt, 0, none⟩ = some (.slice ta r.length tc) ∧ X.cell? ⟨gn, 0, none⟩ = some (.slice na s'.length nc) ∧ X.cell? ⟨q, 0, none⟩ = some (.int .i64 (pa : Int)) ∧ X.cell? ⟨q, 1, none⟩ = some (.int .i64 (pn : Int)) ∧ TW w q gt gn pa pn (.slice ta r.length tc) (.slice na s'.length nc) (.slice so ss.length sp) fp fn r s' ss X) → Calls Try.prog 20 #[.agg #[.slice na s'.length nc], .int .i64 (pa : Int)] X fun e Y => e = .returned (.int .i64 y) ∧ (Y.cell? ⟨gt, 0, none⟩ = some (.slice ta r.length tc) ∧ Y.cell? ⟨gn, 0, none⟩ = some (.slice na s'.length nc) ∧ Y.cell? ⟨q, 0, none⟩ = some (.int .i64 (pa : Int)) ∧ Y.cell? ⟨q, 1, none⟩ = some (.int .i64 (pn : Int)) ∧ TW w q gt gn pa pn (.slice ta r.length tc) (.slice na s'.length nc) (.slice so ss.length sp) fp fn r s' ss Y)) := fun X hX => by
        refine (HF.out.yes _ s' pa HSK.out hpa X (HT.out _ hX.2.2.2.2.below) (layTwigS.read hX.2.2.2.2.ntree)).mono ?_
        rintro e Y ⟨rfl, hb⟩
        exact ⟨by rw [hy.out], (hX.2.2.2.2.next hb).four⟩
      by_cases h9 : y = 9
      · subst h9
        have h9' : Hid (True) := trivial
        clear hfn h9'
        refine wp_region_held_drew (S := (fun X => X.cell? ⟨gt, 0, none⟩ = some (.slice ta r.length tc) ∧ X.cell? ⟨gn, 0, none⟩ = some (.slice na s'.length nc) ∧ X.cell? ⟨q, 0, none⟩ = some (.int .i64 (pa : Int)) ∧ X.cell? ⟨q, 1, none⟩ = some (.int .i64 (pn : Int)) ∧ TW w q gt gn pa pn (.slice ta r.length tc) (.slice na s'.length nc) (.slice so ss.length sp) fp fn r s' ss X)) (by kernel_rfl) E9.out (fun hHeld => ?_)
        refine wpAnyH_take (i := 0) (v := ?_) rfl (by kernel_rfl) (by kernel_rfl) (by kernel_rfl) (fun _ _ _ h => h) (Or.inl ⟨by kernel_rfl, ?_⟩) (by assumption) ?_
        rotate_left
        · intro X hX
          first | (go_simp; done) | (go_simp; with_reducible rfl)
        simp only [Act.put, List.getElem_toArray, List.getElem_cons_zero, List.setIfInBounds_toArray, List.set_cons_zero, List.set_cons_succ]
        refine wpAnyH_take (i := 1) (v := ?_) rfl (by kernel_rfl) (by kernel_rfl) (by kernel_rfl) (fun _ _ _ h => h) (Or.inl ⟨by kernel_rfl, ?_⟩) (by assumption) ?_
        rotate_left
        · intro X hX
          first | (go_simp; done) | (go_simp; with_reducible rfl)
        simp only [Act.put, List.getElem_toArray, List.getElem_cons_succ, List.getElem_cons_zero, List.setIfInBounds_toArray, List.set_cons_zero, List.set_cons_succ]
        refine wpAnyH_take (i := 2) (v := ?_) rfl (by kernel_rfl) (by kernel_rfl) (by kernel_rfl) (fun _ _ _ h => h) (Or.inl ⟨by kernel_rfl, ?_⟩) (by assumption) ?_
        rotate_left
        · intro X hX
          first | (go_simp; done) | (go_simp; with_reducible rfl)
        simp only [Act.put, List.getElem_toArray, List.getElem_cons_succ, List.getElem_cons_zero, List.setIfInBounds_toArray, List.set_cons_zero, List.set_cons_succ]
        refine wpAnyH_take (i := 3) (v := ?_) rfl (by kernel_rfl) (by kernel_rfl) (by kernel_rfl) (fun _ _ _ h => h) (Or.inl ⟨by kernel_rfl, ?_⟩) (by assumption) ?_
        rotate_left
        · intro X hX
          first | (go_simp; done) | (go_simp; with_reducible rfl)
        simp only [Act.put, List.getElem_toArray, List.getElem_cons_succ, List.getElem_cons_zero, List.setIfInBounds_toArray, List.set_cons_zero, List.set_cons_succ]
        refine wpAnyH_take (i := 4) (v := ?_) rfl (by kernel_rfl) (by kernel_rfl) (by kernel_rfl) (fun _ _ _ h => h) (Or.inl ⟨by kernel_rfl, ?_⟩) (by assumption) ?_
        rotate_left
        · intro X hX
          first | (go_simp; done) | (go_simp; with_reducible rfl)
        simp only [Act.put, List.getElem_toArray, List.getElem_cons_succ, List.getElem_cons_zero, List.setIfInBounds_toArray, List.set_cons_zero, List.set_cons_succ]
        refine wpAnyH_take (i := 5) (v := ?_) rfl (by kernel_rfl) (by kernel_rfl) (by kernel_rfl) (fun _ _ _ h => h) (Or.inl ⟨by kernel_rfl, ?_⟩) (by assumption) ?_
        rotate_left
        · intro X hX
          first | (go_simp; done) | (go_simp; with_reducible rfl)
        simp only [Act.put, List.getElem_toArray, List.getElem_cons_succ, List.getElem_cons_zero, List.setIfInBounds_toArray, List.set_cons_zero, List.set_cons_succ]
        refine wpAnyH_take (i := 6) (v := ?_) rfl (by kernel_rfl) (by kernel_rfl) (by kernel_rfl) (fun _ _ _ h => h) (Or.inl ⟨by kernel_rfl, ?_⟩) (by assumption) ?_
        rotate_left
        · intro X hX
          first | (go_simp; done) | (go_simp; with_reducible rfl)
        simp only [Act.put, List.getElem_toArray, List.getElem_cons_succ, List.getElem_cons_zero, List.setIfInBounds_toArray, List.set_cons_zero, List.set_cons_succ]
        refine wpAnyH_ready (rs := [7]) (by kernel_rfl) (by simp) ?_
        refine AllReadyH.cons rfl (fun K hK => ?_) AllReadyH.nil
        go_simp
        go_wp2_with ((go_at_call 21; refine (KO.out _ hHeld).mono ?_; rintro e v1 ⟨rfl, hS⟩))
        refine hK.out _ _ hS (fun hHeld => ?_)
        clear hK K
        clear hS
        refine wpAnyH_take (i := 8) (v := ?_) rfl (by kernel_rfl) (by kernel_rfl) (by kernel_rfl) (fun _ _ _ h => h) (Or.inl ⟨by kernel_rfl, ?_⟩) (by assumption) ?_
        rotate_left
        · intro X hX
          first | (go_simp; done) | (go_simp; with_reducible rfl)
        simp only [Act.put, List.getElem_toArray, List.getElem_cons_succ, List.getElem_cons_zero, List.setIfInBounds_toArray, List.set_cons_zero, List.set_cons_succ]
        refine wpAnyH_take (i := 9) (v := ?_) rfl (by kernel_rfl) (by kernel_rfl) (by kernel_rfl) (fun _ _ _ h => h) (Or.inl ⟨by kernel_rfl, ?_⟩) (by assumption) ?_
        rotate_left
        · intro X hX
          first | (go_simp; done) | (go_simp; with_reducible rfl)
        simp only [Act.put, List.getElem_toArray, List.getElem_cons_succ, List.getElem_cons_zero, List.setIfInBounds_toArray, List.set_cons_zero, List.set_cons_succ]
        refine wpAnyH_take (i := 10) (v := ?_) rfl (by kernel_rfl) (by kernel_rfl) (by kernel_rfl) (fun _ _ _ h => h) (Or.inl ⟨by kernel_rfl, ?_⟩) (by assumption) ?_
        rotate_left
        · intro X hX
          first | (go_simp; done) | (go_simp; with_reducible rfl)
        simp only [Act.put, List.getElem_toArray, List.getElem_cons_succ, List.getElem_cons_zero, List.setIfInBounds_toArray, List.set_cons_zero, List.set_cons_succ]
        refine wpAnyH_take (i := 11) (v := ?_) rfl (by kernel_rfl) (by kernel_rfl) (by kernel_rfl) (fun _ _ _ h => h) (Or.inl ⟨by kernel_rfl, ?_⟩) (by assumption) ?_
        rotate_left
        · intro X hX
          first | (go_simp; done) | (go_simp; with_reducible rfl)
        simp only [Act.put, List.getElem_toArray, List.getElem_cons_succ, List.getElem_cons_zero, List.setIfInBounds_toArray, List.set_cons_zero, List.set_cons_succ]
        refine wpAnyH_take (i := 12) (v := ?_) rfl (by kernel_rfl) (by kernel_rfl) (by kernel_rfl) (fun _ _ _ h => h) (Or.inl ⟨by kernel_rfl, ?_⟩) (by assumption) ?_
        rotate_left
        · intro X hX
          first | (go_simp; done) | (go_simp; with_reducible rfl)
        simp only [Act.put, List.getElem_toArray, List.getElem_cons_succ, List.getElem_cons_zero, List.setIfInBounds_toArray, List.set_cons_zero, List.set_cons_succ]
        refine wpAnyH_ready (rs := [13]) (by kernel_rfl) (by simp) ?_
        refine AllReadyH.cons rfl (fun K hK => ?_) AllReadyH.nil
        go_simp
        go_wp2_with ((go_at_call 20; refine (KA.out _ hHeld).mono ?_; rintro e v1 ⟨rfl, hS⟩))
        refine hK.out _ _ hS (fun hHeld => ?_)
        clear hK K
        refine wpAnyH_take (i := 14) (v := ?_) rfl (by kernel_rfl) (by kernel_rfl) (by kernel_rfl) (fun _ _ _ h => h) (Or.inl ⟨by kernel_rfl, ?_⟩) (by assumption) ?_
        rotate_left
        · intro X hX
          first | (go_simp; done) | (go_simp; with_reducible rfl)
        simp only [Act.put, List.getElem_toArray, List.getElem_cons_succ, List.getElem_cons_zero, List.setIfInBounds_toArray, List.set_cons_zero, List.set_cons_succ]
        refine wpAnyH_take (i := 15) (v := ?_) rfl (by kernel_rfl) (by kernel_rfl) (by kernel_rfl) (fun _ _ _ h => h) (Or.inl ⟨by kernel_rfl, ?_⟩) (by assumption) ?_
        rotate_left
        · intro X hX
          first | (go_simp; done) | (go_simp; with_reducible rfl)
        simp only [Act.put, List.getElem_toArray, List.getElem_cons_succ, List.getElem_cons_zero, List.setIfInBounds_toArray, List.set_cons_zero, List.set_cons_succ]
        refine wpAnyH_take (i := 16) (v := undef) rfl (by kernel_rfl) (by kernel_rfl) (by kernel_rfl) (fun _ _ _ h => h) (Or.inr ⟨by kernel_rfl, rfl⟩) (by assumption) ?_
        simp only [Act.put, List.getElem_toArray, List.getElem_cons_succ, List.getElem_cons_zero, List.setIfInBounds_toArray, List.set_cons_zero, List.set_cons_succ]
        refine wpAnyH_take (i := 17) (v := undef) rfl (by kernel_rfl) (by kernel_rfl) (by kernel_rfl) (fun _ _ _ h => h) (Or.inr ⟨by kernel_rfl, rfl⟩) (by assumption) ?_
        simp only [Act.put, List.getElem_toArray, List.getElem_cons_succ, List.getElem_cons_zero, List.setIfInBounds_toArray, List.set_cons_zero, List.set_cons_succ]
        refine wpAnyH_take (i := 18) (v := undef) rfl (by kernel_rfl) (by kernel_rfl) (by kernel_rfl) (fun _ _ _ h => h) (Or.inr ⟨by kernel_rfl, rfl⟩) (by assumption) ?_
        simp only [Act.put, List.getElem_toArray, List.getElem_cons_succ, List.getElem_cons_zero, List.setIfInBounds_toArray, List.set_cons_zero, List.set_cons_succ]
        refine wpAnyH_take (i := 19) (v := undef) rfl (by kernel_rfl) (by kernel_rfl) (by kernel_rfl) (fun _ _ _ h => h) (Or.inr ⟨by kernel_rfl, rfl⟩) (by assumption) ?_
        simp only [Act.put, List.getElem_toArray, List.getElem_cons_succ, List.getElem_cons_zero, List.setIfInBounds_toArray, List.set_cons_zero, List.set_cons_succ]
        refine wpAnyH_take (i := 20) (v := undef) rfl (by kernel_rfl) (by kernel_rfl) (by kernel_rfl) (fun _ _ _ h => h) (Or.inr ⟨by kernel_rfl, rfl⟩) (by assumption) ?_
        simp only [Act.put, List.getElem_toArray, List.getElem_cons_succ, List.getElem_cons_zero, List.setIfInBounds_toArray, List.set_cons_zero, List.set_cons_succ]
        refine wpAnyH_take (i := 21) (v := undef) rfl (by kernel_rfl) (by kernel_rfl) (by kernel_rfl) (fun _ _ _ h => h) (Or.inr ⟨by kernel_rfl, rfl⟩) (by assumption) ?_
        simp only [Act.put, List.getElem_toArray, List.getElem_cons_succ, List.getElem_cons_zero, List.setIfInBounds_toArray, List.set_cons_zero, List.set_cons_succ]
        refine wpAnyH_take (i := 22) (v := undef) rfl (by kernel_rfl) (by kernel_rfl) (by kernel_rfl) (fun _ _ _ h => h) (Or.inr ⟨by kernel_rfl, rfl⟩) (by assumption) ?_
        simp only [Act.put, List.getElem_toArray, List.getElem_cons_succ, List.getElem_cons_zero, List.setIfInBounds_toArray, List.set_cons_zero, List.set_cons_succ]
        refine wpAnyH_take (i := 23) (v := undef) rfl (by kernel_rfl) (by kernel_rfl) (by kernel_rfl) (fun _ _ _ h => h) (Or.inr ⟨by kernel_rfl, rfl⟩) (by assumption) ?_
        simp only [Act.put, List.getElem_toArray, List.getElem_cons_succ, List.getElem_cons_zero, List.setIfInBounds_toArray, List.set_cons_zero, List.set_cons_succ]
        refine wpAnyH_take (i := 24) (v := undef) rfl (by kernel_rfl) (by kernel_rfl) (by kernel_rfl) (fun _ _ _ h => h) (Or.inr ⟨by kernel_rfl, rfl⟩) (by assumption) ?_
        simp only [Act.put, List.getElem_toArray, List.getElem_cons_succ, List.getElem_cons_zero, List.setIfInBounds_toArray, List.set_cons_zero, List.set_cons_succ]
        refine wpAnyH_take (i := 25) (v := ?_) rfl (by kernel_rfl) (by kernel_rfl) (by kernel_rfl) (fun _ _ _ h => h) (Or.inl ⟨by kernel_rfl, ?_⟩) (by assumption) ?_
        rotate_left
        · intro X hX
          first | (go_simp; done) | (go_simp; with_reducible rfl)
        simp only [Act.put, List.getElem_toArray, List.getElem_cons_succ, List.getElem_cons_zero, List.setIfInBounds_toArray, List.set_cons_zero, List.set_cons_succ]
        refine wpAnyH_take (i := 26) (v := ?_) rfl (by kernel_rfl) (by kernel_rfl) (by kernel_rfl) (fun _ _ _ h => h) (Or.inl ⟨by kernel_rfl, ?_⟩) (by assumption) ?_
        rotate_left
        · intro X hX
          first | (go_simp; done) | (go_simp; with_reducible rfl)
        simp only [Act.put, List.getElem_toArray, List.getElem_cons_succ, List.getElem_cons_zero, List.setIfInBounds_toArray, List.set_cons_zero, List.set_cons_succ]
        refine wpAnyH_take (i := 27) (v := ?_) rfl (by kernel_rfl) (by kernel_rfl) (by kernel_rfl) (fun _ _ _ h => h) (Or.inl ⟨by kernel_rfl, ?_⟩) (by assumption) ?_
        rotate_left
        · intro X hX
          first | (go_simp; done) | (go_simp; with_reducible rfl)
        simp only [Act.put, List.getElem_toArray, List.getElem_cons_succ, List.getElem_cons_zero, List.setIfInBounds_toArray, List.set_cons_zero, List.set_cons_succ]
        refine wpAnyH_done (by kernel_rfl) ?_ _
        have HZ := Lib.hid hS.2.2.2.2.below
        clear hS
        go_wp2_with fail
        go_ret
        exact ⟨rfl, HZ.out⟩
      · have hxy : findP s' pa = findP r pa := by
          rcases hfn with h | h
          · exact absurd (hy.out.trans h) h9
          · exact h
        have h9b : (y == 9) = false := by rw [beq_eq_false_iff_ne]; exact h9
        have KB : Hid (∀ X, (X.cell? ⟨gt, 0, none⟩ = some (.slice ta r.length tc) ∧ X.cell? ⟨gn, 0, none⟩ = some (.slice na s'.length nc) ∧ X.cell? ⟨q, 0, none⟩ = some (.int .i64 (pa : Int)) ∧ X.cell? ⟨q, 1, none⟩ = some (.int .i64 (pn : Int)) ∧ TW w q gt gn pa pn (.slice ta r.length tc) (.slice na s'.length nc) (.slice so ss.length sp) fp fn r s' ss X) → Calls Try.prog 20 #[.agg #[.slice ta r.length tc], .int .i64 (pa : Int)] X fun e Y => e = .returned (.int .i64 y) ∧ (Y.cell? ⟨gt, 0, none⟩ = some (.slice ta r.length tc) ∧ Y.cell? ⟨gn, 0, none⟩ = some (.slice na s'.length nc) ∧ Y.cell? ⟨q, 0, none⟩ = some (.int .i64 (pa : Int)) ∧ Y.cell? ⟨q, 1, none⟩ = some (.int .i64 (pn : Int)) ∧ TW w q gt gn pa pn (.slice ta r.length tc) (.slice na s'.length nc) (.slice so ss.length sp) fp fn r s' ss Y)) := fun X hX => by
          refine (HF.out.yes _ r pa HTK.out hpa X (HT.out _ hX.2.2.2.2.below) (layTwigS.read hX.2.2.2.2.tree)).mono ?_
          rintro e Y ⟨rfl, hb⟩
          exact ⟨by rw [hy.out, hxy], (hX.2.2.2.2.next hb).four⟩
        clear hfn hxy h9
        refine wp_region_held_drew (S := (fun X => X.cell? ⟨gt, 0, none⟩ = some (.slice ta r.length tc) ∧ X.cell? ⟨gn, 0, none⟩ = some (.slice na s'.length nc) ∧ X.cell? ⟨q, 0, none⟩ = some (.int .i64 (pa : Int)) ∧ X.cell? ⟨q, 1, none⟩ = some (.int .i64 (pn : Int)) ∧ TW w q gt gn pa pn (.slice ta r.length tc) (.slice na s'.length nc) (.slice so ss.length sp) fp fn r s' ss X)) (by kernel_rfl) E9.out (fun hHeld => ?_)
        refine wpAnyH_take (i := 0) (v := ?_) rfl (by kernel_rfl) (by kernel_rfl) (by kernel_rfl) (fun _ _ _ h => h) (Or.inl ⟨by kernel_rfl, ?_⟩) (by assumption) ?_
        rotate_left
        · intro X hX
          first | (go_simp; done) | (go_simp; with_reducible rfl)
        simp only [Act.put, List.getElem_toArray, List.getElem_cons_zero, List.setIfInBounds_toArray, List.set_cons_zero, List.set_cons_succ]
        refine wpAnyH_take (i := 1) (v := ?_) rfl (by kernel_rfl) (by kernel_rfl) (by kernel_rfl) (fun _ _ _ h => h) (Or.inl ⟨by kernel_rfl, ?_⟩) (by assumption) ?_
        rotate_left
        · intro X hX
          first | (go_simp; done) | (go_simp; with_reducible rfl)
        simp only [Act.put, List.getElem_toArray, List.getElem_cons_succ, List.getElem_cons_zero, List.setIfInBounds_toArray, List.set_cons_zero, List.set_cons_succ]
        refine wpAnyH_take (i := 2) (v := ?_) rfl (by kernel_rfl) (by kernel_rfl) (by kernel_rfl) (fun _ _ _ h => h) (Or.inl ⟨by kernel_rfl, ?_⟩) (by assumption) ?_
        rotate_left
        · intro X hX
          first | (go_simp; done) | (go_simp; with_reducible rfl)
        simp only [Act.put, List.getElem_toArray, List.getElem_cons_succ, List.getElem_cons_zero, List.setIfInBounds_toArray, List.set_cons_zero, List.set_cons_succ]
        refine wpAnyH_take (i := 3) (v := ?_) rfl (by kernel_rfl) (by kernel_rfl) (by kernel_rfl) (fun _ _ _ h => h) (Or.inl ⟨by kernel_rfl, ?_⟩) (by assumption) ?_
        rotate_left
        · intro X hX
          first | (go_simp; done) | (go_simp; with_reducible rfl)
        simp only [Act.put, List.getElem_toArray, List.getElem_cons_succ, List.getElem_cons_zero, List.setIfInBounds_toArray, List.set_cons_zero, List.set_cons_succ]
        refine wpAnyH_take (i := 4) (v := ?_) rfl (by kernel_rfl) (by kernel_rfl) (by kernel_rfl) (fun _ _ _ h => h) (Or.inl ⟨by kernel_rfl, ?_⟩) (by assumption) ?_
        rotate_left
        · intro X hX
          first | (go_simp; done) | (go_simp; with_reducible rfl)
        simp only [Act.put, List.getElem_toArray, List.getElem_cons_succ, List.getElem_cons_zero, List.setIfInBounds_toArray, List.set_cons_zero, List.set_cons_succ]
        refine wpAnyH_take (i := 5) (v := ?_) rfl (by kernel_rfl) (by kernel_rfl) (by kernel_rfl) (fun _ _ _ h => h) (Or.inl ⟨by kernel_rfl, ?_⟩) (by assumption) ?_
        rotate_left
        · intro X hX
          first | (go_simp; done) | (go_simp; with_reducible rfl)
        simp only [Act.put, List.getElem_toArray, List.getElem_cons_succ, List.getElem_cons_zero, List.setIfInBounds_toArray, List.set_cons_zero, List.set_cons_succ]
        refine wpAnyH_take (i := 6) (v := ?_) rfl (by kernel_rfl) (by kernel_rfl) (by kernel_rfl) (fun _ _ _ h => h) (Or.inl ⟨by kernel_rfl, ?_⟩) (by assumption) ?_
        rotate_left
        · intro X hX
          first | (go_simp; done) | (go_simp; with_reducible rfl)
        simp only [Act.put, List.getElem_toArray, List.getElem_cons_succ, List.getElem_cons_zero, List.setIfInBounds_toArray, List.set_cons_zero, List.set_cons_succ]
        refine wpAnyH_ready (rs := [7]) (by kernel_rfl) (by simp) ?_
        refine AllReadyH.cons rfl (fun K hK => ?_) AllReadyH.nil
        go_simp
        go_wp2_with ((go_at_call 21; refine (KO.out _ hHeld).mono ?_; rintro e v1 ⟨rfl, hS⟩))
        refine hK.out _ _ hS (fun hHeld => ?_)
        clear hK K
        clear hS
        refine wpAnyH_take (i := 8) (v := ?_) rfl (by kernel_rfl) (by kernel_rfl) (by kernel_rfl) (fun _ _ _ h => h) (Or.inl ⟨by kernel_rfl, ?_⟩) (by assumption) ?_
        rotate_left
        · intro X hX
          first | (go_simp; done) | (go_simp; with_reducible rfl)
        simp only [Act.put, List.getElem_toArray, List.getElem_cons_succ, List.getElem_cons_zero, List.setIfInBounds_toArray, List.set_cons_zero, List.set_cons_succ]
        refine wpAnyH_take (i := 9) (v := ?_) rfl (by kernel_rfl) (by kernel_rfl) (by kernel_rfl) (fun _ _ _ h => h) (Or.inl ⟨by kernel_rfl, ?_⟩) (by assumption) ?_
        rotate_left
        · intro X hX
          first | (go_simp; done) | (go_simp; with_reducible rfl)
        simp only [Act.put, List.getElem_toArray, List.getElem_cons_succ, List.getElem_cons_zero, List.setIfInBounds_toArray, List.set_cons_zero, List.set_cons_succ]
        refine wpAnyH_take (i := 10) (v := ?_) rfl (by kernel_rfl) (by kernel_rfl) (by kernel_rfl) (fun _ _ _ h => h) (Or.inl ⟨by kernel_rfl, ?_⟩) (by assumption) ?_
        rotate_left
        · intro X hX
          first | (go_simp; done) | (go_simp; with_reducible rfl)
        simp only [Act.put, List.getElem_toArray, List.getElem_cons_succ, List.getElem_cons_zero, List.setIfInBounds_toArray, List.set_cons_zero, List.set_cons_succ]
        refine wpAnyH_take (i := 11) (v := ?_) rfl (by kernel_rfl) (by kernel_rfl) (by kernel_rfl) (fun _ _ _ h => h) (Or.inl ⟨by kernel_rfl, ?_⟩) (by assumption) ?_
        rotate_left
        · intro X hX
          first | (go_simp; done) | (go_simp; with_reducible rfl)
        simp only [Act.put, List.getElem_toArray, List.getElem_cons_succ, List.getElem_cons_zero, List.setIfInBounds_toArray, List.set_cons_zero, List.set_cons_succ]
        refine wpAnyH_take (i := 12) (v := ?_) rfl (by kernel_rfl) (by kernel_rfl) (by kernel_rfl) (fun _ _ _ h => h) (Or.inl ⟨by kernel_rfl, ?_⟩) (by assumption) ?_
        rotate_left
        · intro X hX
          first | (go_simp; done) | (go_simp; with_reducible rfl)
        simp only [Act.put, List.getElem_toArray, List.getElem_cons_succ, List.getElem_cons_zero, List.setIfInBounds_toArray, List.set_cons_zero, List.set_cons_succ]
        refine wpAnyH_ready (rs := [13]) (by kernel_rfl) (by simp) ?_
        refine AllReadyH.cons rfl (fun K hK => ?_) AllReadyH.nil
        go_simp
        go_wp2_with ((go_at_call 20; refine (KA.out _ hHeld).mono ?_; rintro e v1 ⟨rfl, hS⟩))
        refine hK.out _ _ hS (fun hHeld => ?_)
        clear hK K
        refine wpAnyH_take (i := 14) (v := ?_) rfl (by kernel_rfl) (by kernel_rfl) (by kernel_rfl) (fun _ _ _ h => h) (Or.inl ⟨by kernel_rfl, ?_⟩) (by assumption) ?_
        rotate_left
        · intro X hX
          first | (go_simp; done) | (go_simp; with_reducible rfl)
        simp only [Act.put, List.getElem_toArray, List.getElem_cons_succ, List.getElem_cons_zero, List.setIfInBounds_toArray, List.set_cons_zero, List.set_cons_succ]
        refine wpAnyH_take (i := 15) (v := ?_) rfl (by kernel_rfl) (by kernel_rfl) (by kernel_rfl) (fun _ _ _ h => h) (Or.inl ⟨by kernel_rfl, ?_⟩) (by assumption) ?_
        rotate_left
        · intro X hX
          first | (go_simp; done) | (go_simp; with_reducible rfl)
        simp only [Act.put, List.getElem_toArray, List.getElem_cons_succ, List.getElem_cons_zero, List.setIfInBounds_toArray, List.set_cons_zero, List.set_cons_succ]
        clear hS
        refine wpAnyH_take (i := 16) (v := ?_) rfl (by kernel_rfl) (by kernel_rfl) (by kernel_rfl) (fun _ _ _ h => h) (Or.inl ⟨by kernel_rfl, ?_⟩) (by assumption) ?_
        rotate_left
        · intro X hX
          first | (go_simp; done) | (go_simp; with_reducible rfl)
        simp only [Act.put, List.getElem_toArray, List.getElem_cons_succ, List.getElem_cons_zero, List.setIfInBounds_toArray, List.set_cons_zero, List.set_cons_succ]
        refine wpAnyH_take (i := 17) (v := ?_) rfl (by kernel_rfl) (by kernel_rfl) (by kernel_rfl) (fun _ _ _ h => h) (Or.inl ⟨by kernel_rfl, ?_⟩) (by assumption) ?_
        rotate_left
        · intro X hX
          first | (go_simp; done) | (go_simp; with_reducible rfl)
        simp only [Act.put, List.getElem_toArray, List.getElem_cons_succ, List.getElem_cons_zero, List.setIfInBounds_toArray, List.set_cons_zero, List.set_cons_succ]
        refine wpAnyH_take (i := 18) (v := ?_) rfl (by kernel_rfl) (by kernel_rfl) (by kernel_rfl) (fun _ _ _ h => h) (Or.inl ⟨by kernel_rfl, ?_⟩) (by assumption) ?_
        rotate_left
        · intro X hX
          first | (go_simp; done) | (go_simp; with_reducible rfl)
        simp only [Act.put, List.getElem_toArray, List.getElem_cons_succ, List.getElem_cons_zero, List.setIfInBounds_toArray, List.set_cons_zero, List.set_cons_succ]
        refine wpAnyH_take (i := 20) (v := ?_) rfl (by kernel_rfl) (by kernel_rfl) (by kernel_rfl) (fun _ _ _ h => h) (Or.inl ⟨by kernel_rfl, ?_⟩) (by assumption) ?_
        rotate_left
        · intro X hX
          first | (go_simp; done) | (go_simp; with_reducible rfl)
        simp only [Act.put, List.getElem_toArray, List.getElem_cons_succ, List.getElem_cons_zero, List.setIfInBounds_toArray, List.set_cons_zero, List.set_cons_succ]
        refine wpAnyH_take (i := 21) (v := ?_) rfl (by kernel_rfl) (by kernel_rfl) (by kernel_rfl) (fun _ _ _ h => h) (Or.inl ⟨by kernel_rfl, ?_⟩) (by assumption) ?_
        rotate_left
        · intro X hX
          first | (go_simp; done) | (go_simp; with_reducible rfl)
        simp only [Act.put, List.getElem_toArray, List.getElem_cons_succ, List.getElem_cons_zero, List.setIfInBounds_toArray, List.set_cons_zero, List.set_cons_succ]
        refine wpAnyH_take (i := 22) (v := ?_) rfl (by kernel_rfl) (by kernel_rfl) (by kernel_rfl) (fun _ _ _ h => h) (Or.inl ⟨by kernel_rfl, ?_⟩) (by assumption) ?_
        rotate_left
        · intro X hX
          first | (go_simp; done) | (go_simp; with_reducible rfl)
        simp only [Act.put, List.getElem_toArray, List.getElem_cons_succ, List.getElem_cons_zero, List.setIfInBounds_toArray, List.set_cons_zero, List.set_cons_succ]
        refine wpAnyH_ready (rs := [19]) (by kernel_rfl) (by simp) ?_
        refine AllReadyH.cons rfl (fun K hK => ?_) AllReadyH.nil
        go_simp
        go_wp2_with ((go_at_call 20; refine (KB.out _ hHeld).mono ?_; rintro e v1 ⟨rfl, hS⟩))
        refine hK.out _ _ hS (fun hHeld => ?_)
        clear hK K
        clear hS
        refine wpAnyH_ready (rs := [23]) (by kernel_rfl) (by simp) ?_
        refine AllReadyH.cons rfl (fun K hK => ?_) AllReadyH.nil
        go_simp
        go_wp2_with ((go_at_call 20; refine (KA.out _ hHeld).mono ?_; rintro e v1 ⟨rfl, hS⟩))
        refine hK.out _ _ hS (fun hHeld => ?_)
        clear hK K
        refine wpAnyH_take (i := 24) (v := ?_) rfl (by kernel_rfl) (by kernel_rfl) (by kernel_rfl) (fun _ _ _ h => h) (Or.inl ⟨by kernel_rfl, ?_⟩) (by assumption) ?_
        rotate_left
        · intro X hX
          first | (go_simp; done) | (go_simp; with_reducible rfl)
        simp only [Act.put, List.getElem_toArray, List.getElem_cons_succ, List.getElem_cons_zero, List.setIfInBounds_toArray, List.set_cons_zero, List.set_cons_succ]
        refine wpAnyH_take (i := 25) (v := ?_) rfl (by kernel_rfl) (by kernel_rfl) (by kernel_rfl) (fun _ _ _ h => h) (Or.inl ⟨by kernel_rfl, ?_⟩) (by assumption) ?_
        rotate_left
        · intro X hX
          first | (go_simp; done) | (go_simp; with_reducible rfl)
        simp only [Act.put, List.getElem_toArray, List.getElem_cons_succ, List.getElem_cons_zero, List.setIfInBounds_toArray, List.set_cons_zero, List.set_cons_succ]
        refine wpAnyH_take (i := 26) (v := ?_) rfl (by kernel_rfl) (by kernel_rfl) (by kernel_rfl) (fun _ _ _ h => h) (Or.inl ⟨by kernel_rfl, ?_⟩) (by assumption) ?_
        rotate_left
        · intro X hX
          first | (go_simp; done) | (go_simp; with_reducible rfl)
        simp only [Act.put, List.getElem_toArray, List.getElem_cons_succ, List.getElem_cons_zero, List.setIfInBounds_toArray, List.set_cons_zero, List.set_cons_succ]
        refine wpAnyH_take (i := 27) (v := ?_) rfl (by kernel_rfl) (by kernel_rfl) (by kernel_rfl) (fun _ _ _ h => h) (Or.inl ⟨by kernel_rfl, ?_⟩) (by assumption) ?_
        rotate_left
        · intro X hX
          first | (go_simp; done) | (go_simp; with_reducible rfl)
        simp only [Act.put, List.getElem_toArray, List.getElem_cons_succ, List.getElem_cons_zero, List.setIfInBounds_toArray, List.set_cons_zero, List.set_cons_succ]
        refine wpAnyH_done (by kernel_rfl) ?_ _
        have HZ := Lib.hid hS.2.2.2.2.below
        clear hS
        go_wp2_with fail
        go_ret
        exact ⟨rfl, HZ.out⟩

end Go.Proofs.Ytkfcoldjgijpcac
