/-
  The law on what trees of bits find: its walk, out of the program's contracts.
-/
import Derived.Test.YtkfcoldjgijpcacTrieFns
namespace Go.Proofs.Ytkfcoldjgijpcac
open Go.RowKit

set_option maxRecDepth 100000 in
set_option maxHeartbeats 400000 in
theorem lawTries_big (a : Option Addr) (len cap : Nat) (h : 1048576 < len) (w : World) :
    Calls Try.prog 5 #[.slice a len cap] w fun e w' => e = .returned (.bool true) ∧ Below w.heap.size w w' := by
  have hd : decide (1048576 < (len : Int)) = true := decide_eq_true (by omega)
  have HB := Lib.hid (fun w => bigL_any a len cap w)
  rw [hd] at HB
  clear hd
  go_enter Try.func5, Try.ntmps5
  go_wp2_with fail
  refine (HB.out _).mono ?_
  rintro e w1 ⟨rfl, rfl⟩
  go_wp2_with fail
  go_ret
  exact ⟨rfl, Below.refl _ _⟩

theorem infoInt0 : (Try.prog.info? IT0).map (fun i => (i.zero.map (·.cells.size), i.size, i.bytes)) = some (some 1, 1, 8) := by kernel_rfl
theorem own_ints {w : World} {base : Nat} {e : TypeId} {v : Value} {zs : List Int} (h : OwnI w base e v zs) : OwnR intRec w base e v zs := by
  unfold OwnR
  rw [intRec_flat]
  exact h

set_option maxRecDepth 100000 in
set_option maxHeartbeats 6400000 in
theorem lawTriesF (L : World → Prop) (F : TrieFns L) (a : Option Addr) (len cap : Nat) (w : World) (H : Src a len w) (ht : L w) :
    Calls Try.prog 5 #[.slice a len cap] w fun e w' => e = .returned (.bool true) ∧ Below w.heap.size w w' := by
  have hd : decide (1048576 < (len : Int)) = false := decide_eq_false (by have := H.few; omega)
  have HB := Lib.hid (fun w => bigL_any a len cap w)
  rw [hd] at HB
  obtain ⟨i1, z1, hi1, hz1, hzs1, hsz1, hby1⟩ := info_rec infoInt0
  have HS := Lib.hid H
  have HT : Hid (∀ X, Below w.heap.size w X → L X) := fun X hX => F.stays w X ht hX
  have HF := Lib.hid F
  clear H ht hd F
  go_enter Try.func5, Try.ntmps5
  go_wp2_with fail
  refine (HB.out _).mono ?_
  rintro e w0 ⟨rfl, hw0⟩
  have hw1 := hw0.symm
  subst hw1
  clear hw0
  go_wp2_with fail
  refine (drawRoutes_any a len cap _ HS.out).mono ?_
  rintro e w1 ⟨xs, lv, x0, ⟨hP, hl8, _⟩, hx0, rfl, hown, hb1⟩
  have HP := Lib.hid hP
  have HB1 := Lib.hid hb1
  have HR1 := Lib.hid hown
  have HS1 := Lib.hid (HS.out.below hb1)
  obtain ⟨xm, rfl⟩ : ∃ m : Nat, x0 = m := ⟨x0.toNat, by omega⟩
  have hxm : xm ≤ 4294967295 := by omega
  have hxm0 : 167772160 ≤ xm := by omega
  clear hP hb1 hown HB HS hx0
  go_wp2_with fail
  refine (drawAddrs_own a len cap _ HS1.out).mono ?_
  rintro e w2 ⟨g2, cap2, zs, pa, pn, hz6, hzr, _, rfl, ho2, hb2⟩
  have HB2 := Lib.hid (HB1.out.trans (hb2.mono HB1.out.size))
  have HR2 := Lib.hid (HR1.out.below hb2)
  have hal : Below w2.heap.size w2 (w2.alloc (.cells #[.int .i64 (pa : Int), .int .i64 (pn : Int)] 29)) := (Below.refl _ _).alloc (Nat.le_refl _) _
  have HB3 := Lib.hid (HB2.out.trans (hal.mono HB2.out.size))
  have HR3 := Lib.hid (HR2.out.below hal)
  have HO3 := Lib.hid (((own_ints ho2).lower HB1.out.size).below hal)
  have HZR := Lib.hid hzr
  have hz6' : Hid (zs.length = 6) := hz6
  clear hb2 hal HB1 HR1 HS1 HB2 HR2 ho2 hzr hz6
  go_upto_region 5 with fail
  generalize w2.alloc (.cells #[.int .i64 (pa : Int), .int .i64 (pn : Int)] 29) = w3 at *
  generalize w2.heap.size = q at *
  have KO := Lib.hid (HF.out.of lv xs (by omega) w3 (HT.out _ HB3.out) HR3.out.row)
  go_wp2_with fail
  refine (KO.out).mono ?_
  rintro e w4 ⟨r, hr, cs, fp, rfl, hdf, hot, hb4⟩
  obtain ⟨tv, rfl⟩ : ∃ v, cs = [v] := List.length_eq_one_iff.1 (layTwigS.len (layTwigS.read hot))
  obtain ⟨ta, tc, rfl⟩ := rows_form (layTwigS.read hot)
  have hrt : r = trieOfP xs := by
    rcases hr with ⟨_, h⟩ | ⟨h, _⟩
    · exact h
    · exact absurd HP.out h
  have HTK : Hid (TrieOkP r) := by show TrieOkP r; rw [hrt]; exact tree_ok xs HP.out
  have HFD : Hid (∀ x : Nat, x ≤ 4294967295 → findP r x = (lookTo x xs).2) := fun x hx => by rw [hrt]; exact trie_finds xs HP.out x hx
  have hr400 : r.length ≤ 400 := HTK.out.2
  have V5 : Hid (TV w w4.heap.size (.slice ta r.length tc) lv (.slice (some ⟨g2, 0, none⟩) 6 cap2) fp r xs zs (w4.alloc (.cells #[.slice ta r.length tc] TrT0))) := by
    have hb5 : Below w4.heap.size w4 (w4.alloc (.cells #[.slice ta r.length tc] TrT0)) := (Below.refl _ _).alloc (Nat.le_refl _) _
    have hBB := HB3.out.trans (hb4.mono HB3.out.size)
    obtain ⟨us, hou, hrd, hfp⟩ := flat_inv flatTwig hot
    subst hfp
    have hou' : w4.ownsRow w.heap.size TwigT layTwig.k (.slice ta r.length tc) r.length us := by
      refine ⟨hou.1, ?_⟩
      rcases hou.2 with hn | ⟨g, cap, cur, hv, hg, rest⟩
      · exact .inl hn
      · exact .inr ⟨g, cap, cur, hv, Nat.le_trans HB3.out.size hg, rest⟩
    exact ⟨VarA.new w4 TrT0 _, layTwigS.next (flat_own flatTwig hou' (flatTwig.all hrd)) hb5, (HR3.out.below hb4).below hb5, (HO3.out.below hb4).below hb5, hBB.trans (hb5.mono hBB.size)⟩
  clear hb4 hot hdf hr hrt KO HB3 HR3 HO3
  obtain ⟨ao, cp, hlv, _⟩ := V5.out.list.row.form
  subst hlv
  go_upto_region 6 with fail
  generalize w4.alloc (.cells #[.slice ta r.length tc] TrT0) = X5 at *
  generalize w4.heap.size = gt at *
  have hx5 := V5.out.below.size
  go_wp2_with (at_builtin; refine wpList_pushL X5 rfl _ _ 27 rfl w.heap.size IT0 i1 z1 8 Try.underlying27 hi1 hz1 hsz1 hby1 hzs1 (by decide) _ zs rfl V5.out.adrs [(xm : Int), 0, 4294967295] 3 rfl _ rfl rfl (by have := hz6'.out; simp; omega) hx5 ?_; intro sv6 X6 hO6 hg6 hb6)
  have V6 := Lib.hid (V5.out.push hO6 hg6 hb6)
  have HR6 : Hid (∀ z ∈ zs ++ [(xm : Int), 0, 4294967295], 0 ≤ z ∧ z ≤ 4294967295) := fun z hz => by
    rcases List.mem_append.1 hz with h | h
    · have := HZR.out z h
      omega
    · simp only [List.mem_cons, List.not_mem_nil, or_false] at h
      rcases h with rfl | rfl | rfl <;> omega
  have hl9 : Hid ((zs ++ [(xm : Int), 0, 4294967295]).length = 9) := by show _ = 9; rw [List.length_append, hz6'.out]; rfl
  clear hO6 hg6 hb6 V5 hx5
  generalize zs ++ [(xm : Int), 0, 4294967295] = ss0 at *
  go_loopw [5, 8] (fun sv c wr => ∃ (k : Nat) (ss : List Int), k ≤ xs.length ∧ c = .int .i64 k ∧ Hid (∀ z ∈ ss, 0 ≤ z ∧ z ≤ 4294967295) ∧ Hid (ss.length = 9 + k) ∧ TV w gt (.slice ta r.length tc) (.slice ao xs.length cp) sv fp r xs ss wr) (fun _ c _ => xs.length - (intOf c).toNat)
  case atStart => exact ⟨0, ss0, Nat.zero_le _, rfl, HR6, hl9, V6.out⟩
  case round =>
    obtain ⟨k, ss, hk, rfl, HRs, HLs, hV⟩ := hrel
    have VV := Lib.hid hV
    have hws := hV.below.size
    clear hV V6 HR6 hl9
    by_cases hlt : k < xs.length
    · have hlt' : (k : Int) < (xs.length : Int) := by omega
      obtain ⟨ao', cp', hv, hf⟩ := VV.out.list.row.form
      injection hv with hv1 hv2 hv3
      subst hv1
      obtain ⟨g, rfl, hg, hcell⟩ := hf (by omega)
      have hxk : xs[k]? = some xs[k] := List.getElem?_eq_getElem hlt
      obtain ⟨c0, c1, c2⟩ := row_three hcell k xs[k] hxk
      have hok := ok_of_good xs HP.out.1 xs[k] (List.getElem_mem hlt)
      generalize xs[k] = x at hxk c0 c1 c2 hok
      obtain ⟨xa, xn, xt⟩ := x
      have hxr : 0 ≤ xa ∧ xa ≤ 4294967295 := hok.1.1
      clear c1 c2 hxk hok hcell hf hv2 hv3
      go_wp2_with (at_builtin; refine wpList_pushL wr rfl _ _ 27 rfl w.heap.size IT0 i1 z1 8 Try.underlying27 hi1 hz1 hsz1 hby1 hzs1 (by decide) _ ss rfl VV.out.adrs [xa] 1 rfl _ rfl rfl (by have := HLs.out; simp; omega) hws ?_; intro sv7 X7 hO7 hg7 hb7)
      go_roundw
      case rel =>
        refine ⟨k + 1, ss ++ [xa], by omega, by go_num, fun z hz => ?_, ?_, VV.out.push hO7 hg7 hb7⟩
        · rcases List.mem_append.1 hz with h | h
          · exact HRs.out z h
          · rw [List.mem_singleton] at h
            subst h
            exact hxr
        · show _ = _
          rw [List.length_append, HLs.out]
          rfl
      case measure => simp [intOf]; omega
    · have hlt' : ¬ ((k : Int) < (xs.length : Int)) := by omega
      have hsl : ss.length ≤ 20 := by have := HLs.out; omega
      clear HLs
      obtain ⟨so, sp, hsv, _⟩ := VV.out.adrs.row.form
      subst hsv
      go_wp2_with fail
      go_loopw [9] (fun c wr => ∃ k : Nat, k ≤ ss.length ∧ c = .int .i64 k ∧ TV w gt (.slice ta r.length tc) (.slice ao xs.length cp) (.slice so ss.length sp) fp r xs ss wr) (fun c _ => ss.length - (intOf c).toNat)
      case atStart => exact ⟨0, Nat.zero_le _, rfl, VV.out⟩
      case round =>
        obtain ⟨j, hj, rfl, hV⟩ := hrel
        have VW := Lib.hid hV
        clear hV VV
        by_cases hjl : j < ss.length
        · have hjl' : (j : Int) < (ss.length : Int) := by omega
          obtain ⟨so', sp', hv, hf⟩ := VW.out.adrs.row.form
          injection hv with hv1 hv2 hv3
          subst hv1
          obtain ⟨g, rfl, hg, hcell⟩ := hf (by omega)
          have c0 := hcell j 0 ss[j] (List.getElem?_eq_getElem hjl) (by decide)
          have e1 : intRec.k * j + 0 = j := by show 1 * j + 0 = j; omega
          rw [e1] at c0
          have c0' : wr.cell? ⟨g, j, none⟩ = some (.int .i64 ss[j]) := c0
          have hzr := HRs.out ss[j] (List.getElem_mem hjl)
          generalize ss[j] = z at c0' hzr
          obtain ⟨zn, rfl⟩ : ∃ m : Nat, z = m := ⟨z.toNat, by omega⟩
          have hzn : zn ≤ 4294967295 := by omega
          have hfd := HFD.out zn hzn
          obtain ⟨f, hf0⟩ : ∃ f, Hid (f = findP r zn) := ⟨_, rfl⟩
          have E0 : Hid (wr.drew.cell? ⟨gt, 0, none⟩ = some (.slice ta r.length tc) ∧ wr.drew.cell? ⟨g, j, none⟩ = some (.int .i64 (zn : Int)) ∧ TV w gt (.slice ta r.length tc) (.slice ao xs.length cp) (.slice (some ⟨g, 0, none⟩) ss.length sp) fp r xs ss wr.drew) := VW.out.drew.two c0'
          have K1 : Hid (∀ X, (X.cell? ⟨gt, 0, none⟩ = some (.slice ta r.length tc) ∧ X.cell? ⟨g, j, none⟩ = some (.int .i64 (zn : Int)) ∧ TV w gt (.slice ta r.length tc) (.slice ao xs.length cp) (.slice (some ⟨g, 0, none⟩) ss.length sp) fp r xs ss X) → Calls Try.prog 20 #[.agg #[.slice ta r.length tc], .int .i64 (zn : Int)] X fun e Y => e = .returned (.int .i64 f) ∧ (Y.cell? ⟨gt, 0, none⟩ = some (.slice ta r.length tc) ∧ Y.cell? ⟨g, j, none⟩ = some (.int .i64 (zn : Int)) ∧ TV w gt (.slice ta r.length tc) (.slice ao xs.length cp) (.slice (some ⟨g, 0, none⟩) ss.length sp) fp r xs ss Y)) := fun X hX => by
            refine (HF.out.yes _ r zn HTK.out hzn X (HT.out _ hX.2.2.below) (layTwigS.read hX.2.2.tree)).mono ?_
            rintro e Y ⟨rfl, hb⟩
            exact ⟨by rw [hf0.out], TV.after hX hb⟩
          have K2 : Hid (∀ X, (X.cell? ⟨gt, 0, none⟩ = some (.slice ta r.length tc) ∧ X.cell? ⟨g, j, none⟩ = some (.int .i64 (zn : Int)) ∧ TV w gt (.slice ta r.length tc) (.slice ao xs.length cp) (.slice (some ⟨g, 0, none⟩) ss.length sp) fp r xs ss X) → Calls Try.prog 15 #[.slice ao xs.length cp, .int .i64 (zn : Int)] X fun e Y => e = .returned (.int .i64 f) ∧ (Y.cell? ⟨gt, 0, none⟩ = some (.slice ta r.length tc) ∧ Y.cell? ⟨g, j, none⟩ = some (.int .i64 (zn : Int)) ∧ TV w gt (.slice ta r.length tc) (.slice ao xs.length cp) (.slice (some ⟨g, 0, none⟩) ss.length sp) fp r xs ss Y)) := fun X hX => by
            refine (specLookUp_right _ xs zn (by omega) X hX.2.2.list.row HP.out).mono ?_
            rintro e Y ⟨rfl, hb⟩
            exact ⟨by rw [hf0.out, hfd], TV.after hX hb⟩
          clear hv2 hv3 hcell hf c0 e1 hfd c0' hzr VW
          go_wp2_with fail
          go_region_held3 (fun X => X.cell? ⟨gt, 0, none⟩ = some (.slice ta r.length tc) ∧ X.cell? ⟨g, j, none⟩ = some (.int .i64 (zn : Int)) ∧ TV w gt (.slice ta r.length tc) (.slice ao xs.length cp) (.slice (some ⟨g, 0, none⟩) ss.length sp) fp r xs ss X) (first | (with_reducible assumption) | (with_reducible exact E0.out)) (first | (go_at_call 20; refine (K1.out _ (by assumption)).mono ?_; rintro e v1 ⟨rfl, hS⟩) | (go_at_call 15; refine (K2.out _ (by assumption)).mono ?_; rintro e v1 ⟨rfl, hS⟩))
          all_goals
            have HZ := Lib.hid hS.2.2
            clear hS
            go_wp2_with fail
            go_roundw
            case rel => exact ⟨j + 1, by omega, by go_num, HZ.out⟩
            case measure => simp [intOf]; omega
        · have hjl' : ¬ ((j : Int) < (ss.length : Int)) := by omega
          have v0 := VW.out.var.cell 0
          have KA := Lib.hid (HF.out.ok _ r (by omega) wr (HT.out _ VW.out.below) (layTwigS.read VW.out.tree))
          go_wp2_with fail
          refine (KA.out).mono ?_
          rintro e w8 ⟨⟨_, rfl⟩ | ⟨hno, _⟩, hb8⟩
          rotate_left
          · exact absurd HTK.out hno
          have V8 := Lib.hid (VW.out.next hb8)
          have KN := Lib.hid (HF.out.new w8 (HT.out _ V8.out.below))
          clear hb8 VW v0 KA
          go_wp2_with fail
          refine (KN.out).mono ?_
          rintro e w9 ⟨cs, fn, rfl, _, hon, hb9⟩
          obtain ⟨nv, rfl⟩ : ∃ v, cs = [v] := List.length_eq_one_iff.1 (layTwigS.len (layTwigS.read hon))
          have V9 := Lib.hid (V8.out.next hb9)
          have KB := Lib.hid (HF.out.ok nv [tw0] (by simp) w9 (HT.out _ V9.out.below) (layTwigS.read hon))
          clear hb9 V8 KN hon
          go_wp2_with fail
          refine (KB.out).mono ?_
          rintro e wA ⟨⟨_, rfl⟩ | ⟨hno, _⟩, hbA⟩
          rotate_left
          · exact absurd new_ok hno
          have VA := Lib.hid (V9.out.next hbA)
          have KN := Lib.hid (HF.out.new wA (HT.out _ VA.out.below))
          clear hbA V9 KB
          go_wp2_with fail
          refine (KN.out).mono ?_
          rintro e wB ⟨cs, fn', rfl, _, hon, hbB⟩
          obtain ⟨mv, rfl⟩ : ∃ v, cs = [v] := List.length_eq_one_iff.1 (layTwigS.len (layTwigS.read hon))
          have VB := Lib.hid (VA.out.next hbB)
          have hfy := HF.out.yes mv [tw0] xm new_ok hxm wB (HT.out _ VB.out.below) (layTwigS.read hon)
          rw [new_find xm] at hfy
          have KC := Lib.hid hfy
          clear hbB VA KN hon hfy
          go_wp2_with fail
          refine (KC.out).mono ?_
          rintro e wC ⟨rfl, hbC⟩
          have VC := Lib.hid (VB.out.next hbC)
          have v0 := VC.out.var.cell 0
          have hd4 : decide ((r.length : Int) ≤ 400) = true := decide_eq_true (by omega)
          clear hbC VB KC
          go_wp2_with fail
          go_ret
          exact ⟨rfl, VC.out.below⟩

end Go.Proofs.Ytkfcoldjgijpcac
