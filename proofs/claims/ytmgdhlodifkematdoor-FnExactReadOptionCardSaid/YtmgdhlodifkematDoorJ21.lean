/-
  The program's ReadOption.
  What the library's Clone gives.
  What is changed, by ranges of blocks; no program is spoken of here.
-/
import Derived.Test.YtmgdhlodifkematDoorJ17
import Derived.Test.YtmgdhlodifkematDoorJ20
import Derived.Test.YtmgdhlodifkematDoorJ08
import Derived.Test.YtmgdhlodifkematDoorJ03
import Derived.Test.YtmgdhlodifkematDoorJ07
namespace Go.Proofs.YtmgdhlodifkematDoor
open Go.RowKit

theorem infoOptF : (Tryd.prog.info? OptFT).map (fun i => (i.zero, i.size, i.bytes)) = some (some .nilFunc, 1, 8) := by kernel_rfl
/-- The functions of the first parts. -/
structure Fns (s : ByteArray) (j : Nat) (vs : List Value) (sts : List Sets) (X : World) : Prop where
  lv : vs.length = j
  ls : sts.length = j
  clo : ∀ (i : Nat) (c : Value) (st : Sets), vs[i]? = some c → sts[i]? = some st → CloV X c st
  part : ∀ (i : Nat) (x : ByteArray) (st : Sets), (partsO s)[i]? = some x → sts[i]? = some st → PartSets x.data.toList st
theorem Fns.next {s : ByteArray} {j : Nat} {vs : List Value} {sts : List Sets} {X Y : World} (h : Fns s j vs sts X) (hb : Below X.heap.size X Y) : Fns s j vs sts Y := ⟨h.lv, h.ls, fun i c st h1 h2 => (h.clo i c st h1 h2).below hb, h.part⟩
theorem Fns.chg {s : ByteArray} {j b : Nat} {f : List Nat} {v : Value} {us vs : List Value} {sts : List Sets} {X Y : World} (h : Fns s j vs sts X) (ho : layRawS.own X b f [v] us) (hc : Chg f X Y) : Fns s j vs sts Y := ⟨h.lv, h.ls, fun i c st h1 h2 => (h.clo i c st h1 h2).chg ho hc, h.part⟩
theorem CloV.form {X : World} {c : Value} {st : Sets} (h : CloV X c st) : ∃ f q, c = cloV f q := by
  cases st with
  | size n => obtain ⟨q, rfl, _⟩ := h; exact ⟨_, _, rfl⟩
  | ways ws => obtain ⟨q, v, b, f, rfl, _⟩ := h; exact ⟨_, _, rfl⟩
  | pieces b => obtain ⟨q, rfl, _⟩ := h; exact ⟨_, _, rfl⟩
theorem fold_fit : ∀ (sts : List Sets) (o : Int × List ByteArray × Bool), (∀ st ∈ sts, FitS st) → (o.2.1.length ≤ 5 ∧ ∀ x ∈ o.2.1, x.size ≤ 1048576) → ((sts.foldl putS o).2.1.length ≤ 5 ∧ ∀ x ∈ (sts.foldl putS o).2.1, x.size ≤ 1048576)
  | [], _, _, h => h
  | st :: sts, o, hs, h => fold_fit sts (putS o st) (fun x hx => hs x (List.mem_cons_of_mem _ hx)) (by
    have h1 := hs st List.mem_cons_self
    cases st with
    | size n => exact h
    | ways ws => exact h1
    | pieces b => exact h)
theorem allS_fit (sts : List Sets) (h : ∀ st ∈ sts, FitS st) : (allS sts).2.1.length ≤ 5 ∧ ∀ x ∈ (allS sts).2.1, x.size ≤ 1048576 := fold_fit sts _ h ⟨by simp, fun x hx => by cases hx⟩
theorem snoc_get {α : Type} {l : List α} {a x : α} {i : Nat} (h : (l ++ [a])[i]? = some x) : (l[i]? = some x ∧ i < l.length) ∨ (i = l.length ∧ x = a) := by
  rcases Nat.lt_or_ge i l.length with h1 | h1
  · rw [List.getElem?_append_left h1] at h
    exact .inl ⟨h, h1⟩
  · rw [List.getElem?_append_right h1] at h
    rcases Nat.lt_or_ge (i - l.length) 1 with h2 | h2
    · have h3 : i = l.length := by omega
      subst h3
      simp at h
      exact .inr ⟨rfl, h.symm⟩
    · rw [List.getElem?_eq_none (by simpa using h2)] at h
      cases h
theorem Fns.push {s : ByteArray} {j : Nat} {vs : List Value} {sts : List Sets} {X : World} {c : Value} {st : Sets} {x : ByteArray} (h : Fns s j vs sts X) (hx : (partsO s)[j]? = some x) (hp : PartSets x.data.toList st) (hc : CloV X c st) : Fns s (j + 1) (vs ++ [c]) (sts ++ [st]) X := by
  have l1 := h.lv
  have l2 := h.ls
  refine ⟨by rw [List.length_append, l1]; rfl, by rw [List.length_append, l2]; rfl, fun i c' st' h1 h2 => ?_, fun i x' st' h1 h2 => ?_⟩
  · rcases snoc_get h1 with ⟨h1, k1⟩ | ⟨rfl, rfl⟩ <;> rcases snoc_get h2 with ⟨h2, k2⟩ | ⟨k2, rfl⟩
    · exact h.clo i _ _ h1 h2
    · omega
    · omega
    · exact hc
  · rcases snoc_get h2 with ⟨h2, k2⟩ | ⟨k2, rfl⟩
    · exact h.part i _ _ h1 h2
    · rw [k2, l2, hx] at h1
      cases h1
      exact hp

set_option maxRecDepth 100000 in
set_option maxHeartbeats 3200000 in
theorem implReadOption_any (HG : CloneGives) (s : ByteArray) (hs : s.size ≤ 1048576) (rz : Int) (rw : List ByteArray) (rp ok : Bool) (hR : ReadIs s rz rw rp ok) (w : World) (hw : LaidA w) :
    Calls Tryd.prog 5 #[.string s] w (OptRet rz rw rp ok w) := by
  obtain ⟨i0, hi0, hz0, hsz0, hby0⟩ := info_of infoOptF
  have hsplit := split_few 59 4 (by decide) s
  have hpart : Hid (∀ x ∈ partsO s, x.size ≤ 1048576) := Lib.hid (fun x hx => Nat.le_trans (split_part 59 _ s x hx) hs)
  have A0 := Lib.hid (VarA.new w OptionsT #[.int .i64 0, .slice none 0 0, .bool false])
  have B0 := Lib.hid ((Below.refl w.heap.size w).alloc (Nat.le_refl _) (.cells #[.int .i64 0, .slice none 0 0, .bool false] OptionsT))
  have hlow : w.heap.size + 1 ≤ (w.alloc (.cells #[.int .i64 0, .slice none 0 0, .bool false] OptionsT)).heap.size := by simp
  have LA : Hid (∀ X, Below w.heap.size w X → LaidA X) := Lib.hid (fun X hb => LaidA.all w X hw hb)
  have KS := Lib.hid (splitN_any s 59 4 hs (by decide) (by decide) _ (LA.out _ B0.out))
  have hlp : Hid ((partsO s).length ≤ 4) := Lib.hid hsplit.2.1
  have HGG := Lib.hid HG
  have HRI := Lib.hid hR
  clear hsplit hs hw HG hR
  unfold partsO at hpart hlp
  have HPO : Hid (partsO s = Lib.splitB ⟨#[59]⟩ 0 (min 4 (s.size + 1) - 1) s) := Lib.hid rfl
  generalize Lib.splitB ⟨#[59]⟩ 0 (min 4 (s.size + 1) - 1) s = ps at *
  obtain ⟨Q, HQ⟩ : ∃ Q : Ending → World → Prop, Hid (Q = OptRet rz rw rp ok w) := ⟨_, Lib.hid rfl⟩
  rw [← HQ.out]
  go_enter Tryd.func5, Tryd.ntmps5
  go_upto_region 2 with fail
  generalize w.alloc (.cells #[.int .i64 0, .slice none 0 0, .bool false] OptionsT) = Y at *
  go_wp2_with fail
  refine (KS.out).mono ?_
  rintro e Y1 ⟨k, rfl, hown, hb⟩
  have HP := Lib.hid hown
  have A1 := Lib.hid (A0.out.next hb)
  have B1 := Lib.hid (B0.out.trans (hb.mono B0.out.size))
  have L1 : Hid (w.heap.size + 1 ≤ Y1.heap.size) := Lib.hid (Nat.le_trans hlow hb.size)
  clear hown hb KS A0 B0 hlow
  generalize Y.heap.size = pg at *
  have HP2 : Hid (layStringS.own Y1 0 [pg] [.slice (some ⟨pg, 0, none⟩) ps.length k] ps) := Lib.hid (layStringS.lower HP.out (Nat.zero_le _))
  clear HP
  go_wp2_with fail
  go_loopw [4, 13] (fun t c wr => ∃ (j : Nat) (vs : List Value) (sts : List Sets), j ≤ ps.length ∧ c = .int .i64 j ∧ Hid (layRawS.own wr (w.heap.size + 1) (blk t) [t] vs) ∧ Hid (Fns s j vs sts wr) ∧ Hid (VarA w.heap.size OptionsT #[.int .i64 0, .slice none 0 0, .bool false] wr) ∧ Hid (layStringS.own wr 0 [pg] [.slice (some ⟨pg, 0, none⟩) ps.length k] ps) ∧ Hid (Below w.heap.size w wr) ∧ Hid (w.heap.size + 1 ≤ wr.heap.size)) (fun _ c _ => ps.length - (intOf c).toNat)
  case atStart => exact ⟨0, [], [], Nat.zero_le _, rfl, Lib.hid (flat_own flatRaw (World.ownsRow_nil Y1 _ _ _) rfl), Lib.hid ⟨rfl, rfl, fun i c st h => (by cases h), fun i x st _ h => (by cases h)⟩, A1, HP2, B1, L1⟩
  case round =>
    obtain ⟨j, vs, sts, hj, rfl, HO, HF, HV, HL2, HB, HZ⟩ := hrel
    clear A1 B1 L1 HP2
    have hpl : ps.length ≤ 4 := hlp.out
    obtain ⟨ta, tk, rfl⟩ := rows_form (layRawS.read HO.out)
    by_cases hlt : j < ps.length
    · have hlt' : (j : Int) < (ps.length : Int) := by omega
      have hx := List.getElem?_eq_getElem hlt
      have hsx := hpart.out _ (List.getElem_mem hlt)
      obtain ⟨g2, off2, cs, hv, hg, hr, hc⟩ := rows_elem (layStringS.read HL2.out) j _ hx
      simp only [Option.some.injEq, Addr.mk.injEq, and_true] at hv
      obtain ⟨rfl, rfl⟩ := hv
      have HX : Hid ((partsO s)[j]? = some ps[j]) := Lib.hid (by rw [HPO.out]; exact hx)
      generalize ps[j] = x at hr hsx hx HX
      rw [layString_rd] at hr
      subst hr
      have c0 : wr.cell? ⟨pg, 0 + j, none⟩ = some (.string x) := (by have h9 := hc 0 _ rfl; rw [str_k] at h9; exact h9)
      have c1 : wr.cell? ⟨pg, j, none⟩ = some (.string x) := (by rw [Nat.zero_add] at c0; exact c0)
      clear hc hx
      have K := Lib.hid (optionIn_any x hsx wr (LA.out _ HB.out))
      go_wp2_with fail
      refine (K.out).mono ?_
      rintro e Z ⟨c, st, rfl, hps, hcv, hb⟩
      obtain ⟨f, q, rfl⟩ := hcv.form
      have hlv : Hid (vs.length = j) := Lib.hid HF.out.lv
      have HO2 := Lib.hid (layRawS.next HO.out hb)
      have HF2 := Lib.hid ((HF.out.next hb).push HX.out hps hcv)
      have HV2 := Lib.hid (HV.out.next hb)
      have HL3 := Lib.hid (layStringS.next HL2.out hb)
      have HB2 := Lib.hid (HB.out.trans (hb.mono HB.out.size))
      have hwz : w.heap.size + 1 ≤ Z.heap.size := Nat.le_trans HZ.out hb.size
      have hone : (cloV f q).oneCell' = true := hcv.one
      have hlen : vs.length + 1 ≤ 1000000000 := by have h1 := hlv.out; have h2 := hlp.out; rw [h1]; omega
      clear hb hcv hps K c0 c1 HO HF HV HL2 HB
      go_wp2_with (at_builtin; refine wpList_pushF Z rfl _ _ 35 rfl (w.heap.size + 1) OptFT i0 _ 8 layRaw flatRaw Tryd.underlying35 hi0 hz0 hsz0 hby0 rfl (by omega) (.slice ta vs.length tk) (blk (.slice ta vs.length tk)) vs (by rfl) HO2.out (cloV f q) #[cloV f q] ⟨rfl, hone⟩ (by rfl) hlen hwz ?_; intro v1 w3 hown1 hnn1 hgr1 hbe1)
      have hchg : Chg (blk (.slice ta vs.length tk)) Z w3 := Chg.grown hgr1 _ (fun k hk => by simp [blk, hk])
      have HF3 := Lib.hid (HF2.out.chg HO2.out hchg)
      have HV3 := Lib.hid (VarA.next' HV2.out hbe1 (by omega))
      have HL4 : Hid (layStringS.own w3 0 [pg] [.slice (some ⟨pg, 0, none⟩) ps.length k] ps) := Lib.hid (layStringS.keep HL3.out (fun g hg => hchg.block g (layStringS.blocks HL3.out g hg).2 (rows_off flatString flatRaw HL3.out HO2.out (by decide) g hg)))
      have HB3 := Lib.hid (HB2.out.trans (hbe1.mono (by omega)))
      have HZ3 := Lib.hid (Nat.le_trans hwz hbe1.size)
      have HO3 := Lib.hid hown1
      clear hown1 hnn1 hgr1 hbe1 hchg hlen HF2 HV2 HL3 HB2 HO2
      go_wp2_with fail
      go_roundw
      case rel => exact ⟨j + 1, vs ++ [cloV f q], sts ++ [st], by omega, by go_num, HO3, HF3, HV3, HL4, HB3, HZ3⟩
      case measure => simp [intOf]; omega
    · have hlt' : ¬ ((j : Int) < (ps.length : Int)) := by omega
      obtain rfl : j = ps.length := by omega
      have hfit : Hid (∀ st ∈ sts, FitS st) := Lib.hid (fun st hst => by
        obtain ⟨i, hi, rfl⟩ := List.getElem_of_mem hst
        have hi2 : i < ps.length := by rw [← HF.out.ls]; exact hi
        have hp := HF.out.part i ps[i] sts[i] (by rw [HPO.out]; exact List.getElem?_eq_getElem hi2) (List.getElem?_eq_getElem hi)
        exact part_fit hp (by have := hpart.out _ (List.getElem_mem hi2); simpa using this))
      have K := Lib.hid (optionsOf_any HGG.out (.slice ta vs.length tk) vs sts (by rw [HF.out.lv, HF.out.ls]) (by rw [HF.out.ls]; have := hlp.out; omega) hfit.out wr (layRawS.read HO.out) (fun i c st h1 h2 => (HF.out.clo i c st h1 h2).clo))
      have RB : Hid (∀ (t : ByteArray) (right : Bool), TextIs (allS sts).1 (allS sts).2.1 (allS sts).2.2 t right → (right = true ∧ t = s ∧ ok = true ∧ rz = (allS sts).1 ∧ rw = (allS sts).2.1 ∧ rp = (allS sts).2.2) ∨ ((right = false ∨ t ≠ s) ∧ ok = false ∧ rz = 0 ∧ rw = [] ∧ rp = false)) := Lib.hid (fun t right ht => read_by HRI.out sts (by rw [HF.out.ls, HPO.out]) HF.out.part t right ht)
      obtain ⟨hf1, hf2⟩ := allS_fit sts hfit.out
      have hfew : Hid ((allS sts).2.1.length ≤ 100000000 ∧ ∀ x ∈ (allS sts).2.1, x.size ≤ 100000000) := Lib.hid ⟨by omega, fun x hx => by have := hf2 x hx; omega⟩
      clear hf1 hf2 hfit HL2 HF HO hpart hlp
      generalize allS sts = o at *
      obtain ⟨oz, ow, op⟩ := o
      go_upto_region 7 with fail
      go_wp2_with fail
      refine (K.out).mono ?_
      rintro e Z ⟨u, fp, rfl, hd, hown, hb⟩
      obtain ⟨ua, uk, rfl⟩ := rows_form (layStringS.read hown)
      have HO1 := Lib.hid hown
      have HD := Lib.hid hd
      have HV1 := Lib.hid (HV.out.next hb)
      have HB1 := Lib.hid (HB.out.trans (hb.mono HB.out.size))
      have hlz : Hid (w.heap.size + 1 ≤ wr.heap.size) := HZ
      clear hown hd hb K HV HB HZ
      have VS := Lib.hid (VarA.new Z OptionsT #[.int .i64 oz, .slice ua ow.length uk, .bool op])
      have hal : Below Z.heap.size Z (Z.alloc (.cells #[.int .i64 oz, .slice ua ow.length uk, .bool op] OptionsT)) := (Below.refl _ _).alloc (Nat.le_refl _) _
      have HVb := Lib.hid (HV1.out.next hal)
      have HOb := Lib.hid (layStringS.lower (layStringS.next HO1.out hal) hlz.out)
      have HBb := Lib.hid (HB1.out.trans (hal.mono HB1.out.size))
      clear hal HV1 HO1 HB1
      go_upto_region 8 with fail
      generalize Z.alloc (.cells #[.int .i64 oz, .slice ua ow.length uk, .bool op] OptionsT) = Zb at *
      generalize Z.heap.size = G at *
      have r0 : Zb.cell? ⟨G, 0, none⟩ = some (.int .i64 oz) := VS.out.cell 0
      have r1 : Zb.cell? ⟨G, 1, none⟩ = some (.slice ua ow.length uk) := VS.out.cell 1
      have r2 : Zb.cell? ⟨G, 2, none⟩ = some (.bool op) := VS.out.cell 2
      obtain ⟨t, right, ht⟩ := text_is oz ow op
      have RB2 := Lib.hid (RB.out t right ht)
      have K := Lib.hid (implOptionText_any oz (.slice ua ow.length uk) ow op t right ht hfew.out.1 hfew.out.2 Zb (LA.out _ HBb.out).tab (layStringS.read HOb.out))
      clear RB ht hfew
      go_wp2_with fail
      refine (K.out).mono ?_
      rintro e Zc ⟨rfl, hb⟩
      have HVc := Lib.hid (HVb.out.next hb)
      have VSc := Lib.hid (VS.out.next hb)
      have HOc := Lib.hid (layStringS.next HOb.out hb)
      have HBc := Lib.hid (HBb.out.trans (hb.mono HBb.out.size))
      clear hb K HVb VS HOb HBb r0 r1 r2
      have hrb := RB2.out
      rcases hrb with ⟨rfl, rfl, rfl, rfl, rfl, rfl⟩ | ⟨hne, rfl, rfl, rfl, rfl⟩
      · have k1 : (t.toList == t.toList) = true := by simp
        have r0 : Zc.cell? ⟨G, 0, none⟩ = some (.int .i64 rz) := VSc.out.cell 0
        have r1 : Zc.cell? ⟨G, 1, none⟩ = some (.slice ua rw.length uk) := VSc.out.cell 1
        have r2 : Zc.cell? ⟨G, 2, none⟩ = some (.bool rp) := VSc.out.cell 2
        have d0 : Zc.cell? ⟨w.heap.size, 0, none⟩ = some (.int .i64 0) := HVc.out.cell 0
        have d1 : Zc.cell? ⟨w.heap.size, 1, none⟩ = some (.slice none 0 0) := HVc.out.cell 1
        have d2 : Zc.cell? ⟨w.heap.size, 2, none⟩ = some (.bool false) := HVc.out.cell 2
        have f0 := HVc.out.free 0
        have f1 := HVc.out.free 1
        have f2 := HVc.out.free 2
        have R9 := set_three (p0 := .int .i64 rz) (p1 := .slice ua rw.length uk) (p2 := .bool rp) HVc.out
        have j0 := R9.cell 0
        have j1 := R9.cell 1
        have j2 := R9.cell 2
        have E : Hid (Q (.returned (.tuple #[.agg #[.int .i64 rz, .slice ua rw.length uk, .bool rp], .bool true])) (((Zc.setCell ⟨w.heap.size, 0, none⟩ (.int .i64 rz)).setCell ⟨w.heap.size, 1, none⟩ (.slice ua rw.length uk)).setCell ⟨w.heap.size, 2, none⟩ (.bool rp))) := by
          rw [HQ.out]
          exact Lib.hid ⟨_, fp, rfl, HD.out, layStringS.lower (own_off (own_off (own_off HOc.out (by omega) 0 _) (by omega) 1 _) (by omega) 2 _) (by omega), ((HBc.out.setCell (p := ⟨w.heap.size, 0, none⟩) (Nat.le_refl _) _).setCell (p := ⟨w.heap.size, 1, none⟩) (Nat.le_refl _) _).setCell (p := ⟨w.heap.size, 2, none⟩) (Nat.le_refl _) _⟩
        clear R9 HVc VSc HOc
        go_wp2_with fail
        try simp only [Exit.inBlock, Exit.then]
        exact bodyPost_ret (v := .tuple #[.agg #[.int .i64 rz, .slice ua rw.length uk, .bool rp], .bool true]) (by simp [results, Tryd.results5, go_sem, j0, j1, j2]) rfl E.out
      · have d0 : Zc.cell? ⟨w.heap.size, 0, none⟩ = some (.int .i64 0) := HVc.out.cell 0
        have d1 : Zc.cell? ⟨w.heap.size, 1, none⟩ = some (.slice none 0 0) := HVc.out.cell 1
        have d2 : Zc.cell? ⟨w.heap.size, 2, none⟩ = some (.bool false) := HVc.out.cell 2
        have f0 := HVc.out.free 0
        have f1 := HVc.out.free 1
        have f2 := HVc.out.free 2
        have R9 := set_three (p0 := .int .i64 0) (p1 := .slice none 0 0) (p2 := .bool false) HVc.out
        have j0 := R9.cell 0
        have j1 := R9.cell 1
        have j2 := R9.cell 2
        have E : Hid (Q (.returned (.tuple #[.agg #[.int .i64 0, .slice none 0 0, .bool false], .bool false])) (((Zc.setCell ⟨w.heap.size, 0, none⟩ (.int .i64 0)).setCell ⟨w.heap.size, 1, none⟩ (.slice none 0 0)).setCell ⟨w.heap.size, 2, none⟩ (.bool false))) := by
          rw [HQ.out]
          exact Lib.hid ⟨_, [], rfl, by simp, ⟨_, rfl, .inl ⟨rfl, rfl, rfl⟩⟩, ((HBc.out.setCell (p := ⟨w.heap.size, 0, none⟩) (Nat.le_refl _) _).setCell (p := ⟨w.heap.size, 1, none⟩) (Nat.le_refl _) _).setCell (p := ⟨w.heap.size, 2, none⟩) (Nat.le_refl _) _⟩
        clear R9 HVc VSc HOc
        cases right with
        | false =>
          clear hne
          go_wp2_with fail
          try simp only [Exit.inBlock, Exit.then]
          exact bodyPost_ret (v := .tuple #[.agg #[.int .i64 0, .slice none 0 0, .bool false], .bool false]) (by simp [results, Tryd.results5, go_sem, j0, j1, j2]) rfl E.out
        | true =>
          have k1 : (t.toList == s.toList) = false := texts_ne (by
            rcases hne with h | h
            · cases h
            · exact h)
          clear hne
          go_wp2_with fail
          try simp only [Exit.inBlock, Exit.then]
          exact bodyPost_ret (v := .tuple #[.agg #[.int .i64 0, .slice none 0 0, .bool false], .bool false]) (by simp [results, Tryd.results5, go_sem, j0, j1, j2]) rfl E.out

end Go.Proofs.YtmgdhlodifkematDoor
namespace Go.Proofs.YtmgdhlodifkematDoor
open Go.RowKit

theorem cloneGives : CloneGives := fun s w hs => by
  have H := Lib.hid (fun w => Tryd.stringslite_Clone s w (by omega))
  go_enter Tryd.func54, Tryd.ntmps54
  go_wp2_with fail
  refine (H.out _).mono ?_
  rintro e w1 ⟨rfl, hb1⟩
  go_wp2
  go_ret
  exact ⟨rfl, hb1⟩

end Go.Proofs.YtmgdhlodifkematDoor
namespace Go.Proofs.YtmgdhlodifkematDoor
open Go.RowKit

/-- Blocks from lo on, below hi, alone are changed; new ones may be there. -/
structure Rng (lo hi : Nat) (X Y : World) : Prop where
  os : Y.os = X.os
  tape : Y.tape = X.tape
  output : Y.output = X.output
  size : X.heap.size ≤ Y.heap.size
  block : ∀ g, g < X.heap.size → (g < lo ∨ hi ≤ g) → Y.heap[g]? = X.heap[g]?
theorem Chg.rng {fp : List Nat} {X Y : World} {lo hi : Nat} (h : Chg fp X Y) (hf : ∀ g ∈ fp, lo ≤ g ∧ g < hi) : Rng lo hi X Y := ⟨h.os, h.tape, h.output, h.size, fun g hg ho => h.block g hg (fun hm => by have := hf g hm; omega)⟩
theorem Rng.below {X Y : World} {lo hi b : Nat} (h : Rng lo hi X Y) (hb : b ≤ lo) (hs : b ≤ X.heap.size) : Below b X Y := ⟨h.os, h.tape, h.output, h.size, fun g hg => h.block g (by omega) (.inl (by omega))⟩
theorem VarA.rng {r : Nat} {t : TypeId} {cs : Array Value} {X Y : World} {lo hi : Nat} (h : VarA r t cs X) (hr : Rng lo hi X Y) (ho : r < lo ∨ hi ≤ r) : VarA r t cs Y := ⟨(hr.block r h.lt ho).trans h.row⟩
theorem Lay.rng {α : Type} (A : Lay α) {X Y : World} {b lo hi : Nat} {f : List Nat} {cs : List Value} {x : α} (h : A.own X b f cs x) (hr : Rng lo hi X Y) (hf : ∀ g ∈ f, g < lo ∨ hi ≤ g) : A.own Y b f cs x := A.keep h (fun g hg => hr.block g (A.blocks h g hg).2 (hf g hg))

end Go.Proofs.YtmgdhlodifkematDoor
