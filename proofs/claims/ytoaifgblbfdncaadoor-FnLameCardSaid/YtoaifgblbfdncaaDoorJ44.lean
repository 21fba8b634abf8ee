/-
  The law on lame keys, out of the program's contracts.
-/
import Derived.Test.YtoaifgblbfdncaaDoorJ14
import Derived.Test.YtoaifgblbfdncaaDoorJ42
import Derived.Test.YtoaifgblbfdncaaDoorJ43
namespace Go.Proofs.YtoaifgblbfdncaaDoor
open Go.RowKit

set_option maxHeartbeats 400000 in
theorem bigL_any (a : Option Addr) (len cap : Nat) (w : World) :
    Calls Tryd.prog 4 #[.slice a len cap] w fun e w' => e = .returned (.bool (decide (1048576 < (len : Int)))) ∧ w' = w := by
  go_enter Tryd.func4, Tryd.ntmps4
  go_wp2
  go_ret
  exact ⟨rfl, rfl⟩
/-- The first keys go lame. -/
theorem step_end {pa pb nb nc : ByteArray} {now : Int} {w : World} {e : Ending} {w' : World} (ha : pa.size = 32) (hb : pb.size = 32) (h1 : nb.size = 32) (h2 : nc.size = 32) (h0 : 0 ≤ now) (h9 : now ≤ 1000) (h : InstallEnd 1 pb pa 0 [] 0 0 ⟨#[]⟩ ⟨#[]⟩ 0 [] 0 nb nc now w e w') :
    ∃ (v u : Value) (f g : List Nat), e = .returned (.tuple #[.agg #[.int .i64 2, .string nb, .string nc, .int .i64 0, v, .int .i64 0, .int .i64 1, .string pb, .string pa, .int .i64 0, u, .int .i64 (now + 10)], .bool true]) ∧ layIntS.own w' w.heap.size f [v] [] ∧ layIntS.own w' w.heap.size g [u] [] ∧ Below w.heap.size w w' :=
  install_good (good_first hb ha) ⟨(good_first hb ha).p, h1, h2, ⟨h0, by omega⟩, by omega⟩ h
/-- The first text is sealed. -/
theorem first_seal {pa pb bd : ByteArray} (ha : pa.size = 32) (hb : pb.size = 32) (hz : bd.size ≤ 104) : SealIs 1 pa pb 0 [] 0 0 ⟨#[]⟩ ⟨#[]⟩ 0 [] 0 1 2 bd 1 3 1 1 2 1 (lockP pa 1 bd) true :=
  .inl ⟨rfl, ⟨(good_first ha hb).p, fun h => h.elim (keys_some (good_first ha hb).k) (by omega), ⟨by omega, by omega⟩, ⟨by omega, by omega⟩, hz⟩, rfl, rfl, rfl, rfl, rfl, rfl, rfl⟩
theorem nil_ints : ∀ x ∈ ([] : List Int), IntZ x := fun _ h => by cases h

set_option maxRecDepth 100000 in
set_option maxHeartbeats 12800000 in
theorem lawLameF {L : World → Prop} (F0 : DataFns L) (a : Option Addr) (len cap : Nat) (w : World) (H : Src a len w) (hL : L w) :
    Calls Tryd.prog 3 #[.slice a len cap] w fun e w' => e = .returned (.bool true) ∧ Below w.heap.size w w' := by
  have hd : decide (1048576 < (len : Int)) = false := decide_eq_false (by have := H.few; omega)
  have HBG := Lib.hid (fun w => bigL_any a len cap w)
  rw [hd] at HBG
  have HS := Lib.hid H
  have F := Lib.hid F0
  have LL : Hid (∀ X, Below w.heap.size w X → L X) := Lib.hid (fun X hb => F0.stays w X hL hb)
  clear H hL hd F0
  go_enter Tryd.func3, Tryd.ntmps3
  go_wp2_with fail
  refine (HBG.out _).mono ?_
  rintro e w0 ⟨rfl, hw⟩
  rw [hw]
  clear hw w0
  go_wp2_with fail
  refine (drawBodies_any a len cap w HS.out).mono ?_
  rintro e w1 ⟨seed, lv, es, hsz, hes, rfl, hrl, hb⟩
  obtain ⟨ea, ec, rfl⟩ := rows_form hrl
  have BY := Lib.hid hb
  have HE := Lib.hid hrl
  clear hb hrl
  go_wp2_with fail
  refine (F.out.pair seed (by omega) w1 (LL.out _ BY.out)).mono ?_
  rintro e w2 ⟨v1_, v2_, v3_, v4_, f, g, f', g', rfl, -, o1, o2, o3, o4, hb⟩
  obtain ⟨va, vk, rfl⟩ : ∃ a c, v1_ = .slice a 0 c := rows_form (layIntS.read o1)
  obtain ⟨ua, uk, rfl⟩ : ∃ a c, v2_ = .slice a 0 c := rows_form (layIntS.read o2)
  obtain ⟨na, nk, rfl⟩ : ∃ a c, v3_ = .slice a 0 c := rows_form (layIntS.read o3)
  obtain ⟨ma, mk, rfl⟩ : ∃ a c, v4_ = .slice a 0 c := rows_form (layIntS.read o4)
  have za : (pairK seed 97).size = 32 := digP_size _
  have zb : (pairK seed 98).size = 32 := digP_size _
  generalize pairK seed 97 = pa at *
  generalize pairK seed 98 = pb at *
  have hal : Below w2.heap.size w2 ((w2.alloc (.cells #[.int .i64 1, .string pa, .string pb, .int .i64 0, .slice va 0 vk, .int .i64 0, .int .i64 0, .string ⟨#[]⟩, .string ⟨#[]⟩, .int .i64 0, .slice ua 0 uk, .int .i64 0] SlotsT)).alloc (.cells #[.int .i64 1, .string pb, .string pa, .int .i64 0, .slice na 0 nk, .int .i64 0, .int .i64 0, .string ⟨#[]⟩, .string ⟨#[]⟩, .int .i64 0, .slice ma 0 mk, .int .i64 0] SlotsT)) := ((Below.refl _ _).alloc (Nat.le_refl _) _).alloc (by simp) _
  have k2 := VarA.new (w2.alloc (.cells #[.int .i64 1, .string pa, .string pb, .int .i64 0, .slice va 0 vk, .int .i64 0, .int .i64 0, .string ⟨#[]⟩, .string ⟨#[]⟩, .int .i64 0, .slice ua 0 uk, .int .i64 0] SlotsT)) SlotsT #[.int .i64 1, .string pb, .string pa, .int .i64 0, .slice na 0 nk, .int .i64 0, .int .i64 0, .string ⟨#[]⟩, .string ⟨#[]⟩, .int .i64 0, .slice ma 0 mk, .int .i64 0]
  rw [show (w2.alloc (.cells #[.int .i64 1, .string pa, .string pb, .int .i64 0, .slice va 0 vk, .int .i64 0, .int .i64 0, .string ⟨#[]⟩, .string ⟨#[]⟩, .int .i64 0, .slice ua 0 uk, .int .i64 0] SlotsT)).heap.size = w2.heap.size + 1 by simp] at k2
  have AV := Lib.hid ((VarA.new w2 SlotsT #[.int .i64 1, .string pa, .string pb, .int .i64 0, .slice va 0 vk, .int .i64 0, .int .i64 0, .string ⟨#[]⟩, .string ⟨#[]⟩, .int .i64 0, .slice ua 0 uk, .int .i64 0]).alloc (.cells #[.int .i64 1, .string pb, .string pa, .int .i64 0, .slice na 0 nk, .int .i64 0, .int .i64 0, .string ⟨#[]⟩, .string ⟨#[]⟩, .int .i64 0, .slice ma 0 mk, .int .i64 0] SlotsT))
  have BV := Lib.hid k2
  have R1 := Lib.hid (layIntS.below (layIntS.read o1) hal)
  have R2 := Lib.hid (layIntS.below (layIntS.read o2) hal)
  have R3 := Lib.hid (layIntS.below (layIntS.read o3) hal)
  have R4 := Lib.hid (layIntS.below (layIntS.read o4) hal)
  have hbb := hb.trans (hal.mono hb.size)
  replace HE := Lib.hid (layStringS.below HE.out hbb)
  replace BY := Lib.hid (BY.out.trans (hbb.mono BY.out.size))
  clear hb hal hbb k2 o1 o2 o3 o4 hsz
  go_upto_region 5 with fail
  generalize (w2.alloc (.cells #[.int .i64 1, .string pa, .string pb, .int .i64 0, .slice va 0 vk, .int .i64 0, .int .i64 0, .string ⟨#[]⟩, .string ⟨#[]⟩, .int .i64 0, .slice ua 0 uk, .int .i64 0] SlotsT)).alloc (.cells #[.int .i64 1, .string pb, .string pa, .int .i64 0, .slice na 0 nk, .int .i64 0, .int .i64 0, .string ⟨#[]⟩, .string ⟨#[]⟩, .int .i64 0, .slice ma 0 mk, .int .i64 0] SlotsT) = w3 at *
  generalize w2.heap.size = ga at *
  obtain ⟨bd, hbz, hbd⟩ : ∃ bd : ByteArray, bd.size ≤ 104 ∧ ((es = [] ∧ bd = ⟨#[98, 111, 100, 121]⟩) ∨ (∃ r, es = bd :: r)) := by
    cases es with
    | nil => exact ⟨_, by decide, .inl ⟨rfl, rfl⟩⟩
    | cons x r => exact ⟨x, by have := hes.2 x List.mem_cons_self; omega, .inr ⟨r, rfl⟩⟩
  rcases hbd with hbd | hbd
  case' inl =>
    obtain ⟨rfl, hlit⟩ := hbd
    go_upto_region 8 with fail
    rw [← hlit]
    clear hlit hes HE
  case' inr =>
    obtain ⟨r, rfl⟩ := hbd
    obtain ⟨gl, ol, cs, rfl, -, hr, hc⟩ := rows_elem HE.out 0 bd rfl
    rw [layString_rd] at hr
    subst hr
    have cc : w3.cell? ⟨gl, ol, none⟩ = some (.string bd) := by have h := hc 0 _ rfl; simpa using h
    have hlen : (0 : Int) < ((bd :: r).length : Int) := by rw [List.length_cons]; omega
    have hlen2 : 0 < (bd :: r).length := by simp
    generalize (bd :: r).length = nl at *
    go_upto_region 8 with fail
    clear hc cc hlen hlen2 hes HE
  all_goals
    have c0 : w3.cell? ⟨ga, 0, none⟩ = some (.int .i64 1) := AV.out.cell 0
    have c1 : w3.cell? ⟨ga, 1, none⟩ = some (.string pa) := AV.out.cell 1
    have c2 : w3.cell? ⟨ga, 2, none⟩ = some (.string pb) := AV.out.cell 2
    have c3 : w3.cell? ⟨ga, 3, none⟩ = some (.int .i64 0) := AV.out.cell 3
    have c4 : w3.cell? ⟨ga, 4, none⟩ = some (.slice va 0 vk) := AV.out.cell 4
    have c5 : w3.cell? ⟨ga, 5, none⟩ = some (.int .i64 0) := AV.out.cell 5
    have c6 : w3.cell? ⟨ga, 6, none⟩ = some (.int .i64 0) := AV.out.cell 6
    have c7 : w3.cell? ⟨ga, 7, none⟩ = some (.string ⟨#[]⟩) := AV.out.cell 7
    have c8 : w3.cell? ⟨ga, 8, none⟩ = some (.string ⟨#[]⟩) := AV.out.cell 8
    have c9 : w3.cell? ⟨ga, 9, none⟩ = some (.int .i64 0) := AV.out.cell 9
    have c10 : w3.cell? ⟨ga, 10, none⟩ = some (.slice ua 0 uk) := AV.out.cell 10
    have c11 : w3.cell? ⟨ga, 11, none⟩ = some (.int .i64 0) := AV.out.cell 11
    obtain ⟨lk, hlk⟩ : ∃ lk, lockP pa 1 bd = lk := ⟨_, rfl⟩
    have KS := Lib.hid (F.out.seals 1 pa pb 0 _ [] 0 0 ⟨#[]⟩ ⟨#[]⟩ 0 _ [] 0 1 2 bd 1 3 1 1 2 1 (lockP pa 1 bd) true (first_seal za zb hbz) (by omega) (by omega) (by decide) (by decide) (by omega) (by simp) (by simp) nil_ints nil_ints w3 (LL.out _ BY.out) R1.out R2.out)
    rw [hlk] at KS
    go_wp2_with fail
    refine KS.out.mono ?_
    rintro e w4 ⟨s1_, s2_, s3_, f, g, h, rfl, -, o1, o2, o3, hb⟩
    obtain ⟨qa, qk, rfl⟩ : ∃ a c, s1_ = .slice a 0 c := rows_form (layIntS.read o1)
    obtain ⟨pa2, pk2, rfl⟩ : ∃ a c, s2_ = .slice a 0 c := rows_form (layIntS.read o2)
    obtain ⟨ka, kk, rfl⟩ : ∃ a c, s3_ = .slice a 0 c := rows_form (layIntS.read o3)
    have hal : Below w4.heap.size w4 ((w4.alloc (.cells #[.int .i64 1, .string pa, .string pb, .int .i64 1, .slice qa 0 qk, .int .i64 0, .int .i64 0, .string ⟨#[]⟩, .string ⟨#[]⟩, .int .i64 0, .slice pa2 0 pk2, .int .i64 0] SlotsT)).alloc (.cells #[.int .i64 3, .int .i64 1, .int .i64 1, .int .i64 2, .int .i64 1, .slice ka 0 kk, .string lk] SPkT)) := ((Below.refl _ _).alloc (Nat.le_refl _) _).alloc (by simp) _
    have k2 := VarA.new (w4.alloc (.cells #[.int .i64 1, .string pa, .string pb, .int .i64 1, .slice qa 0 qk, .int .i64 0, .int .i64 0, .string ⟨#[]⟩, .string ⟨#[]⟩, .int .i64 0, .slice pa2 0 pk2, .int .i64 0] SlotsT)) SPkT #[.int .i64 3, .int .i64 1, .int .i64 1, .int .i64 2, .int .i64 1, .slice ka 0 kk, .string lk]
    rw [show (w4.alloc (.cells #[.int .i64 1, .string pa, .string pb, .int .i64 1, .slice qa 0 qk, .int .i64 0, .int .i64 0, .string ⟨#[]⟩, .string ⟨#[]⟩, .int .i64 0, .slice pa2 0 pk2, .int .i64 0] SlotsT)).heap.size = w4.heap.size + 1 by simp] at k2
    have PV := Lib.hid k2
    have RK := Lib.hid (layIntS.below (layIntS.read o3) hal)
    replace hb := hb.trans (hal.mono hb.size)
    clear hal k2 o1 o2 o3 KS AV R1 R2 c0 c1 c2 c3 c4 c5 c6 c7 c8 c9 c10 c11
    replace BV := Lib.hid (BV.out.next hb)
    replace R3 := Lib.hid (layIntS.below R3.out hb)
    replace R4 := Lib.hid (layIntS.below R4.out hb)
    replace BY := Lib.hid (BY.out.trans (hb.mono BY.out.size))
    clear hb
    go_upto_region 9 with fail
    generalize (w4.alloc (.cells #[.int .i64 1, .string pa, .string pb, .int .i64 1, .slice qa 0 qk, .int .i64 0, .int .i64 0, .string ⟨#[]⟩, .string ⟨#[]⟩, .int .i64 0, .slice pa2 0 pk2, .int .i64 0] SlotsT)).alloc (.cells #[.int .i64 3, .int .i64 1, .int .i64 1, .int .i64 2, .int .i64 1, .slice ka 0 kk, .string lk] SPkT) = w5 at *
    generalize w4.heap.size = gp at *
    go_wp2_with fail
    refine (drawPlaces_any a len cap w5 (HS.out.below BY.out)).mono ?_
    rintro e w6 ⟨gz, cz, zs, hzl, hz, rfl, hgl, hzc, hb⟩
    have hz0 := hz _ (List.getElem_mem (l := zs) (n := 0) (by omega))
    have z0 := hzc 0 (by omega)
    rw [List.getD_eq_getElem?_getD, List.getElem?_eq_getElem (by omega)] at z0
    simp only [Option.getD_some] at z0
    generalize (zs[0]'(by omega)) = zn at *
    obtain ⟨now, hnow⟩ : ∃ now : Int, Int.tmod zn 50 = now := ⟨_, rfl⟩
    have hnb : 0 ≤ now ∧ now ≤ 49 := by rw [← hnow, Int.tmod_eq_emod_of_nonneg hz0.1]; omega
    clear hz hzc hzl
    replace BV := Lib.hid (BV.out.next hb)
    replace PV := Lib.hid (PV.out.next hb)
    replace R3 := Lib.hid (layIntS.below R3.out hb)
    replace R4 := Lib.hid (layIntS.below R4.out hb)
    replace RK := Lib.hid (layIntS.below RK.out hb)
    replace BY := Lib.hid (BY.out.trans (hb.mono BY.out.size))
    clear hb
    go_upto_region 10 with fail
    clear z0 hgl hz0 hnow
    have hwn : IntKind.i64.wrap (now + 10) = now + 10 := by rw [IntKind.wrap_i64]; omega
    have hw9 : IntKind.i64.wrap (now + 10 - 1) = now + 9 := by rw [IntKind.wrap_i64]; omega
    have zn1 : (nextK pb).size = 32 := digP_size _
    have zn2 : (nextK pa).size = 32 := digP_size _
    have KT := Lib.hid (F.out.step 1 pb pa 0 _ [] 0 0 ⟨#[]⟩ ⟨#[]⟩ 0 _ [] 0 now (by omega) (by omega) (by decide) (by decide) (by simp) (by simp) nil_ints nil_ints w6 (LL.out _ BY.out) R3.out R4.out)
    generalize nextK pb = nb at *
    generalize nextK pa = nc at *
    have c0 : w6.cell? ⟨(ga + 1), 0, none⟩ = some (.int .i64 1) := BV.out.cell 0
    have c1 : w6.cell? ⟨(ga + 1), 1, none⟩ = some (.string pb) := BV.out.cell 1
    have c2 : w6.cell? ⟨(ga + 1), 2, none⟩ = some (.string pa) := BV.out.cell 2
    have c3 : w6.cell? ⟨(ga + 1), 3, none⟩ = some (.int .i64 0) := BV.out.cell 3
    have c4 : w6.cell? ⟨(ga + 1), 4, none⟩ = some (.slice na 0 nk) := BV.out.cell 4
    have c5 : w6.cell? ⟨(ga + 1), 5, none⟩ = some (.int .i64 0) := BV.out.cell 5
    have c6 : w6.cell? ⟨(ga + 1), 6, none⟩ = some (.int .i64 0) := BV.out.cell 6
    have c7 : w6.cell? ⟨(ga + 1), 7, none⟩ = some (.string ⟨#[]⟩) := BV.out.cell 7
    have c8 : w6.cell? ⟨(ga + 1), 8, none⟩ = some (.string ⟨#[]⟩) := BV.out.cell 8
    have c9 : w6.cell? ⟨(ga + 1), 9, none⟩ = some (.int .i64 0) := BV.out.cell 9
    have c10 : w6.cell? ⟨(ga + 1), 10, none⟩ = some (.slice ma 0 mk) := BV.out.cell 10
    have c11 : w6.cell? ⟨(ga + 1), 11, none⟩ = some (.int .i64 0) := BV.out.cell 11
    go_wp2_with fail
    refine KT.out.mono ?_
    intro e w7 he
    obtain ⟨v1_, v2_, f, g, rfl, o1, o2, hb⟩ := step_end za zb zn1 zn2 hnb.1 (by omega) he
    obtain ⟨ca, ck, rfl⟩ : ∃ a c, v1_ = .slice a 0 c := rows_form (layIntS.read o1)
    obtain ⟨da, dk, rfl⟩ : ∃ a c, v2_ = .slice a 0 c := rows_form (layIntS.read o2)
    have hal : Below w7.heap.size w7 (w7.alloc (.cells #[.int .i64 2, .string nb, .string nc, .int .i64 0, .slice ca 0 ck, .int .i64 0, .int .i64 1, .string pb, .string pa, .int .i64 0, .slice da 0 dk, .int .i64 (now + 10)] SlotsT)) := (Below.refl _ _).alloc (Nat.le_refl _) _
    have CV := Lib.hid (VarA.new w7 SlotsT #[.int .i64 2, .string nb, .string nc, .int .i64 0, .slice ca 0 ck, .int .i64 0, .int .i64 1, .string pb, .string pa, .int .i64 0, .slice da 0 dk, .int .i64 (now + 10)])
    have C1 := Lib.hid (layIntS.below (layIntS.read o1) hal)
    have C2 := Lib.hid (layIntS.below (layIntS.read o2) hal)
    replace hb := hb.trans (hal.mono hb.size)
    clear hal o1 o2 he KT BV R3 R4 c0 c1 c2 c3 c4 c5 c6 c7 c8 c9 c10 c11
    replace PV := Lib.hid (PV.out.next hb)
    replace RK := Lib.hid (layIntS.below RK.out hb)
    replace BY := Lib.hid (BY.out.trans (hb.mono BY.out.size))
    clear hb
    go_upto_region 11 with fail
    generalize w7.alloc (.cells #[.int .i64 2, .string nb, .string nc, .int .i64 0, .slice ca 0 ck, .int .i64 0, .int .i64 1, .string pb, .string pa, .int .i64 0, .slice da 0 dk, .int .i64 (now + 10)] SlotsT) = w8 at *
    generalize w7.heap.size = gc at *
    obtain ⟨s5, hs5⟩ := lame_open (now := now + 9) (u := now + 10) za zb zn2 zn1 (by omega) (by omega) hbz (by omega)
    have hlate := lame_late (pa := pa) (pb := pb) (na := nc) (nb := nb) (body := bd) (u := now + 10) (now := now + 10) (by omega) pa
    have hgone := lame_gone (na := nc) (nb := nb) (body := bd) (now := now) pa
    have zl : (lockP pa 1 bd).size ≤ 1000 := by rw [lockP_size]; omega
    rw [hlk] at hs5 hlate hgone zl
    have O1 := Lib.hid (fun X hX h1 h2 h3 => F.out.opens 2 nb nc 0 (.slice ca 0 ck) [] 0 1 pb pa 0 (.slice da 0 dk) [] (now + 10) 3 1 1 2 1 (.slice ka 0 kk) [] lk (now + 9) [] s5 bd true hs5 (by omega) (by omega) (by omega) (by omega) zl (by simp) (by simp) (by simp) nil_ints nil_ints nil_ints X hX h1 h2 h3)
    have O2 := Lib.hid (fun X hX h1 h2 h3 => F.out.opens 2 nb nc 0 (.slice ca 0 ck) [] 0 1 pb pa 0 (.slice da 0 dk) [] (now + 10) 3 1 1 2 1 (.slice ka 0 kk) [] lk (now + 10) [] [] ⟨#[]⟩ false hlate (by omega) (by omega) (by omega) (by omega) zl (by simp) (by simp) (by simp) nil_ints nil_ints nil_ints X hX h1 h2 h3)
    have O3 := Lib.hid (fun v u X hX h1 h2 h3 => F.out.opens 2 nb nc 0 v [] 0 0 ⟨#[]⟩ ⟨#[]⟩ 0 u [] 0 3 1 1 2 1 (.slice ka 0 kk) [] lk now [] [] ⟨#[]⟩ false hgone (by omega) (by omega) (by decide) (by decide) zl (by simp) (by simp) (by simp) nil_ints nil_ints nil_ints X hX h1 h2 h3)
    have T1 := Lib.hid (fun X hX h1 h2 => F.out.tidy 2 nb nc 0 (.slice ca 0 ck) [] 0 1 pb pa 0 (.slice da 0 dk) [] (now + 10) (now + 10) (by omega) (by omega) (by omega) (by omega) (by simp) (by simp) X hX h1 h2)
    clear hs5 hlate hgone zl hlk
    have c0 : w8.cell? ⟨gc, 0, none⟩ = some (.int .i64 2) := CV.out.cell 0
    have c1 : w8.cell? ⟨gc, 1, none⟩ = some (.string nb) := CV.out.cell 1
    have c2 : w8.cell? ⟨gc, 2, none⟩ = some (.string nc) := CV.out.cell 2
    have c3 : w8.cell? ⟨gc, 3, none⟩ = some (.int .i64 0) := CV.out.cell 3
    have c4 : w8.cell? ⟨gc, 4, none⟩ = some (.slice ca 0 ck) := CV.out.cell 4
    have c5 : w8.cell? ⟨gc, 5, none⟩ = some (.int .i64 0) := CV.out.cell 5
    have c6 : w8.cell? ⟨gc, 6, none⟩ = some (.int .i64 1) := CV.out.cell 6
    have c7 : w8.cell? ⟨gc, 7, none⟩ = some (.string pb) := CV.out.cell 7
    have c8 : w8.cell? ⟨gc, 8, none⟩ = some (.string pa) := CV.out.cell 8
    have c9 : w8.cell? ⟨gc, 9, none⟩ = some (.int .i64 0) := CV.out.cell 9
    have c10 : w8.cell? ⟨gc, 10, none⟩ = some (.slice da 0 dk) := CV.out.cell 10
    have c11 : w8.cell? ⟨gc, 11, none⟩ = some (.int .i64 (now + 10)) := CV.out.cell 11
    have d0 : w8.cell? ⟨(gp + 1), 0, none⟩ = some (.int .i64 3) := PV.out.cell 0
    have d1 : w8.cell? ⟨(gp + 1), 1, none⟩ = some (.int .i64 1) := PV.out.cell 1
    have d2 : w8.cell? ⟨(gp + 1), 2, none⟩ = some (.int .i64 1) := PV.out.cell 2
    have d3 : w8.cell? ⟨(gp + 1), 3, none⟩ = some (.int .i64 2) := PV.out.cell 3
    have d4 : w8.cell? ⟨(gp + 1), 4, none⟩ = some (.int .i64 1) := PV.out.cell 4
    have d5 : w8.cell? ⟨(gp + 1), 5, none⟩ = some (.slice ka 0 kk) := PV.out.cell 5
    have d6 : w8.cell? ⟨(gp + 1), 6, none⟩ = some (.string lk) := PV.out.cell 6
    go_wp2_with fail
    refine (O1.out w8 (LL.out _ BY.out) C1.out C2.out RK.out).mono ?_
    rintro e w9 ⟨v1_, v2_, f, g, rfl, -, o1, o2, hb⟩
    obtain ⟨e_1, e_2, rfl⟩ : ∃ a c, v1_ = .slice a 0 c := rows_form (layIntS.read o1)
    obtain ⟨e_3, e_4, rfl⟩ : ∃ a c, v2_ = .slice a s5.length c := rows_form (layIntS.read o2)
    have hal : Below w9.heap.size w9 (w9.alloc (.cells #[.int .i64 2, .string nb, .string nc, .int .i64 0, .slice e_1 0 e_2, .int .i64 0, .int .i64 1, .string pb, .string pa, .int .i64 0, .slice e_3 s5.length e_4, .int .i64 (now + 10)] SlotsT)) := (Below.refl _ _).alloc (Nat.le_refl _) _
    replace hb := hb.trans (hal.mono hb.size)
    clear hal o1 o2 c0 c1 c2 c3 c4 c5 c6 c7 c8 c9 c10 c11 d0 d1 d2 d3 d4 d5 d6
    replace CV := Lib.hid (CV.out.next hb)
    replace PV := Lib.hid (PV.out.next hb)
    replace C1 := Lib.hid (layIntS.below C1.out hb)
    replace C2 := Lib.hid (layIntS.below C2.out hb)
    replace RK := Lib.hid (layIntS.below RK.out hb)
    replace BY := Lib.hid (BY.out.trans (hb.mono BY.out.size))
    clear hb
    go_upto_region 12 with fail
    generalize w9.alloc (.cells #[.int .i64 2, .string nb, .string nc, .int .i64 0, .slice e_1 0 e_2, .int .i64 0, .int .i64 1, .string pb, .string pa, .int .i64 0, .slice e_3 s5.length e_4, .int .i64 (now + 10)] SlotsT) = w10 at *
    have c0 : w10.cell? ⟨gc, 0, none⟩ = some (.int .i64 2) := CV.out.cell 0
    have c1 : w10.cell? ⟨gc, 1, none⟩ = some (.string nb) := CV.out.cell 1
    have c2 : w10.cell? ⟨gc, 2, none⟩ = some (.string nc) := CV.out.cell 2
    have c3 : w10.cell? ⟨gc, 3, none⟩ = some (.int .i64 0) := CV.out.cell 3
    have c4 : w10.cell? ⟨gc, 4, none⟩ = some (.slice ca 0 ck) := CV.out.cell 4
    have c5 : w10.cell? ⟨gc, 5, none⟩ = some (.int .i64 0) := CV.out.cell 5
    have c6 : w10.cell? ⟨gc, 6, none⟩ = some (.int .i64 1) := CV.out.cell 6
    have c7 : w10.cell? ⟨gc, 7, none⟩ = some (.string pb) := CV.out.cell 7
    have c8 : w10.cell? ⟨gc, 8, none⟩ = some (.string pa) := CV.out.cell 8
    have c9 : w10.cell? ⟨gc, 9, none⟩ = some (.int .i64 0) := CV.out.cell 9
    have c10 : w10.cell? ⟨gc, 10, none⟩ = some (.slice da 0 dk) := CV.out.cell 10
    have c11 : w10.cell? ⟨gc, 11, none⟩ = some (.int .i64 (now + 10)) := CV.out.cell 11
    have d0 : w10.cell? ⟨(gp + 1), 0, none⟩ = some (.int .i64 3) := PV.out.cell 0
    have d1 : w10.cell? ⟨(gp + 1), 1, none⟩ = some (.int .i64 1) := PV.out.cell 1
    have d2 : w10.cell? ⟨(gp + 1), 2, none⟩ = some (.int .i64 1) := PV.out.cell 2
    have d3 : w10.cell? ⟨(gp + 1), 3, none⟩ = some (.int .i64 2) := PV.out.cell 3
    have d4 : w10.cell? ⟨(gp + 1), 4, none⟩ = some (.int .i64 1) := PV.out.cell 4
    have d5 : w10.cell? ⟨(gp + 1), 5, none⟩ = some (.slice ka 0 kk) := PV.out.cell 5
    have d6 : w10.cell? ⟨(gp + 1), 6, none⟩ = some (.string lk) := PV.out.cell 6
    go_wp2_with fail
    refine (O2.out w10 (LL.out _ BY.out) C1.out C2.out RK.out).mono ?_
    rintro e w11 ⟨v1_, v2_, f, g, rfl, -, o1, o2, hb⟩
    obtain ⟨f_1, f_2, rfl⟩ : ∃ a c, v1_ = .slice a 0 c := rows_form (layIntS.read o1)
    obtain ⟨f_3, f_4, rfl⟩ : ∃ a c, v2_ = .slice a 0 c := rows_form (layIntS.read o2)
    have hal : Below w11.heap.size w11 (w11.alloc (.cells #[.int .i64 2, .string nb, .string nc, .int .i64 0, .slice f_1 0 f_2, .int .i64 0, .int .i64 1, .string pb, .string pa, .int .i64 0, .slice f_3 0 f_4, .int .i64 (now + 10)] SlotsT)) := (Below.refl _ _).alloc (Nat.le_refl _) _
    replace hb := hb.trans (hal.mono hb.size)
    clear hal o1 o2 c0 c1 c2 c3 c4 c5 c6 c7 c8 c9 c10 c11 d0 d1 d2 d3 d4 d5 d6
    replace CV := Lib.hid (CV.out.next hb)
    replace PV := Lib.hid (PV.out.next hb)
    replace C1 := Lib.hid (layIntS.below C1.out hb)
    replace C2 := Lib.hid (layIntS.below C2.out hb)
    replace RK := Lib.hid (layIntS.below RK.out hb)
    replace BY := Lib.hid (BY.out.trans (hb.mono BY.out.size))
    clear hb
    go_upto_region 13 with fail
    generalize w11.alloc (.cells #[.int .i64 2, .string nb, .string nc, .int .i64 0, .slice f_1 0 f_2, .int .i64 0, .int .i64 1, .string pb, .string pa, .int .i64 0, .slice f_3 0 f_4, .int .i64 (now + 10)] SlotsT) = w12 at *
    have E0 : Hid (VarA gc SlotsT #[.int .i64 2, .string nb, .string nc, .int .i64 0, .slice ca 0 ck, .int .i64 0, .int .i64 1, .string pb, .string pa, .int .i64 0, .slice da 0 dk, .int .i64 (now + 10)] w12.drew ∧ VarA (gp + 1) SPkT #[.int .i64 3, .int .i64 1, .int .i64 1, .int .i64 2, .int .i64 1, .slice ka 0 kk, .string lk] w12.drew ∧ Below w12.heap.size w12 w12.drew) := Lib.hid ⟨CV.out.drew, PV.out.drew, (Below.refl _ _).drew⟩
    have hgc := CV.out.lt
    have hgp := PV.out.lt
    have qv : ∀ X Y, (Hid (VarA gc SlotsT #[.int .i64 2, .string nb, .string nc, .int .i64 0, .slice ca 0 ck, .int .i64 0, .int .i64 1, .string pb, .string pa, .int .i64 0, .slice da 0 dk, .int .i64 (now + 10)] X ∧ VarA (gp + 1) SPkT #[.int .i64 3, .int .i64 1, .int .i64 1, .int .i64 2, .int .i64 1, .slice ka 0 kk, .string lk] X ∧ Below w12.heap.size w12 X)) → Below X.heap.size X Y → (Hid (VarA gc SlotsT #[.int .i64 2, .string nb, .string nc, .int .i64 0, .slice ca 0 ck, .int .i64 0, .int .i64 1, .string pb, .string pa, .int .i64 0, .slice da 0 dk, .int .i64 (now + 10)] Y ∧ VarA (gp + 1) SPkT #[.int .i64 3, .int .i64 1, .int .i64 1, .int .i64 2, .int .i64 1, .slice ka 0 kk, .string lk] Y ∧ Below w12.heap.size w12 Y)) := fun X Y h hb => Lib.hid ⟨h.out.1.next hb, h.out.2.1.next hb, h.out.2.2.trans (hb.mono h.out.2.2.size)⟩
    go_wp2_with fail
    go_cut [22] (fun y wx => y = .bool false ∧ Hid (Below w12.heap.size w12 wx))
    case first =>
      refine wp_region_held_drew (S := fun X => Hid (VarA gc SlotsT #[.int .i64 2, .string nb, .string nc, .int .i64 0, .slice ca 0 ck, .int .i64 0, .int .i64 1, .string pb, .string pa, .int .i64 0, .slice da 0 dk, .int .i64 (now + 10)] X ∧ VarA (gp + 1) SPkT #[.int .i64 3, .int .i64 1, .int .i64 1, .int .i64 2, .int .i64 1, .slice ka 0 kk, .string lk] X ∧ Below w12.heap.size w12 X)) (by kernel_rfl) E0 (fun hHeld => ?_)
      clear E0
      generalize w12.drew = X0 at *
      refine wpAnyH_take (i := 0) (v := ?_) rfl (by kernel_rfl) (by kernel_rfl) (by kernel_rfl) (fun _ _ _ h => h) (Or.inl ⟨by kernel_rfl, ?_⟩) hHeld ?_
      rotate_left
      · intro X hX
        have yy0_ : X.cell? ⟨gc, 0, none⟩ = some (.int .i64 2) := hX.out.1.cell 0
        have yy1_ : X.cell? ⟨gc, 1, none⟩ = some (.string nb) := hX.out.1.cell 1
        have yy2_ : X.cell? ⟨gc, 2, none⟩ = some (.string nc) := hX.out.1.cell 2
        have yy3_ : X.cell? ⟨gc, 3, none⟩ = some (.int .i64 0) := hX.out.1.cell 3
        have yy4_ : X.cell? ⟨gc, 4, none⟩ = some (.slice ca 0 ck) := hX.out.1.cell 4
        have yy5_ : X.cell? ⟨gc, 5, none⟩ = some (.int .i64 0) := hX.out.1.cell 5
        have yy6_ : X.cell? ⟨gc, 6, none⟩ = some (.int .i64 1) := hX.out.1.cell 6
        have yy7_ : X.cell? ⟨gc, 7, none⟩ = some (.string pb) := hX.out.1.cell 7
        have yy8_ : X.cell? ⟨gc, 8, none⟩ = some (.string pa) := hX.out.1.cell 8
        have yy9_ : X.cell? ⟨gc, 9, none⟩ = some (.int .i64 0) := hX.out.1.cell 9
        have yy10_ : X.cell? ⟨gc, 10, none⟩ = some (.slice da 0 dk) := hX.out.1.cell 10
        have yy11_ : X.cell? ⟨gc, 11, none⟩ = some (.int .i64 (now + 10)) := hX.out.1.cell 11
        first | (go_simp; done) | (go_simp; with_reducible rfl)
      try simp only [Act.put, List.getElem_toArray, List.getElem_cons_zero, List.setIfInBounds_toArray, List.set_cons_zero, List.set_cons_succ]
      refine wpAnyH_take (i := 1) (v := ?_) rfl (by kernel_rfl) (by kernel_rfl) (by kernel_rfl) (fun _ _ _ h => h) (Or.inl ⟨by kernel_rfl, ?_⟩) hHeld ?_
      rotate_left
      · intro X hX
        first | (go_simp; done) | (go_simp; with_reducible rfl)
      try simp only [Act.put, List.getElem_toArray, List.getElem_cons_succ, List.getElem_cons_zero, List.setIfInBounds_toArray, List.set_cons_zero, List.set_cons_succ]
      refine wpAnyH_take (i := 2) (v := ?_) rfl (by kernel_rfl) (by kernel_rfl) (by kernel_rfl) (fun _ _ _ h => h) (Or.inl ⟨by kernel_rfl, ?_⟩) hHeld ?_
      rotate_left
      · intro X hX
        first | (go_simp; done) | (go_simp; with_reducible rfl)
      try simp only [Act.put, List.getElem_toArray, List.getElem_cons_succ, List.getElem_cons_zero, List.setIfInBounds_toArray, List.set_cons_zero, List.set_cons_succ]
      refine wpAnyH_take (i := 4) (v := ?_) rfl (by kernel_rfl) (by kernel_rfl) (by kernel_rfl) (fun _ _ _ h => h) (Or.inl ⟨by kernel_rfl, ?_⟩) hHeld ?_
      rotate_left
      · intro X hX
        have yy0_ : X.cell? ⟨gp + 1, 0, none⟩ = some (.int .i64 3) := hX.out.2.1.cell 0
        have yy1_ : X.cell? ⟨gp + 1, 1, none⟩ = some (.int .i64 1) := hX.out.2.1.cell 1
        have yy2_ : X.cell? ⟨gp + 1, 2, none⟩ = some (.int .i64 1) := hX.out.2.1.cell 2
        have yy3_ : X.cell? ⟨gp + 1, 3, none⟩ = some (.int .i64 2) := hX.out.2.1.cell 3
        have yy4_ : X.cell? ⟨gp + 1, 4, none⟩ = some (.int .i64 1) := hX.out.2.1.cell 4
        have yy5_ : X.cell? ⟨gp + 1, 5, none⟩ = some (.slice ka 0 kk) := hX.out.2.1.cell 5
        have yy6_ : X.cell? ⟨gp + 1, 6, none⟩ = some (.string lk) := hX.out.2.1.cell 6
        first | (go_simp; done) | (go_simp; with_reducible rfl)
      try simp only [Act.put, List.getElem_toArray, List.getElem_cons_succ, List.getElem_cons_zero, List.setIfInBounds_toArray, List.set_cons_zero, List.set_cons_succ]
      refine wpAnyH_take (i := 5) (v := ?_) rfl (by kernel_rfl) (by kernel_rfl) (by kernel_rfl) (fun _ _ _ h => h) (Or.inl ⟨by kernel_rfl, ?_⟩) hHeld ?_
      rotate_left
      · intro X hX
        first | (go_simp; done) | (go_simp; with_reducible rfl)
      try simp only [Act.put, List.getElem_toArray, List.getElem_cons_succ, List.getElem_cons_zero, List.setIfInBounds_toArray, List.set_cons_zero, List.set_cons_succ]
      refine wpAnyH_ready (rs := [3, 11]) (by kernel_rfl) (by simp) ?_
      refine AllReadyH.cons rfl (fun K hK => ?_) (AllReadyH.cons rfl (fun K hK => ?_) AllReadyH.nil)
      · go_simp
        go_wp2_with (go_at_call 11; refine (T1.out X0 (LL.out _ (BY.out.trans (hHeld.out.2.2.mono BY.out.size))) (layIntS.below C1.out hHeld.out.2.2) (layIntS.below C2.out hHeld.out.2.2)).mono ?_; intro e X1 he; obtain ⟨v1_, v2_, f, g, rfl, -, o1, o2, hb0⟩ : SlotsMade 2 nb nc 0 [] 0 0 ⟨#[]⟩ ⟨#[]⟩ 0 [] 0 X0 e X1 := (by rcases he with ⟨_, he⟩ | ⟨h9, _⟩; exact he; exact absurd (Int.le_refl _) h9); obtain ⟨ta, tk, rfl⟩ := (show ∃ a c, v1_ = .slice a 0 c from rows_form (layIntS.read o1)); obtain ⟨la, lc, rfl⟩ := (show ∃ a c, v2_ = .slice a 0 c from rows_form (layIntS.read o2)); have hS := qv _ _ hHeld hb0; have hb := Lib.hid hb0; have T2 := Lib.hid (layIntS.read o1); have T3 := Lib.hid (layIntS.read o2); clear hb0 o1 o2 he)
        refine hK.out _ _ hS (fun hHeld => ?_)
        clear hK K hS
        clear hb
        try simp only [Act.put, List.getElem_toArray, List.getElem_cons_succ, List.getElem_cons_zero, List.setIfInBounds_toArray, List.set_cons_zero, List.set_cons_succ]
        refine wpAnyH_ready (rs := [6, 11]) (by kernel_rfl) (by simp) ?_
        refine AllReadyH.cons rfl (fun K hK => ?_) (AllReadyH.cons rfl (fun K hK => ?_) AllReadyH.nil)
        · go_simp
          go_wp2_with (go_at_call 10; refine (O3.out _ _ X1 (LL.out _ (BY.out.trans (hHeld.out.2.2.mono BY.out.size))) T2.out T3.out (layIntS.below RK.out hHeld.out.2.2)).mono ?_; rintro e X2 ⟨v1_, v2_, f, g, rfl, -, o1, o2, hb0⟩; obtain ⟨xa, xk, rfl⟩ := (show ∃ a c, v1_ = .slice a 0 c from rows_form (layIntS.read o1)); obtain ⟨ya, yk, rfl⟩ := (show ∃ a c, v2_ = .slice a 0 c from rows_form (layIntS.read o2)); have hS := qv _ _ hHeld hb0; have hb := Lib.hid hb0; clear hb0 o1 o2)
          refine hK.out _ _ hS (fun hHeld => ?_)
          clear hK K hS T2 T3
          clear hb
          try simp only [Act.put, List.getElem_toArray, List.getElem_cons_succ, List.getElem_cons_zero, List.setIfInBounds_toArray, List.set_cons_zero, List.set_cons_succ]
          refine wpAnyH_take (i := 7) (v := ?_) rfl (by kernel_rfl) (by kernel_rfl) (by kernel_rfl) (fun _ _ _ h => h) (Or.inl ⟨by kernel_rfl, ?_⟩) hHeld ?_
          rotate_left
          · intro X hX
            first | (go_simp; done) | (go_simp; with_reducible rfl)
          try simp only [Act.put, List.getElem_toArray, List.getElem_cons_succ, List.getElem_cons_zero, List.setIfInBounds_toArray, List.set_cons_zero, List.set_cons_succ]
          refine wpAnyH_take (i := 8) (v := ?_) rfl (by kernel_rfl) (by kernel_rfl) (by kernel_rfl) (fun _ _ _ h => h) (Or.inl ⟨by kernel_rfl, ?_⟩) hHeld ?_
          rotate_left
          · intro X hX
            first | (go_simp; done) | (go_simp; with_reducible rfl)
          try simp only [Act.put, List.getElem_toArray, List.getElem_cons_succ, List.getElem_cons_zero, List.setIfInBounds_toArray, List.set_cons_zero, List.set_cons_succ]
          refine wpAnyH_take (i := 9) (v := ?_) rfl (by kernel_rfl) (by kernel_rfl) (by kernel_rfl) (fun _ _ _ h => h) (Or.inl ⟨by kernel_rfl, ?_⟩) hHeld ?_
          rotate_left
          · intro X hX
            first | (go_simp; done) | (go_simp; with_reducible rfl)
          try simp only [Act.put, List.getElem_toArray, List.getElem_cons_succ, List.getElem_cons_zero, List.setIfInBounds_toArray, List.set_cons_zero, List.set_cons_succ]
          refine wpAnyH_take (i := 10) (v := ?_) rfl (by kernel_rfl) (by kernel_rfl) (by kernel_rfl) (fun _ _ _ h => h) (Or.inl ⟨by kernel_rfl, ?_⟩) hHeld ?_
          rotate_left
          · intro X hX
            first | (go_simp; done) | (go_simp; with_reducible rfl)
          try simp only [Act.put, List.getElem_toArray, List.getElem_cons_succ, List.getElem_cons_zero, List.setIfInBounds_toArray, List.set_cons_zero, List.set_cons_succ]
          refine wpAnyH_ready (rs := [11]) (by kernel_rfl) (by simp) ?_
          refine AllReadyH.cons rfl (fun K hK => ?_) AllReadyH.nil
          go_simp
          have hal : Below X2.heap.size X2 (X2.alloc (.cells #[.int .i64 0, .string ⟨#[]⟩, .string ⟨#[]⟩, .int .i64 0, .slice none 0 0, .int .i64 0, .int .i64 0, .string ⟨#[]⟩, .string ⟨#[]⟩, .int .i64 0, .slice none 0 0, .int .i64 0] SlotsT)) := (Below.refl _ _).alloc (Nat.le_refl _) _
          have hlo : w12.heap.size ≤ X2.heap.size := hHeld.out.2.2.size
          refine hK.out _ _ (qv _ _ hHeld hal) (fun hHeld => ?_)
          clear hK K
          have rr := Lib.hid (VarA.new X2 SlotsT #[.int .i64 0, .string ⟨#[]⟩, .string ⟨#[]⟩, .int .i64 0, .slice none 0 0, .int .i64 0, .int .i64 0, .string ⟨#[]⟩, .string ⟨#[]⟩, .int .i64 0, .slice none 0 0, .int .i64 0])
          clear hal
          generalize X2.alloc (.cells #[.int .i64 0, .string ⟨#[]⟩, .string ⟨#[]⟩, .int .i64 0, .slice none 0 0, .int .i64 0, .int .i64 0, .string ⟨#[]⟩, .string ⟨#[]⟩, .int .i64 0, .slice none 0 0, .int .i64 0] SlotsT) = X3 at *
          generalize X2.heap.size = G at *
          try simp only [Act.put, List.getElem_toArray, List.getElem_cons_succ, List.getElem_cons_zero, List.setIfInBounds_toArray, List.set_cons_zero, List.set_cons_succ]
          refine wpAnyH_ready (rs := [12]) (by kernel_rfl) (by simp) ?_
          refine AllReadyH.cons rfl (fun K hK => ?_) AllReadyH.nil
          have r0_ := rr.out.cell 0
          have r1_ := rr.out.cell 1
          have r2_ := rr.out.cell 2
          have r3_ := rr.out.cell 3
          have r4_ := rr.out.cell 4
          have r5_ := rr.out.cell 5
          have r6_ := rr.out.cell 6
          have r7_ := rr.out.cell 7
          have r8_ := rr.out.cell 8
          have r9_ := rr.out.cell 9
          have r10_ := rr.out.cell 10
          have r11_ := rr.out.cell 11
          have g0_ := rr.out.free 0
          have g1_ := rr.out.free 1
          have g2_ := rr.out.free 2
          have g3_ := rr.out.free 3
          have g4_ := rr.out.free 4
          have g5_ := rr.out.free 5
          have g6_ := rr.out.free 6
          have g7_ := rr.out.free 7
          have g8_ := rr.out.free 8
          have g9_ := rr.out.free 9
          have g10_ := rr.out.free 10
          have g11_ := rr.out.free 11
          go_simp
          have ho : Only G X3 ((((((((((((X3.setCell ⟨G, 0, none⟩ (.int .i64 2)).setCell ⟨G, 1, none⟩ (.string nb)).setCell ⟨G, 2, none⟩ (.string nc)).setCell ⟨G, 3, none⟩ (.int .i64 0)).setCell ⟨G, 4, none⟩ (.slice xa 0 xk)).setCell ⟨G, 5, none⟩ (.int .i64 0)).setCell ⟨G, 6, none⟩ (.int .i64 0)).setCell ⟨G, 7, none⟩ (.string ⟨#[]⟩)).setCell ⟨G, 8, none⟩ (.string ⟨#[]⟩)).setCell ⟨G, 9, none⟩ (.int .i64 0)).setCell ⟨G, 10, none⟩ (.slice ya 0 yk)).setCell ⟨G, 11, none⟩ (.int .i64 0)) := (putMain_only X3 G _ _ _ _ _ _).trans (putLame_only _ G _ _ _ _ _ _)
          have hb2 : Below w12.heap.size w12 ((((((((((((X3.setCell ⟨G, 0, none⟩ (.int .i64 2)).setCell ⟨G, 1, none⟩ (.string nb)).setCell ⟨G, 2, none⟩ (.string nc)).setCell ⟨G, 3, none⟩ (.int .i64 0)).setCell ⟨G, 4, none⟩ (.slice xa 0 xk)).setCell ⟨G, 5, none⟩ (.int .i64 0)).setCell ⟨G, 6, none⟩ (.int .i64 0)).setCell ⟨G, 7, none⟩ (.string ⟨#[]⟩)).setCell ⟨G, 8, none⟩ (.string ⟨#[]⟩)).setCell ⟨G, 9, none⟩ (.int .i64 0)).setCell ⟨G, 10, none⟩ (.slice ya 0 yk)).setCell ⟨G, 11, none⟩ (.int .i64 0)) := putBoth_below hHeld.out.2.2 hlo _ _ _ _ _ _ _ _ _ _ _ _
          refine hK.out _ _ (Lib.hid ⟨hHeld.out.1.only ho (by omega), hHeld.out.2.1.only ho (by omega), hb2⟩) (fun hHeld => ?_)
          clear hK K ho hb2 rr r0_ g0_ r1_ g1_ r2_ g2_ r3_ g3_ r4_ g4_ r5_ g5_ r6_ g6_ r7_ g7_ r8_ g8_ r9_ g9_ r10_ g10_ r11_ g11_
          generalize ((((((((((((X3.setCell ⟨G, 0, none⟩ (.int .i64 2)).setCell ⟨G, 1, none⟩ (.string nb)).setCell ⟨G, 2, none⟩ (.string nc)).setCell ⟨G, 3, none⟩ (.int .i64 0)).setCell ⟨G, 4, none⟩ (.slice xa 0 xk)).setCell ⟨G, 5, none⟩ (.int .i64 0)).setCell ⟨G, 6, none⟩ (.int .i64 0)).setCell ⟨G, 7, none⟩ (.string ⟨#[]⟩)).setCell ⟨G, 8, none⟩ (.string ⟨#[]⟩)).setCell ⟨G, 9, none⟩ (.int .i64 0)).setCell ⟨G, 10, none⟩ (.slice ya 0 yk)).setCell ⟨G, 11, none⟩ (.int .i64 0)) = X4 at *
          try simp only [Act.put, List.getElem_toArray, List.getElem_cons_succ, List.getElem_cons_zero, List.setIfInBounds_toArray, List.set_cons_zero, List.set_cons_succ]
          refine wpAnyH_take (i := 13) (v := ?_) rfl (by kernel_rfl) (by kernel_rfl) (by kernel_rfl) (fun _ _ _ h => h) (Or.inl ⟨by kernel_rfl, ?_⟩) hHeld ?_
          rotate_left
          · intro X hX
            first | (go_simp; done) | (go_simp; with_reducible rfl)
          try simp only [Act.put, List.getElem_toArray, List.getElem_cons_succ, List.getElem_cons_zero, List.setIfInBounds_toArray, List.set_cons_zero, List.set_cons_succ]
          refine wpAnyH_take (i := 14) (v := ?_) rfl (by kernel_rfl) (by kernel_rfl) (by kernel_rfl) (fun _ _ _ h => h) (Or.inl ⟨by kernel_rfl, ?_⟩) hHeld ?_
          rotate_left
          · intro X hX
            first | (go_simp; done) | (go_simp; with_reducible rfl)
          try simp only [Act.put, List.getElem_toArray, List.getElem_cons_succ, List.getElem_cons_zero, List.setIfInBounds_toArray, List.set_cons_zero, List.set_cons_succ]
          refine wpAnyH_done (by kernel_rfl) ?_ _
          have hz := hHeld.out.2.2
          clear hHeld
          go_wp2_with fail
          go_meet
          exact ⟨rfl, Lib.hid hz⟩
        · go_simp
          have hal : Below X1.heap.size X1 (X1.alloc (.cells #[.int .i64 0, .string ⟨#[]⟩, .string ⟨#[]⟩, .int .i64 0, .slice none 0 0, .int .i64 0, .int .i64 0, .string ⟨#[]⟩, .string ⟨#[]⟩, .int .i64 0, .slice none 0 0, .int .i64 0] SlotsT)) := (Below.refl _ _).alloc (Nat.le_refl _) _
          have hlo : w12.heap.size ≤ X1.heap.size := hHeld.out.2.2.size
          refine hK.out _ _ (qv _ _ hHeld hal) (fun hHeld => ?_)
          clear hK K
          have rr := Lib.hid (VarA.new X1 SlotsT #[.int .i64 0, .string ⟨#[]⟩, .string ⟨#[]⟩, .int .i64 0, .slice none 0 0, .int .i64 0, .int .i64 0, .string ⟨#[]⟩, .string ⟨#[]⟩, .int .i64 0, .slice none 0 0, .int .i64 0])
          replace T2 := Lib.hid (layIntS.below T2.out hal)
          replace T3 := Lib.hid (layIntS.below T3.out hal)
          clear hal
          generalize X1.alloc (.cells #[.int .i64 0, .string ⟨#[]⟩, .string ⟨#[]⟩, .int .i64 0, .slice none 0 0, .int .i64 0, .int .i64 0, .string ⟨#[]⟩, .string ⟨#[]⟩, .int .i64 0, .slice none 0 0, .int .i64 0] SlotsT) = X2 at *
          generalize X1.heap.size = G at *
          try simp only [Act.put, List.getElem_toArray, List.getElem_cons_succ, List.getElem_cons_zero, List.setIfInBounds_toArray, List.set_cons_zero, List.set_cons_succ]
          refine wpAnyH_ready (rs := [6]) (by kernel_rfl) (by simp) ?_
          refine AllReadyH.cons rfl (fun K hK => ?_) AllReadyH.nil
          go_simp
          go_wp2_with (go_at_call 10; refine (O3.out _ _ X2 (LL.out _ (BY.out.trans (hHeld.out.2.2.mono BY.out.size))) T2.out T3.out (layIntS.below RK.out hHeld.out.2.2)).mono ?_; rintro e X3 ⟨v1_, v2_, f, g, rfl, -, o1, o2, hb0⟩; obtain ⟨xa, xk, rfl⟩ := (show ∃ a c, v1_ = .slice a 0 c from rows_form (layIntS.read o1)); obtain ⟨ya, yk, rfl⟩ := (show ∃ a c, v2_ = .slice a 0 c from rows_form (layIntS.read o2)); have hS := qv _ _ hHeld hb0; have hb := Lib.hid hb0; clear hb0 o1 o2)
          refine hK.out _ _ hS (fun hHeld => ?_)
          clear hK K hS T2 T3
          replace rr := Lib.hid (rr.out.next hb.out)
          clear hb
          try simp only [Act.put, List.getElem_toArray, List.getElem_cons_succ, List.getElem_cons_zero, List.setIfInBounds_toArray, List.set_cons_zero, List.set_cons_succ]
          refine wpAnyH_take (i := 7) (v := ?_) rfl (by kernel_rfl) (by kernel_rfl) (by kernel_rfl) (fun _ _ _ h => h) (Or.inl ⟨by kernel_rfl, ?_⟩) hHeld ?_
          rotate_left
          · intro X hX
            first | (go_simp; done) | (go_simp; with_reducible rfl)
          try simp only [Act.put, List.getElem_toArray, List.getElem_cons_succ, List.getElem_cons_zero, List.setIfInBounds_toArray, List.set_cons_zero, List.set_cons_succ]
          refine wpAnyH_take (i := 8) (v := ?_) rfl (by kernel_rfl) (by kernel_rfl) (by kernel_rfl) (fun _ _ _ h => h) (Or.inl ⟨by kernel_rfl, ?_⟩) hHeld ?_
          rotate_left
          · intro X hX
            first | (go_simp; done) | (go_simp; with_reducible rfl)
          try simp only [Act.put, List.getElem_toArray, List.getElem_cons_succ, List.getElem_cons_zero, List.setIfInBounds_toArray, List.set_cons_zero, List.set_cons_succ]
          refine wpAnyH_take (i := 9) (v := ?_) rfl (by kernel_rfl) (by kernel_rfl) (by kernel_rfl) (fun _ _ _ h => h) (Or.inl ⟨by kernel_rfl, ?_⟩) hHeld ?_
          rotate_left
          · intro X hX
            first | (go_simp; done) | (go_simp; with_reducible rfl)
          try simp only [Act.put, List.getElem_toArray, List.getElem_cons_succ, List.getElem_cons_zero, List.setIfInBounds_toArray, List.set_cons_zero, List.set_cons_succ]
          refine wpAnyH_take (i := 10) (v := ?_) rfl (by kernel_rfl) (by kernel_rfl) (by kernel_rfl) (fun _ _ _ h => h) (Or.inl ⟨by kernel_rfl, ?_⟩) hHeld ?_
          rotate_left
          · intro X hX
            first | (go_simp; done) | (go_simp; with_reducible rfl)
          try simp only [Act.put, List.getElem_toArray, List.getElem_cons_succ, List.getElem_cons_zero, List.setIfInBounds_toArray, List.set_cons_zero, List.set_cons_succ]
          refine wpAnyH_ready (rs := [12]) (by kernel_rfl) (by simp) ?_
          refine AllReadyH.cons rfl (fun K hK => ?_) AllReadyH.nil
          have r0_ := rr.out.cell 0
          have r1_ := rr.out.cell 1
          have r2_ := rr.out.cell 2
          have r3_ := rr.out.cell 3
          have r4_ := rr.out.cell 4
          have r5_ := rr.out.cell 5
          have r6_ := rr.out.cell 6
          have r7_ := rr.out.cell 7
          have r8_ := rr.out.cell 8
          have r9_ := rr.out.cell 9
          have r10_ := rr.out.cell 10
          have r11_ := rr.out.cell 11
          have g0_ := rr.out.free 0
          have g1_ := rr.out.free 1
          have g2_ := rr.out.free 2
          have g3_ := rr.out.free 3
          have g4_ := rr.out.free 4
          have g5_ := rr.out.free 5
          have g6_ := rr.out.free 6
          have g7_ := rr.out.free 7
          have g8_ := rr.out.free 8
          have g9_ := rr.out.free 9
          have g10_ := rr.out.free 10
          have g11_ := rr.out.free 11
          go_simp
          have ho : Only G X3 ((((((((((((X3.setCell ⟨G, 0, none⟩ (.int .i64 2)).setCell ⟨G, 1, none⟩ (.string nb)).setCell ⟨G, 2, none⟩ (.string nc)).setCell ⟨G, 3, none⟩ (.int .i64 0)).setCell ⟨G, 4, none⟩ (.slice xa 0 xk)).setCell ⟨G, 5, none⟩ (.int .i64 0)).setCell ⟨G, 6, none⟩ (.int .i64 0)).setCell ⟨G, 7, none⟩ (.string ⟨#[]⟩)).setCell ⟨G, 8, none⟩ (.string ⟨#[]⟩)).setCell ⟨G, 9, none⟩ (.int .i64 0)).setCell ⟨G, 10, none⟩ (.slice ya 0 yk)).setCell ⟨G, 11, none⟩ (.int .i64 0)) := (putMain_only X3 G _ _ _ _ _ _).trans (putLame_only _ G _ _ _ _ _ _)
          have hb2 : Below w12.heap.size w12 ((((((((((((X3.setCell ⟨G, 0, none⟩ (.int .i64 2)).setCell ⟨G, 1, none⟩ (.string nb)).setCell ⟨G, 2, none⟩ (.string nc)).setCell ⟨G, 3, none⟩ (.int .i64 0)).setCell ⟨G, 4, none⟩ (.slice xa 0 xk)).setCell ⟨G, 5, none⟩ (.int .i64 0)).setCell ⟨G, 6, none⟩ (.int .i64 0)).setCell ⟨G, 7, none⟩ (.string ⟨#[]⟩)).setCell ⟨G, 8, none⟩ (.string ⟨#[]⟩)).setCell ⟨G, 9, none⟩ (.int .i64 0)).setCell ⟨G, 10, none⟩ (.slice ya 0 yk)).setCell ⟨G, 11, none⟩ (.int .i64 0)) := putBoth_below hHeld.out.2.2 hlo _ _ _ _ _ _ _ _ _ _ _ _
          refine hK.out _ _ (Lib.hid ⟨hHeld.out.1.only ho (by omega), hHeld.out.2.1.only ho (by omega), hb2⟩) (fun hHeld => ?_)
          clear hK K ho hb2 rr r0_ g0_ r1_ g1_ r2_ g2_ r3_ g3_ r4_ g4_ r5_ g5_ r6_ g6_ r7_ g7_ r8_ g8_ r9_ g9_ r10_ g10_ r11_ g11_
          generalize ((((((((((((X3.setCell ⟨G, 0, none⟩ (.int .i64 2)).setCell ⟨G, 1, none⟩ (.string nb)).setCell ⟨G, 2, none⟩ (.string nc)).setCell ⟨G, 3, none⟩ (.int .i64 0)).setCell ⟨G, 4, none⟩ (.slice xa 0 xk)).setCell ⟨G, 5, none⟩ (.int .i64 0)).setCell ⟨G, 6, none⟩ (.int .i64 0)).setCell ⟨G, 7, none⟩ (.string ⟨#[]⟩)).setCell ⟨G, 8, none⟩ (.string ⟨#[]⟩)).setCell ⟨G, 9, none⟩ (.int .i64 0)).setCell ⟨G, 10, none⟩ (.slice ya 0 yk)).setCell ⟨G, 11, none⟩ (.int .i64 0)) = X4 at *
          try simp only [Act.put, List.getElem_toArray, List.getElem_cons_succ, List.getElem_cons_zero, List.setIfInBounds_toArray, List.set_cons_zero, List.set_cons_succ]
          refine wpAnyH_take (i := 13) (v := ?_) rfl (by kernel_rfl) (by kernel_rfl) (by kernel_rfl) (fun _ _ _ h => h) (Or.inl ⟨by kernel_rfl, ?_⟩) hHeld ?_
          rotate_left
          · intro X hX
            first | (go_simp; done) | (go_simp; with_reducible rfl)
          try simp only [Act.put, List.getElem_toArray, List.getElem_cons_succ, List.getElem_cons_zero, List.setIfInBounds_toArray, List.set_cons_zero, List.set_cons_succ]
          refine wpAnyH_take (i := 14) (v := ?_) rfl (by kernel_rfl) (by kernel_rfl) (by kernel_rfl) (fun _ _ _ h => h) (Or.inl ⟨by kernel_rfl, ?_⟩) hHeld ?_
          rotate_left
          · intro X hX
            first | (go_simp; done) | (go_simp; with_reducible rfl)
          try simp only [Act.put, List.getElem_toArray, List.getElem_cons_succ, List.getElem_cons_zero, List.setIfInBounds_toArray, List.set_cons_zero, List.set_cons_succ]
          refine wpAnyH_done (by kernel_rfl) ?_ _
          have hz := hHeld.out.2.2
          clear hHeld
          go_wp2_with fail
          go_meet
          exact ⟨rfl, Lib.hid hz⟩
      · go_simp
        have hal : Below X0.heap.size X0 (X0.alloc (.cells #[.int .i64 0, .string ⟨#[]⟩, .string ⟨#[]⟩, .int .i64 0, .slice none 0 0, .int .i64 0, .int .i64 0, .string ⟨#[]⟩, .string ⟨#[]⟩, .int .i64 0, .slice none 0 0, .int .i64 0] SlotsT)) := (Below.refl _ _).alloc (Nat.le_refl _) _
        have hlo : w12.heap.size ≤ X0.heap.size := hHeld.out.2.2.size
        refine hK.out _ _ (qv _ _ hHeld hal) (fun hHeld => ?_)
        clear hK K
        have rr := Lib.hid (VarA.new X0 SlotsT #[.int .i64 0, .string ⟨#[]⟩, .string ⟨#[]⟩, .int .i64 0, .slice none 0 0, .int .i64 0, .int .i64 0, .string ⟨#[]⟩, .string ⟨#[]⟩, .int .i64 0, .slice none 0 0, .int .i64 0])
        clear hal
        generalize X0.alloc (.cells #[.int .i64 0, .string ⟨#[]⟩, .string ⟨#[]⟩, .int .i64 0, .slice none 0 0, .int .i64 0, .int .i64 0, .string ⟨#[]⟩, .string ⟨#[]⟩, .int .i64 0, .slice none 0 0, .int .i64 0] SlotsT) = X1 at *
        generalize X0.heap.size = G at *
        try simp only [Act.put, List.getElem_toArray, List.getElem_cons_succ, List.getElem_cons_zero, List.setIfInBounds_toArray, List.set_cons_zero, List.set_cons_succ]
        refine wpAnyH_ready (rs := [3]) (by kernel_rfl) (by simp) ?_
        refine AllReadyH.cons rfl (fun K hK => ?_) AllReadyH.nil
        go_simp
        go_wp2_with (go_at_call 11; refine (T1.out X1 (LL.out _ (BY.out.trans (hHeld.out.2.2.mono BY.out.size))) (layIntS.below C1.out hHeld.out.2.2) (layIntS.below C2.out hHeld.out.2.2)).mono ?_; intro e X2 he; obtain ⟨v1_, v2_, f, g, rfl, -, o1, o2, hb0⟩ : SlotsMade 2 nb nc 0 [] 0 0 ⟨#[]⟩ ⟨#[]⟩ 0 [] 0 X1 e X2 := (by rcases he with ⟨_, he⟩ | ⟨h9, _⟩; exact he; exact absurd (Int.le_refl _) h9); obtain ⟨ta, tk, rfl⟩ := (show ∃ a c, v1_ = .slice a 0 c from rows_form (layIntS.read o1)); obtain ⟨la, lc, rfl⟩ := (show ∃ a c, v2_ = .slice a 0 c from rows_form (layIntS.read o2)); have hS := qv _ _ hHeld hb0; have hb := Lib.hid hb0; have T2 := Lib.hid (layIntS.read o1); have T3 := Lib.hid (layIntS.read o2); clear hb0 o1 o2 he)
        refine hK.out _ _ hS (fun hHeld => ?_)
        clear hK K hS
        replace rr := Lib.hid (rr.out.next hb.out)
        clear hb
        try simp only [Act.put, List.getElem_toArray, List.getElem_cons_succ, List.getElem_cons_zero, List.setIfInBounds_toArray, List.set_cons_zero, List.set_cons_succ]
        refine wpAnyH_ready (rs := [6]) (by kernel_rfl) (by simp) ?_
        refine AllReadyH.cons rfl (fun K hK => ?_) AllReadyH.nil
        go_simp
        go_wp2_with (go_at_call 10; refine (O3.out _ _ X2 (LL.out _ (BY.out.trans (hHeld.out.2.2.mono BY.out.size))) T2.out T3.out (layIntS.below RK.out hHeld.out.2.2)).mono ?_; rintro e X3 ⟨v1_, v2_, f, g, rfl, -, o1, o2, hb0⟩; obtain ⟨xa, xk, rfl⟩ := (show ∃ a c, v1_ = .slice a 0 c from rows_form (layIntS.read o1)); obtain ⟨ya, yk, rfl⟩ := (show ∃ a c, v2_ = .slice a 0 c from rows_form (layIntS.read o2)); have hS := qv _ _ hHeld hb0; have hb := Lib.hid hb0; clear hb0 o1 o2)
        refine hK.out _ _ hS (fun hHeld => ?_)
        clear hK K hS T2 T3
        replace rr := Lib.hid (rr.out.next hb.out)
        clear hb
        try simp only [Act.put, List.getElem_toArray, List.getElem_cons_succ, List.getElem_cons_zero, List.setIfInBounds_toArray, List.set_cons_zero, List.set_cons_succ]
        refine wpAnyH_take (i := 7) (v := ?_) rfl (by kernel_rfl) (by kernel_rfl) (by kernel_rfl) (fun _ _ _ h => h) (Or.inl ⟨by kernel_rfl, ?_⟩) hHeld ?_
        rotate_left
        · intro X hX
          first | (go_simp; done) | (go_simp; with_reducible rfl)
        try simp only [Act.put, List.getElem_toArray, List.getElem_cons_succ, List.getElem_cons_zero, List.setIfInBounds_toArray, List.set_cons_zero, List.set_cons_succ]
        refine wpAnyH_take (i := 8) (v := ?_) rfl (by kernel_rfl) (by kernel_rfl) (by kernel_rfl) (fun _ _ _ h => h) (Or.inl ⟨by kernel_rfl, ?_⟩) hHeld ?_
        rotate_left
        · intro X hX
          first | (go_simp; done) | (go_simp; with_reducible rfl)
        try simp only [Act.put, List.getElem_toArray, List.getElem_cons_succ, List.getElem_cons_zero, List.setIfInBounds_toArray, List.set_cons_zero, List.set_cons_succ]
        refine wpAnyH_take (i := 9) (v := ?_) rfl (by kernel_rfl) (by kernel_rfl) (by kernel_rfl) (fun _ _ _ h => h) (Or.inl ⟨by kernel_rfl, ?_⟩) hHeld ?_
        rotate_left
        · intro X hX
          first | (go_simp; done) | (go_simp; with_reducible rfl)
        try simp only [Act.put, List.getElem_toArray, List.getElem_cons_succ, List.getElem_cons_zero, List.setIfInBounds_toArray, List.set_cons_zero, List.set_cons_succ]
        refine wpAnyH_take (i := 10) (v := ?_) rfl (by kernel_rfl) (by kernel_rfl) (by kernel_rfl) (fun _ _ _ h => h) (Or.inl ⟨by kernel_rfl, ?_⟩) hHeld ?_
        rotate_left
        · intro X hX
          first | (go_simp; done) | (go_simp; with_reducible rfl)
        try simp only [Act.put, List.getElem_toArray, List.getElem_cons_succ, List.getElem_cons_zero, List.setIfInBounds_toArray, List.set_cons_zero, List.set_cons_succ]
        refine wpAnyH_ready (rs := [12]) (by kernel_rfl) (by simp) ?_
        refine AllReadyH.cons rfl (fun K hK => ?_) AllReadyH.nil
        have r0_ := rr.out.cell 0
        have r1_ := rr.out.cell 1
        have r2_ := rr.out.cell 2
        have r3_ := rr.out.cell 3
        have r4_ := rr.out.cell 4
        have r5_ := rr.out.cell 5
        have r6_ := rr.out.cell 6
        have r7_ := rr.out.cell 7
        have r8_ := rr.out.cell 8
        have r9_ := rr.out.cell 9
        have r10_ := rr.out.cell 10
        have r11_ := rr.out.cell 11
        have g0_ := rr.out.free 0
        have g1_ := rr.out.free 1
        have g2_ := rr.out.free 2
        have g3_ := rr.out.free 3
        have g4_ := rr.out.free 4
        have g5_ := rr.out.free 5
        have g6_ := rr.out.free 6
        have g7_ := rr.out.free 7
        have g8_ := rr.out.free 8
        have g9_ := rr.out.free 9
        have g10_ := rr.out.free 10
        have g11_ := rr.out.free 11
        go_simp
        have ho : Only G X3 ((((((((((((X3.setCell ⟨G, 0, none⟩ (.int .i64 2)).setCell ⟨G, 1, none⟩ (.string nb)).setCell ⟨G, 2, none⟩ (.string nc)).setCell ⟨G, 3, none⟩ (.int .i64 0)).setCell ⟨G, 4, none⟩ (.slice xa 0 xk)).setCell ⟨G, 5, none⟩ (.int .i64 0)).setCell ⟨G, 6, none⟩ (.int .i64 0)).setCell ⟨G, 7, none⟩ (.string ⟨#[]⟩)).setCell ⟨G, 8, none⟩ (.string ⟨#[]⟩)).setCell ⟨G, 9, none⟩ (.int .i64 0)).setCell ⟨G, 10, none⟩ (.slice ya 0 yk)).setCell ⟨G, 11, none⟩ (.int .i64 0)) := (putMain_only X3 G _ _ _ _ _ _).trans (putLame_only _ G _ _ _ _ _ _)
        have hb2 : Below w12.heap.size w12 ((((((((((((X3.setCell ⟨G, 0, none⟩ (.int .i64 2)).setCell ⟨G, 1, none⟩ (.string nb)).setCell ⟨G, 2, none⟩ (.string nc)).setCell ⟨G, 3, none⟩ (.int .i64 0)).setCell ⟨G, 4, none⟩ (.slice xa 0 xk)).setCell ⟨G, 5, none⟩ (.int .i64 0)).setCell ⟨G, 6, none⟩ (.int .i64 0)).setCell ⟨G, 7, none⟩ (.string ⟨#[]⟩)).setCell ⟨G, 8, none⟩ (.string ⟨#[]⟩)).setCell ⟨G, 9, none⟩ (.int .i64 0)).setCell ⟨G, 10, none⟩ (.slice ya 0 yk)).setCell ⟨G, 11, none⟩ (.int .i64 0)) := putBoth_below hHeld.out.2.2 hlo _ _ _ _ _ _ _ _ _ _ _ _
        refine hK.out _ _ (Lib.hid ⟨hHeld.out.1.only ho (by omega), hHeld.out.2.1.only ho (by omega), hb2⟩) (fun hHeld => ?_)
        clear hK K ho hb2 rr r0_ g0_ r1_ g1_ r2_ g2_ r3_ g3_ r4_ g4_ r5_ g5_ r6_ g6_ r7_ g7_ r8_ g8_ r9_ g9_ r10_ g10_ r11_ g11_
        generalize ((((((((((((X3.setCell ⟨G, 0, none⟩ (.int .i64 2)).setCell ⟨G, 1, none⟩ (.string nb)).setCell ⟨G, 2, none⟩ (.string nc)).setCell ⟨G, 3, none⟩ (.int .i64 0)).setCell ⟨G, 4, none⟩ (.slice xa 0 xk)).setCell ⟨G, 5, none⟩ (.int .i64 0)).setCell ⟨G, 6, none⟩ (.int .i64 0)).setCell ⟨G, 7, none⟩ (.string ⟨#[]⟩)).setCell ⟨G, 8, none⟩ (.string ⟨#[]⟩)).setCell ⟨G, 9, none⟩ (.int .i64 0)).setCell ⟨G, 10, none⟩ (.slice ya 0 yk)).setCell ⟨G, 11, none⟩ (.int .i64 0)) = X4 at *
        try simp only [Act.put, List.getElem_toArray, List.getElem_cons_succ, List.getElem_cons_zero, List.setIfInBounds_toArray, List.set_cons_zero, List.set_cons_succ]
        refine wpAnyH_take (i := 13) (v := ?_) rfl (by kernel_rfl) (by kernel_rfl) (by kernel_rfl) (fun _ _ _ h => h) (Or.inl ⟨by kernel_rfl, ?_⟩) hHeld ?_
        rotate_left
        · intro X hX
          first | (go_simp; done) | (go_simp; with_reducible rfl)
        try simp only [Act.put, List.getElem_toArray, List.getElem_cons_succ, List.getElem_cons_zero, List.setIfInBounds_toArray, List.set_cons_zero, List.set_cons_succ]
        refine wpAnyH_take (i := 14) (v := ?_) rfl (by kernel_rfl) (by kernel_rfl) (by kernel_rfl) (fun _ _ _ h => h) (Or.inl ⟨by kernel_rfl, ?_⟩) hHeld ?_
        rotate_left
        · intro X hX
          first | (go_simp; done) | (go_simp; with_reducible rfl)
        try simp only [Act.put, List.getElem_toArray, List.getElem_cons_succ, List.getElem_cons_zero, List.setIfInBounds_toArray, List.set_cons_zero, List.set_cons_succ]
        refine wpAnyH_done (by kernel_rfl) ?_ _
        have hz := hHeld.out.2.2
        clear hHeld
        go_wp2_with fail
        go_meet
        exact ⟨rfl, Lib.hid hz⟩
    case rest =>
      obtain ⟨rfl, hc⟩ := hcut
      replace BY := Lib.hid (BY.out.trans (hc.out.mono BY.out.size))
      have u1 : (bd.toList == bd.toList) = true := beq_self_eq_true _
      clear hc E0 qv
      go_wp2_with fail
      go_ret
      exact ⟨rfl, BY.out⟩

end Go.Proofs.YtoaifgblbfdncaaDoor
