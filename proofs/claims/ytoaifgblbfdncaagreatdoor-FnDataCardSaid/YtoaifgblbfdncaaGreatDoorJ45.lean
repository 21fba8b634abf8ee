/-
  The law on data, out of the program's contracts.
-/
import Derived.Test.YtoaifgblbfdncaaGreatDoorJ44
namespace Go.Proofs.YtoaifgblbfdncaaGreatDoor
open Go.RowKit

theorem row_next {X Y : World} {lo : Nat} {v : Value} {r : List Int} (h : ∃ f, layIntS.own X lo f [v] r) (hb : Below X.heap.size X Y) : ∃ f, layIntS.own Y lo f [v] r := h.elim (fun f k => ⟨f, layIntS.next k hb⟩)
theorem row_rd {X : World} {lo : Nat} {v : Value} {r : List Int} (h : ∃ f, layIntS.own X lo f [v] r) : layIntS.rd X [v] r := h.elim (fun _ k => layIntS.read k)
theorem row_only {X Y : World} {lo G : Nat} {v : Value} {r : List Int} {cs : Array Value} (h : ∃ f, layIntS.own X lo f [v] r) (ho : Only G X Y) (hv : VarA G SlotsT cs X) : ∃ f, layIntS.own Y lo f [v] r := h.elim (fun f k => ⟨f, own_only k ho (row_off flatIntK k hv (by decide))⟩)
theorem var_ne {p q : Nat} {S T : TypeId} {cs ds : Array Value} {X : World} (h : VarA p S cs X) (k : VarA q T ds X) (hT : S ≠ T) : p ≠ q := fun e => by
  subst e
  have h1 := h.row.symm.trans k.row
  simp at h1
  exact hT h1.2
theorem nil_intsD : ∀ x ∈ ([] : List Int), IntZ x := fun _ h => by cases h
theorem data_seal {pa pb bd : ByteArray} {j n : Int} (h0 : 0 ≤ j) (h1 : j ≤ 10) (hn : n = j + 1) (ha : pa.size = 32) (hb : pb.size = 32) (hz : bd.size ≤ 104) : SealIs 1 pa pb j [] 0 0 ⟨#[]⟩ ⟨#[]⟩ 0 [] 0 1 2 bd n 3 1 1 2 n (lockP pa n.toNat bd) true := by
  subst hn
  have he : endA j pa pb := ⟨⟨h0, by omega⟩, ha, hb⟩
  exact .inl ⟨rfl, ⟨end_slots he, fun h => h.elim (keys_some (end_keys he)) (by omega), ⟨by omega, by omega⟩, ⟨by omega, by omega⟩, hz⟩, rfl, rfl, rfl, rfl, rfl, rfl, rfl⟩
set_option maxRecDepth 100000 in
set_option maxHeartbeats 12800000 in
theorem lawDataF {L : World → Prop} (F0 : DataFns2 L) (a : Option Addr) (len cap : Nat) (w : World) (H : Src a len w) (hL : L w) :
    Calls Tryz.prog 3 #[.slice a len cap] w fun e w' => e = .returned (.bool true) ∧ Below w.heap.size w w' := by
  have hd : decide (1048576 < (len : Int)) = false := decide_eq_false (by have := H.few; omega)
  have HBG := Lib.hid (fun w => bigD_any a len cap w)
  rw [hd] at HBG
  have HS := Lib.hid H
  have F := Lib.hid F0
  have LL : Hid (∀ X, Below w.heap.size w X → L X) := Lib.hid (fun X hb => F0.stays w X hL hb)
  clear H hL hd F0
  go_enter Tryz.func3, Tryz.ntmps3
  go_wp2_with fail
  refine (HBG.out _).mono ?_
  rintro e w0 ⟨rfl, hw⟩
  rw [hw]
  clear hw w0
  go_wp2_with fail
  refine (drawBodies_any a len cap w HS.out).mono ?_
  rintro e w1 ⟨seed, lv, es, hsz, hes, rfl, hrl, hb⟩
  obtain ⟨ea, ec, rfl⟩ := rows_form hrl
  have BY := Lib.hid hb
  have HE := Lib.hid hrl
  clear hb hrl
  go_wp2_with fail
  refine (F.out.pair seed (by omega) w1 (LL.out _ BY.out)).mono ?_
  rintro e w2 ⟨v1_, v2_, v3_, v4_, f, g, f', g', rfl, -, o1, o2, o3, o4, hb⟩
  obtain ⟨va, vk, rfl⟩ : ∃ a c, v1_ = .slice a 0 c := rows_form (layIntS.read o1)
  obtain ⟨ua, uk, rfl⟩ : ∃ a c, v2_ = .slice a 0 c := rows_form (layIntS.read o2)
  obtain ⟨na, nk, rfl⟩ : ∃ a c, v3_ = .slice a 0 c := rows_form (layIntS.read o3)
  obtain ⟨ma, mk, rfl⟩ : ∃ a c, v4_ = .slice a 0 c := rows_form (layIntS.read o4)
  have za : (pairK seed 97).size = 32 := digP_size _
  have zb : (pairK seed 98).size = 32 := digP_size _
  have KP := Lib.hid (fun X => specPairSlots_any seed (by omega) X)
  unfold PairEnd at KP
  generalize pairK seed 97 = pa at *
  generalize pairK seed 98 = pb at *
  have hal : Below w2.heap.size w2 ((w2.alloc (.cells #[.int .i64 1, .string pa, .string pb, .int .i64 0, .slice va 0 vk, .int .i64 0, .int .i64 0, .string ⟨#[]⟩, .string ⟨#[]⟩, .int .i64 0, .slice ua 0 uk, .int .i64 0] SlotsT)).alloc (.cells #[.int .i64 1, .string pb, .string pa, .int .i64 0, .slice na 0 nk, .int .i64 0, .int .i64 0, .string ⟨#[]⟩, .string ⟨#[]⟩, .int .i64 0, .slice ma 0 mk, .int .i64 0] SlotsT)) := ((Below.refl _ _).alloc (Nat.le_refl _) _).alloc (by simp) _
  have k2 := VarA.new (w2.alloc (.cells #[.int .i64 1, .string pa, .string pb, .int .i64 0, .slice va 0 vk, .int .i64 0, .int .i64 0, .string ⟨#[]⟩, .string ⟨#[]⟩, .int .i64 0, .slice ua 0 uk, .int .i64 0] SlotsT)) SlotsT #[.int .i64 1, .string pb, .string pa, .int .i64 0, .slice na 0 nk, .int .i64 0, .int .i64 0, .string ⟨#[]⟩, .string ⟨#[]⟩, .int .i64 0, .slice ma 0 mk, .int .i64 0]
  rw [show (w2.alloc (.cells #[.int .i64 1, .string pa, .string pb, .int .i64 0, .slice va 0 vk, .int .i64 0, .int .i64 0, .string ⟨#[]⟩, .string ⟨#[]⟩, .int .i64 0, .slice ua 0 uk, .int .i64 0] SlotsT)).heap.size = w2.heap.size + 1 by simp] at k2
  have hbb := hb.trans (hal.mono hb.size)
  have D0 : Hid (DW w w1 w2.heap.size pa pb 0 va vk ua uk na nk ma mk [] ((w2.alloc (.cells #[.int .i64 1, .string pa, .string pb, .int .i64 0, .slice va 0 vk, .int .i64 0, .int .i64 0, .string ⟨#[]⟩, .string ⟨#[]⟩, .int .i64 0, .slice ua 0 uk, .int .i64 0] SlotsT)).alloc (.cells #[.int .i64 1, .string pb, .string pa, .int .i64 0, .slice na 0 nk, .int .i64 0, .int .i64 0, .string ⟨#[]⟩, .string ⟨#[]⟩, .int .i64 0, .slice ma 0 mk, .int .i64 0] SlotsT))) := Lib.hid ⟨(VarA.new w2 SlotsT #[.int .i64 1, .string pa, .string pb, .int .i64 0, .slice va 0 vk, .int .i64 0, .int .i64 0, .string ⟨#[]⟩, .string ⟨#[]⟩, .int .i64 0, .slice ua 0 uk, .int .i64 0]).alloc _, k2, ⟨f, layIntS.lower (layIntS.next o1 hal) BY.out.size⟩, ⟨g, layIntS.lower (layIntS.next o2 hal) BY.out.size⟩, ⟨f', layIntS.lower (layIntS.next o3 hal) BY.out.size⟩, ⟨g', layIntS.lower (layIntS.next o4 hal) BY.out.size⟩, hbb, hb.size, BY.out.size, BY.out.trans (hbb.mono BY.out.size)⟩
  clear hb hal hbb k2 o1 o2 o3 o4 hsz BY
  go_upto_region 5 with fail
  generalize (w2.alloc (.cells #[.int .i64 1, .string pa, .string pb, .int .i64 0, .slice va 0 vk, .int .i64 0, .int .i64 0, .string ⟨#[]⟩, .string ⟨#[]⟩, .int .i64 0, .slice ua 0 uk, .int .i64 0] SlotsT)).alloc (.cells #[.int .i64 1, .string pb, .string pa, .int .i64 0, .slice na 0 nk, .int .i64 0, .int .i64 0, .string ⟨#[]⟩, .string ⟨#[]⟩, .int .i64 0, .slice ma 0 mk, .int .i64 0] SlotsT) = w3 at *
  generalize w2.heap.size = ga at *
  go_wp2_with fail
  go_loopw [7] (fun iv wr => ∃ (j : Nat) (va : Option Addr) (vk : Nat) (ua : Option Addr) (uk : Nat) (na : Option Addr) (nk : Nat) (ma : Option Addr) (mk : Nat) (r : List Int), j ≤ es.length ∧ iv = .int .i64 j ∧ Hid (SeenP r ∧ topZ r ≤ j) ∧ Hid (DW w w1 ga pa pb j va vk ua uk na nk ma mk r wr)) (fun iv _ => es.length - (intOf iv).toNat)
  case atStart => exact ⟨0, va, vk, ua, uk, na, nk, ma, mk, [], Nat.zero_le _, rfl, Lib.hid ⟨none_seen, by show (0 : Int) ≤ _; omega⟩, D0⟩
  case round =>
    clear D0
    obtain ⟨j, va, vk, ua, uk, na, nk, ma, mk, r, hj, rfl, HT, D1⟩ := hrel
    by_cases hlt : j < es.length
    rotate_left
    · obtain rfl : j = es.length := by omega
      have hge : ¬ ((es.length : Int) < (es.length : Int)) := by omega
      go_wp2_with fail
      refine (KP.out wr).mono ?_
      rintro e w4 ⟨v1_, v2_, v3_, v4_, f, g, f', g', rfl, -, o1, o2, o3, o4, hb⟩
      obtain ⟨e1, e2, rfl⟩ : ∃ a c, v1_ = .slice a 0 c := rows_form (layIntS.read o1)
      obtain ⟨e3, e4, rfl⟩ : ∃ a c, v2_ = .slice a 0 c := rows_form (layIntS.read o2)
      obtain ⟨e5, e6, rfl⟩ : ∃ a c, v3_ = .slice a 0 c := rows_form (layIntS.read o3)
      obtain ⟨e7, e8, rfl⟩ : ∃ a c, v4_ = .slice a 0 c := rows_form (layIntS.read o4)
      have hal : Below w4.heap.size w4 ((w4.alloc (.cells #[.int .i64 1, .string pa, .string pb, .int .i64 0, .slice e1 0 e2, .int .i64 0, .int .i64 0, .string ⟨#[]⟩, .string ⟨#[]⟩, .int .i64 0, .slice e3 0 e4, .int .i64 0] SlotsT)).alloc (.cells #[.int .i64 1, .string pb, .string pa, .int .i64 0, .slice e5 0 e6, .int .i64 0, .int .i64 0, .string ⟨#[]⟩, .string ⟨#[]⟩, .int .i64 0, .slice e7 0 e8, .int .i64 0] SlotsT)) := ((Below.refl _ _).alloc (Nat.le_refl _) _).alloc (by simp) _
      have k2 := VarA.new (w4.alloc (.cells #[.int .i64 1, .string pa, .string pb, .int .i64 0, .slice e1 0 e2, .int .i64 0, .int .i64 0, .string ⟨#[]⟩, .string ⟨#[]⟩, .int .i64 0, .slice e3 0 e4, .int .i64 0] SlotsT)) SlotsT #[.int .i64 1, .string pb, .string pa, .int .i64 0, .slice e5 0 e6, .int .i64 0, .int .i64 0, .string ⟨#[]⟩, .string ⟨#[]⟩, .int .i64 0, .slice e7 0 e8, .int .i64 0]
      rw [show (w4.alloc (.cells #[.int .i64 1, .string pa, .string pb, .int .i64 0, .slice e1 0 e2, .int .i64 0, .int .i64 0, .string ⟨#[]⟩, .string ⟨#[]⟩, .int .i64 0, .slice e3 0 e4, .int .i64 0] SlotsT)).heap.size = w4.heap.size + 1 by simp] at k2
      have UV := Lib.hid ((VarA.new w4 SlotsT #[.int .i64 1, .string pa, .string pb, .int .i64 0, .slice e1 0 e2, .int .i64 0, .int .i64 0, .string ⟨#[]⟩, .string ⟨#[]⟩, .int .i64 0, .slice e3 0 e4, .int .i64 0]).alloc (.cells #[.int .i64 1, .string pb, .string pa, .int .i64 0, .slice e5 0 e6, .int .i64 0, .int .i64 0, .string ⟨#[]⟩, .string ⟨#[]⟩, .int .i64 0, .slice e7 0 e8, .int .i64 0] SlotsT))
      have VV := Lib.hid k2
      replace D1 := Lib.hid ((D1.out.next hb).next hal)
      clear hb hal k2 o1 o2 o3 o4
      go_upto_region 23 with fail
      generalize (w4.alloc (.cells #[.int .i64 1, .string pa, .string pb, .int .i64 0, .slice e1 0 e2, .int .i64 0, .int .i64 0, .string ⟨#[]⟩, .string ⟨#[]⟩, .int .i64 0, .slice e3 0 e4, .int .i64 0] SlotsT)).alloc (.cells #[.int .i64 1, .string pb, .string pa, .int .i64 0, .slice e5 0 e6, .int .i64 0, .int .i64 0, .string ⟨#[]⟩, .string ⟨#[]⟩, .int .i64 0, .slice e7 0 e8, .int .i64 0] SlotsT) = w5 at *
      generalize w4.heap.size = gu at *
      have c1 : w5.cell? ⟨gu, 1, none⟩ = some (.string pa) := UV.out.cell 1
      have c2 : w5.cell? ⟨gu + 1, 2, none⟩ = some (.string pa) := VV.out.cell 2
      have c3 : w5.cell? ⟨ga, 1, none⟩ = some (.string pa) := D1.out.av.cell 1
      have u1 : (pa.toList == pa.toList) = true := beq_self_eq_true _
      have BE := Lib.hid D1.out.be
      clear D1 UV VV
      go_wp2_with fail
      go_ret
      exact ⟨rfl, BE.out⟩
    have hlt' : (j : Int) < (es.length : Int) := by omega
    have hj8 : j < 8 := by have := hes.1; omega
    obtain ⟨bd, hbd⟩ : ∃ bd, es[j]? = some bd := ⟨es[j], List.getElem?_eq_getElem hlt⟩
    have hbz : bd.size ≤ 2 := hes.2 bd (List.mem_of_getElem? hbd)
    obtain ⟨gl, ol, cs, rfl, hgl, hr, hc⟩ := rows_elem HE.out j bd hbd
    rw [layString_rd] at hr
    subst hr
    have cc0 : w1.cell? ⟨gl, ol + j, none⟩ = some (.string bd) := by have h := hc 0 _ rfl; simpa [layString, show Lay.str.k = 1 from rfl] using h
    have hgl1 : gl < w1.heap.size := cell_size (p := ⟨gl, ol + j, none⟩) cc0
    have CC : Hid (∀ X, Below w1.heap.size w1 X → X.cell? ⟨gl, ol + j, none⟩ = some (.string bd)) := Lib.hid (fun X hb => by rw [hb.cell (p := ⟨gl, ol + j, none⟩) hgl1]; exact cc0)
    clear hc cc0 hbd hgl
    obtain ⟨n, hn⟩ : ∃ n : Int, n = (j : Int) + 1 := ⟨_, rfl⟩
    have hwn : IntKind.i64.wrap ((j : Int) + 1) = n := by rw [IntKind.wrap_i64]; omega
    obtain ⟨t, hnt⟩ := note_is r n
    have htt := next_top HT.out.1 (by have := HT.out.2; omega) (by omega) (by omega) hnt
    obtain ⟨lk, hlk⟩ : ∃ lk, lockP pa n.toNat bd = lk := ⟨_, rfl⟩
    have zl : lk.size ≤ 1000 := by rw [← hlk, lockP_size]; omega
    have zl2 : lk.size ≤ 120 := by rw [← hlk, lockP_size]; omega
    have hsl := data_seal (n := n) (by omega) (by omega) hn za zb (show bd.size ≤ 104 by omega)
    have hop := data_open (now := j) za zb HT.out.1 (by have := HT.out.2; omega) (show 1 ≤ n by omega) (by omega) (show bd.size ≤ 104 by omega) hnt
    have hag := data_again (now := j) za zb htt.1 htt.2.1 (show 1 ≤ n by omega) (by omega) (show bd.size ≤ 104 by omega)
    rw [hlk] at hsl hop hag
    have hkA : KeysP 1 pa pb j [] 0 := end_keys ⟨⟨by omega, by omega⟩, za, zb⟩
    have hsN : SlotsP 1 pa pb n [] 0 0 ⟨#[]⟩ ⟨#[]⟩ 0 [] 0 := end_slots ⟨⟨by omega, by omega⟩, za, zb⟩
    have hsC : SlotsP 1 pb pa 0 t 0 0 ⟨#[]⟩ ⟨#[]⟩ 0 [] 0 := other_slots za zb htt.1
    have hri := HT.out.1.ints
    have hti := htt.1.ints
    have hrl : r.length ≤ 1000 := by have := HT.out.1.1; omega
    have htl : t.length ≤ 1000 := by have := htt.1.1; omega
    have hn1 : 1 ≤ n ∧ n ≤ 9 := by omega
    have HNJ := Lib.hid hn
    clear hn
    have c0 : wr.cell? ⟨ga, 0, none⟩ = some (.int .i64 1) := D1.out.av.cell 0
    have c1 : wr.cell? ⟨ga, 1, none⟩ = some (.string pa) := D1.out.av.cell 1
    have c2 : wr.cell? ⟨ga, 2, none⟩ = some (.string pb) := D1.out.av.cell 2
    have c3 : wr.cell? ⟨ga, 3, none⟩ = some (.int .i64 j) := D1.out.av.cell 3
    have c4 : wr.cell? ⟨ga, 4, none⟩ = some (.slice va 0 vk) := D1.out.av.cell 4
    have c5 : wr.cell? ⟨ga, 5, none⟩ = some (.int .i64 0) := D1.out.av.cell 5
    have c6 : wr.cell? ⟨ga, 6, none⟩ = some (.int .i64 0) := D1.out.av.cell 6
    have c7 : wr.cell? ⟨ga, 7, none⟩ = some (.string ⟨#[]⟩) := D1.out.av.cell 7
    have c8 : wr.cell? ⟨ga, 8, none⟩ = some (.string ⟨#[]⟩) := D1.out.av.cell 8
    have c9 : wr.cell? ⟨ga, 9, none⟩ = some (.int .i64 0) := D1.out.av.cell 9
    have c10 : wr.cell? ⟨ga, 10, none⟩ = some (.slice ua 0 uk) := D1.out.av.cell 10
    have c11 : wr.cell? ⟨ga, 11, none⟩ = some (.int .i64 0) := D1.out.av.cell 11
    go_wp2_with fail
    refine (F.out.more 1 pa pb j _ [] 0 0 ⟨#[]⟩ ⟨#[]⟩ 0 _ [] 0 hkA (by omega) (by simp) wr (LL.out _ D1.out.be) D1.out.ra D1.out.rb).mono ?_
    rintro e w4 ⟨rfl, hb⟩
    replace D1 := Lib.hid (D1.out.next hb)
    clear hb c0 c1 c2 c3 c4 c5 c6 c7 c8 c9 c10 c11
    generalize wr = wo at *
    go_upto_region 15 with fail
    have KS := Lib.hid (fun X hX h1 h2 => F.out.seals 1 pa pb j (.slice va 0 vk) [] 0 0 ⟨#[]⟩ ⟨#[]⟩ 0 (.slice ua 0 uk) [] 0 1 2 bd n 3 1 1 2 n lk true hsl (by omega) (by omega) (by decide) (by decide) (by omega) (by simp) (by simp) nil_intsD nil_intsD X hX h1 h2)
    have RA := Lib.hid D1.out.ra
    have RB := Lib.hid D1.out.rb
    have BE := Lib.hid D1.out.be
    have E0 : Hid (VarA ga SlotsT #[.int .i64 1, .string pa, .string pb, .int .i64 j, .slice va 0 vk, .int .i64 0, .int .i64 0, .string ⟨#[]⟩, .string ⟨#[]⟩, .int .i64 0, .slice ua 0 uk, .int .i64 0] w4.drew ∧ w4.drew.cell? ⟨gl, ol + j, none⟩ = some (.string bd) ∧ Below w4.heap.size w4 w4.drew) := Lib.hid ⟨D1.out.av.drew, CC.out _ D1.out.bw.drew, (Below.refl _ _).drew⟩
    have hga := D1.out.av.lt
    have hgl4 : gl < w4.heap.size := Nat.lt_of_lt_of_le hgl1 D1.out.bw.size
    have qv : ∀ X Y, (Hid (VarA ga SlotsT #[.int .i64 1, .string pa, .string pb, .int .i64 j, .slice va 0 vk, .int .i64 0, .int .i64 0, .string ⟨#[]⟩, .string ⟨#[]⟩, .int .i64 0, .slice ua 0 uk, .int .i64 0] X ∧ X.cell? ⟨gl, ol + j, none⟩ = some (.string bd) ∧ Below w4.heap.size w4 X)) → Below X.heap.size X Y → (Hid (VarA ga SlotsT #[.int .i64 1, .string pa, .string pb, .int .i64 j, .slice va 0 vk, .int .i64 0, .int .i64 0, .string ⟨#[]⟩, .string ⟨#[]⟩, .int .i64 0, .slice ua 0 uk, .int .i64 0] Y ∧ Y.cell? ⟨gl, ol + j, none⟩ = some (.string bd) ∧ Below w4.heap.size w4 Y)) := fun X Y h hb => Lib.hid ⟨h.out.1.next hb, (hb.cell (p := ⟨gl, ol + j, none⟩) (Nat.lt_of_lt_of_le hgl4 h.out.2.2.size)).trans h.out.2.1, h.out.2.2.trans (hb.mono h.out.2.2.size)⟩
    go_wp2_with fail
    go_cut [12, 13, 14] (fun z y x wx => ∃ (g1 g2 : Nat) (qa : Option Addr) (qk : Nat) (ta : Option Addr) (tk : Nat) (ka : Option Addr) (kk : Nat), z = .pointer (some ⟨g1, 0, none⟩) ∧ y = .pointer (some ⟨g2, 0, none⟩) ∧ x = .bool true ∧ Hid (VarA g1 SlotsT #[.int .i64 1, .string pa, .string pb, .int .i64 n, .slice qa 0 qk, .int .i64 0, .int .i64 0, .string ⟨#[]⟩, .string ⟨#[]⟩, .int .i64 0, .slice ta 0 tk, .int .i64 0] wx ∧ VarA g2 SPkT #[.int .i64 3, .int .i64 1, .int .i64 1, .int .i64 2, .int .i64 n, .slice ka 0 kk, .string lk] wx ∧ (∃ f, layIntS.own wx w4.heap.size f [.slice qa 0 qk] []) ∧ (∃ f, layIntS.own wx w4.heap.size f [.slice ta 0 tk] []) ∧ layIntS.rd wx [.slice ka 0 kk] [] ∧ Below w4.heap.size w4 wx))
    case first =>
      refine wp_region_held_drew (S := fun X => Hid (VarA ga SlotsT #[.int .i64 1, .string pa, .string pb, .int .i64 j, .slice va 0 vk, .int .i64 0, .int .i64 0, .string ⟨#[]⟩, .string ⟨#[]⟩, .int .i64 0, .slice ua 0 uk, .int .i64 0] X ∧ X.cell? ⟨gl, ol + j, none⟩ = some (.string bd) ∧ Below w4.heap.size w4 X)) (by kernel_rfl) E0 (fun hHeld => ?_)
      clear E0
      generalize w4.drew = X0 at *
      refine wpAnyH_take (i := 0) (v := ?_) rfl (by kernel_rfl) (by kernel_rfl) (by kernel_rfl) (fun _ _ _ h => h) (Or.inl ⟨by kernel_rfl, ?_⟩) hHeld ?_
      rotate_left
      · intro X hX
        have yy0_ : X.cell? ⟨ga, 0, none⟩ = some (.int .i64 1) := hX.out.1.cell 0
        have yy1_ : X.cell? ⟨ga, 1, none⟩ = some (.string pa) := hX.out.1.cell 1
        have yy2_ : X.cell? ⟨ga, 2, none⟩ = some (.string pb) := hX.out.1.cell 2
        have yy3_ : X.cell? ⟨ga, 3, none⟩ = some (.int .i64 j) := hX.out.1.cell 3
        have yy4_ : X.cell? ⟨ga, 4, none⟩ = some (.slice va 0 vk) := hX.out.1.cell 4
        have yy5_ : X.cell? ⟨ga, 5, none⟩ = some (.int .i64 0) := hX.out.1.cell 5
        have yy6_ : X.cell? ⟨ga, 6, none⟩ = some (.int .i64 0) := hX.out.1.cell 6
        have yy7_ : X.cell? ⟨ga, 7, none⟩ = some (.string ⟨#[]⟩) := hX.out.1.cell 7
        have yy8_ : X.cell? ⟨ga, 8, none⟩ = some (.string ⟨#[]⟩) := hX.out.1.cell 8
        have yy9_ : X.cell? ⟨ga, 9, none⟩ = some (.int .i64 0) := hX.out.1.cell 9
        have yy10_ : X.cell? ⟨ga, 10, none⟩ = some (.slice ua 0 uk) := hX.out.1.cell 10
        have yy11_ : X.cell? ⟨ga, 11, none⟩ = some (.int .i64 0) := hX.out.1.cell 11
        first | (go_simp; done) | (go_simp; with_reducible rfl)
      try simp only [Act.put, List.getElem_toArray, List.getElem_cons_zero, List.setIfInBounds_toArray, List.set_cons_zero, List.set_cons_succ]
      refine wpAnyH_take (i := 1) (v := ?_) rfl (by kernel_rfl) (by kernel_rfl) (by kernel_rfl) (fun _ _ _ h => h) (Or.inl ⟨by kernel_rfl, ?_⟩) hHeld ?_
      rotate_left
      · intro X hX
        first | (go_simp; done) | (go_simp; with_reducible rfl)
      try simp only [Act.put, List.getElem_toArray, List.getElem_cons_succ, List.getElem_cons_zero, List.setIfInBounds_toArray, List.set_cons_zero, List.set_cons_succ]
      refine wpAnyH_take (i := 2) (v := ?_) rfl (by kernel_rfl) (by kernel_rfl) (by kernel_rfl) (fun _ _ _ h => h) (Or.inl ⟨by kernel_rfl, ?_⟩) hHeld ?_
      rotate_left
      · intro X hX
        first | (go_simp; done) | (go_simp; with_reducible rfl)
      try simp only [Act.put, List.getElem_toArray, List.getElem_cons_succ, List.getElem_cons_zero, List.setIfInBounds_toArray, List.set_cons_zero, List.set_cons_succ]
      refine wpAnyH_take (i := 3) (v := ?_) rfl (by kernel_rfl) (by kernel_rfl) (by kernel_rfl) (fun _ _ _ h => h) (Or.inl ⟨by kernel_rfl, ?_⟩) hHeld ?_
      rotate_left
      · intro X hX
        first | (go_simp; done) | (go_simp; with_reducible rfl)
      try simp only [Act.put, List.getElem_toArray, List.getElem_cons_succ, List.getElem_cons_zero, List.setIfInBounds_toArray, List.set_cons_zero, List.set_cons_succ]
      refine wpAnyH_take (i := 4) (v := ?_) rfl (by kernel_rfl) (by kernel_rfl) (by kernel_rfl) (fun _ _ _ h => h) (Or.inl ⟨by kernel_rfl, ?_⟩) hHeld ?_
      rotate_left
      · intro X hX
        have yt_ : X.cell? ⟨gl, ol + j, none⟩ = some (.string bd) := hX.out.2.1
        first | (go_simp; done) | (go_simp; with_reducible rfl)
      try simp only [Act.put, List.getElem_toArray, List.getElem_cons_succ, List.getElem_cons_zero, List.setIfInBounds_toArray, List.set_cons_zero, List.set_cons_succ]
      refine wpAnyH_ready (rs := [5, 10, 11]) (by kernel_rfl) (by simp) ?_
      refine AllReadyH.cons rfl (fun K hK => ?_) (AllReadyH.cons rfl (fun K hK => ?_) (AllReadyH.cons rfl (fun K hK => ?_) AllReadyH.nil))
      · go_simp
        go_wp2_with (go_at_call 10; refine (KS.out X0 (LL.out _ (BE.out.trans (hHeld.out.2.2.mono BE.out.size))) (layIntS.below RA.out hHeld.out.2.2) (layIntS.below RB.out hHeld.out.2.2)).mono ?_; rintro e X1 ⟨v1_, v2_, v3_, f, g, h, rfl, -, o1, o2, o3, hb0⟩; obtain ⟨qa, qk, rfl⟩ := (show ∃ a c, v1_ = .slice a 0 c from rows_form (layIntS.read o1)); obtain ⟨ta, tk, rfl⟩ := (show ∃ a c, v2_ = .slice a 0 c from rows_form (layIntS.read o2)); obtain ⟨ka, kk, rfl⟩ := (show ∃ a c, v3_ = .slice a 0 c from rows_form (layIntS.read o3)); have hlz : w4.heap.size ≤ X0.heap.size := hHeld.out.2.2.size; have hS := qv _ _ hHeld hb0; have hb := Lib.hid hb0; have O1 := Lib.hid (layIntS.lower o1 hlz); have O2 := Lib.hid (layIntS.lower o2 hlz); have O3 := Lib.hid (layIntS.lower o3 hlz); clear hb0 o1 o2 o3 hlz)
        refine hK.out _ _ hS (fun hHeld => ?_)
        clear hK K hS
        clear hb
        try simp only [Act.put, List.getElem_toArray, List.getElem_cons_succ, List.getElem_cons_zero, List.setIfInBounds_toArray, List.set_cons_zero, List.set_cons_succ]
        refine wpAnyH_take (i := 6) (v := ?_) rfl (by kernel_rfl) (by kernel_rfl) (by kernel_rfl) (fun _ _ _ h => h) (Or.inl ⟨by kernel_rfl, ?_⟩) hHeld ?_
        rotate_left
        · intro X hX
          first | (go_simp; done) | (go_simp; with_reducible rfl)
        try simp only [Act.put, List.getElem_toArray, List.getElem_cons_succ, List.getElem_cons_zero, List.setIfInBounds_toArray, List.set_cons_zero, List.set_cons_succ]
        refine wpAnyH_take (i := 7) (v := ?_) rfl (by kernel_rfl) (by kernel_rfl) (by kernel_rfl) (fun _ _ _ h => h) (Or.inl ⟨by kernel_rfl, ?_⟩) hHeld ?_
        rotate_left
        · intro X hX
          first | (go_simp; done) | (go_simp; with_reducible rfl)
        try simp only [Act.put, List.getElem_toArray, List.getElem_cons_succ, List.getElem_cons_zero, List.setIfInBounds_toArray, List.set_cons_zero, List.set_cons_succ]
        refine wpAnyH_take (i := 8) (v := ?_) rfl (by kernel_rfl) (by kernel_rfl) (by kernel_rfl) (fun _ _ _ h => h) (Or.inl ⟨by kernel_rfl, ?_⟩) hHeld ?_
        rotate_left
        · intro X hX
          first | (go_simp; done) | (go_simp; with_reducible rfl)
        try simp only [Act.put, List.getElem_toArray, List.getElem_cons_succ, List.getElem_cons_zero, List.setIfInBounds_toArray, List.set_cons_zero, List.set_cons_succ]
        refine wpAnyH_take (i := 9) (v := ?_) rfl (by kernel_rfl) (by kernel_rfl) (by kernel_rfl) (fun _ _ _ h => h) (Or.inl ⟨by kernel_rfl, ?_⟩) hHeld ?_
        rotate_left
        · intro X hX
          first | (go_simp; done) | (go_simp; with_reducible rfl)
        try simp only [Act.put, List.getElem_toArray, List.getElem_cons_succ, List.getElem_cons_zero, List.setIfInBounds_toArray, List.set_cons_zero, List.set_cons_succ]
        refine wpAnyH_ready (rs := [10, 11]) (by kernel_rfl) (by simp) ?_
        refine AllReadyH.cons rfl (fun K hK => ?_) (AllReadyH.cons rfl (fun K hK => ?_) AllReadyH.nil)
        · go_simp
          have hal : Below X1.heap.size X1 (X1.alloc (.cells #[.int .i64 0, .string ⟨#[]⟩, .string ⟨#[]⟩, .int .i64 0, .slice none 0 0, .int .i64 0, .int .i64 0, .string ⟨#[]⟩, .string ⟨#[]⟩, .int .i64 0, .slice none 0 0, .int .i64 0] SlotsT)) := (Below.refl _ _).alloc (Nat.le_refl _) _
          have hloG1 : w4.heap.size ≤ X1.heap.size := hHeld.out.2.2.size
          refine hK.out _ _ (qv _ _ hHeld hal) (fun hHeld => ?_)
          clear hK K
          have hb := Lib.hid hal
          replace O1 := Lib.hid (layIntS.next O1.out hb.out)
          replace O2 := Lib.hid (layIntS.next O2.out hb.out)
          replace O3 := Lib.hid (layIntS.next O3.out hb.out)
          have rr := Lib.hid (VarA.new X1 SlotsT #[.int .i64 0, .string ⟨#[]⟩, .string ⟨#[]⟩, .int .i64 0, .slice none 0 0, .int .i64 0, .int .i64 0, .string ⟨#[]⟩, .string ⟨#[]⟩, .int .i64 0, .slice none 0 0, .int .i64 0])
          clear hal hb
          generalize X1.alloc (.cells #[.int .i64 0, .string ⟨#[]⟩, .string ⟨#[]⟩, .int .i64 0, .slice none 0 0, .int .i64 0, .int .i64 0, .string ⟨#[]⟩, .string ⟨#[]⟩, .int .i64 0, .slice none 0 0, .int .i64 0] SlotsT) = X2 at *
          generalize X1.heap.size = G1 at *
          try simp only [Act.put, List.getElem_toArray, List.getElem_cons_succ, List.getElem_cons_zero, List.setIfInBounds_toArray, List.set_cons_zero, List.set_cons_succ]
          refine wpAnyH_ready (rs := [11]) (by kernel_rfl) (by simp) ?_
          refine AllReadyH.cons rfl (fun K hK => ?_) AllReadyH.nil
          go_simp
          have hal : Below X2.heap.size X2 (X2.alloc (.cells #[.int .i64 0, .int .i64 0, .int .i64 0, .int .i64 0, .int .i64 0, .slice none 0 0, .string ⟨#[]⟩] SPkT)) := (Below.refl _ _).alloc (Nat.le_refl _) _
          have hloG2 : w4.heap.size ≤ X2.heap.size := hHeld.out.2.2.size
          refine hK.out _ _ (qv _ _ hHeld hal) (fun hHeld => ?_)
          clear hK K
          have hb := Lib.hid hal
          replace rr := Lib.hid (rr.out.next hb.out)
          replace O1 := Lib.hid (layIntS.next O1.out hb.out)
          replace O2 := Lib.hid (layIntS.next O2.out hb.out)
          replace O3 := Lib.hid (layIntS.next O3.out hb.out)
          have rp := Lib.hid (VarA.new X2 SPkT #[.int .i64 0, .int .i64 0, .int .i64 0, .int .i64 0, .int .i64 0, .slice none 0 0, .string ⟨#[]⟩])
          clear hal hb
          generalize X2.alloc (.cells #[.int .i64 0, .int .i64 0, .int .i64 0, .int .i64 0, .int .i64 0, .slice none 0 0, .string ⟨#[]⟩] SPkT) = X3 at *
          generalize X2.heap.size = G2 at *
          try simp only [Act.put, List.getElem_toArray, List.getElem_cons_succ, List.getElem_cons_zero, List.setIfInBounds_toArray, List.set_cons_zero, List.set_cons_succ]
          refine wpAnyH_ready (rs := [12]) (by kernel_rfl) (by simp) ?_
          refine AllReadyH.cons rfl (fun K hK => ?_) AllReadyH.nil
          have hne : G2 ≠ G1 := var_ne rp.out rr.out (by decide)
          have r0_ : X3.cell? ⟨G1, 0, none⟩ = some (.int .i64 0) := rr.out.cell 0
          have r1_ : X3.cell? ⟨G1, 1, none⟩ = some (.string ⟨#[]⟩) := rr.out.cell 1
          have r2_ : X3.cell? ⟨G1, 2, none⟩ = some (.string ⟨#[]⟩) := rr.out.cell 2
          have r3_ : X3.cell? ⟨G1, 3, none⟩ = some (.int .i64 0) := rr.out.cell 3
          have r4_ : X3.cell? ⟨G1, 4, none⟩ = some (.slice none 0 0) := rr.out.cell 4
          have r5_ : X3.cell? ⟨G1, 5, none⟩ = some (.int .i64 0) := rr.out.cell 5
          have r6_ : X3.cell? ⟨G1, 6, none⟩ = some (.int .i64 0) := rr.out.cell 6
          have r7_ : X3.cell? ⟨G1, 7, none⟩ = some (.string ⟨#[]⟩) := rr.out.cell 7
          have r8_ : X3.cell? ⟨G1, 8, none⟩ = some (.string ⟨#[]⟩) := rr.out.cell 8
          have r9_ : X3.cell? ⟨G1, 9, none⟩ = some (.int .i64 0) := rr.out.cell 9
          have r10_ : X3.cell? ⟨G1, 10, none⟩ = some (.slice none 0 0) := rr.out.cell 10
          have r11_ : X3.cell? ⟨G1, 11, none⟩ = some (.int .i64 0) := rr.out.cell 11
          have g0_ := rr.out.free 0
          have g1_ := rr.out.free 1
          have g2_ := rr.out.free 2
          have g3_ := rr.out.free 3
          have g4_ := rr.out.free 4
          have g5_ := rr.out.free 5
          have g6_ := rr.out.free 6
          have g7_ := rr.out.free 7
          have g8_ := rr.out.free 8
          have g9_ := rr.out.free 9
          have g10_ := rr.out.free 10
          have g11_ := rr.out.free 11
          go_simp
          have ho : Only G1 X3 ((((((((((((X3.setCell ⟨G1, 0, none⟩ (.int .i64 1)).setCell ⟨G1, 1, none⟩ (.string pa)).setCell ⟨G1, 2, none⟩ (.string pb)).setCell ⟨G1, 3, none⟩ (.int .i64 n)).setCell ⟨G1, 4, none⟩ (.slice qa 0 qk)).setCell ⟨G1, 5, none⟩ (.int .i64 0)).setCell ⟨G1, 6, none⟩ (.int .i64 0)).setCell ⟨G1, 7, none⟩ (.string ⟨#[]⟩)).setCell ⟨G1, 8, none⟩ (.string ⟨#[]⟩)).setCell ⟨G1, 9, none⟩ (.int .i64 0)).setCell ⟨G1, 10, none⟩ (.slice ta 0 tk)).setCell ⟨G1, 11, none⟩ (.int .i64 0)) := (putMain_only X3 G1 _ _ _ _ _ _).trans (putLame_only _ G1 _ _ _ _ _ _)
          have hb2 : Below w4.heap.size w4 ((((((((((((X3.setCell ⟨G1, 0, none⟩ (.int .i64 1)).setCell ⟨G1, 1, none⟩ (.string pa)).setCell ⟨G1, 2, none⟩ (.string pb)).setCell ⟨G1, 3, none⟩ (.int .i64 n)).setCell ⟨G1, 4, none⟩ (.slice qa 0 qk)).setCell ⟨G1, 5, none⟩ (.int .i64 0)).setCell ⟨G1, 6, none⟩ (.int .i64 0)).setCell ⟨G1, 7, none⟩ (.string ⟨#[]⟩)).setCell ⟨G1, 8, none⟩ (.string ⟨#[]⟩)).setCell ⟨G1, 9, none⟩ (.int .i64 0)).setCell ⟨G1, 10, none⟩ (.slice ta 0 tk)).setCell ⟨G1, 11, none⟩ (.int .i64 0)) := hHeld.out.2.2.trans (ho.below hloG1 hHeld.out.2.2.size)
          have hcl : ((((((((((((X3.setCell ⟨G1, 0, none⟩ (.int .i64 1)).setCell ⟨G1, 1, none⟩ (.string pa)).setCell ⟨G1, 2, none⟩ (.string pb)).setCell ⟨G1, 3, none⟩ (.int .i64 n)).setCell ⟨G1, 4, none⟩ (.slice qa 0 qk)).setCell ⟨G1, 5, none⟩ (.int .i64 0)).setCell ⟨G1, 6, none⟩ (.int .i64 0)).setCell ⟨G1, 7, none⟩ (.string ⟨#[]⟩)).setCell ⟨G1, 8, none⟩ (.string ⟨#[]⟩)).setCell ⟨G1, 9, none⟩ (.int .i64 0)).setCell ⟨G1, 10, none⟩ (.slice ta 0 tk)).setCell ⟨G1, 11, none⟩ (.int .i64 0)).cell? ⟨gl, ol + j, none⟩ = some (.string bd) := by rw [hb2.cell (p := ⟨gl, ol + j, none⟩) hgl4]; exact CC.out _ D1.out.bw
          refine hK.out _ _ (Lib.hid ⟨hHeld.out.1.only ho (by omega), hcl, hb2⟩) (fun hHeld => ?_)
          replace O1 := Lib.hid (own_only O1.out ho (row_off flatIntK O1.out rr.out (by decide)))
          replace O2 := Lib.hid (own_only O2.out ho (row_off flatIntK O2.out rr.out (by decide)))
          replace O3 := Lib.hid (own_only O3.out ho (row_off flatIntK O3.out rr.out (by decide)))
          replace rp := Lib.hid (rp.out.only ho hne)
          replace rr := Lib.hid (putBoth rr.out (.int .i64 1) (.string pa) (.string pb) (.int .i64 n) (.slice qa 0 qk) (.int .i64 0) (.int .i64 0) (.string ⟨#[]⟩) (.string ⟨#[]⟩) (.int .i64 0) (.slice ta 0 tk) (.int .i64 0))
          clear hK K ho hb2 hcl r0_ g0_ r1_ g1_ r2_ g2_ r3_ g3_ r4_ g4_ r5_ g5_ r6_ g6_ r7_ g7_ r8_ g8_ r9_ g9_ r10_ g10_ r11_ g11_
          generalize ((((((((((((X3.setCell ⟨G1, 0, none⟩ (.int .i64 1)).setCell ⟨G1, 1, none⟩ (.string pa)).setCell ⟨G1, 2, none⟩ (.string pb)).setCell ⟨G1, 3, none⟩ (.int .i64 n)).setCell ⟨G1, 4, none⟩ (.slice qa 0 qk)).setCell ⟨G1, 5, none⟩ (.int .i64 0)).setCell ⟨G1, 6, none⟩ (.int .i64 0)).setCell ⟨G1, 7, none⟩ (.string ⟨#[]⟩)).setCell ⟨G1, 8, none⟩ (.string ⟨#[]⟩)).setCell ⟨G1, 9, none⟩ (.int .i64 0)).setCell ⟨G1, 10, none⟩ (.slice ta 0 tk)).setCell ⟨G1, 11, none⟩ (.int .i64 0)) = X4 at *
          try simp only [Act.put, List.getElem_toArray, List.getElem_cons_succ, List.getElem_cons_zero, List.setIfInBounds_toArray, List.set_cons_zero, List.set_cons_succ]
          refine wpAnyH_ready (rs := [13]) (by kernel_rfl) (by simp) ?_
          refine AllReadyH.cons rfl (fun K hK => ?_) AllReadyH.nil
          have hne2 : G1 ≠ G2 := var_ne rr.out rp.out (by decide)
          have r0_ : X4.cell? ⟨G2, 0, none⟩ = some (.int .i64 0) := rp.out.cell 0
          have r1_ : X4.cell? ⟨G2, 1, none⟩ = some (.int .i64 0) := rp.out.cell 1
          have r2_ : X4.cell? ⟨G2, 2, none⟩ = some (.int .i64 0) := rp.out.cell 2
          have r3_ : X4.cell? ⟨G2, 3, none⟩ = some (.int .i64 0) := rp.out.cell 3
          have r4_ : X4.cell? ⟨G2, 4, none⟩ = some (.int .i64 0) := rp.out.cell 4
          have r5_ : X4.cell? ⟨G2, 5, none⟩ = some (.slice none 0 0) := rp.out.cell 5
          have r6_ : X4.cell? ⟨G2, 6, none⟩ = some (.string ⟨#[]⟩) := rp.out.cell 6
          have g0_ := rp.out.free 0
          have g1_ := rp.out.free 1
          have g2_ := rp.out.free 2
          have g3_ := rp.out.free 3
          have g4_ := rp.out.free 4
          have g5_ := rp.out.free 5
          have g6_ := rp.out.free 6
          go_simp
          have ho : Only G2 X4 (((((((X4.setCell ⟨G2, 0, none⟩ (.int .i64 3)).setCell ⟨G2, 1, none⟩ (.int .i64 1)).setCell ⟨G2, 2, none⟩ (.int .i64 1)).setCell ⟨G2, 3, none⟩ (.int .i64 2)).setCell ⟨G2, 4, none⟩ (.int .i64 n)).setCell ⟨G2, 5, none⟩ (.slice ka 0 kk)).setCell ⟨G2, 6, none⟩ (.string lk)) := (((((((Only.setCell 0 (.int .i64 3) : Only G2 X4 _).trans (Only.setCell 1 (.int .i64 1))).trans (Only.setCell 2 (.int .i64 1))).trans (Only.setCell 3 (.int .i64 2))).trans (Only.setCell 4 (.int .i64 n))).trans (Only.setCell 5 (.slice ka 0 kk))).trans (Only.setCell 6 (.string lk)))
          have hb2 : Below w4.heap.size w4 (((((((X4.setCell ⟨G2, 0, none⟩ (.int .i64 3)).setCell ⟨G2, 1, none⟩ (.int .i64 1)).setCell ⟨G2, 2, none⟩ (.int .i64 1)).setCell ⟨G2, 3, none⟩ (.int .i64 2)).setCell ⟨G2, 4, none⟩ (.int .i64 n)).setCell ⟨G2, 5, none⟩ (.slice ka 0 kk)).setCell ⟨G2, 6, none⟩ (.string lk)) := hHeld.out.2.2.trans (ho.below hloG2 hHeld.out.2.2.size)
          have hcl : (((((((X4.setCell ⟨G2, 0, none⟩ (.int .i64 3)).setCell ⟨G2, 1, none⟩ (.int .i64 1)).setCell ⟨G2, 2, none⟩ (.int .i64 1)).setCell ⟨G2, 3, none⟩ (.int .i64 2)).setCell ⟨G2, 4, none⟩ (.int .i64 n)).setCell ⟨G2, 5, none⟩ (.slice ka 0 kk)).setCell ⟨G2, 6, none⟩ (.string lk)).cell? ⟨gl, ol + j, none⟩ = some (.string bd) := by rw [hb2.cell (p := ⟨gl, ol + j, none⟩) hgl4]; exact CC.out _ D1.out.bw
          refine hK.out _ _ (Lib.hid ⟨hHeld.out.1.only ho (by omega), hcl, hb2⟩) (fun hHeld => ?_)
          replace O1 := Lib.hid (own_only O1.out ho (row_off flatIntK O1.out rp.out (by decide)))
          replace O2 := Lib.hid (own_only O2.out ho (row_off flatIntK O2.out rp.out (by decide)))
          replace O3 := Lib.hid (own_only O3.out ho (row_off flatIntK O3.out rp.out (by decide)))
          replace rr := Lib.hid (rr.out.only ho hne2)
          replace rp := Lib.hid (putSeven rp.out (.int .i64 3) (.int .i64 1) (.int .i64 1) (.int .i64 2) (.int .i64 n) (.slice ka 0 kk) (.string lk))
          clear hK K ho hb2 hcl r0_ g0_ r1_ g1_ r2_ g2_ r3_ g3_ r4_ g4_ r5_ g5_ r6_ g6_
          generalize (((((((X4.setCell ⟨G2, 0, none⟩ (.int .i64 3)).setCell ⟨G2, 1, none⟩ (.int .i64 1)).setCell ⟨G2, 2, none⟩ (.int .i64 1)).setCell ⟨G2, 3, none⟩ (.int .i64 2)).setCell ⟨G2, 4, none⟩ (.int .i64 n)).setCell ⟨G2, 5, none⟩ (.slice ka 0 kk)).setCell ⟨G2, 6, none⟩ (.string lk)) = X5 at *
          try simp only [Act.put, List.getElem_toArray, List.getElem_cons_succ, List.getElem_cons_zero, List.setIfInBounds_toArray, List.set_cons_zero, List.set_cons_succ]
          refine wpAnyH_take (i := 14) (v := ?_) rfl (by kernel_rfl) (by kernel_rfl) (by kernel_rfl) (fun _ _ _ h => h) (Or.inl ⟨by kernel_rfl, ?_⟩) hHeld ?_
          rotate_left
          · intro X hX
            first | (go_simp; done) | (go_simp; with_reducible rfl)
          try simp only [Act.put, List.getElem_toArray, List.getElem_cons_succ, List.getElem_cons_zero, List.setIfInBounds_toArray, List.set_cons_zero, List.set_cons_succ]
          refine wpAnyH_done (by kernel_rfl) ?_ _
          have hz := hHeld.out.2.2
          clear hHeld
          go_wp2_with fail
          go_meet
          exact ⟨G1, G2, qa, qk, ta, tk, ka, kk, rfl, rfl, rfl, Lib.hid ⟨rr.out, rp.out, ⟨_, O1.out⟩, ⟨_, O2.out⟩, layIntS.read O3.out, hz⟩⟩
        · go_simp
          have hal : Below X1.heap.size X1 (X1.alloc (.cells #[.int .i64 0, .int .i64 0, .int .i64 0, .int .i64 0, .int .i64 0, .slice none 0 0, .string ⟨#[]⟩] SPkT)) := (Below.refl _ _).alloc (Nat.le_refl _) _
          have hloG2 : w4.heap.size ≤ X1.heap.size := hHeld.out.2.2.size
          refine hK.out _ _ (qv _ _ hHeld hal) (fun hHeld => ?_)
          clear hK K
          have hb := Lib.hid hal
          replace O1 := Lib.hid (layIntS.next O1.out hb.out)
          replace O2 := Lib.hid (layIntS.next O2.out hb.out)
          replace O3 := Lib.hid (layIntS.next O3.out hb.out)
          have rp := Lib.hid (VarA.new X1 SPkT #[.int .i64 0, .int .i64 0, .int .i64 0, .int .i64 0, .int .i64 0, .slice none 0 0, .string ⟨#[]⟩])
          clear hal hb
          generalize X1.alloc (.cells #[.int .i64 0, .int .i64 0, .int .i64 0, .int .i64 0, .int .i64 0, .slice none 0 0, .string ⟨#[]⟩] SPkT) = X2 at *
          generalize X1.heap.size = G2 at *
          try simp only [Act.put, List.getElem_toArray, List.getElem_cons_succ, List.getElem_cons_zero, List.setIfInBounds_toArray, List.set_cons_zero, List.set_cons_succ]
          refine wpAnyH_ready (rs := [10]) (by kernel_rfl) (by simp) ?_
          refine AllReadyH.cons rfl (fun K hK => ?_) AllReadyH.nil
          go_simp
          have hal : Below X2.heap.size X2 (X2.alloc (.cells #[.int .i64 0, .string ⟨#[]⟩, .string ⟨#[]⟩, .int .i64 0, .slice none 0 0, .int .i64 0, .int .i64 0, .string ⟨#[]⟩, .string ⟨#[]⟩, .int .i64 0, .slice none 0 0, .int .i64 0] SlotsT)) := (Below.refl _ _).alloc (Nat.le_refl _) _
          have hloG1 : w4.heap.size ≤ X2.heap.size := hHeld.out.2.2.size
          refine hK.out _ _ (qv _ _ hHeld hal) (fun hHeld => ?_)
          clear hK K
          have hb := Lib.hid hal
          replace rp := Lib.hid (rp.out.next hb.out)
          replace O1 := Lib.hid (layIntS.next O1.out hb.out)
          replace O2 := Lib.hid (layIntS.next O2.out hb.out)
          replace O3 := Lib.hid (layIntS.next O3.out hb.out)
          have rr := Lib.hid (VarA.new X2 SlotsT #[.int .i64 0, .string ⟨#[]⟩, .string ⟨#[]⟩, .int .i64 0, .slice none 0 0, .int .i64 0, .int .i64 0, .string ⟨#[]⟩, .string ⟨#[]⟩, .int .i64 0, .slice none 0 0, .int .i64 0])
          clear hal hb
          generalize X2.alloc (.cells #[.int .i64 0, .string ⟨#[]⟩, .string ⟨#[]⟩, .int .i64 0, .slice none 0 0, .int .i64 0, .int .i64 0, .string ⟨#[]⟩, .string ⟨#[]⟩, .int .i64 0, .slice none 0 0, .int .i64 0] SlotsT) = X3 at *
          generalize X2.heap.size = G1 at *
          try simp only [Act.put, List.getElem_toArray, List.getElem_cons_succ, List.getElem_cons_zero, List.setIfInBounds_toArray, List.set_cons_zero, List.set_cons_succ]
          refine wpAnyH_ready (rs := [12]) (by kernel_rfl) (by simp) ?_
          refine AllReadyH.cons rfl (fun K hK => ?_) AllReadyH.nil
          have hne : G2 ≠ G1 := var_ne rp.out rr.out (by decide)
          have r0_ : X3.cell? ⟨G1, 0, none⟩ = some (.int .i64 0) := rr.out.cell 0
          have r1_ : X3.cell? ⟨G1, 1, none⟩ = some (.string ⟨#[]⟩) := rr.out.cell 1
          have r2_ : X3.cell? ⟨G1, 2, none⟩ = some (.string ⟨#[]⟩) := rr.out.cell 2
          have r3_ : X3.cell? ⟨G1, 3, none⟩ = some (.int .i64 0) := rr.out.cell 3
          have r4_ : X3.cell? ⟨G1, 4, none⟩ = some (.slice none 0 0) := rr.out.cell 4
          have r5_ : X3.cell? ⟨G1, 5, none⟩ = some (.int .i64 0) := rr.out.cell 5
          have r6_ : X3.cell? ⟨G1, 6, none⟩ = some (.int .i64 0) := rr.out.cell 6
          have r7_ : X3.cell? ⟨G1, 7, none⟩ = some (.string ⟨#[]⟩) := rr.out.cell 7
          have r8_ : X3.cell? ⟨G1, 8, none⟩ = some (.string ⟨#[]⟩) := rr.out.cell 8
          have r9_ : X3.cell? ⟨G1, 9, none⟩ = some (.int .i64 0) := rr.out.cell 9
          have r10_ : X3.cell? ⟨G1, 10, none⟩ = some (.slice none 0 0) := rr.out.cell 10
          have r11_ : X3.cell? ⟨G1, 11, none⟩ = some (.int .i64 0) := rr.out.cell 11
          have g0_ := rr.out.free 0
          have g1_ := rr.out.free 1
          have g2_ := rr.out.free 2
          have g3_ := rr.out.free 3
          have g4_ := rr.out.free 4
          have g5_ := rr.out.free 5
          have g6_ := rr.out.free 6
          have g7_ := rr.out.free 7
          have g8_ := rr.out.free 8
          have g9_ := rr.out.free 9
          have g10_ := rr.out.free 10
          have g11_ := rr.out.free 11
          go_simp
          have ho : Only G1 X3 ((((((((((((X3.setCell ⟨G1, 0, none⟩ (.int .i64 1)).setCell ⟨G1, 1, none⟩ (.string pa)).setCell ⟨G1, 2, none⟩ (.string pb)).setCell ⟨G1, 3, none⟩ (.int .i64 n)).setCell ⟨G1, 4, none⟩ (.slice qa 0 qk)).setCell ⟨G1, 5, none⟩ (.int .i64 0)).setCell ⟨G1, 6, none⟩ (.int .i64 0)).setCell ⟨G1, 7, none⟩ (.string ⟨#[]⟩)).setCell ⟨G1, 8, none⟩ (.string ⟨#[]⟩)).setCell ⟨G1, 9, none⟩ (.int .i64 0)).setCell ⟨G1, 10, none⟩ (.slice ta 0 tk)).setCell ⟨G1, 11, none⟩ (.int .i64 0)) := (putMain_only X3 G1 _ _ _ _ _ _).trans (putLame_only _ G1 _ _ _ _ _ _)
          have hb2 : Below w4.heap.size w4 ((((((((((((X3.setCell ⟨G1, 0, none⟩ (.int .i64 1)).setCell ⟨G1, 1, none⟩ (.string pa)).setCell ⟨G1, 2, none⟩ (.string pb)).setCell ⟨G1, 3, none⟩ (.int .i64 n)).setCell ⟨G1, 4, none⟩ (.slice qa 0 qk)).setCell ⟨G1, 5, none⟩ (.int .i64 0)).setCell ⟨G1, 6, none⟩ (.int .i64 0)).setCell ⟨G1, 7, none⟩ (.string ⟨#[]⟩)).setCell ⟨G1, 8, none⟩ (.string ⟨#[]⟩)).setCell ⟨G1, 9, none⟩ (.int .i64 0)).setCell ⟨G1, 10, none⟩ (.slice ta 0 tk)).setCell ⟨G1, 11, none⟩ (.int .i64 0)) := hHeld.out.2.2.trans (ho.below hloG1 hHeld.out.2.2.size)
          have hcl : ((((((((((((X3.setCell ⟨G1, 0, none⟩ (.int .i64 1)).setCell ⟨G1, 1, none⟩ (.string pa)).setCell ⟨G1, 2, none⟩ (.string pb)).setCell ⟨G1, 3, none⟩ (.int .i64 n)).setCell ⟨G1, 4, none⟩ (.slice qa 0 qk)).setCell ⟨G1, 5, none⟩ (.int .i64 0)).setCell ⟨G1, 6, none⟩ (.int .i64 0)).setCell ⟨G1, 7, none⟩ (.string ⟨#[]⟩)).setCell ⟨G1, 8, none⟩ (.string ⟨#[]⟩)).setCell ⟨G1, 9, none⟩ (.int .i64 0)).setCell ⟨G1, 10, none⟩ (.slice ta 0 tk)).setCell ⟨G1, 11, none⟩ (.int .i64 0)).cell? ⟨gl, ol + j, none⟩ = some (.string bd) := by rw [hb2.cell (p := ⟨gl, ol + j, none⟩) hgl4]; exact CC.out _ D1.out.bw
          refine hK.out _ _ (Lib.hid ⟨hHeld.out.1.only ho (by omega), hcl, hb2⟩) (fun hHeld => ?_)
          replace O1 := Lib.hid (own_only O1.out ho (row_off flatIntK O1.out rr.out (by decide)))
          replace O2 := Lib.hid (own_only O2.out ho (row_off flatIntK O2.out rr.out (by decide)))
          replace O3 := Lib.hid (own_only O3.out ho (row_off flatIntK O3.out rr.out (by decide)))
          replace rp := Lib.hid (rp.out.only ho hne)
          replace rr := Lib.hid (putBoth rr.out (.int .i64 1) (.string pa) (.string pb) (.int .i64 n) (.slice qa 0 qk) (.int .i64 0) (.int .i64 0) (.string ⟨#[]⟩) (.string ⟨#[]⟩) (.int .i64 0) (.slice ta 0 tk) (.int .i64 0))
          clear hK K ho hb2 hcl r0_ g0_ r1_ g1_ r2_ g2_ r3_ g3_ r4_ g4_ r5_ g5_ r6_ g6_ r7_ g7_ r8_ g8_ r9_ g9_ r10_ g10_ r11_ g11_
          generalize ((((((((((((X3.setCell ⟨G1, 0, none⟩ (.int .i64 1)).setCell ⟨G1, 1, none⟩ (.string pa)).setCell ⟨G1, 2, none⟩ (.string pb)).setCell ⟨G1, 3, none⟩ (.int .i64 n)).setCell ⟨G1, 4, none⟩ (.slice qa 0 qk)).setCell ⟨G1, 5, none⟩ (.int .i64 0)).setCell ⟨G1, 6, none⟩ (.int .i64 0)).setCell ⟨G1, 7, none⟩ (.string ⟨#[]⟩)).setCell ⟨G1, 8, none⟩ (.string ⟨#[]⟩)).setCell ⟨G1, 9, none⟩ (.int .i64 0)).setCell ⟨G1, 10, none⟩ (.slice ta 0 tk)).setCell ⟨G1, 11, none⟩ (.int .i64 0)) = X4 at *
          try simp only [Act.put, List.getElem_toArray, List.getElem_cons_succ, List.getElem_cons_zero, List.setIfInBounds_toArray, List.set_cons_zero, List.set_cons_succ]
          refine wpAnyH_ready (rs := [13]) (by kernel_rfl) (by simp) ?_
          refine AllReadyH.cons rfl (fun K hK => ?_) AllReadyH.nil
          have hne2 : G1 ≠ G2 := var_ne rr.out rp.out (by decide)
          have r0_ : X4.cell? ⟨G2, 0, none⟩ = some (.int .i64 0) := rp.out.cell 0
          have r1_ : X4.cell? ⟨G2, 1, none⟩ = some (.int .i64 0) := rp.out.cell 1
          have r2_ : X4.cell? ⟨G2, 2, none⟩ = some (.int .i64 0) := rp.out.cell 2
          have r3_ : X4.cell? ⟨G2, 3, none⟩ = some (.int .i64 0) := rp.out.cell 3
          have r4_ : X4.cell? ⟨G2, 4, none⟩ = some (.int .i64 0) := rp.out.cell 4
          have r5_ : X4.cell? ⟨G2, 5, none⟩ = some (.slice none 0 0) := rp.out.cell 5
          have r6_ : X4.cell? ⟨G2, 6, none⟩ = some (.string ⟨#[]⟩) := rp.out.cell 6
          have g0_ := rp.out.free 0
          have g1_ := rp.out.free 1
          have g2_ := rp.out.free 2
          have g3_ := rp.out.free 3
          have g4_ := rp.out.free 4
          have g5_ := rp.out.free 5
          have g6_ := rp.out.free 6
          go_simp
          have ho : Only G2 X4 (((((((X4.setCell ⟨G2, 0, none⟩ (.int .i64 3)).setCell ⟨G2, 1, none⟩ (.int .i64 1)).setCell ⟨G2, 2, none⟩ (.int .i64 1)).setCell ⟨G2, 3, none⟩ (.int .i64 2)).setCell ⟨G2, 4, none⟩ (.int .i64 n)).setCell ⟨G2, 5, none⟩ (.slice ka 0 kk)).setCell ⟨G2, 6, none⟩ (.string lk)) := (((((((Only.setCell 0 (.int .i64 3) : Only G2 X4 _).trans (Only.setCell 1 (.int .i64 1))).trans (Only.setCell 2 (.int .i64 1))).trans (Only.setCell 3 (.int .i64 2))).trans (Only.setCell 4 (.int .i64 n))).trans (Only.setCell 5 (.slice ka 0 kk))).trans (Only.setCell 6 (.string lk)))
          have hb2 : Below w4.heap.size w4 (((((((X4.setCell ⟨G2, 0, none⟩ (.int .i64 3)).setCell ⟨G2, 1, none⟩ (.int .i64 1)).setCell ⟨G2, 2, none⟩ (.int .i64 1)).setCell ⟨G2, 3, none⟩ (.int .i64 2)).setCell ⟨G2, 4, none⟩ (.int .i64 n)).setCell ⟨G2, 5, none⟩ (.slice ka 0 kk)).setCell ⟨G2, 6, none⟩ (.string lk)) := hHeld.out.2.2.trans (ho.below hloG2 hHeld.out.2.2.size)
          have hcl : (((((((X4.setCell ⟨G2, 0, none⟩ (.int .i64 3)).setCell ⟨G2, 1, none⟩ (.int .i64 1)).setCell ⟨G2, 2, none⟩ (.int .i64 1)).setCell ⟨G2, 3, none⟩ (.int .i64 2)).setCell ⟨G2, 4, none⟩ (.int .i64 n)).setCell ⟨G2, 5, none⟩ (.slice ka 0 kk)).setCell ⟨G2, 6, none⟩ (.string lk)).cell? ⟨gl, ol + j, none⟩ = some (.string bd) := by rw [hb2.cell (p := ⟨gl, ol + j, none⟩) hgl4]; exact CC.out _ D1.out.bw
          refine hK.out _ _ (Lib.hid ⟨hHeld.out.1.only ho (by omega), hcl, hb2⟩) (fun hHeld => ?_)
          replace O1 := Lib.hid (own_only O1.out ho (row_off flatIntK O1.out rp.out (by decide)))
          replace O2 := Lib.hid (own_only O2.out ho (row_off flatIntK O2.out rp.out (by decide)))
          replace O3 := Lib.hid (own_only O3.out ho (row_off flatIntK O3.out rp.out (by decide)))
          replace rr := Lib.hid (rr.out.only ho hne2)
          replace rp := Lib.hid (putSeven rp.out (.int .i64 3) (.int .i64 1) (.int .i64 1) (.int .i64 2) (.int .i64 n) (.slice ka 0 kk) (.string lk))
          clear hK K ho hb2 hcl r0_ g0_ r1_ g1_ r2_ g2_ r3_ g3_ r4_ g4_ r5_ g5_ r6_ g6_
          generalize (((((((X4.setCell ⟨G2, 0, none⟩ (.int .i64 3)).setCell ⟨G2, 1, none⟩ (.int .i64 1)).setCell ⟨G2, 2, none⟩ (.int .i64 1)).setCell ⟨G2, 3, none⟩ (.int .i64 2)).setCell ⟨G2, 4, none⟩ (.int .i64 n)).setCell ⟨G2, 5, none⟩ (.slice ka 0 kk)).setCell ⟨G2, 6, none⟩ (.string lk)) = X5 at *
          try simp only [Act.put, List.getElem_toArray, List.getElem_cons_succ, List.getElem_cons_zero, List.setIfInBounds_toArray, List.set_cons_zero, List.set_cons_succ]
          refine wpAnyH_take (i := 14) (v := ?_) rfl (by kernel_rfl) (by kernel_rfl) (by kernel_rfl) (fun _ _ _ h => h) (Or.inl ⟨by kernel_rfl, ?_⟩) hHeld ?_
          rotate_left
          · intro X hX
            first | (go_simp; done) | (go_simp; with_reducible rfl)
          try simp only [Act.put, List.getElem_toArray, List.getElem_cons_succ, List.getElem_cons_zero, List.setIfInBounds_toArray, List.set_cons_zero, List.set_cons_succ]
          refine wpAnyH_done (by kernel_rfl) ?_ _
          have hz := hHeld.out.2.2
          clear hHeld
          go_wp2_with fail
          go_meet
          exact ⟨G1, G2, qa, qk, ta, tk, ka, kk, rfl, rfl, rfl, Lib.hid ⟨rr.out, rp.out, ⟨_, O1.out⟩, ⟨_, O2.out⟩, layIntS.read O3.out, hz⟩⟩
      · go_simp
        have hal : Below X0.heap.size X0 (X0.alloc (.cells #[.int .i64 0, .string ⟨#[]⟩, .string ⟨#[]⟩, .int .i64 0, .slice none 0 0, .int .i64 0, .int .i64 0, .string ⟨#[]⟩, .string ⟨#[]⟩, .int .i64 0, .slice none 0 0, .int .i64 0] SlotsT)) := (Below.refl _ _).alloc (Nat.le_refl _) _
        have hloG1 : w4.heap.size ≤ X0.heap.size := hHeld.out.2.2.size
        refine hK.out _ _ (qv _ _ hHeld hal) (fun hHeld => ?_)
        clear hK K
        have hb := Lib.hid hal
        have rr := Lib.hid (VarA.new X0 SlotsT #[.int .i64 0, .string ⟨#[]⟩, .string ⟨#[]⟩, .int .i64 0, .slice none 0 0, .int .i64 0, .int .i64 0, .string ⟨#[]⟩, .string ⟨#[]⟩, .int .i64 0, .slice none 0 0, .int .i64 0])
        clear hal hb
        generalize X0.alloc (.cells #[.int .i64 0, .string ⟨#[]⟩, .string ⟨#[]⟩, .int .i64 0, .slice none 0 0, .int .i64 0, .int .i64 0, .string ⟨#[]⟩, .string ⟨#[]⟩, .int .i64 0, .slice none 0 0, .int .i64 0] SlotsT) = X1 at *
        generalize X0.heap.size = G1 at *
        try simp only [Act.put, List.getElem_toArray, List.getElem_cons_succ, List.getElem_cons_zero, List.setIfInBounds_toArray, List.set_cons_zero, List.set_cons_succ]
        refine wpAnyH_ready (rs := [5, 11]) (by kernel_rfl) (by simp) ?_
        refine AllReadyH.cons rfl (fun K hK => ?_) (AllReadyH.cons rfl (fun K hK => ?_) AllReadyH.nil)
        · go_simp
          go_wp2_with (go_at_call 10; refine (KS.out X1 (LL.out _ (BE.out.trans (hHeld.out.2.2.mono BE.out.size))) (layIntS.below RA.out hHeld.out.2.2) (layIntS.below RB.out hHeld.out.2.2)).mono ?_; rintro e X2 ⟨v1_, v2_, v3_, f, g, h, rfl, -, o1, o2, o3, hb0⟩; obtain ⟨qa, qk, rfl⟩ := (show ∃ a c, v1_ = .slice a 0 c from rows_form (layIntS.read o1)); obtain ⟨ta, tk, rfl⟩ := (show ∃ a c, v2_ = .slice a 0 c from rows_form (layIntS.read o2)); obtain ⟨ka, kk, rfl⟩ := (show ∃ a c, v3_ = .slice a 0 c from rows_form (layIntS.read o3)); have hlz : w4.heap.size ≤ X1.heap.size := hHeld.out.2.2.size; have hS := qv _ _ hHeld hb0; have hb := Lib.hid hb0; have O1 := Lib.hid (layIntS.lower o1 hlz); have O2 := Lib.hid (layIntS.lower o2 hlz); have O3 := Lib.hid (layIntS.lower o3 hlz); clear hb0 o1 o2 o3 hlz)
          refine hK.out _ _ hS (fun hHeld => ?_)
          clear hK K hS
          replace rr := Lib.hid (rr.out.next hb.out)
          clear hb
          try simp only [Act.put, List.getElem_toArray, List.getElem_cons_succ, List.getElem_cons_zero, List.setIfInBounds_toArray, List.set_cons_zero, List.set_cons_succ]
          refine wpAnyH_take (i := 6) (v := ?_) rfl (by kernel_rfl) (by kernel_rfl) (by kernel_rfl) (fun _ _ _ h => h) (Or.inl ⟨by kernel_rfl, ?_⟩) hHeld ?_
          rotate_left
          · intro X hX
            first | (go_simp; done) | (go_simp; with_reducible rfl)
          try simp only [Act.put, List.getElem_toArray, List.getElem_cons_succ, List.getElem_cons_zero, List.setIfInBounds_toArray, List.set_cons_zero, List.set_cons_succ]
          refine wpAnyH_take (i := 7) (v := ?_) rfl (by kernel_rfl) (by kernel_rfl) (by kernel_rfl) (fun _ _ _ h => h) (Or.inl ⟨by kernel_rfl, ?_⟩) hHeld ?_
          rotate_left
          · intro X hX
            first | (go_simp; done) | (go_simp; with_reducible rfl)
          try simp only [Act.put, List.getElem_toArray, List.getElem_cons_succ, List.getElem_cons_zero, List.setIfInBounds_toArray, List.set_cons_zero, List.set_cons_succ]
          refine wpAnyH_take (i := 8) (v := ?_) rfl (by kernel_rfl) (by kernel_rfl) (by kernel_rfl) (fun _ _ _ h => h) (Or.inl ⟨by kernel_rfl, ?_⟩) hHeld ?_
          rotate_left
          · intro X hX
            first | (go_simp; done) | (go_simp; with_reducible rfl)
          try simp only [Act.put, List.getElem_toArray, List.getElem_cons_succ, List.getElem_cons_zero, List.setIfInBounds_toArray, List.set_cons_zero, List.set_cons_succ]
          refine wpAnyH_take (i := 9) (v := ?_) rfl (by kernel_rfl) (by kernel_rfl) (by kernel_rfl) (fun _ _ _ h => h) (Or.inl ⟨by kernel_rfl, ?_⟩) hHeld ?_
          rotate_left
          · intro X hX
            first | (go_simp; done) | (go_simp; with_reducible rfl)
          try simp only [Act.put, List.getElem_toArray, List.getElem_cons_succ, List.getElem_cons_zero, List.setIfInBounds_toArray, List.set_cons_zero, List.set_cons_succ]
          refine wpAnyH_ready (rs := [11]) (by kernel_rfl) (by simp) ?_
          refine AllReadyH.cons rfl (fun K hK => ?_) AllReadyH.nil
          go_simp
          have hal : Below X2.heap.size X2 (X2.alloc (.cells #[.int .i64 0, .int .i64 0, .int .i64 0, .int .i64 0, .int .i64 0, .slice none 0 0, .string ⟨#[]⟩] SPkT)) := (Below.refl _ _).alloc (Nat.le_refl _) _
          have hloG2 : w4.heap.size ≤ X2.heap.size := hHeld.out.2.2.size
          refine hK.out _ _ (qv _ _ hHeld hal) (fun hHeld => ?_)
          clear hK K
          have hb := Lib.hid hal
          replace rr := Lib.hid (rr.out.next hb.out)
          replace O1 := Lib.hid (layIntS.next O1.out hb.out)
          replace O2 := Lib.hid (layIntS.next O2.out hb.out)
          replace O3 := Lib.hid (layIntS.next O3.out hb.out)
          have rp := Lib.hid (VarA.new X2 SPkT #[.int .i64 0, .int .i64 0, .int .i64 0, .int .i64 0, .int .i64 0, .slice none 0 0, .string ⟨#[]⟩])
          clear hal hb
          generalize X2.alloc (.cells #[.int .i64 0, .int .i64 0, .int .i64 0, .int .i64 0, .int .i64 0, .slice none 0 0, .string ⟨#[]⟩] SPkT) = X3 at *
          generalize X2.heap.size = G2 at *
          try simp only [Act.put, List.getElem_toArray, List.getElem_cons_succ, List.getElem_cons_zero, List.setIfInBounds_toArray, List.set_cons_zero, List.set_cons_succ]
          refine wpAnyH_ready (rs := [12]) (by kernel_rfl) (by simp) ?_
          refine AllReadyH.cons rfl (fun K hK => ?_) AllReadyH.nil
          have hne : G2 ≠ G1 := var_ne rp.out rr.out (by decide)
          have r0_ : X3.cell? ⟨G1, 0, none⟩ = some (.int .i64 0) := rr.out.cell 0
          have r1_ : X3.cell? ⟨G1, 1, none⟩ = some (.string ⟨#[]⟩) := rr.out.cell 1
          have r2_ : X3.cell? ⟨G1, 2, none⟩ = some (.string ⟨#[]⟩) := rr.out.cell 2
          have r3_ : X3.cell? ⟨G1, 3, none⟩ = some (.int .i64 0) := rr.out.cell 3
          have r4_ : X3.cell? ⟨G1, 4, none⟩ = some (.slice none 0 0) := rr.out.cell 4
          have r5_ : X3.cell? ⟨G1, 5, none⟩ = some (.int .i64 0) := rr.out.cell 5
          have r6_ : X3.cell? ⟨G1, 6, none⟩ = some (.int .i64 0) := rr.out.cell 6
          have r7_ : X3.cell? ⟨G1, 7, none⟩ = some (.string ⟨#[]⟩) := rr.out.cell 7
          have r8_ : X3.cell? ⟨G1, 8, none⟩ = some (.string ⟨#[]⟩) := rr.out.cell 8
          have r9_ : X3.cell? ⟨G1, 9, none⟩ = some (.int .i64 0) := rr.out.cell 9
          have r10_ : X3.cell? ⟨G1, 10, none⟩ = some (.slice none 0 0) := rr.out.cell 10
          have r11_ : X3.cell? ⟨G1, 11, none⟩ = some (.int .i64 0) := rr.out.cell 11
          have g0_ := rr.out.free 0
          have g1_ := rr.out.free 1
          have g2_ := rr.out.free 2
          have g3_ := rr.out.free 3
          have g4_ := rr.out.free 4
          have g5_ := rr.out.free 5
          have g6_ := rr.out.free 6
          have g7_ := rr.out.free 7
          have g8_ := rr.out.free 8
          have g9_ := rr.out.free 9
          have g10_ := rr.out.free 10
          have g11_ := rr.out.free 11
          go_simp
          have ho : Only G1 X3 ((((((((((((X3.setCell ⟨G1, 0, none⟩ (.int .i64 1)).setCell ⟨G1, 1, none⟩ (.string pa)).setCell ⟨G1, 2, none⟩ (.string pb)).setCell ⟨G1, 3, none⟩ (.int .i64 n)).setCell ⟨G1, 4, none⟩ (.slice qa 0 qk)).setCell ⟨G1, 5, none⟩ (.int .i64 0)).setCell ⟨G1, 6, none⟩ (.int .i64 0)).setCell ⟨G1, 7, none⟩ (.string ⟨#[]⟩)).setCell ⟨G1, 8, none⟩ (.string ⟨#[]⟩)).setCell ⟨G1, 9, none⟩ (.int .i64 0)).setCell ⟨G1, 10, none⟩ (.slice ta 0 tk)).setCell ⟨G1, 11, none⟩ (.int .i64 0)) := (putMain_only X3 G1 _ _ _ _ _ _).trans (putLame_only _ G1 _ _ _ _ _ _)
          have hb2 : Below w4.heap.size w4 ((((((((((((X3.setCell ⟨G1, 0, none⟩ (.int .i64 1)).setCell ⟨G1, 1, none⟩ (.string pa)).setCell ⟨G1, 2, none⟩ (.string pb)).setCell ⟨G1, 3, none⟩ (.int .i64 n)).setCell ⟨G1, 4, none⟩ (.slice qa 0 qk)).setCell ⟨G1, 5, none⟩ (.int .i64 0)).setCell ⟨G1, 6, none⟩ (.int .i64 0)).setCell ⟨G1, 7, none⟩ (.string ⟨#[]⟩)).setCell ⟨G1, 8, none⟩ (.string ⟨#[]⟩)).setCell ⟨G1, 9, none⟩ (.int .i64 0)).setCell ⟨G1, 10, none⟩ (.slice ta 0 tk)).setCell ⟨G1, 11, none⟩ (.int .i64 0)) := hHeld.out.2.2.trans (ho.below hloG1 hHeld.out.2.2.size)
          have hcl : ((((((((((((X3.setCell ⟨G1, 0, none⟩ (.int .i64 1)).setCell ⟨G1, 1, none⟩ (.string pa)).setCell ⟨G1, 2, none⟩ (.string pb)).setCell ⟨G1, 3, none⟩ (.int .i64 n)).setCell ⟨G1, 4, none⟩ (.slice qa 0 qk)).setCell ⟨G1, 5, none⟩ (.int .i64 0)).setCell ⟨G1, 6, none⟩ (.int .i64 0)).setCell ⟨G1, 7, none⟩ (.string ⟨#[]⟩)).setCell ⟨G1, 8, none⟩ (.string ⟨#[]⟩)).setCell ⟨G1, 9, none⟩ (.int .i64 0)).setCell ⟨G1, 10, none⟩ (.slice ta 0 tk)).setCell ⟨G1, 11, none⟩ (.int .i64 0)).cell? ⟨gl, ol + j, none⟩ = some (.string bd) := by rw [hb2.cell (p := ⟨gl, ol + j, none⟩) hgl4]; exact CC.out _ D1.out.bw
          refine hK.out _ _ (Lib.hid ⟨hHeld.out.1.only ho (by omega), hcl, hb2⟩) (fun hHeld => ?_)
          replace O1 := Lib.hid (own_only O1.out ho (row_off flatIntK O1.out rr.out (by decide)))
          replace O2 := Lib.hid (own_only O2.out ho (row_off flatIntK O2.out rr.out (by decide)))
          replace O3 := Lib.hid (own_only O3.out ho (row_off flatIntK O3.out rr.out (by decide)))
          replace rp := Lib.hid (rp.out.only ho hne)
          replace rr := Lib.hid (putBoth rr.out (.int .i64 1) (.string pa) (.string pb) (.int .i64 n) (.slice qa 0 qk) (.int .i64 0) (.int .i64 0) (.string ⟨#[]⟩) (.string ⟨#[]⟩) (.int .i64 0) (.slice ta 0 tk) (.int .i64 0))
          clear hK K ho hb2 hcl r0_ g0_ r1_ g1_ r2_ g2_ r3_ g3_ r4_ g4_ r5_ g5_ r6_ g6_ r7_ g7_ r8_ g8_ r9_ g9_ r10_ g10_ r11_ g11_
          generalize ((((((((((((X3.setCell ⟨G1, 0, none⟩ (.int .i64 1)).setCell ⟨G1, 1, none⟩ (.string pa)).setCell ⟨G1, 2, none⟩ (.string pb)).setCell ⟨G1, 3, none⟩ (.int .i64 n)).setCell ⟨G1, 4, none⟩ (.slice qa 0 qk)).setCell ⟨G1, 5, none⟩ (.int .i64 0)).setCell ⟨G1, 6, none⟩ (.int .i64 0)).setCell ⟨G1, 7, none⟩ (.string ⟨#[]⟩)).setCell ⟨G1, 8, none⟩ (.string ⟨#[]⟩)).setCell ⟨G1, 9, none⟩ (.int .i64 0)).setCell ⟨G1, 10, none⟩ (.slice ta 0 tk)).setCell ⟨G1, 11, none⟩ (.int .i64 0)) = X4 at *
          try simp only [Act.put, List.getElem_toArray, List.getElem_cons_succ, List.getElem_cons_zero, List.setIfInBounds_toArray, List.set_cons_zero, List.set_cons_succ]
          refine wpAnyH_ready (rs := [13]) (by kernel_rfl) (by simp) ?_
          refine AllReadyH.cons rfl (fun K hK => ?_) AllReadyH.nil
          have hne2 : G1 ≠ G2 := var_ne rr.out rp.out (by decide)
          have r0_ : X4.cell? ⟨G2, 0, none⟩ = some (.int .i64 0) := rp.out.cell 0
          have r1_ : X4.cell? ⟨G2, 1, none⟩ = some (.int .i64 0) := rp.out.cell 1
          have r2_ : X4.cell? ⟨G2, 2, none⟩ = some (.int .i64 0) := rp.out.cell 2
          have r3_ : X4.cell? ⟨G2, 3, none⟩ = some (.int .i64 0) := rp.out.cell 3
          have r4_ : X4.cell? ⟨G2, 4, none⟩ = some (.int .i64 0) := rp.out.cell 4
          have r5_ : X4.cell? ⟨G2, 5, none⟩ = some (.slice none 0 0) := rp.out.cell 5
          have r6_ : X4.cell? ⟨G2, 6, none⟩ = some (.string ⟨#[]⟩) := rp.out.cell 6
          have g0_ := rp.out.free 0
          have g1_ := rp.out.free 1
          have g2_ := rp.out.free 2
          have g3_ := rp.out.free 3
          have g4_ := rp.out.free 4
          have g5_ := rp.out.free 5
          have g6_ := rp.out.free 6
          go_simp
          have ho : Only G2 X4 (((((((X4.setCell ⟨G2, 0, none⟩ (.int .i64 3)).setCell ⟨G2, 1, none⟩ (.int .i64 1)).setCell ⟨G2, 2, none⟩ (.int .i64 1)).setCell ⟨G2, 3, none⟩ (.int .i64 2)).setCell ⟨G2, 4, none⟩ (.int .i64 n)).setCell ⟨G2, 5, none⟩ (.slice ka 0 kk)).setCell ⟨G2, 6, none⟩ (.string lk)) := (((((((Only.setCell 0 (.int .i64 3) : Only G2 X4 _).trans (Only.setCell 1 (.int .i64 1))).trans (Only.setCell 2 (.int .i64 1))).trans (Only.setCell 3 (.int .i64 2))).trans (Only.setCell 4 (.int .i64 n))).trans (Only.setCell 5 (.slice ka 0 kk))).trans (Only.setCell 6 (.string lk)))
          have hb2 : Below w4.heap.size w4 (((((((X4.setCell ⟨G2, 0, none⟩ (.int .i64 3)).setCell ⟨G2, 1, none⟩ (.int .i64 1)).setCell ⟨G2, 2, none⟩ (.int .i64 1)).setCell ⟨G2, 3, none⟩ (.int .i64 2)).setCell ⟨G2, 4, none⟩ (.int .i64 n)).setCell ⟨G2, 5, none⟩ (.slice ka 0 kk)).setCell ⟨G2, 6, none⟩ (.string lk)) := hHeld.out.2.2.trans (ho.below hloG2 hHeld.out.2.2.size)
          have hcl : (((((((X4.setCell ⟨G2, 0, none⟩ (.int .i64 3)).setCell ⟨G2, 1, none⟩ (.int .i64 1)).setCell ⟨G2, 2, none⟩ (.int .i64 1)).setCell ⟨G2, 3, none⟩ (.int .i64 2)).setCell ⟨G2, 4, none⟩ (.int .i64 n)).setCell ⟨G2, 5, none⟩ (.slice ka 0 kk)).setCell ⟨G2, 6, none⟩ (.string lk)).cell? ⟨gl, ol + j, none⟩ = some (.string bd) := by rw [hb2.cell (p := ⟨gl, ol + j, none⟩) hgl4]; exact CC.out _ D1.out.bw
          refine hK.out _ _ (Lib.hid ⟨hHeld.out.1.only ho (by omega), hcl, hb2⟩) (fun hHeld => ?_)
          replace O1 := Lib.hid (own_only O1.out ho (row_off flatIntK O1.out rp.out (by decide)))
          replace O2 := Lib.hid (own_only O2.out ho (row_off flatIntK O2.out rp.out (by decide)))
          replace O3 := Lib.hid (own_only O3.out ho (row_off flatIntK O3.out rp.out (by decide)))
          replace rr := Lib.hid (rr.out.only ho hne2)
          replace rp := Lib.hid (putSeven rp.out (.int .i64 3) (.int .i64 1) (.int .i64 1) (.int .i64 2) (.int .i64 n) (.slice ka 0 kk) (.string lk))
          clear hK K ho hb2 hcl r0_ g0_ r1_ g1_ r2_ g2_ r3_ g3_ r4_ g4_ r5_ g5_ r6_ g6_
          generalize (((((((X4.setCell ⟨G2, 0, none⟩ (.int .i64 3)).setCell ⟨G2, 1, none⟩ (.int .i64 1)).setCell ⟨G2, 2, none⟩ (.int .i64 1)).setCell ⟨G2, 3, none⟩ (.int .i64 2)).setCell ⟨G2, 4, none⟩ (.int .i64 n)).setCell ⟨G2, 5, none⟩ (.slice ka 0 kk)).setCell ⟨G2, 6, none⟩ (.string lk)) = X5 at *
          try simp only [Act.put, List.getElem_toArray, List.getElem_cons_succ, List.getElem_cons_zero, List.setIfInBounds_toArray, List.set_cons_zero, List.set_cons_succ]
          refine wpAnyH_take (i := 14) (v := ?_) rfl (by kernel_rfl) (by kernel_rfl) (by kernel_rfl) (fun _ _ _ h => h) (Or.inl ⟨by kernel_rfl, ?_⟩) hHeld ?_
          rotate_left
          · intro X hX
            first | (go_simp; done) | (go_simp; with_reducible rfl)
          try simp only [Act.put, List.getElem_toArray, List.getElem_cons_succ, List.getElem_cons_zero, List.setIfInBounds_toArray, List.set_cons_zero, List.set_cons_succ]
          refine wpAnyH_done (by kernel_rfl) ?_ _
          have hz := hHeld.out.2.2
          clear hHeld
          go_wp2_with fail
          go_meet
          exact ⟨G1, G2, qa, qk, ta, tk, ka, kk, rfl, rfl, rfl, Lib.hid ⟨rr.out, rp.out, ⟨_, O1.out⟩, ⟨_, O2.out⟩, layIntS.read O3.out, hz⟩⟩
        · go_simp
          have hal : Below X1.heap.size X1 (X1.alloc (.cells #[.int .i64 0, .int .i64 0, .int .i64 0, .int .i64 0, .int .i64 0, .slice none 0 0, .string ⟨#[]⟩] SPkT)) := (Below.refl _ _).alloc (Nat.le_refl _) _
          have hloG2 : w4.heap.size ≤ X1.heap.size := hHeld.out.2.2.size
          refine hK.out _ _ (qv _ _ hHeld hal) (fun hHeld => ?_)
          clear hK K
          have hb := Lib.hid hal
          replace rr := Lib.hid (rr.out.next hb.out)
          have rp := Lib.hid (VarA.new X1 SPkT #[.int .i64 0, .int .i64 0, .int .i64 0, .int .i64 0, .int .i64 0, .slice none 0 0, .string ⟨#[]⟩])
          clear hal hb
          generalize X1.alloc (.cells #[.int .i64 0, .int .i64 0, .int .i64 0, .int .i64 0, .int .i64 0, .slice none 0 0, .string ⟨#[]⟩] SPkT) = X2 at *
          generalize X1.heap.size = G2 at *
          try simp only [Act.put, List.getElem_toArray, List.getElem_cons_succ, List.getElem_cons_zero, List.setIfInBounds_toArray, List.set_cons_zero, List.set_cons_succ]
          refine wpAnyH_ready (rs := [5]) (by kernel_rfl) (by simp) ?_
          refine AllReadyH.cons rfl (fun K hK => ?_) AllReadyH.nil
          go_simp
          go_wp2_with (go_at_call 10; refine (KS.out X2 (LL.out _ (BE.out.trans (hHeld.out.2.2.mono BE.out.size))) (layIntS.below RA.out hHeld.out.2.2) (layIntS.below RB.out hHeld.out.2.2)).mono ?_; rintro e X3 ⟨v1_, v2_, v3_, f, g, h, rfl, -, o1, o2, o3, hb0⟩; obtain ⟨qa, qk, rfl⟩ := (show ∃ a c, v1_ = .slice a 0 c from rows_form (layIntS.read o1)); obtain ⟨ta, tk, rfl⟩ := (show ∃ a c, v2_ = .slice a 0 c from rows_form (layIntS.read o2)); obtain ⟨ka, kk, rfl⟩ := (show ∃ a c, v3_ = .slice a 0 c from rows_form (layIntS.read o3)); have hlz : w4.heap.size ≤ X2.heap.size := hHeld.out.2.2.size; have hS := qv _ _ hHeld hb0; have hb := Lib.hid hb0; have O1 := Lib.hid (layIntS.lower o1 hlz); have O2 := Lib.hid (layIntS.lower o2 hlz); have O3 := Lib.hid (layIntS.lower o3 hlz); clear hb0 o1 o2 o3 hlz)
          refine hK.out _ _ hS (fun hHeld => ?_)
          clear hK K hS
          replace rr := Lib.hid (rr.out.next hb.out)
          replace rp := Lib.hid (rp.out.next hb.out)
          clear hb
          try simp only [Act.put, List.getElem_toArray, List.getElem_cons_succ, List.getElem_cons_zero, List.setIfInBounds_toArray, List.set_cons_zero, List.set_cons_succ]
          refine wpAnyH_take (i := 6) (v := ?_) rfl (by kernel_rfl) (by kernel_rfl) (by kernel_rfl) (fun _ _ _ h => h) (Or.inl ⟨by kernel_rfl, ?_⟩) hHeld ?_
          rotate_left
          · intro X hX
            first | (go_simp; done) | (go_simp; with_reducible rfl)
          try simp only [Act.put, List.getElem_toArray, List.getElem_cons_succ, List.getElem_cons_zero, List.setIfInBounds_toArray, List.set_cons_zero, List.set_cons_succ]
          refine wpAnyH_take (i := 7) (v := ?_) rfl (by kernel_rfl) (by kernel_rfl) (by kernel_rfl) (fun _ _ _ h => h) (Or.inl ⟨by kernel_rfl, ?_⟩) hHeld ?_
          rotate_left
          · intro X hX
            first | (go_simp; done) | (go_simp; with_reducible rfl)
          try simp only [Act.put, List.getElem_toArray, List.getElem_cons_succ, List.getElem_cons_zero, List.setIfInBounds_toArray, List.set_cons_zero, List.set_cons_succ]
          refine wpAnyH_take (i := 8) (v := ?_) rfl (by kernel_rfl) (by kernel_rfl) (by kernel_rfl) (fun _ _ _ h => h) (Or.inl ⟨by kernel_rfl, ?_⟩) hHeld ?_
          rotate_left
          · intro X hX
            first | (go_simp; done) | (go_simp; with_reducible rfl)
          try simp only [Act.put, List.getElem_toArray, List.getElem_cons_succ, List.getElem_cons_zero, List.setIfInBounds_toArray, List.set_cons_zero, List.set_cons_succ]
          refine wpAnyH_take (i := 9) (v := ?_) rfl (by kernel_rfl) (by kernel_rfl) (by kernel_rfl) (fun _ _ _ h => h) (Or.inl ⟨by kernel_rfl, ?_⟩) hHeld ?_
          rotate_left
          · intro X hX
            first | (go_simp; done) | (go_simp; with_reducible rfl)
          try simp only [Act.put, List.getElem_toArray, List.getElem_cons_succ, List.getElem_cons_zero, List.setIfInBounds_toArray, List.set_cons_zero, List.set_cons_succ]
          refine wpAnyH_ready (rs := [12]) (by kernel_rfl) (by simp) ?_
          refine AllReadyH.cons rfl (fun K hK => ?_) AllReadyH.nil
          have hne : G2 ≠ G1 := var_ne rp.out rr.out (by decide)
          have r0_ : X3.cell? ⟨G1, 0, none⟩ = some (.int .i64 0) := rr.out.cell 0
          have r1_ : X3.cell? ⟨G1, 1, none⟩ = some (.string ⟨#[]⟩) := rr.out.cell 1
          have r2_ : X3.cell? ⟨G1, 2, none⟩ = some (.string ⟨#[]⟩) := rr.out.cell 2
          have r3_ : X3.cell? ⟨G1, 3, none⟩ = some (.int .i64 0) := rr.out.cell 3
          have r4_ : X3.cell? ⟨G1, 4, none⟩ = some (.slice none 0 0) := rr.out.cell 4
          have r5_ : X3.cell? ⟨G1, 5, none⟩ = some (.int .i64 0) := rr.out.cell 5
          have r6_ : X3.cell? ⟨G1, 6, none⟩ = some (.int .i64 0) := rr.out.cell 6
          have r7_ : X3.cell? ⟨G1, 7, none⟩ = some (.string ⟨#[]⟩) := rr.out.cell 7
          have r8_ : X3.cell? ⟨G1, 8, none⟩ = some (.string ⟨#[]⟩) := rr.out.cell 8
          have r9_ : X3.cell? ⟨G1, 9, none⟩ = some (.int .i64 0) := rr.out.cell 9
          have r10_ : X3.cell? ⟨G1, 10, none⟩ = some (.slice none 0 0) := rr.out.cell 10
          have r11_ : X3.cell? ⟨G1, 11, none⟩ = some (.int .i64 0) := rr.out.cell 11
          have g0_ := rr.out.free 0
          have g1_ := rr.out.free 1
          have g2_ := rr.out.free 2
          have g3_ := rr.out.free 3
          have g4_ := rr.out.free 4
          have g5_ := rr.out.free 5
          have g6_ := rr.out.free 6
          have g7_ := rr.out.free 7
          have g8_ := rr.out.free 8
          have g9_ := rr.out.free 9
          have g10_ := rr.out.free 10
          have g11_ := rr.out.free 11
          go_simp
          have ho : Only G1 X3 ((((((((((((X3.setCell ⟨G1, 0, none⟩ (.int .i64 1)).setCell ⟨G1, 1, none⟩ (.string pa)).setCell ⟨G1, 2, none⟩ (.string pb)).setCell ⟨G1, 3, none⟩ (.int .i64 n)).setCell ⟨G1, 4, none⟩ (.slice qa 0 qk)).setCell ⟨G1, 5, none⟩ (.int .i64 0)).setCell ⟨G1, 6, none⟩ (.int .i64 0)).setCell ⟨G1, 7, none⟩ (.string ⟨#[]⟩)).setCell ⟨G1, 8, none⟩ (.string ⟨#[]⟩)).setCell ⟨G1, 9, none⟩ (.int .i64 0)).setCell ⟨G1, 10, none⟩ (.slice ta 0 tk)).setCell ⟨G1, 11, none⟩ (.int .i64 0)) := (putMain_only X3 G1 _ _ _ _ _ _).trans (putLame_only _ G1 _ _ _ _ _ _)
          have hb2 : Below w4.heap.size w4 ((((((((((((X3.setCell ⟨G1, 0, none⟩ (.int .i64 1)).setCell ⟨G1, 1, none⟩ (.string pa)).setCell ⟨G1, 2, none⟩ (.string pb)).setCell ⟨G1, 3, none⟩ (.int .i64 n)).setCell ⟨G1, 4, none⟩ (.slice qa 0 qk)).setCell ⟨G1, 5, none⟩ (.int .i64 0)).setCell ⟨G1, 6, none⟩ (.int .i64 0)).setCell ⟨G1, 7, none⟩ (.string ⟨#[]⟩)).setCell ⟨G1, 8, none⟩ (.string ⟨#[]⟩)).setCell ⟨G1, 9, none⟩ (.int .i64 0)).setCell ⟨G1, 10, none⟩ (.slice ta 0 tk)).setCell ⟨G1, 11, none⟩ (.int .i64 0)) := hHeld.out.2.2.trans (ho.below hloG1 hHeld.out.2.2.size)
          have hcl : ((((((((((((X3.setCell ⟨G1, 0, none⟩ (.int .i64 1)).setCell ⟨G1, 1, none⟩ (.string pa)).setCell ⟨G1, 2, none⟩ (.string pb)).setCell ⟨G1, 3, none⟩ (.int .i64 n)).setCell ⟨G1, 4, none⟩ (.slice qa 0 qk)).setCell ⟨G1, 5, none⟩ (.int .i64 0)).setCell ⟨G1, 6, none⟩ (.int .i64 0)).setCell ⟨G1, 7, none⟩ (.string ⟨#[]⟩)).setCell ⟨G1, 8, none⟩ (.string ⟨#[]⟩)).setCell ⟨G1, 9, none⟩ (.int .i64 0)).setCell ⟨G1, 10, none⟩ (.slice ta 0 tk)).setCell ⟨G1, 11, none⟩ (.int .i64 0)).cell? ⟨gl, ol + j, none⟩ = some (.string bd) := by rw [hb2.cell (p := ⟨gl, ol + j, none⟩) hgl4]; exact CC.out _ D1.out.bw
          refine hK.out _ _ (Lib.hid ⟨hHeld.out.1.only ho (by omega), hcl, hb2⟩) (fun hHeld => ?_)
          replace O1 := Lib.hid (own_only O1.out ho (row_off flatIntK O1.out rr.out (by decide)))
          replace O2 := Lib.hid (own_only O2.out ho (row_off flatIntK O2.out rr.out (by decide)))
          replace O3 := Lib.hid (own_only O3.out ho (row_off flatIntK O3.out rr.out (by decide)))
          replace rp := Lib.hid (rp.out.only ho hne)
          replace rr := Lib.hid (putBoth rr.out (.int .i64 1) (.string pa) (.string pb) (.int .i64 n) (.slice qa 0 qk) (.int .i64 0) (.int .i64 0) (.string ⟨#[]⟩) (.string ⟨#[]⟩) (.int .i64 0) (.slice ta 0 tk) (.int .i64 0))
          clear hK K ho hb2 hcl r0_ g0_ r1_ g1_ r2_ g2_ r3_ g3_ r4_ g4_ r5_ g5_ r6_ g6_ r7_ g7_ r8_ g8_ r9_ g9_ r10_ g10_ r11_ g11_
          generalize ((((((((((((X3.setCell ⟨G1, 0, none⟩ (.int .i64 1)).setCell ⟨G1, 1, none⟩ (.string pa)).setCell ⟨G1, 2, none⟩ (.string pb)).setCell ⟨G1, 3, none⟩ (.int .i64 n)).setCell ⟨G1, 4, none⟩ (.slice qa 0 qk)).setCell ⟨G1, 5, none⟩ (.int .i64 0)).setCell ⟨G1, 6, none⟩ (.int .i64 0)).setCell ⟨G1, 7, none⟩ (.string ⟨#[]⟩)).setCell ⟨G1, 8, none⟩ (.string ⟨#[]⟩)).setCell ⟨G1, 9, none⟩ (.int .i64 0)).setCell ⟨G1, 10, none⟩ (.slice ta 0 tk)).setCell ⟨G1, 11, none⟩ (.int .i64 0)) = X4 at *
          try simp only [Act.put, List.getElem_toArray, List.getElem_cons_succ, List.getElem_cons_zero, List.setIfInBounds_toArray, List.set_cons_zero, List.set_cons_succ]
          refine wpAnyH_ready (rs := [13]) (by kernel_rfl) (by simp) ?_
          refine AllReadyH.cons rfl (fun K hK => ?_) AllReadyH.nil
          have hne2 : G1 ≠ G2 := var_ne rr.out rp.out (by decide)
          have r0_ : X4.cell? ⟨G2, 0, none⟩ = some (.int .i64 0) := rp.out.cell 0
          have r1_ : X4.cell? ⟨G2, 1, none⟩ = some (.int .i64 0) := rp.out.cell 1
          have r2_ : X4.cell? ⟨G2, 2, none⟩ = some (.int .i64 0) := rp.out.cell 2
          have r3_ : X4.cell? ⟨G2, 3, none⟩ = some (.int .i64 0) := rp.out.cell 3
          have r4_ : X4.cell? ⟨G2, 4, none⟩ = some (.int .i64 0) := rp.out.cell 4
          have r5_ : X4.cell? ⟨G2, 5, none⟩ = some (.slice none 0 0) := rp.out.cell 5
          have r6_ : X4.cell? ⟨G2, 6, none⟩ = some (.string ⟨#[]⟩) := rp.out.cell 6
          have g0_ := rp.out.free 0
          have g1_ := rp.out.free 1
          have g2_ := rp.out.free 2
          have g3_ := rp.out.free 3
          have g4_ := rp.out.free 4
          have g5_ := rp.out.free 5
          have g6_ := rp.out.free 6
          go_simp
          have ho : Only G2 X4 (((((((X4.setCell ⟨G2, 0, none⟩ (.int .i64 3)).setCell ⟨G2, 1, none⟩ (.int .i64 1)).setCell ⟨G2, 2, none⟩ (.int .i64 1)).setCell ⟨G2, 3, none⟩ (.int .i64 2)).setCell ⟨G2, 4, none⟩ (.int .i64 n)).setCell ⟨G2, 5, none⟩ (.slice ka 0 kk)).setCell ⟨G2, 6, none⟩ (.string lk)) := (((((((Only.setCell 0 (.int .i64 3) : Only G2 X4 _).trans (Only.setCell 1 (.int .i64 1))).trans (Only.setCell 2 (.int .i64 1))).trans (Only.setCell 3 (.int .i64 2))).trans (Only.setCell 4 (.int .i64 n))).trans (Only.setCell 5 (.slice ka 0 kk))).trans (Only.setCell 6 (.string lk)))
          have hb2 : Below w4.heap.size w4 (((((((X4.setCell ⟨G2, 0, none⟩ (.int .i64 3)).setCell ⟨G2, 1, none⟩ (.int .i64 1)).setCell ⟨G2, 2, none⟩ (.int .i64 1)).setCell ⟨G2, 3, none⟩ (.int .i64 2)).setCell ⟨G2, 4, none⟩ (.int .i64 n)).setCell ⟨G2, 5, none⟩ (.slice ka 0 kk)).setCell ⟨G2, 6, none⟩ (.string lk)) := hHeld.out.2.2.trans (ho.below hloG2 hHeld.out.2.2.size)
          have hcl : (((((((X4.setCell ⟨G2, 0, none⟩ (.int .i64 3)).setCell ⟨G2, 1, none⟩ (.int .i64 1)).setCell ⟨G2, 2, none⟩ (.int .i64 1)).setCell ⟨G2, 3, none⟩ (.int .i64 2)).setCell ⟨G2, 4, none⟩ (.int .i64 n)).setCell ⟨G2, 5, none⟩ (.slice ka 0 kk)).setCell ⟨G2, 6, none⟩ (.string lk)).cell? ⟨gl, ol + j, none⟩ = some (.string bd) := by rw [hb2.cell (p := ⟨gl, ol + j, none⟩) hgl4]; exact CC.out _ D1.out.bw
          refine hK.out _ _ (Lib.hid ⟨hHeld.out.1.only ho (by omega), hcl, hb2⟩) (fun hHeld => ?_)
          replace O1 := Lib.hid (own_only O1.out ho (row_off flatIntK O1.out rp.out (by decide)))
          replace O2 := Lib.hid (own_only O2.out ho (row_off flatIntK O2.out rp.out (by decide)))
          replace O3 := Lib.hid (own_only O3.out ho (row_off flatIntK O3.out rp.out (by decide)))
          replace rr := Lib.hid (rr.out.only ho hne2)
          replace rp := Lib.hid (putSeven rp.out (.int .i64 3) (.int .i64 1) (.int .i64 1) (.int .i64 2) (.int .i64 n) (.slice ka 0 kk) (.string lk))
          clear hK K ho hb2 hcl r0_ g0_ r1_ g1_ r2_ g2_ r3_ g3_ r4_ g4_ r5_ g5_ r6_ g6_
          generalize (((((((X4.setCell ⟨G2, 0, none⟩ (.int .i64 3)).setCell ⟨G2, 1, none⟩ (.int .i64 1)).setCell ⟨G2, 2, none⟩ (.int .i64 1)).setCell ⟨G2, 3, none⟩ (.int .i64 2)).setCell ⟨G2, 4, none⟩ (.int .i64 n)).setCell ⟨G2, 5, none⟩ (.slice ka 0 kk)).setCell ⟨G2, 6, none⟩ (.string lk)) = X5 at *
          try simp only [Act.put, List.getElem_toArray, List.getElem_cons_succ, List.getElem_cons_zero, List.setIfInBounds_toArray, List.set_cons_zero, List.set_cons_succ]
          refine wpAnyH_take (i := 14) (v := ?_) rfl (by kernel_rfl) (by kernel_rfl) (by kernel_rfl) (fun _ _ _ h => h) (Or.inl ⟨by kernel_rfl, ?_⟩) hHeld ?_
          rotate_left
          · intro X hX
            first | (go_simp; done) | (go_simp; with_reducible rfl)
          try simp only [Act.put, List.getElem_toArray, List.getElem_cons_succ, List.getElem_cons_zero, List.setIfInBounds_toArray, List.set_cons_zero, List.set_cons_succ]
          refine wpAnyH_done (by kernel_rfl) ?_ _
          have hz := hHeld.out.2.2
          clear hHeld
          go_wp2_with fail
          go_meet
          exact ⟨G1, G2, qa, qk, ta, tk, ka, kk, rfl, rfl, rfl, Lib.hid ⟨rr.out, rp.out, ⟨_, O1.out⟩, ⟨_, O2.out⟩, layIntS.read O3.out, hz⟩⟩
      · go_simp
        have hal : Below X0.heap.size X0 (X0.alloc (.cells #[.int .i64 0, .int .i64 0, .int .i64 0, .int .i64 0, .int .i64 0, .slice none 0 0, .string ⟨#[]⟩] SPkT)) := (Below.refl _ _).alloc (Nat.le_refl _) _
        have hloG2 : w4.heap.size ≤ X0.heap.size := hHeld.out.2.2.size
        refine hK.out _ _ (qv _ _ hHeld hal) (fun hHeld => ?_)
        clear hK K
        have hb := Lib.hid hal
        have rp := Lib.hid (VarA.new X0 SPkT #[.int .i64 0, .int .i64 0, .int .i64 0, .int .i64 0, .int .i64 0, .slice none 0 0, .string ⟨#[]⟩])
        clear hal hb
        generalize X0.alloc (.cells #[.int .i64 0, .int .i64 0, .int .i64 0, .int .i64 0, .int .i64 0, .slice none 0 0, .string ⟨#[]⟩] SPkT) = X1 at *
        generalize X0.heap.size = G2 at *
        try simp only [Act.put, List.getElem_toArray, List.getElem_cons_succ, List.getElem_cons_zero, List.setIfInBounds_toArray, List.set_cons_zero, List.set_cons_succ]
        refine wpAnyH_ready (rs := [5, 10]) (by kernel_rfl) (by simp) ?_
        refine AllReadyH.cons rfl (fun K hK => ?_) (AllReadyH.cons rfl (fun K hK => ?_) AllReadyH.nil)
        · go_simp
          go_wp2_with (go_at_call 10; refine (KS.out X1 (LL.out _ (BE.out.trans (hHeld.out.2.2.mono BE.out.size))) (layIntS.below RA.out hHeld.out.2.2) (layIntS.below RB.out hHeld.out.2.2)).mono ?_; rintro e X2 ⟨v1_, v2_, v3_, f, g, h, rfl, -, o1, o2, o3, hb0⟩; obtain ⟨qa, qk, rfl⟩ := (show ∃ a c, v1_ = .slice a 0 c from rows_form (layIntS.read o1)); obtain ⟨ta, tk, rfl⟩ := (show ∃ a c, v2_ = .slice a 0 c from rows_form (layIntS.read o2)); obtain ⟨ka, kk, rfl⟩ := (show ∃ a c, v3_ = .slice a 0 c from rows_form (layIntS.read o3)); have hlz : w4.heap.size ≤ X1.heap.size := hHeld.out.2.2.size; have hS := qv _ _ hHeld hb0; have hb := Lib.hid hb0; have O1 := Lib.hid (layIntS.lower o1 hlz); have O2 := Lib.hid (layIntS.lower o2 hlz); have O3 := Lib.hid (layIntS.lower o3 hlz); clear hb0 o1 o2 o3 hlz)
          refine hK.out _ _ hS (fun hHeld => ?_)
          clear hK K hS
          replace rp := Lib.hid (rp.out.next hb.out)
          clear hb
          try simp only [Act.put, List.getElem_toArray, List.getElem_cons_succ, List.getElem_cons_zero, List.setIfInBounds_toArray, List.set_cons_zero, List.set_cons_succ]
          refine wpAnyH_take (i := 6) (v := ?_) rfl (by kernel_rfl) (by kernel_rfl) (by kernel_rfl) (fun _ _ _ h => h) (Or.inl ⟨by kernel_rfl, ?_⟩) hHeld ?_
          rotate_left
          · intro X hX
            first | (go_simp; done) | (go_simp; with_reducible rfl)
          try simp only [Act.put, List.getElem_toArray, List.getElem_cons_succ, List.getElem_cons_zero, List.setIfInBounds_toArray, List.set_cons_zero, List.set_cons_succ]
          refine wpAnyH_take (i := 7) (v := ?_) rfl (by kernel_rfl) (by kernel_rfl) (by kernel_rfl) (fun _ _ _ h => h) (Or.inl ⟨by kernel_rfl, ?_⟩) hHeld ?_
          rotate_left
          · intro X hX
            first | (go_simp; done) | (go_simp; with_reducible rfl)
          try simp only [Act.put, List.getElem_toArray, List.getElem_cons_succ, List.getElem_cons_zero, List.setIfInBounds_toArray, List.set_cons_zero, List.set_cons_succ]
          refine wpAnyH_take (i := 8) (v := ?_) rfl (by kernel_rfl) (by kernel_rfl) (by kernel_rfl) (fun _ _ _ h => h) (Or.inl ⟨by kernel_rfl, ?_⟩) hHeld ?_
          rotate_left
          · intro X hX
            first | (go_simp; done) | (go_simp; with_reducible rfl)
          try simp only [Act.put, List.getElem_toArray, List.getElem_cons_succ, List.getElem_cons_zero, List.setIfInBounds_toArray, List.set_cons_zero, List.set_cons_succ]
          refine wpAnyH_take (i := 9) (v := ?_) rfl (by kernel_rfl) (by kernel_rfl) (by kernel_rfl) (fun _ _ _ h => h) (Or.inl ⟨by kernel_rfl, ?_⟩) hHeld ?_
          rotate_left
          · intro X hX
            first | (go_simp; done) | (go_simp; with_reducible rfl)
          try simp only [Act.put, List.getElem_toArray, List.getElem_cons_succ, List.getElem_cons_zero, List.setIfInBounds_toArray, List.set_cons_zero, List.set_cons_succ]
          refine wpAnyH_ready (rs := [10]) (by kernel_rfl) (by simp) ?_
          refine AllReadyH.cons rfl (fun K hK => ?_) AllReadyH.nil
          go_simp
          have hal : Below X2.heap.size X2 (X2.alloc (.cells #[.int .i64 0, .string ⟨#[]⟩, .string ⟨#[]⟩, .int .i64 0, .slice none 0 0, .int .i64 0, .int .i64 0, .string ⟨#[]⟩, .string ⟨#[]⟩, .int .i64 0, .slice none 0 0, .int .i64 0] SlotsT)) := (Below.refl _ _).alloc (Nat.le_refl _) _
          have hloG1 : w4.heap.size ≤ X2.heap.size := hHeld.out.2.2.size
          refine hK.out _ _ (qv _ _ hHeld hal) (fun hHeld => ?_)
          clear hK K
          have hb := Lib.hid hal
          replace rp := Lib.hid (rp.out.next hb.out)
          replace O1 := Lib.hid (layIntS.next O1.out hb.out)
          replace O2 := Lib.hid (layIntS.next O2.out hb.out)
          replace O3 := Lib.hid (layIntS.next O3.out hb.out)
          have rr := Lib.hid (VarA.new X2 SlotsT #[.int .i64 0, .string ⟨#[]⟩, .string ⟨#[]⟩, .int .i64 0, .slice none 0 0, .int .i64 0, .int .i64 0, .string ⟨#[]⟩, .string ⟨#[]⟩, .int .i64 0, .slice none 0 0, .int .i64 0])
          clear hal hb
          generalize X2.alloc (.cells #[.int .i64 0, .string ⟨#[]⟩, .string ⟨#[]⟩, .int .i64 0, .slice none 0 0, .int .i64 0, .int .i64 0, .string ⟨#[]⟩, .string ⟨#[]⟩, .int .i64 0, .slice none 0 0, .int .i64 0] SlotsT) = X3 at *
          generalize X2.heap.size = G1 at *
          try simp only [Act.put, List.getElem_toArray, List.getElem_cons_succ, List.getElem_cons_zero, List.setIfInBounds_toArray, List.set_cons_zero, List.set_cons_succ]
          refine wpAnyH_ready (rs := [12]) (by kernel_rfl) (by simp) ?_
          refine AllReadyH.cons rfl (fun K hK => ?_) AllReadyH.nil
          have hne : G2 ≠ G1 := var_ne rp.out rr.out (by decide)
          have r0_ : X3.cell? ⟨G1, 0, none⟩ = some (.int .i64 0) := rr.out.cell 0
          have r1_ : X3.cell? ⟨G1, 1, none⟩ = some (.string ⟨#[]⟩) := rr.out.cell 1
          have r2_ : X3.cell? ⟨G1, 2, none⟩ = some (.string ⟨#[]⟩) := rr.out.cell 2
          have r3_ : X3.cell? ⟨G1, 3, none⟩ = some (.int .i64 0) := rr.out.cell 3
          have r4_ : X3.cell? ⟨G1, 4, none⟩ = some (.slice none 0 0) := rr.out.cell 4
          have r5_ : X3.cell? ⟨G1, 5, none⟩ = some (.int .i64 0) := rr.out.cell 5
          have r6_ : X3.cell? ⟨G1, 6, none⟩ = some (.int .i64 0) := rr.out.cell 6
          have r7_ : X3.cell? ⟨G1, 7, none⟩ = some (.string ⟨#[]⟩) := rr.out.cell 7
          have r8_ : X3.cell? ⟨G1, 8, none⟩ = some (.string ⟨#[]⟩) := rr.out.cell 8
          have r9_ : X3.cell? ⟨G1, 9, none⟩ = some (.int .i64 0) := rr.out.cell 9
          have r10_ : X3.cell? ⟨G1, 10, none⟩ = some (.slice none 0 0) := rr.out.cell 10
          have r11_ : X3.cell? ⟨G1, 11, none⟩ = some (.int .i64 0) := rr.out.cell 11
          have g0_ := rr.out.free 0
          have g1_ := rr.out.free 1
          have g2_ := rr.out.free 2
          have g3_ := rr.out.free 3
          have g4_ := rr.out.free 4
          have g5_ := rr.out.free 5
          have g6_ := rr.out.free 6
          have g7_ := rr.out.free 7
          have g8_ := rr.out.free 8
          have g9_ := rr.out.free 9
          have g10_ := rr.out.free 10
          have g11_ := rr.out.free 11
          go_simp
          have ho : Only G1 X3 ((((((((((((X3.setCell ⟨G1, 0, none⟩ (.int .i64 1)).setCell ⟨G1, 1, none⟩ (.string pa)).setCell ⟨G1, 2, none⟩ (.string pb)).setCell ⟨G1, 3, none⟩ (.int .i64 n)).setCell ⟨G1, 4, none⟩ (.slice qa 0 qk)).setCell ⟨G1, 5, none⟩ (.int .i64 0)).setCell ⟨G1, 6, none⟩ (.int .i64 0)).setCell ⟨G1, 7, none⟩ (.string ⟨#[]⟩)).setCell ⟨G1, 8, none⟩ (.string ⟨#[]⟩)).setCell ⟨G1, 9, none⟩ (.int .i64 0)).setCell ⟨G1, 10, none⟩ (.slice ta 0 tk)).setCell ⟨G1, 11, none⟩ (.int .i64 0)) := (putMain_only X3 G1 _ _ _ _ _ _).trans (putLame_only _ G1 _ _ _ _ _ _)
          have hb2 : Below w4.heap.size w4 ((((((((((((X3.setCell ⟨G1, 0, none⟩ (.int .i64 1)).setCell ⟨G1, 1, none⟩ (.string pa)).setCell ⟨G1, 2, none⟩ (.string pb)).setCell ⟨G1, 3, none⟩ (.int .i64 n)).setCell ⟨G1, 4, none⟩ (.slice qa 0 qk)).setCell ⟨G1, 5, none⟩ (.int .i64 0)).setCell ⟨G1, 6, none⟩ (.int .i64 0)).setCell ⟨G1, 7, none⟩ (.string ⟨#[]⟩)).setCell ⟨G1, 8, none⟩ (.string ⟨#[]⟩)).setCell ⟨G1, 9, none⟩ (.int .i64 0)).setCell ⟨G1, 10, none⟩ (.slice ta 0 tk)).setCell ⟨G1, 11, none⟩ (.int .i64 0)) := hHeld.out.2.2.trans (ho.below hloG1 hHeld.out.2.2.size)
          have hcl : ((((((((((((X3.setCell ⟨G1, 0, none⟩ (.int .i64 1)).setCell ⟨G1, 1, none⟩ (.string pa)).setCell ⟨G1, 2, none⟩ (.string pb)).setCell ⟨G1, 3, none⟩ (.int .i64 n)).setCell ⟨G1, 4, none⟩ (.slice qa 0 qk)).setCell ⟨G1, 5, none⟩ (.int .i64 0)).setCell ⟨G1, 6, none⟩ (.int .i64 0)).setCell ⟨G1, 7, none⟩ (.string ⟨#[]⟩)).setCell ⟨G1, 8, none⟩ (.string ⟨#[]⟩)).setCell ⟨G1, 9, none⟩ (.int .i64 0)).setCell ⟨G1, 10, none⟩ (.slice ta 0 tk)).setCell ⟨G1, 11, none⟩ (.int .i64 0)).cell? ⟨gl, ol + j, none⟩ = some (.string bd) := by rw [hb2.cell (p := ⟨gl, ol + j, none⟩) hgl4]; exact CC.out _ D1.out.bw
          refine hK.out _ _ (Lib.hid ⟨hHeld.out.1.only ho (by omega), hcl, hb2⟩) (fun hHeld => ?_)
          replace O1 := Lib.hid (own_only O1.out ho (row_off flatIntK O1.out rr.out (by decide)))
          replace O2 := Lib.hid (own_only O2.out ho (row_off flatIntK O2.out rr.out (by decide)))
          replace O3 := Lib.hid (own_only O3.out ho (row_off flatIntK O3.out rr.out (by decide)))
          replace rp := Lib.hid (rp.out.only ho hne)
          replace rr := Lib.hid (putBoth rr.out (.int .i64 1) (.string pa) (.string pb) (.int .i64 n) (.slice qa 0 qk) (.int .i64 0) (.int .i64 0) (.string ⟨#[]⟩) (.string ⟨#[]⟩) (.int .i64 0) (.slice ta 0 tk) (.int .i64 0))
          clear hK K ho hb2 hcl r0_ g0_ r1_ g1_ r2_ g2_ r3_ g3_ r4_ g4_ r5_ g5_ r6_ g6_ r7_ g7_ r8_ g8_ r9_ g9_ r10_ g10_ r11_ g11_
          generalize ((((((((((((X3.setCell ⟨G1, 0, none⟩ (.int .i64 1)).setCell ⟨G1, 1, none⟩ (.string pa)).setCell ⟨G1, 2, none⟩ (.string pb)).setCell ⟨G1, 3, none⟩ (.int .i64 n)).setCell ⟨G1, 4, none⟩ (.slice qa 0 qk)).setCell ⟨G1, 5, none⟩ (.int .i64 0)).setCell ⟨G1, 6, none⟩ (.int .i64 0)).setCell ⟨G1, 7, none⟩ (.string ⟨#[]⟩)).setCell ⟨G1, 8, none⟩ (.string ⟨#[]⟩)).setCell ⟨G1, 9, none⟩ (.int .i64 0)).setCell ⟨G1, 10, none⟩ (.slice ta 0 tk)).setCell ⟨G1, 11, none⟩ (.int .i64 0)) = X4 at *
          try simp only [Act.put, List.getElem_toArray, List.getElem_cons_succ, List.getElem_cons_zero, List.setIfInBounds_toArray, List.set_cons_zero, List.set_cons_succ]
          refine wpAnyH_ready (rs := [13]) (by kernel_rfl) (by simp) ?_
          refine AllReadyH.cons rfl (fun K hK => ?_) AllReadyH.nil
          have hne2 : G1 ≠ G2 := var_ne rr.out rp.out (by decide)
          have r0_ : X4.cell? ⟨G2, 0, none⟩ = some (.int .i64 0) := rp.out.cell 0
          have r1_ : X4.cell? ⟨G2, 1, none⟩ = some (.int .i64 0) := rp.out.cell 1
          have r2_ : X4.cell? ⟨G2, 2, none⟩ = some (.int .i64 0) := rp.out.cell 2
          have r3_ : X4.cell? ⟨G2, 3, none⟩ = some (.int .i64 0) := rp.out.cell 3
          have r4_ : X4.cell? ⟨G2, 4, none⟩ = some (.int .i64 0) := rp.out.cell 4
          have r5_ : X4.cell? ⟨G2, 5, none⟩ = some (.slice none 0 0) := rp.out.cell 5
          have r6_ : X4.cell? ⟨G2, 6, none⟩ = some (.string ⟨#[]⟩) := rp.out.cell 6
          have g0_ := rp.out.free 0
          have g1_ := rp.out.free 1
          have g2_ := rp.out.free 2
          have g3_ := rp.out.free 3
          have g4_ := rp.out.free 4
          have g5_ := rp.out.free 5
          have g6_ := rp.out.free 6
          go_simp
          have ho : Only G2 X4 (((((((X4.setCell ⟨G2, 0, none⟩ (.int .i64 3)).setCell ⟨G2, 1, none⟩ (.int .i64 1)).setCell ⟨G2, 2, none⟩ (.int .i64 1)).setCell ⟨G2, 3, none⟩ (.int .i64 2)).setCell ⟨G2, 4, none⟩ (.int .i64 n)).setCell ⟨G2, 5, none⟩ (.slice ka 0 kk)).setCell ⟨G2, 6, none⟩ (.string lk)) := (((((((Only.setCell 0 (.int .i64 3) : Only G2 X4 _).trans (Only.setCell 1 (.int .i64 1))).trans (Only.setCell 2 (.int .i64 1))).trans (Only.setCell 3 (.int .i64 2))).trans (Only.setCell 4 (.int .i64 n))).trans (Only.setCell 5 (.slice ka 0 kk))).trans (Only.setCell 6 (.string lk)))
          have hb2 : Below w4.heap.size w4 (((((((X4.setCell ⟨G2, 0, none⟩ (.int .i64 3)).setCell ⟨G2, 1, none⟩ (.int .i64 1)).setCell ⟨G2, 2, none⟩ (.int .i64 1)).setCell ⟨G2, 3, none⟩ (.int .i64 2)).setCell ⟨G2, 4, none⟩ (.int .i64 n)).setCell ⟨G2, 5, none⟩ (.slice ka 0 kk)).setCell ⟨G2, 6, none⟩ (.string lk)) := hHeld.out.2.2.trans (ho.below hloG2 hHeld.out.2.2.size)
          have hcl : (((((((X4.setCell ⟨G2, 0, none⟩ (.int .i64 3)).setCell ⟨G2, 1, none⟩ (.int .i64 1)).setCell ⟨G2, 2, none⟩ (.int .i64 1)).setCell ⟨G2, 3, none⟩ (.int .i64 2)).setCell ⟨G2, 4, none⟩ (.int .i64 n)).setCell ⟨G2, 5, none⟩ (.slice ka 0 kk)).setCell ⟨G2, 6, none⟩ (.string lk)).cell? ⟨gl, ol + j, none⟩ = some (.string bd) := by rw [hb2.cell (p := ⟨gl, ol + j, none⟩) hgl4]; exact CC.out _ D1.out.bw
          refine hK.out _ _ (Lib.hid ⟨hHeld.out.1.only ho (by omega), hcl, hb2⟩) (fun hHeld => ?_)
          replace O1 := Lib.hid (own_only O1.out ho (row_off flatIntK O1.out rp.out (by decide)))
          replace O2 := Lib.hid (own_only O2.out ho (row_off flatIntK O2.out rp.out (by decide)))
          replace O3 := Lib.hid (own_only O3.out ho (row_off flatIntK O3.out rp.out (by decide)))
          replace rr := Lib.hid (rr.out.only ho hne2)
          replace rp := Lib.hid (putSeven rp.out (.int .i64 3) (.int .i64 1) (.int .i64 1) (.int .i64 2) (.int .i64 n) (.slice ka 0 kk) (.string lk))
          clear hK K ho hb2 hcl r0_ g0_ r1_ g1_ r2_ g2_ r3_ g3_ r4_ g4_ r5_ g5_ r6_ g6_
          generalize (((((((X4.setCell ⟨G2, 0, none⟩ (.int .i64 3)).setCell ⟨G2, 1, none⟩ (.int .i64 1)).setCell ⟨G2, 2, none⟩ (.int .i64 1)).setCell ⟨G2, 3, none⟩ (.int .i64 2)).setCell ⟨G2, 4, none⟩ (.int .i64 n)).setCell ⟨G2, 5, none⟩ (.slice ka 0 kk)).setCell ⟨G2, 6, none⟩ (.string lk)) = X5 at *
          try simp only [Act.put, List.getElem_toArray, List.getElem_cons_succ, List.getElem_cons_zero, List.setIfInBounds_toArray, List.set_cons_zero, List.set_cons_succ]
          refine wpAnyH_take (i := 14) (v := ?_) rfl (by kernel_rfl) (by kernel_rfl) (by kernel_rfl) (fun _ _ _ h => h) (Or.inl ⟨by kernel_rfl, ?_⟩) hHeld ?_
          rotate_left
          · intro X hX
            first | (go_simp; done) | (go_simp; with_reducible rfl)
          try simp only [Act.put, List.getElem_toArray, List.getElem_cons_succ, List.getElem_cons_zero, List.setIfInBounds_toArray, List.set_cons_zero, List.set_cons_succ]
          refine wpAnyH_done (by kernel_rfl) ?_ _
          have hz := hHeld.out.2.2
          clear hHeld
          go_wp2_with fail
          go_meet
          exact ⟨G1, G2, qa, qk, ta, tk, ka, kk, rfl, rfl, rfl, Lib.hid ⟨rr.out, rp.out, ⟨_, O1.out⟩, ⟨_, O2.out⟩, layIntS.read O3.out, hz⟩⟩
        · go_simp
          have hal : Below X1.heap.size X1 (X1.alloc (.cells #[.int .i64 0, .string ⟨#[]⟩, .string ⟨#[]⟩, .int .i64 0, .slice none 0 0, .int .i64 0, .int .i64 0, .string ⟨#[]⟩, .string ⟨#[]⟩, .int .i64 0, .slice none 0 0, .int .i64 0] SlotsT)) := (Below.refl _ _).alloc (Nat.le_refl _) _
          have hloG1 : w4.heap.size ≤ X1.heap.size := hHeld.out.2.2.size
          refine hK.out _ _ (qv _ _ hHeld hal) (fun hHeld => ?_)
          clear hK K
          have hb := Lib.hid hal
          replace rp := Lib.hid (rp.out.next hb.out)
          have rr := Lib.hid (VarA.new X1 SlotsT #[.int .i64 0, .string ⟨#[]⟩, .string ⟨#[]⟩, .int .i64 0, .slice none 0 0, .int .i64 0, .int .i64 0, .string ⟨#[]⟩, .string ⟨#[]⟩, .int .i64 0, .slice none 0 0, .int .i64 0])
          clear hal hb
          generalize X1.alloc (.cells #[.int .i64 0, .string ⟨#[]⟩, .string ⟨#[]⟩, .int .i64 0, .slice none 0 0, .int .i64 0, .int .i64 0, .string ⟨#[]⟩, .string ⟨#[]⟩, .int .i64 0, .slice none 0 0, .int .i64 0] SlotsT) = X2 at *
          generalize X1.heap.size = G1 at *
          try simp only [Act.put, List.getElem_toArray, List.getElem_cons_succ, List.getElem_cons_zero, List.setIfInBounds_toArray, List.set_cons_zero, List.set_cons_succ]
          refine wpAnyH_ready (rs := [5]) (by kernel_rfl) (by simp) ?_
          refine AllReadyH.cons rfl (fun K hK => ?_) AllReadyH.nil
          go_simp
          go_wp2_with (go_at_call 10; refine (KS.out X2 (LL.out _ (BE.out.trans (hHeld.out.2.2.mono BE.out.size))) (layIntS.below RA.out hHeld.out.2.2) (layIntS.below RB.out hHeld.out.2.2)).mono ?_; rintro e X3 ⟨v1_, v2_, v3_, f, g, h, rfl, -, o1, o2, o3, hb0⟩; obtain ⟨qa, qk, rfl⟩ := (show ∃ a c, v1_ = .slice a 0 c from rows_form (layIntS.read o1)); obtain ⟨ta, tk, rfl⟩ := (show ∃ a c, v2_ = .slice a 0 c from rows_form (layIntS.read o2)); obtain ⟨ka, kk, rfl⟩ := (show ∃ a c, v3_ = .slice a 0 c from rows_form (layIntS.read o3)); have hlz : w4.heap.size ≤ X2.heap.size := hHeld.out.2.2.size; have hS := qv _ _ hHeld hb0; have hb := Lib.hid hb0; have O1 := Lib.hid (layIntS.lower o1 hlz); have O2 := Lib.hid (layIntS.lower o2 hlz); have O3 := Lib.hid (layIntS.lower o3 hlz); clear hb0 o1 o2 o3 hlz)
          refine hK.out _ _ hS (fun hHeld => ?_)
          clear hK K hS
          replace rr := Lib.hid (rr.out.next hb.out)
          replace rp := Lib.hid (rp.out.next hb.out)
          clear hb
          try simp only [Act.put, List.getElem_toArray, List.getElem_cons_succ, List.getElem_cons_zero, List.setIfInBounds_toArray, List.set_cons_zero, List.set_cons_succ]
          refine wpAnyH_take (i := 6) (v := ?_) rfl (by kernel_rfl) (by kernel_rfl) (by kernel_rfl) (fun _ _ _ h => h) (Or.inl ⟨by kernel_rfl, ?_⟩) hHeld ?_
          rotate_left
          · intro X hX
            first | (go_simp; done) | (go_simp; with_reducible rfl)
          try simp only [Act.put, List.getElem_toArray, List.getElem_cons_succ, List.getElem_cons_zero, List.setIfInBounds_toArray, List.set_cons_zero, List.set_cons_succ]
          refine wpAnyH_take (i := 7) (v := ?_) rfl (by kernel_rfl) (by kernel_rfl) (by kernel_rfl) (fun _ _ _ h => h) (Or.inl ⟨by kernel_rfl, ?_⟩) hHeld ?_
          rotate_left
          · intro X hX
            first | (go_simp; done) | (go_simp; with_reducible rfl)
          try simp only [Act.put, List.getElem_toArray, List.getElem_cons_succ, List.getElem_cons_zero, List.setIfInBounds_toArray, List.set_cons_zero, List.set_cons_succ]
          refine wpAnyH_take (i := 8) (v := ?_) rfl (by kernel_rfl) (by kernel_rfl) (by kernel_rfl) (fun _ _ _ h => h) (Or.inl ⟨by kernel_rfl, ?_⟩) hHeld ?_
          rotate_left
          · intro X hX
            first | (go_simp; done) | (go_simp; with_reducible rfl)
          try simp only [Act.put, List.getElem_toArray, List.getElem_cons_succ, List.getElem_cons_zero, List.setIfInBounds_toArray, List.set_cons_zero, List.set_cons_succ]
          refine wpAnyH_take (i := 9) (v := ?_) rfl (by kernel_rfl) (by kernel_rfl) (by kernel_rfl) (fun _ _ _ h => h) (Or.inl ⟨by kernel_rfl, ?_⟩) hHeld ?_
          rotate_left
          · intro X hX
            first | (go_simp; done) | (go_simp; with_reducible rfl)
          try simp only [Act.put, List.getElem_toArray, List.getElem_cons_succ, List.getElem_cons_zero, List.setIfInBounds_toArray, List.set_cons_zero, List.set_cons_succ]
          refine wpAnyH_ready (rs := [12]) (by kernel_rfl) (by simp) ?_
          refine AllReadyH.cons rfl (fun K hK => ?_) AllReadyH.nil
          have hne : G2 ≠ G1 := var_ne rp.out rr.out (by decide)
          have r0_ : X3.cell? ⟨G1, 0, none⟩ = some (.int .i64 0) := rr.out.cell 0
          have r1_ : X3.cell? ⟨G1, 1, none⟩ = some (.string ⟨#[]⟩) := rr.out.cell 1
          have r2_ : X3.cell? ⟨G1, 2, none⟩ = some (.string ⟨#[]⟩) := rr.out.cell 2
          have r3_ : X3.cell? ⟨G1, 3, none⟩ = some (.int .i64 0) := rr.out.cell 3
          have r4_ : X3.cell? ⟨G1, 4, none⟩ = some (.slice none 0 0) := rr.out.cell 4
          have r5_ : X3.cell? ⟨G1, 5, none⟩ = some (.int .i64 0) := rr.out.cell 5
          have r6_ : X3.cell? ⟨G1, 6, none⟩ = some (.int .i64 0) := rr.out.cell 6
          have r7_ : X3.cell? ⟨G1, 7, none⟩ = some (.string ⟨#[]⟩) := rr.out.cell 7
          have r8_ : X3.cell? ⟨G1, 8, none⟩ = some (.string ⟨#[]⟩) := rr.out.cell 8
          have r9_ : X3.cell? ⟨G1, 9, none⟩ = some (.int .i64 0) := rr.out.cell 9
          have r10_ : X3.cell? ⟨G1, 10, none⟩ = some (.slice none 0 0) := rr.out.cell 10
          have r11_ : X3.cell? ⟨G1, 11, none⟩ = some (.int .i64 0) := rr.out.cell 11
          have g0_ := rr.out.free 0
          have g1_ := rr.out.free 1
          have g2_ := rr.out.free 2
          have g3_ := rr.out.free 3
          have g4_ := rr.out.free 4
          have g5_ := rr.out.free 5
          have g6_ := rr.out.free 6
          have g7_ := rr.out.free 7
          have g8_ := rr.out.free 8
          have g9_ := rr.out.free 9
          have g10_ := rr.out.free 10
          have g11_ := rr.out.free 11
          go_simp
          have ho : Only G1 X3 ((((((((((((X3.setCell ⟨G1, 0, none⟩ (.int .i64 1)).setCell ⟨G1, 1, none⟩ (.string pa)).setCell ⟨G1, 2, none⟩ (.string pb)).setCell ⟨G1, 3, none⟩ (.int .i64 n)).setCell ⟨G1, 4, none⟩ (.slice qa 0 qk)).setCell ⟨G1, 5, none⟩ (.int .i64 0)).setCell ⟨G1, 6, none⟩ (.int .i64 0)).setCell ⟨G1, 7, none⟩ (.string ⟨#[]⟩)).setCell ⟨G1, 8, none⟩ (.string ⟨#[]⟩)).setCell ⟨G1, 9, none⟩ (.int .i64 0)).setCell ⟨G1, 10, none⟩ (.slice ta 0 tk)).setCell ⟨G1, 11, none⟩ (.int .i64 0)) := (putMain_only X3 G1 _ _ _ _ _ _).trans (putLame_only _ G1 _ _ _ _ _ _)
          have hb2 : Below w4.heap.size w4 ((((((((((((X3.setCell ⟨G1, 0, none⟩ (.int .i64 1)).setCell ⟨G1, 1, none⟩ (.string pa)).setCell ⟨G1, 2, none⟩ (.string pb)).setCell ⟨G1, 3, none⟩ (.int .i64 n)).setCell ⟨G1, 4, none⟩ (.slice qa 0 qk)).setCell ⟨G1, 5, none⟩ (.int .i64 0)).setCell ⟨G1, 6, none⟩ (.int .i64 0)).setCell ⟨G1, 7, none⟩ (.string ⟨#[]⟩)).setCell ⟨G1, 8, none⟩ (.string ⟨#[]⟩)).setCell ⟨G1, 9, none⟩ (.int .i64 0)).setCell ⟨G1, 10, none⟩ (.slice ta 0 tk)).setCell ⟨G1, 11, none⟩ (.int .i64 0)) := hHeld.out.2.2.trans (ho.below hloG1 hHeld.out.2.2.size)
          have hcl : ((((((((((((X3.setCell ⟨G1, 0, none⟩ (.int .i64 1)).setCell ⟨G1, 1, none⟩ (.string pa)).setCell ⟨G1, 2, none⟩ (.string pb)).setCell ⟨G1, 3, none⟩ (.int .i64 n)).setCell ⟨G1, 4, none⟩ (.slice qa 0 qk)).setCell ⟨G1, 5, none⟩ (.int .i64 0)).setCell ⟨G1, 6, none⟩ (.int .i64 0)).setCell ⟨G1, 7, none⟩ (.string ⟨#[]⟩)).setCell ⟨G1, 8, none⟩ (.string ⟨#[]⟩)).setCell ⟨G1, 9, none⟩ (.int .i64 0)).setCell ⟨G1, 10, none⟩ (.slice ta 0 tk)).setCell ⟨G1, 11, none⟩ (.int .i64 0)).cell? ⟨gl, ol + j, none⟩ = some (.string bd) := by rw [hb2.cell (p := ⟨gl, ol + j, none⟩) hgl4]; exact CC.out _ D1.out.bw
          refine hK.out _ _ (Lib.hid ⟨hHeld.out.1.only ho (by omega), hcl, hb2⟩) (fun hHeld => ?_)
          replace O1 := Lib.hid (own_only O1.out ho (row_off flatIntK O1.out rr.out (by decide)))
          replace O2 := Lib.hid (own_only O2.out ho (row_off flatIntK O2.out rr.out (by decide)))
          replace O3 := Lib.hid (own_only O3.out ho (row_off flatIntK O3.out rr.out (by decide)))
          replace rp := Lib.hid (rp.out.only ho hne)
          replace rr := Lib.hid (putBoth rr.out (.int .i64 1) (.string pa) (.string pb) (.int .i64 n) (.slice qa 0 qk) (.int .i64 0) (.int .i64 0) (.string ⟨#[]⟩) (.string ⟨#[]⟩) (.int .i64 0) (.slice ta 0 tk) (.int .i64 0))
          clear hK K ho hb2 hcl r0_ g0_ r1_ g1_ r2_ g2_ r3_ g3_ r4_ g4_ r5_ g5_ r6_ g6_ r7_ g7_ r8_ g8_ r9_ g9_ r10_ g10_ r11_ g11_
          generalize ((((((((((((X3.setCell ⟨G1, 0, none⟩ (.int .i64 1)).setCell ⟨G1, 1, none⟩ (.string pa)).setCell ⟨G1, 2, none⟩ (.string pb)).setCell ⟨G1, 3, none⟩ (.int .i64 n)).setCell ⟨G1, 4, none⟩ (.slice qa 0 qk)).setCell ⟨G1, 5, none⟩ (.int .i64 0)).setCell ⟨G1, 6, none⟩ (.int .i64 0)).setCell ⟨G1, 7, none⟩ (.string ⟨#[]⟩)).setCell ⟨G1, 8, none⟩ (.string ⟨#[]⟩)).setCell ⟨G1, 9, none⟩ (.int .i64 0)).setCell ⟨G1, 10, none⟩ (.slice ta 0 tk)).setCell ⟨G1, 11, none⟩ (.int .i64 0)) = X4 at *
          try simp only [Act.put, List.getElem_toArray, List.getElem_cons_succ, List.getElem_cons_zero, List.setIfInBounds_toArray, List.set_cons_zero, List.set_cons_succ]
          refine wpAnyH_ready (rs := [13]) (by kernel_rfl) (by simp) ?_
          refine AllReadyH.cons rfl (fun K hK => ?_) AllReadyH.nil
          have hne2 : G1 ≠ G2 := var_ne rr.out rp.out (by decide)
          have r0_ : X4.cell? ⟨G2, 0, none⟩ = some (.int .i64 0) := rp.out.cell 0
          have r1_ : X4.cell? ⟨G2, 1, none⟩ = some (.int .i64 0) := rp.out.cell 1
          have r2_ : X4.cell? ⟨G2, 2, none⟩ = some (.int .i64 0) := rp.out.cell 2
          have r3_ : X4.cell? ⟨G2, 3, none⟩ = some (.int .i64 0) := rp.out.cell 3
          have r4_ : X4.cell? ⟨G2, 4, none⟩ = some (.int .i64 0) := rp.out.cell 4
          have r5_ : X4.cell? ⟨G2, 5, none⟩ = some (.slice none 0 0) := rp.out.cell 5
          have r6_ : X4.cell? ⟨G2, 6, none⟩ = some (.string ⟨#[]⟩) := rp.out.cell 6
          have g0_ := rp.out.free 0
          have g1_ := rp.out.free 1
          have g2_ := rp.out.free 2
          have g3_ := rp.out.free 3
          have g4_ := rp.out.free 4
          have g5_ := rp.out.free 5
          have g6_ := rp.out.free 6
          go_simp
          have ho : Only G2 X4 (((((((X4.setCell ⟨G2, 0, none⟩ (.int .i64 3)).setCell ⟨G2, 1, none⟩ (.int .i64 1)).setCell ⟨G2, 2, none⟩ (.int .i64 1)).setCell ⟨G2, 3, none⟩ (.int .i64 2)).setCell ⟨G2, 4, none⟩ (.int .i64 n)).setCell ⟨G2, 5, none⟩ (.slice ka 0 kk)).setCell ⟨G2, 6, none⟩ (.string lk)) := (((((((Only.setCell 0 (.int .i64 3) : Only G2 X4 _).trans (Only.setCell 1 (.int .i64 1))).trans (Only.setCell 2 (.int .i64 1))).trans (Only.setCell 3 (.int .i64 2))).trans (Only.setCell 4 (.int .i64 n))).trans (Only.setCell 5 (.slice ka 0 kk))).trans (Only.setCell 6 (.string lk)))
          have hb2 : Below w4.heap.size w4 (((((((X4.setCell ⟨G2, 0, none⟩ (.int .i64 3)).setCell ⟨G2, 1, none⟩ (.int .i64 1)).setCell ⟨G2, 2, none⟩ (.int .i64 1)).setCell ⟨G2, 3, none⟩ (.int .i64 2)).setCell ⟨G2, 4, none⟩ (.int .i64 n)).setCell ⟨G2, 5, none⟩ (.slice ka 0 kk)).setCell ⟨G2, 6, none⟩ (.string lk)) := hHeld.out.2.2.trans (ho.below hloG2 hHeld.out.2.2.size)
          have hcl : (((((((X4.setCell ⟨G2, 0, none⟩ (.int .i64 3)).setCell ⟨G2, 1, none⟩ (.int .i64 1)).setCell ⟨G2, 2, none⟩ (.int .i64 1)).setCell ⟨G2, 3, none⟩ (.int .i64 2)).setCell ⟨G2, 4, none⟩ (.int .i64 n)).setCell ⟨G2, 5, none⟩ (.slice ka 0 kk)).setCell ⟨G2, 6, none⟩ (.string lk)).cell? ⟨gl, ol + j, none⟩ = some (.string bd) := by rw [hb2.cell (p := ⟨gl, ol + j, none⟩) hgl4]; exact CC.out _ D1.out.bw
          refine hK.out _ _ (Lib.hid ⟨hHeld.out.1.only ho (by omega), hcl, hb2⟩) (fun hHeld => ?_)
          replace O1 := Lib.hid (own_only O1.out ho (row_off flatIntK O1.out rp.out (by decide)))
          replace O2 := Lib.hid (own_only O2.out ho (row_off flatIntK O2.out rp.out (by decide)))
          replace O3 := Lib.hid (own_only O3.out ho (row_off flatIntK O3.out rp.out (by decide)))
          replace rr := Lib.hid (rr.out.only ho hne2)
          replace rp := Lib.hid (putSeven rp.out (.int .i64 3) (.int .i64 1) (.int .i64 1) (.int .i64 2) (.int .i64 n) (.slice ka 0 kk) (.string lk))
          clear hK K ho hb2 hcl r0_ g0_ r1_ g1_ r2_ g2_ r3_ g3_ r4_ g4_ r5_ g5_ r6_ g6_
          generalize (((((((X4.setCell ⟨G2, 0, none⟩ (.int .i64 3)).setCell ⟨G2, 1, none⟩ (.int .i64 1)).setCell ⟨G2, 2, none⟩ (.int .i64 1)).setCell ⟨G2, 3, none⟩ (.int .i64 2)).setCell ⟨G2, 4, none⟩ (.int .i64 n)).setCell ⟨G2, 5, none⟩ (.slice ka 0 kk)).setCell ⟨G2, 6, none⟩ (.string lk)) = X5 at *
          try simp only [Act.put, List.getElem_toArray, List.getElem_cons_succ, List.getElem_cons_zero, List.setIfInBounds_toArray, List.set_cons_zero, List.set_cons_succ]
          refine wpAnyH_take (i := 14) (v := ?_) rfl (by kernel_rfl) (by kernel_rfl) (by kernel_rfl) (fun _ _ _ h => h) (Or.inl ⟨by kernel_rfl, ?_⟩) hHeld ?_
          rotate_left
          · intro X hX
            first | (go_simp; done) | (go_simp; with_reducible rfl)
          try simp only [Act.put, List.getElem_toArray, List.getElem_cons_succ, List.getElem_cons_zero, List.setIfInBounds_toArray, List.set_cons_zero, List.set_cons_succ]
          refine wpAnyH_done (by kernel_rfl) ?_ _
          have hz := hHeld.out.2.2
          clear hHeld
          go_wp2_with fail
          go_meet
          exact ⟨G1, G2, qa, qk, ta, tk, ka, kk, rfl, rfl, rfl, Lib.hid ⟨rr.out, rp.out, ⟨_, O1.out⟩, ⟨_, O2.out⟩, layIntS.read O3.out, hz⟩⟩
    case rest =>
      obtain ⟨g1, g2, qa, qk, ta, tk, ka, kk, rfl, rfl, rfl, hc⟩ := hcut
      have hb := hc.out.2.2.2.2.2
      have hw4 : w.heap.size ≤ w4.heap.size := D1.out.be.size
      have NV := Lib.hid hc.out.1
      have PV := Lib.hid hc.out.2.1
      have M1 : Hid (∃ f, layIntS.own wc w.heap.size f [.slice qa 0 qk] []) := Lib.hid (hc.out.2.2.1.elim (fun f h => ⟨f, layIntS.lower h hw4⟩))
      have M2 : Hid (∃ f, layIntS.own wc w.heap.size f [.slice ta 0 tk] []) := Lib.hid (hc.out.2.2.2.1.elim (fun f h => ⟨f, layIntS.lower h hw4⟩))
      have RK := Lib.hid hc.out.2.2.2.2.1
      replace D1 := Lib.hid (D1.out.next hb)
      clear hc hb E0 qv hga hgl4 KS RA RB BE hw4
      have c0 : wc.cell? ⟨(ga + 1), 0, none⟩ = some (.int .i64 1) := D1.out.bv.cell 0
      have c1 : wc.cell? ⟨(ga + 1), 1, none⟩ = some (.string pb) := D1.out.bv.cell 1
      have c2 : wc.cell? ⟨(ga + 1), 2, none⟩ = some (.string pa) := D1.out.bv.cell 2
      have c3 : wc.cell? ⟨(ga + 1), 3, none⟩ = some (.int .i64 0) := D1.out.bv.cell 3
      have c4 : wc.cell? ⟨(ga + 1), 4, none⟩ = some (.slice na r.length nk) := D1.out.bv.cell 4
      have c5 : wc.cell? ⟨(ga + 1), 5, none⟩ = some (.int .i64 0) := D1.out.bv.cell 5
      have c6 : wc.cell? ⟨(ga + 1), 6, none⟩ = some (.int .i64 0) := D1.out.bv.cell 6
      have c7 : wc.cell? ⟨(ga + 1), 7, none⟩ = some (.string ⟨#[]⟩) := D1.out.bv.cell 7
      have c8 : wc.cell? ⟨(ga + 1), 8, none⟩ = some (.string ⟨#[]⟩) := D1.out.bv.cell 8
      have c9 : wc.cell? ⟨(ga + 1), 9, none⟩ = some (.int .i64 0) := D1.out.bv.cell 9
      have c10 : wc.cell? ⟨(ga + 1), 10, none⟩ = some (.slice ma 0 mk) := D1.out.bv.cell 10
      have c11 : wc.cell? ⟨(ga + 1), 11, none⟩ = some (.int .i64 0) := D1.out.bv.cell 11
      have d0 : wc.cell? ⟨g2, 0, none⟩ = some (.int .i64 3) := PV.out.cell 0
      have d1 : wc.cell? ⟨g2, 1, none⟩ = some (.int .i64 1) := PV.out.cell 1
      have d2 : wc.cell? ⟨g2, 2, none⟩ = some (.int .i64 1) := PV.out.cell 2
      have d3 : wc.cell? ⟨g2, 3, none⟩ = some (.int .i64 2) := PV.out.cell 3
      have d4 : wc.cell? ⟨g2, 4, none⟩ = some (.int .i64 n) := PV.out.cell 4
      have d5 : wc.cell? ⟨g2, 5, none⟩ = some (.slice ka 0 kk) := PV.out.cell 5
      have d6 : wc.cell? ⟨g2, 6, none⟩ = some (.string lk) := PV.out.cell 6
      go_wp2_with fail
      refine (F.out.opens 1 pb pa 0 _ r 0 0 ⟨#[]⟩ ⟨#[]⟩ 0 _ [] 0 3 1 1 2 n _ [] lk j t [] bd true hop (by omega) (by omega) (by decide) (by decide) zl hrl (by simp) (by simp) hri nil_intsD nil_intsD wc (LL.out _ D1.out.be) D1.out.rc D1.out.rd_ RK.out).mono ?_
      rintro e w5 ⟨v1_, v2_, f, g, rfl, -, o1, o2, hb⟩
      obtain ⟨c_1, c_2, rfl⟩ := rows_form (layIntS.read o1)
      obtain ⟨c_3, c_4, rfl⟩ : ∃ a c, v2_ = .slice a 0 c := rows_form (layIntS.read o2)
      have hal : Below w5.heap.size w5 (w5.alloc (.cells #[.int .i64 1, .string pb, .string pa, .int .i64 0, .slice c_1 t.length c_2, .int .i64 0, .int .i64 0, .string ⟨#[]⟩, .string ⟨#[]⟩, .int .i64 0, .slice c_3 0 c_4, .int .i64 0] SlotsT)) := (Below.refl _ _).alloc (Nat.le_refl _) _
      have hww : w.heap.size ≤ wc.heap.size := D1.out.be.size
      have CV := Lib.hid (VarA.new w5 SlotsT #[.int .i64 1, .string pb, .string pa, .int .i64 0, .slice c_1 t.length c_2, .int .i64 0, .int .i64 0, .string ⟨#[]⟩, .string ⟨#[]⟩, .int .i64 0, .slice c_3 0 c_4, .int .i64 0])
      have M3 : Hid (∃ f, layIntS.own (w5.alloc (.cells #[.int .i64 1, .string pb, .string pa, .int .i64 0, .slice c_1 t.length c_2, .int .i64 0, .int .i64 0, .string ⟨#[]⟩, .string ⟨#[]⟩, .int .i64 0, .slice c_3 0 c_4, .int .i64 0] SlotsT)) w.heap.size f [.slice c_1 t.length c_2] t) := Lib.hid ⟨f, layIntS.lower (layIntS.next o1 hal) hww⟩
      have M4 : Hid (∃ f, layIntS.own (w5.alloc (.cells #[.int .i64 1, .string pb, .string pa, .int .i64 0, .slice c_1 t.length c_2, .int .i64 0, .int .i64 0, .string ⟨#[]⟩, .string ⟨#[]⟩, .int .i64 0, .slice c_3 0 c_4, .int .i64 0] SlotsT)) w.heap.size f [.slice c_3 0 c_4] []) := Lib.hid ⟨g, layIntS.lower (layIntS.next o2 hal) hww⟩
      have hcg0 : Hid (ga + 1 < w5.heap.size) := Lib.hid (Nat.lt_of_lt_of_le D1.out.bv.lt hb.size)
      replace hb := hb.trans (hal.mono hb.size)
      replace D1 := Lib.hid (D1.out.next hb)
      replace NV := Lib.hid (NV.out.next hb)
      replace PV := Lib.hid (PV.out.next hb)
      replace RK := Lib.hid (layIntS.below RK.out hb)
      replace M1 := Lib.hid (row_next M1.out hb)
      replace M2 := Lib.hid (row_next M2.out hb)
      clear hb hal o1 o2 hww c0 c1 c2 c3 c4 c5 c6 c7 c8 c9 c10 c11 d0 d1 d2 d3 d4 d5 d6
      go_upto_region 17 with fail
      generalize w5.alloc (.cells #[.int .i64 1, .string pb, .string pa, .int .i64 0, .slice c_1 t.length c_2, .int .i64 0, .int .i64 0, .string ⟨#[]⟩, .string ⟨#[]⟩, .int .i64 0, .slice c_3 0 c_4, .int .i64 0] SlotsT) = w6 at *
      generalize w5.heap.size = gc at *
      have RC := Lib.hid (row_rd M3.out)
      have RD := Lib.hid (row_rd M4.out)
      have c0 : w6.cell? ⟨gc, 0, none⟩ = some (.int .i64 1) := CV.out.cell 0
      have c1 : w6.cell? ⟨gc, 1, none⟩ = some (.string pb) := CV.out.cell 1
      have c2 : w6.cell? ⟨gc, 2, none⟩ = some (.string pa) := CV.out.cell 2
      have c3 : w6.cell? ⟨gc, 3, none⟩ = some (.int .i64 0) := CV.out.cell 3
      have c4 : w6.cell? ⟨gc, 4, none⟩ = some (.slice c_1 t.length c_2) := CV.out.cell 4
      have c5 : w6.cell? ⟨gc, 5, none⟩ = some (.int .i64 0) := CV.out.cell 5
      have c6 : w6.cell? ⟨gc, 6, none⟩ = some (.int .i64 0) := CV.out.cell 6
      have c7 : w6.cell? ⟨gc, 7, none⟩ = some (.string ⟨#[]⟩) := CV.out.cell 7
      have c8 : w6.cell? ⟨gc, 8, none⟩ = some (.string ⟨#[]⟩) := CV.out.cell 8
      have c9 : w6.cell? ⟨gc, 9, none⟩ = some (.int .i64 0) := CV.out.cell 9
      have c10 : w6.cell? ⟨gc, 10, none⟩ = some (.slice c_3 0 c_4) := CV.out.cell 10
      have c11 : w6.cell? ⟨gc, 11, none⟩ = some (.int .i64 0) := CV.out.cell 11
      have d0 : w6.cell? ⟨g2, 0, none⟩ = some (.int .i64 3) := PV.out.cell 0
      have d1 : w6.cell? ⟨g2, 1, none⟩ = some (.int .i64 1) := PV.out.cell 1
      have d2 : w6.cell? ⟨g2, 2, none⟩ = some (.int .i64 1) := PV.out.cell 2
      have d3 : w6.cell? ⟨g2, 3, none⟩ = some (.int .i64 2) := PV.out.cell 3
      have d4 : w6.cell? ⟨g2, 4, none⟩ = some (.int .i64 n) := PV.out.cell 4
      have d5 : w6.cell? ⟨g2, 5, none⟩ = some (.slice ka 0 kk) := PV.out.cell 5
      have d6 : w6.cell? ⟨g2, 6, none⟩ = some (.string lk) := PV.out.cell 6
      go_wp2_with fail
      refine (F.out.opens 1 pb pa 0 _ t 0 0 ⟨#[]⟩ ⟨#[]⟩ 0 _ [] 0 3 1 1 2 n _ [] lk j t [] ⟨#[]⟩ false hag (by omega) (by omega) (by decide) (by decide) zl htl (by simp) (by simp) hti nil_intsD nil_intsD w6 (LL.out _ D1.out.be) RC.out RD.out RK.out).mono ?_
      rintro e w7 ⟨v1_, v2_, f, g, rfl, -, o1, o2, hb⟩
      obtain ⟨f_1, f_2, rfl⟩ := rows_form (layIntS.read o1)
      obtain ⟨f_3, f_4, rfl⟩ : ∃ a c, v2_ = .slice a 0 c := rows_form (layIntS.read o2)
      have hal : Below w7.heap.size w7 (w7.alloc (.cells #[.int .i64 1, .string pb, .string pa, .int .i64 0, .slice f_1 t.length f_2, .int .i64 0, .int .i64 0, .string ⟨#[]⟩, .string ⟨#[]⟩, .int .i64 0, .slice f_3 0 f_4, .int .i64 0] SlotsT)) := (Below.refl _ _).alloc (Nat.le_refl _) _
      have hww : w.heap.size ≤ w6.heap.size := D1.out.be.size
      replace hb := hb.trans (hal.mono hb.size)
      replace D1 := Lib.hid (D1.out.next hb)
      replace NV := Lib.hid (NV.out.next hb)
      replace PV := Lib.hid (PV.out.next hb)
      replace CV := Lib.hid (CV.out.next hb)
      replace RK := Lib.hid (layIntS.below RK.out hb)
      replace RC := Lib.hid (layIntS.below RC.out hb)
      replace RD := Lib.hid (layIntS.below RD.out hb)
      replace M1 := Lib.hid (row_next M1.out hb)
      replace M2 := Lib.hid (row_next M2.out hb)
      replace M3 := Lib.hid (row_next M3.out hb)
      replace M4 := Lib.hid (row_next M4.out hb)
      clear hb hal o1 o2 hww c0 c1 c2 c3 c4 c5 c6 c7 c8 c9 c10 c11 d0 d1 d2 d3 d4 d5 d6
      go_upto_region 18 with fail
      generalize w7.alloc (.cells #[.int .i64 1, .string pb, .string pa, .int .i64 0, .slice f_1 t.length f_2, .int .i64 0, .int .i64 0, .string ⟨#[]⟩, .string ⟨#[]⟩, .int .i64 0, .slice f_3 0 f_4, .int .i64 0] SlotsT) = w8 at *
      have u1 : (bd.toList == bd.toList) = true := beq_self_eq_true _
      have u2 : (n == n) = true := beq_self_eq_true _
      have R1 := Lib.hid (row_rd M1.out)
      have R2 := Lib.hid (row_rd M2.out)
      have cl8 : w8.cell? ⟨gl, ol + j, none⟩ = some (.string bd) := CC.out _ D1.out.bw
      have c0 : w8.cell? ⟨g1, 0, none⟩ = some (.int .i64 1) := NV.out.cell 0
      have c1 : w8.cell? ⟨g1, 1, none⟩ = some (.string pa) := NV.out.cell 1
      have c2 : w8.cell? ⟨g1, 2, none⟩ = some (.string pb) := NV.out.cell 2
      have c3 : w8.cell? ⟨g1, 3, none⟩ = some (.int .i64 n) := NV.out.cell 3
      have c4 : w8.cell? ⟨g1, 4, none⟩ = some (.slice qa 0 qk) := NV.out.cell 4
      have c5 : w8.cell? ⟨g1, 5, none⟩ = some (.int .i64 0) := NV.out.cell 5
      have c6 : w8.cell? ⟨g1, 6, none⟩ = some (.int .i64 0) := NV.out.cell 6
      have c7 : w8.cell? ⟨g1, 7, none⟩ = some (.string ⟨#[]⟩) := NV.out.cell 7
      have c8 : w8.cell? ⟨g1, 8, none⟩ = some (.string ⟨#[]⟩) := NV.out.cell 8
      have c9 : w8.cell? ⟨g1, 9, none⟩ = some (.int .i64 0) := NV.out.cell 9
      have c10 : w8.cell? ⟨g1, 10, none⟩ = some (.slice ta 0 tk) := NV.out.cell 10
      have c11 : w8.cell? ⟨g1, 11, none⟩ = some (.int .i64 0) := NV.out.cell 11
      go_wp2_with fail
      refine (F.out.right 1 pa pb n _ [] 0 0 ⟨#[]⟩ ⟨#[]⟩ 0 _ [] 0 hsN (by omega) (by omega) (by decide) (by decide) (by simp) (by simp) nil_intsD nil_intsD w8 (LL.out _ D1.out.be) R1.out R2.out).mono ?_
      rintro e w9 ⟨rfl, hb⟩
      replace D1 := Lib.hid (D1.out.next hb)
      replace NV := Lib.hid (NV.out.next hb)
      replace PV := Lib.hid (PV.out.next hb)
      replace CV := Lib.hid (CV.out.next hb)
      replace RK := Lib.hid (layIntS.below RK.out hb)
      replace RC := Lib.hid (layIntS.below RC.out hb)
      replace RD := Lib.hid (layIntS.below RD.out hb)
      replace M1 := Lib.hid (row_next M1.out hb)
      replace M2 := Lib.hid (row_next M2.out hb)
      replace M3 := Lib.hid (row_next M3.out hb)
      replace M4 := Lib.hid (row_next M4.out hb)
      clear hb c0 c1 c2 c3 c4 c5 c6 c7 c8 c9 c10 c11 cl8 R1 R2
      have c0 : w9.cell? ⟨gc, 0, none⟩ = some (.int .i64 1) := CV.out.cell 0
      have c1 : w9.cell? ⟨gc, 1, none⟩ = some (.string pb) := CV.out.cell 1
      have c2 : w9.cell? ⟨gc, 2, none⟩ = some (.string pa) := CV.out.cell 2
      have c3 : w9.cell? ⟨gc, 3, none⟩ = some (.int .i64 0) := CV.out.cell 3
      have c4 : w9.cell? ⟨gc, 4, none⟩ = some (.slice c_1 t.length c_2) := CV.out.cell 4
      have c5 : w9.cell? ⟨gc, 5, none⟩ = some (.int .i64 0) := CV.out.cell 5
      have c6 : w9.cell? ⟨gc, 6, none⟩ = some (.int .i64 0) := CV.out.cell 6
      have c7 : w9.cell? ⟨gc, 7, none⟩ = some (.string ⟨#[]⟩) := CV.out.cell 7
      have c8 : w9.cell? ⟨gc, 8, none⟩ = some (.string ⟨#[]⟩) := CV.out.cell 8
      have c9 : w9.cell? ⟨gc, 9, none⟩ = some (.int .i64 0) := CV.out.cell 9
      have c10 : w9.cell? ⟨gc, 10, none⟩ = some (.slice c_3 0 c_4) := CV.out.cell 10
      have c11 : w9.cell? ⟨gc, 11, none⟩ = some (.int .i64 0) := CV.out.cell 11
      go_wp2_with fail
      refine (F.out.right 1 pb pa 0 _ t 0 0 ⟨#[]⟩ ⟨#[]⟩ 0 _ [] 0 hsC (by omega) (by omega) (by decide) (by decide) htl (by simp) hti nil_intsD w9 (LL.out _ D1.out.be) RC.out RD.out).mono ?_
      rintro e w10 ⟨rfl, hb⟩
      replace D1 := Lib.hid (D1.out.next hb)
      replace NV := Lib.hid (NV.out.next hb)
      replace PV := Lib.hid (PV.out.next hb)
      replace CV := Lib.hid (CV.out.next hb)
      replace RK := Lib.hid (layIntS.below RK.out hb)
      replace RC := Lib.hid (layIntS.below RC.out hb)
      replace RD := Lib.hid (layIntS.below RD.out hb)
      replace M1 := Lib.hid (row_next M1.out hb)
      replace M2 := Lib.hid (row_next M2.out hb)
      replace M3 := Lib.hid (row_next M3.out hb)
      replace M4 := Lib.hid (row_next M4.out hb)
      clear hb c0 c1 c2 c3 c4 c5 c6 c7 c8 c9 c10 c11
      have cn3 : w10.cell? ⟨g1, 3, none⟩ = some (.int .i64 n) := NV.out.cell 3
      have ca3 : w10.cell? ⟨ga, 3, none⟩ = some (.int .i64 j) := D1.out.av.cell 3
      have d0 : w10.cell? ⟨g2, 0, none⟩ = some (.int .i64 3) := PV.out.cell 0
      have d1 : w10.cell? ⟨g2, 1, none⟩ = some (.int .i64 1) := PV.out.cell 1
      have d2 : w10.cell? ⟨g2, 2, none⟩ = some (.int .i64 1) := PV.out.cell 2
      have d3 : w10.cell? ⟨g2, 3, none⟩ = some (.int .i64 2) := PV.out.cell 3
      have d4 : w10.cell? ⟨g2, 4, none⟩ = some (.int .i64 n) := PV.out.cell 4
      have d5 : w10.cell? ⟨g2, 5, none⟩ = some (.slice ka 0 kk) := PV.out.cell 5
      have d6 : w10.cell? ⟨g2, 6, none⟩ = some (.string lk) := PV.out.cell 6
      have hpk : PkOkP 3 1 1 2 n [] lk := data_packet (by omega) (by omega) zl2
      go_wp2_with fail
      refine (specPacketOk_any 3 1 1 2 n _ [] lk (by simp) (by omega) w10 RK.out).mono ?_
      rintro e w11 ⟨hto, hb⟩
      obtain rfl : e = .returned (.bool true) := by
        rcases hto with ⟨_, h⟩ | ⟨h, _⟩
        · exact h
        · exact absurd hpk h
      replace D1 := Lib.hid (D1.out.next hb)
      replace NV := Lib.hid (NV.out.next hb)
      replace PV := Lib.hid (PV.out.next hb)
      replace CV := Lib.hid (CV.out.next hb)
      replace M1 := Lib.hid (row_next M1.out hb)
      replace M2 := Lib.hid (row_next M2.out hb)
      replace M3 := Lib.hid (row_next M3.out hb)
      replace M4 := Lib.hid (row_next M4.out hb)
      clear hb hto hpk RK RC RD d0 d1 d2 d3 d4 d5 d6 cn3 ca3
      go_upto_region 20 with fail
      have c0 : w11.cell? ⟨g1, 0, none⟩ = some (.int .i64 1) := NV.out.cell 0
      have c1 : w11.cell? ⟨g1, 1, none⟩ = some (.string pa) := NV.out.cell 1
      have c2 : w11.cell? ⟨g1, 2, none⟩ = some (.string pb) := NV.out.cell 2
      have c3 : w11.cell? ⟨g1, 3, none⟩ = some (.int .i64 n) := NV.out.cell 3
      have c4 : w11.cell? ⟨g1, 4, none⟩ = some (.slice qa 0 qk) := NV.out.cell 4
      have c5 : w11.cell? ⟨g1, 5, none⟩ = some (.int .i64 0) := NV.out.cell 5
      have c6 : w11.cell? ⟨g1, 6, none⟩ = some (.int .i64 0) := NV.out.cell 6
      have c7 : w11.cell? ⟨g1, 7, none⟩ = some (.string ⟨#[]⟩) := NV.out.cell 7
      have c8 : w11.cell? ⟨g1, 8, none⟩ = some (.string ⟨#[]⟩) := NV.out.cell 8
      have c9 : w11.cell? ⟨g1, 9, none⟩ = some (.int .i64 0) := NV.out.cell 9
      have c10 : w11.cell? ⟨g1, 10, none⟩ = some (.slice ta 0 tk) := NV.out.cell 10
      have c11 : w11.cell? ⟨g1, 11, none⟩ = some (.int .i64 0) := NV.out.cell 11
      have d0 : w11.cell? ⟨ga, 0, none⟩ = some (.int .i64 1) := D1.out.av.cell 0
      have d1 : w11.cell? ⟨ga, 1, none⟩ = some (.string pa) := D1.out.av.cell 1
      have d2 : w11.cell? ⟨ga, 2, none⟩ = some (.string pb) := D1.out.av.cell 2
      have d3 : w11.cell? ⟨ga, 3, none⟩ = some (.int .i64 j) := D1.out.av.cell 3
      have d4 : w11.cell? ⟨ga, 4, none⟩ = some (.slice va 0 vk) := D1.out.av.cell 4
      have d5 : w11.cell? ⟨ga, 5, none⟩ = some (.int .i64 0) := D1.out.av.cell 5
      have d6 : w11.cell? ⟨ga, 6, none⟩ = some (.int .i64 0) := D1.out.av.cell 6
      have d7 : w11.cell? ⟨ga, 7, none⟩ = some (.string ⟨#[]⟩) := D1.out.av.cell 7
      have d8 : w11.cell? ⟨ga, 8, none⟩ = some (.string ⟨#[]⟩) := D1.out.av.cell 8
      have d9 : w11.cell? ⟨ga, 9, none⟩ = some (.int .i64 0) := D1.out.av.cell 9
      have d10 : w11.cell? ⟨ga, 10, none⟩ = some (.slice ua 0 uk) := D1.out.av.cell 10
      have d11 : w11.cell? ⟨ga, 11, none⟩ = some (.int .i64 0) := D1.out.av.cell 11
      have g0_ := D1.out.av.free 0
      have g1_ := D1.out.av.free 1
      have g2_ := D1.out.av.free 2
      have g3_ := D1.out.av.free 3
      have g4_ := D1.out.av.free 4
      have g5_ := D1.out.av.free 5
      have g6_ := D1.out.av.free 6
      have g7_ := D1.out.av.free 7
      have g8_ := D1.out.av.free 8
      have g9_ := D1.out.av.free 9
      have g10_ := D1.out.av.free 10
      have g11_ := D1.out.av.free 11
      have D2 := Lib.hid (D1.out.putA (k2 := n) M1.out M2.out)
      have hoA : Only ga w11 ((((((((((((w11.setCell ⟨ga, 0, none⟩ (.int .i64 1)).setCell ⟨ga, 1, none⟩ (.string pa)).setCell ⟨ga, 2, none⟩ (.string pb)).setCell ⟨ga, 3, none⟩ (.int .i64 n)).setCell ⟨ga, 4, none⟩ (.slice qa 0 qk)).setCell ⟨ga, 5, none⟩ (.int .i64 0)).setCell ⟨ga, 6, none⟩ (.int .i64 0)).setCell ⟨ga, 7, none⟩ (.string ⟨#[]⟩)).setCell ⟨ga, 8, none⟩ (.string ⟨#[]⟩)).setCell ⟨ga, 9, none⟩ (.int .i64 0)).setCell ⟨ga, 10, none⟩ (.slice ta 0 tk)).setCell ⟨ga, 11, none⟩ (.int .i64 0)) := (putMain_only w11 ga _ _ _ _ _ _).trans (putLame_only _ ga _ _ _ _ _ _)
      have hga := D1.out.av.lt
      have hcg : gc ≠ ga := by have := hcg0.out; omega
      replace CV := Lib.hid (CV.out.only hoA hcg)
      replace M3 := Lib.hid (row_only M3.out hoA D1.out.av)
      replace M4 := Lib.hid (row_only M4.out hoA D1.out.av)
      clear hoA
      go_upto_region 21 with fail
      clear c0 c1 c2 c3 c4 c5 c6 c7 c8 c9 c10 c11 d0 g0_ d1 g1_ d2 g2_ d3 g3_ d4 g4_ d5 g5_ d6 g6_ d7 g7_ d8 g8_ d9 g9_ d10 g10_ d11 g11_ D1 NV PV M1 M2
      generalize ((((((((((((w11.setCell ⟨ga, 0, none⟩ (.int .i64 1)).setCell ⟨ga, 1, none⟩ (.string pa)).setCell ⟨ga, 2, none⟩ (.string pb)).setCell ⟨ga, 3, none⟩ (.int .i64 n)).setCell ⟨ga, 4, none⟩ (.slice qa 0 qk)).setCell ⟨ga, 5, none⟩ (.int .i64 0)).setCell ⟨ga, 6, none⟩ (.int .i64 0)).setCell ⟨ga, 7, none⟩ (.string ⟨#[]⟩)).setCell ⟨ga, 8, none⟩ (.string ⟨#[]⟩)).setCell ⟨ga, 9, none⟩ (.int .i64 0)).setCell ⟨ga, 10, none⟩ (.slice ta 0 tk)).setCell ⟨ga, 11, none⟩ (.int .i64 0)) = w12 at *
      have c0 : w12.cell? ⟨gc, 0, none⟩ = some (.int .i64 1) := CV.out.cell 0
      have c1 : w12.cell? ⟨gc, 1, none⟩ = some (.string pb) := CV.out.cell 1
      have c2 : w12.cell? ⟨gc, 2, none⟩ = some (.string pa) := CV.out.cell 2
      have c3 : w12.cell? ⟨gc, 3, none⟩ = some (.int .i64 0) := CV.out.cell 3
      have c4 : w12.cell? ⟨gc, 4, none⟩ = some (.slice c_1 t.length c_2) := CV.out.cell 4
      have c5 : w12.cell? ⟨gc, 5, none⟩ = some (.int .i64 0) := CV.out.cell 5
      have c6 : w12.cell? ⟨gc, 6, none⟩ = some (.int .i64 0) := CV.out.cell 6
      have c7 : w12.cell? ⟨gc, 7, none⟩ = some (.string ⟨#[]⟩) := CV.out.cell 7
      have c8 : w12.cell? ⟨gc, 8, none⟩ = some (.string ⟨#[]⟩) := CV.out.cell 8
      have c9 : w12.cell? ⟨gc, 9, none⟩ = some (.int .i64 0) := CV.out.cell 9
      have c10 : w12.cell? ⟨gc, 10, none⟩ = some (.slice c_3 0 c_4) := CV.out.cell 10
      have c11 : w12.cell? ⟨gc, 11, none⟩ = some (.int .i64 0) := CV.out.cell 11
      have d0 : w12.cell? ⟨(ga + 1), 0, none⟩ = some (.int .i64 1) := D2.out.bv.cell 0
      have d1 : w12.cell? ⟨(ga + 1), 1, none⟩ = some (.string pb) := D2.out.bv.cell 1
      have d2 : w12.cell? ⟨(ga + 1), 2, none⟩ = some (.string pa) := D2.out.bv.cell 2
      have d3 : w12.cell? ⟨(ga + 1), 3, none⟩ = some (.int .i64 0) := D2.out.bv.cell 3
      have d4 : w12.cell? ⟨(ga + 1), 4, none⟩ = some (.slice na r.length nk) := D2.out.bv.cell 4
      have d5 : w12.cell? ⟨(ga + 1), 5, none⟩ = some (.int .i64 0) := D2.out.bv.cell 5
      have d6 : w12.cell? ⟨(ga + 1), 6, none⟩ = some (.int .i64 0) := D2.out.bv.cell 6
      have d7 : w12.cell? ⟨(ga + 1), 7, none⟩ = some (.string ⟨#[]⟩) := D2.out.bv.cell 7
      have d8 : w12.cell? ⟨(ga + 1), 8, none⟩ = some (.string ⟨#[]⟩) := D2.out.bv.cell 8
      have d9 : w12.cell? ⟨(ga + 1), 9, none⟩ = some (.int .i64 0) := D2.out.bv.cell 9
      have d10 : w12.cell? ⟨(ga + 1), 10, none⟩ = some (.slice ma 0 mk) := D2.out.bv.cell 10
      have d11 : w12.cell? ⟨(ga + 1), 11, none⟩ = some (.int .i64 0) := D2.out.bv.cell 11
      have g0_ := D2.out.bv.free 0
      have g1_ := D2.out.bv.free 1
      have g2_ := D2.out.bv.free 2
      have g3_ := D2.out.bv.free 3
      have g4_ := D2.out.bv.free 4
      have g5_ := D2.out.bv.free 5
      have g6_ := D2.out.bv.free 6
      have g7_ := D2.out.bv.free 7
      have g8_ := D2.out.bv.free 8
      have g9_ := D2.out.bv.free 9
      have g10_ := D2.out.bv.free 10
      have g11_ := D2.out.bv.free 11
      have D3 := Lib.hid (D2.out.putB M3.out M4.out)
      go_upto_region 7 with fail
      clear c0 c1 c2 c3 c4 c5 c6 c7 c8 c9 c10 c11 d0 g0_ d1 g1_ d2 g2_ d3 g3_ d4 g4_ d5 g5_ d6 g6_ d7 g7_ d8 g8_ d9 g9_ d10 g10_ d11 g11_ D2 CV M3 M4
      generalize ((((((((((((w12.setCell ⟨ga + 1, 0, none⟩ (.int .i64 1)).setCell ⟨ga + 1, 1, none⟩ (.string pb)).setCell ⟨ga + 1, 2, none⟩ (.string pa)).setCell ⟨ga + 1, 3, none⟩ (.int .i64 0)).setCell ⟨ga + 1, 4, none⟩ (.slice c_1 t.length c_2)).setCell ⟨ga + 1, 5, none⟩ (.int .i64 0)).setCell ⟨ga + 1, 6, none⟩ (.int .i64 0)).setCell ⟨ga + 1, 7, none⟩ (.string ⟨#[]⟩)).setCell ⟨ga + 1, 8, none⟩ (.string ⟨#[]⟩)).setCell ⟨ga + 1, 9, none⟩ (.int .i64 0)).setCell ⟨ga + 1, 10, none⟩ (.slice c_3 0 c_4)).setCell ⟨ga + 1, 11, none⟩ (.int .i64 0)) = w13 at *
      have hnj : n = ((j + 1 : Nat) : Int) := by have := HNJ.out; omega
      subst hnj
      go_wp2_with fail
      go_roundw
      case rel => exact ⟨j + 1, _, _, _, _, _, _, _, _, t, by omega, by go_num, Lib.hid ⟨htt.1, by have := htt.2.2; omega⟩, D3⟩
      case measure => simp [intOf]; omega

end Go.Proofs.YtoaifgblbfdncaaGreatDoor
