/-
  The law on drawn keys that change, out of the program's contracts.
-/
import Derived.Test.YtpfkokjbpfaafaeDoorJ32
import Derived.Test.YtpfkokjbpfaafaeDoorJ33
import Derived.Test.YtpfkokjbpfaafaeDoorJ36
import Derived.Test.YtpfkokjbpfaafaeDoorJ37
import Derived.Test.YtpfkokjbpfaafaeDoorJ38
import Derived.Test.YtpfkokjbpfaafaeDoorJ39
import Derived.Test.YtpfkokjbpfaafaeDoorJ46
namespace Go.Proofs.YtpfkokjbpfaafaeDoor
open Go.RowKit

set_option maxHeartbeats 400000 in
theorem bigS_any (a : Option Addr) (len cap : Nat) (w : World) :
    Calls Tryd.prog 4 #[.slice a len cap] w fun e w' => e = .returned (.bool (decide (1048576 < (len : Int)))) ∧ w' = w := by
  go_enter Tryd.func4, Tryd.ntmps4
  go_wp2
  go_ret
  exact ⟨rfl, rfl⟩
theorem slot_ints {x0 : Int} {x1 x2 : ByteArray} {x3 : Int} {r4 : List Int} {x5 : Int} (h : SlotP x0 x1 x2 x3 r4 x5) : ∀ x ∈ r4, IntZ x := by
  rcases h with h | h
  · intro x hx
    have h4 := h.2.2.2.2.1
    rw [List.length_eq_zero_iff] at h4
    rw [h4] at hx
    cases hx
  · exact h.2.2.2.2.1.ints
/-- New keys come. -/
theorem install_good {m : Int} {x0 : Int} {x1 x2 : ByteArray} {x3 : Int} {r4 : List Int} {x5 : Int} {y0 : Int} {y1 y2 : ByteArray} {y3 : Int} {s4 : List Int} {y5 : Int} {send op : ByteArray} {now : Int} {w : World} {e : Ending} {w' : World} (hg : Good12 m x0 x1 x2 x3 r4 x5 y0 y1 y2 y3 s4 y5) (hp : InstallP x0 x1 x2 x3 r4 x5 y0 y1 y2 y3 s4 y5 send op now) (h : InstallEnd x0 x1 x2 x3 r4 x5 y0 y1 y2 y3 s4 y5 send op now w e w') :
    ∃ (v u : Value) (f g : List Nat), e = .returned (.tuple #[.agg #[.int .i64 (x0 + 1), .string send, .string op, .int .i64 0, v, .int .i64 0, .int .i64 x0, .string x1, .string x2, .int .i64 x3, u, .int .i64 (now + 10)], .bool true]) ∧ layIntS.own w' w.heap.size f [v] [] ∧ layIntS.own w' w.heap.size g [u] r4 ∧ Below w.heap.size w w' := by
  obtain ⟨z0, z1, z2, z3, t4, z5, n0, n1, n2, n3, o4, n5, ok, v, u', f, g, hc, rfl, hd, h1, h2, hbl⟩ := h
  rcases hc with ⟨rfl, _, ⟨rfl, rfl, rfl, rfl, rfl, rfl⟩, rfl, rfl, rfl, rfl, rfl, hn⟩ | ⟨_, h, _⟩
  · obtain ⟨rfl, -⟩ := good_install hg hp hn
    exact ⟨v, u', f, g, rfl, h1, h2, hbl⟩
  · exact absurd hp h
/-- No new keys. -/
theorem install_bad {x0 : Int} {x1 x2 : ByteArray} {x3 : Int} {r4 : List Int} {x5 : Int} {y0 : Int} {y1 y2 : ByteArray} {y3 : Int} {s4 : List Int} {y5 : Int} {send op : ByteArray} {now : Int} {w : World} {e : Ending} {w' : World} (hp : ¬ InstallP x0 x1 x2 x3 r4 x5 y0 y1 y2 y3 s4 y5 send op now) (h : InstallEnd x0 x1 x2 x3 r4 x5 y0 y1 y2 y3 s4 y5 send op now w e w') :
    ∃ (v u : Value) (f g : List Nat), e = .returned (.tuple #[.agg #[.int .i64 x0, .string x1, .string x2, .int .i64 x3, v, .int .i64 x5, .int .i64 y0, .string y1, .string y2, .int .i64 y3, u, .int .i64 y5], .bool false]) ∧ layIntS.own w' w.heap.size f [v] r4 ∧ layIntS.own w' w.heap.size g [u] s4 ∧ Below w.heap.size w w' := by
  obtain ⟨z0, z1, z2, z3, t4, z5, n0, n1, n2, n3, o4, n5, ok, v, u', f, g, hc, rfl, hd, h1, h2, hbl⟩ := h
  rcases hc with ⟨_, h, _⟩ | ⟨rfl, _, ⟨rfl, rfl, rfl, rfl, rfl, rfl⟩, rfl, rfl, rfl, rfl, rfl, rfl⟩
  · exact absurd h hp
  · exact ⟨v, u', f, g, rfl, h1, h2, hbl⟩
set_option maxRecDepth 100000 in
set_option maxHeartbeats 12800000 in
theorem lawSlotsF (HG : CloneS) (a : Option Addr) (len cap : Nat) (w : World) (H : Src a len w) (hT : LaidK w) :
    Calls Tryd.prog 3 #[.slice a len cap] w fun e w' => e = .returned (.bool true) ∧ Below w.heap.size w w' := by
  have hd : decide (1048576 < (len : Int)) = false := decide_eq_false (by have := H.few; omega)
  have HBG := Lib.hid (fun w => bigS_any a len cap w)
  rw [hd] at HBG
  have HS := Lib.hid H
  have LL : Hid (∀ X, Below w.heap.size w X → LaidK X) := Lib.hid (fun X hb => hT.stays hb (Nat.le_refl _))
  clear H hT hd
  go_enter Tryd.func3, Tryd.ntmps3
  go_wp2_with fail
  refine (HBG.out _).mono ?_
  rintro e w0 ⟨rfl, hw⟩
  rw [hw]
  clear hw w0
  go_wp2_with fail
  refine (drawSlots_any a len cap w HS.out).mono ?_
  rintro e w1 ⟨x0, x1, x2, x3, v4, r4, x5, y0, y1, y2, y3, u4, s4, y5, hg, rfl, hm, hl, hb⟩
  obtain ⟨va, vk, rfl⟩ := rows_form hm
  obtain ⟨ua, uk, rfl⟩ := rows_form hl
  have GD := Lib.hid hg
  have hal : Below w1.heap.size w1 (w1.alloc (.cells #[.int .i64 x0, .string x1, .string x2, .int .i64 x3, .slice va r4.length vk, .int .i64 x5, .int .i64 y0, .string y1, .string y2, .int .i64 y3, .slice ua s4.length uk, .int .i64 y5] SlotsT)) := (Below.refl _ _).alloc (Nat.le_refl _) _
  have SV := Lib.hid (VarA.new w1 SlotsT #[.int .i64 x0, .string x1, .string x2, .int .i64 x3, .slice va r4.length vk, .int .i64 x5, .int .i64 y0, .string y1, .string y2, .int .i64 y3, .slice ua s4.length uk, .int .i64 y5])
  have HM := Lib.hid (layIntS.below hm hal)
  have HL := Lib.hid (layIntS.below hl hal)
  have BY := Lib.hid (hb.trans (hal.mono hb.size))
  clear hg hm hl hal hb
  go_upto_region 4 with fail
  generalize w1.alloc (.cells #[.int .i64 x0, .string x1, .string x2, .int .i64 x3, .slice va r4.length vk, .int .i64 x5, .int .i64 y0, .string y1, .string y2, .int .i64 y3, .slice ua s4.length uk, .int .i64 y5] SlotsT) = w2 at *
  generalize w1.heap.size = gs at *
  go_wp2_with fail
  refine (drawPlaces_any a len cap w2 (HS.out.below BY.out)).mono ?_
  rintro e w3 ⟨gp, cp, zs, hzl, hz, rfl, hgl, hzc, hb⟩
  have hz0 := hz _ (List.getElem_mem (l := zs) (n := 0) (by omega))
  have z0 := hzc 0 (by omega)
  rw [List.getD_eq_getElem?_getD, List.getElem?_eq_getElem (by omega)] at z0
  simp only [Option.getD_some] at z0
  generalize (zs[0]'(by omega)) = zn at *
  obtain ⟨now, hnow⟩ : ∃ now : Int, Int.tmod zn 90 = now := ⟨_, rfl⟩
  have hnb : 0 ≤ now ∧ now ≤ 89 := by rw [← hnow, Int.tmod_eq_emod_of_nonneg hz0.1]; omega
  replace SV := Lib.hid (SV.out.next hb)
  replace HM := Lib.hid (layIntS.below HM.out hb)
  replace HL := Lib.hid (layIntS.below HL.out hb)
  replace BY := Lib.hid (BY.out.trans (hb.mono BY.out.size))
  clear hz hzc hzl hb
  go_upto_region 5 with fail
  clear z0 hgl hz0 hnow
  have hf1 := slot_few GD.out.p.1
  have hf2 := slot_few GD.out.p.2.1
  have hi1 := slot_ints GD.out.p.1
  have hi2 := slot_ints GD.out.p.2.1
  have hx0 : 1 ≤ x0 ∧ x0 ≤ 8 := ⟨GD.out.k.1.1, GD.out.le⟩
  obtain ⟨da, hda⟩ : ∃ t, digP (⟨#[97]⟩ : ByteArray) = t := ⟨_, rfl⟩
  obtain ⟨db, hdb⟩ : ∃ t, digP (⟨#[98]⟩ : ByteArray) = t := ⟨_, rfl⟩
  have za : da.size = 32 := by rw [← hda]; exact digP_size _
  have zb : db.size = 32 := by rw [← hdb]; exact digP_size _
  have KA := Lib.hid (specDigP_any (⟨#[97]⟩ : ByteArray) (by decide))
  have KB := Lib.hid (specDigP_any (⟨#[98]⟩ : ByteArray) (by decide))
  rw [hda] at KA
  rw [hdb] at KB
  clear hda hdb
  have hwn : IntKind.i64.wrap (now + 10) = now + 10 := by rw [IntKind.wrap_i64]; omega
  have hw9 : IntKind.i64.wrap (now + 10 - 1) = now + 9 := by rw [IntKind.wrap_i64]; omega
  have hwx : IntKind.i64.wrap (x0 + 1) = x0 + 1 := by rw [IntKind.wrap_i64]; omega
  have HP : Hid (InstallP x0 x1 x2 x3 r4 x5 y0 y1 y2 y3 s4 y5 da db now) := Lib.hid ⟨GD.out.p, za, zb, ⟨by omega, by omega⟩, by omega⟩
  have GA : Hid (Good12 (8 + 1) (x0 + 1) da db 0 [] 0 x0 x1 x2 x3 r4 (now + 10)) := Lib.hid (good_install GD.out HP.out (.inr ⟨keys_some GD.out.k, rfl⟩)).2
  have E0 : Hid (VarA gs SlotsT #[.int .i64 x0, .string x1, .string x2, .int .i64 x3, .slice va r4.length vk, .int .i64 x5, .int .i64 y0, .string y1, .string y2, .int .i64 y3, .slice ua s4.length uk, .int .i64 y5] w3.drew ∧ Below w3.heap.size w3 w3.drew) := Lib.hid ⟨SV.out.drew, (Below.refl _ _).drew⟩
  have hgs := SV.out.lt
  have qv : ∀ X Y, (Hid (VarA gs SlotsT #[.int .i64 x0, .string x1, .string x2, .int .i64 x3, .slice va r4.length vk, .int .i64 x5, .int .i64 y0, .string y1, .string y2, .int .i64 y3, .slice ua s4.length uk, .int .i64 y5] X ∧ Below w3.heap.size w3 X)) → Below X.heap.size X Y → (Hid (VarA gs SlotsT #[.int .i64 x0, .string x1, .string x2, .int .i64 x3, .slice va r4.length vk, .int .i64 x5, .int .i64 y0, .string y1, .string y2, .int .i64 y3, .slice ua s4.length uk, .int .i64 y5] Y ∧ Below w3.heap.size w3 Y)) := fun X Y h hb => Lib.hid ⟨h.out.1.next hb, h.out.2.trans (hb.mono h.out.2.size)⟩
  go_wp2_with fail
  go_cut [5, 6] (fun z y wx => ∃ (ga : Nat) (pa : Option Addr) (pk : Nat) (qa : Option Addr) (qk : Nat), z = .pointer (some ⟨ga, 0, none⟩) ∧ y = .bool true ∧ Hid (VarA ga SlotsT #[.int .i64 (x0 + 1), .string da, .string db, .int .i64 0, .slice pa 0 pk, .int .i64 0, .int .i64 x0, .string x1, .string x2, .int .i64 x3, .slice qa r4.length qk, .int .i64 (now + 10)] wx ∧ layIntS.rd wx [.slice pa 0 pk] [] ∧ layIntS.rd wx [.slice qa r4.length qk] r4 ∧ Below w3.heap.size w3 wx))
  case first =>
    refine wp_region_held_drew (S := fun X => Hid (VarA gs SlotsT #[.int .i64 x0, .string x1, .string x2, .int .i64 x3, .slice va r4.length vk, .int .i64 x5, .int .i64 y0, .string y1, .string y2, .int .i64 y3, .slice ua s4.length uk, .int .i64 y5] X ∧ Below w3.heap.size w3 X)) (by kernel_rfl) E0 (fun hHeld => ?_)
    clear E0
    generalize w3.drew = X0 at *
    refine wpAnyH_take (i := 0) (v := ?_) rfl (by kernel_rfl) (by kernel_rfl) (by kernel_rfl) (fun _ _ _ h => h) (Or.inl ⟨by kernel_rfl, ?_⟩) hHeld ?_
    rotate_left
    · intro X hX
      have yy0_ : X.cell? ⟨gs, 0, none⟩ = some (.int .i64 x0) := hX.out.1.cell 0
      have yy1_ : X.cell? ⟨gs, 1, none⟩ = some (.string x1) := hX.out.1.cell 1
      have yy2_ : X.cell? ⟨gs, 2, none⟩ = some (.string x2) := hX.out.1.cell 2
      have yy3_ : X.cell? ⟨gs, 3, none⟩ = some (.int .i64 x3) := hX.out.1.cell 3
      have yy4_ : X.cell? ⟨gs, 4, none⟩ = some (.slice va r4.length vk) := hX.out.1.cell 4
      have yy5_ : X.cell? ⟨gs, 5, none⟩ = some (.int .i64 x5) := hX.out.1.cell 5
      have yy6_ : X.cell? ⟨gs, 6, none⟩ = some (.int .i64 y0) := hX.out.1.cell 6
      have yy7_ : X.cell? ⟨gs, 7, none⟩ = some (.string y1) := hX.out.1.cell 7
      have yy8_ : X.cell? ⟨gs, 8, none⟩ = some (.string y2) := hX.out.1.cell 8
      have yy9_ : X.cell? ⟨gs, 9, none⟩ = some (.int .i64 y3) := hX.out.1.cell 9
      have yy10_ : X.cell? ⟨gs, 10, none⟩ = some (.slice ua s4.length uk) := hX.out.1.cell 10
      have yy11_ : X.cell? ⟨gs, 11, none⟩ = some (.int .i64 y5) := hX.out.1.cell 11
      first | (go_simp; done) | (go_simp; with_reducible rfl)
    try simp only [Act.put, List.getElem_toArray, List.getElem_cons_zero, List.setIfInBounds_toArray, List.set_cons_zero, List.set_cons_succ]
    refine wpAnyH_take (i := 3) (v := ?_) rfl (by kernel_rfl) (by kernel_rfl) (by kernel_rfl) (fun _ _ _ h => h) (Or.inl ⟨by kernel_rfl, ?_⟩) hHeld ?_
    rotate_left
    · intro X hX
      first | (go_simp; done) | (go_simp; with_reducible rfl)
    try simp only [Act.put, List.getElem_toArray, List.getElem_cons_succ, List.getElem_cons_zero, List.setIfInBounds_toArray, List.set_cons_zero, List.set_cons_succ]
    refine wpAnyH_ready (rs := [1, 8]) (by kernel_rfl) (by simp) ?_
    refine AllReadyH.cons rfl (fun K hK => ?_) (AllReadyH.cons rfl (fun K hK => ?_) AllReadyH.nil)
    · go_simp
      go_wp2_with (go_at_call 8; refine (KA.out X0).mono ?_; rintro e X1 ⟨rfl, hb0⟩; have hS := qv _ _ hHeld hb0; have hb := Lib.hid hb0; clear hb0)
      refine hK.out _ _ hS (fun hHeld => ?_)
      clear hK K hS
      clear hb
      try simp only [Act.put, List.getElem_toArray, List.getElem_cons_succ, List.getElem_cons_zero, List.setIfInBounds_toArray, List.set_cons_zero, List.set_cons_succ]
      refine wpAnyH_ready (rs := [2, 8]) (by kernel_rfl) (by simp) ?_
      refine AllReadyH.cons rfl (fun K hK => ?_) (AllReadyH.cons rfl (fun K hK => ?_) AllReadyH.nil)
      · go_simp
        go_wp2_with (go_at_call 8; refine (KB.out X1).mono ?_; rintro e X2 ⟨rfl, hb0⟩; have hS := qv _ _ hHeld hb0; have hb := Lib.hid hb0; clear hb0)
        refine hK.out _ _ hS (fun hHeld => ?_)
        clear hK K hS
        clear hb
        try simp only [Act.put, List.getElem_toArray, List.getElem_cons_succ, List.getElem_cons_zero, List.setIfInBounds_toArray, List.set_cons_zero, List.set_cons_succ]
        refine wpAnyH_ready (rs := [4, 8]) (by kernel_rfl) (by simp) ?_
        refine AllReadyH.cons rfl (fun K hK => ?_) (AllReadyH.cons rfl (fun K hK => ?_) AllReadyH.nil)
        · go_simp
          go_wp2_with (go_at_call 7; refine (implInstall_gen HG x0 x1 x2 x3 _ r4 x5 y0 y1 y2 y3 _ s4 y5 da db now (by omega) (by omega) (by omega) (by omega) (by omega) (by omega) hi1 hi2 (by omega) (by omega) X2 (layIntS.below HM.out hHeld.out.2) (layIntS.below HL.out hHeld.out.2)).mono ?_; intro e X3 he; obtain ⟨v5, v6, f, g, rfl, o1, o2, hb0⟩ := install_good GD.out HP.out he; obtain ⟨pa, pk, rfl⟩ := (show ∃ a c, v5 = .slice a 0 c from rows_form (layIntS.read o1)); obtain ⟨qa, qk, rfl⟩ := rows_form (layIntS.read o2); have hlo : w3.heap.size ≤ X2.heap.size := hHeld.out.2.size; have hS := qv _ _ hHeld hb0; have hb := Lib.hid hb0; have O1 := Lib.hid (layIntS.lower o1 hlo); have O2 := Lib.hid (layIntS.lower o2 hlo); clear hb0 o1 o2 hlo he)
          refine hK.out _ _ hS (fun hHeld => ?_)
          clear hK K hS
          clear hb
          try simp only [Act.put, List.getElem_toArray, List.getElem_cons_succ, List.getElem_cons_zero, List.setIfInBounds_toArray, List.set_cons_zero, List.set_cons_succ]
          refine wpAnyH_take (i := 5) (v := ?_) rfl (by kernel_rfl) (by kernel_rfl) (by kernel_rfl) (fun _ _ _ h => h) (Or.inl ⟨by kernel_rfl, ?_⟩) hHeld ?_
          rotate_left
          · intro X hX
            first | (go_simp; done) | (go_simp; with_reducible rfl)
          try simp only [Act.put, List.getElem_toArray, List.getElem_cons_succ, List.getElem_cons_zero, List.setIfInBounds_toArray, List.set_cons_zero, List.set_cons_succ]
          refine wpAnyH_take (i := 6) (v := ?_) rfl (by kernel_rfl) (by kernel_rfl) (by kernel_rfl) (fun _ _ _ h => h) (Or.inl ⟨by kernel_rfl, ?_⟩) hHeld ?_
          rotate_left
          · intro X hX
            first | (go_simp; done) | (go_simp; with_reducible rfl)
          try simp only [Act.put, List.getElem_toArray, List.getElem_cons_succ, List.getElem_cons_zero, List.setIfInBounds_toArray, List.set_cons_zero, List.set_cons_succ]
          refine wpAnyH_take (i := 7) (v := ?_) rfl (by kernel_rfl) (by kernel_rfl) (by kernel_rfl) (fun _ _ _ h => h) (Or.inl ⟨by kernel_rfl, ?_⟩) hHeld ?_
          rotate_left
          · intro X hX
            first | (go_simp; done) | (go_simp; with_reducible rfl)
          try simp only [Act.put, List.getElem_toArray, List.getElem_cons_succ, List.getElem_cons_zero, List.setIfInBounds_toArray, List.set_cons_zero, List.set_cons_succ]
          refine wpAnyH_ready (rs := [8]) (by kernel_rfl) (by simp) ?_
          refine AllReadyH.cons rfl (fun K hK => ?_) AllReadyH.nil
          go_simp
          have hal : Below X3.heap.size X3 (X3.alloc (.cells #[.int .i64 0, .string ⟨#[]⟩, .string ⟨#[]⟩, .int .i64 0, .slice none 0 0, .int .i64 0, .int .i64 0, .string ⟨#[]⟩, .string ⟨#[]⟩, .int .i64 0, .slice none 0 0, .int .i64 0] SlotsT)) := (Below.refl _ _).alloc (Nat.le_refl _) _
          have hlo : w3.heap.size ≤ X3.heap.size := hHeld.out.2.size
          refine hK.out _ _ (qv _ _ hHeld hal) (fun hHeld => ?_)
          clear hK K
          have rr := Lib.hid (VarA.new X3 SlotsT #[.int .i64 0, .string ⟨#[]⟩, .string ⟨#[]⟩, .int .i64 0, .slice none 0 0, .int .i64 0, .int .i64 0, .string ⟨#[]⟩, .string ⟨#[]⟩, .int .i64 0, .slice none 0 0, .int .i64 0])
          have hb := Lib.hid hal
          replace O1 := Lib.hid (layIntS.next O1.out hb.out)
          replace O2 := Lib.hid (layIntS.next O2.out hb.out)
          clear hal hb
          generalize X3.alloc (.cells #[.int .i64 0, .string ⟨#[]⟩, .string ⟨#[]⟩, .int .i64 0, .slice none 0 0, .int .i64 0, .int .i64 0, .string ⟨#[]⟩, .string ⟨#[]⟩, .int .i64 0, .slice none 0 0, .int .i64 0] SlotsT) = X4 at *
          generalize X3.heap.size = G at *
          try simp only [Act.put, List.getElem_toArray, List.getElem_cons_succ, List.getElem_cons_zero, List.setIfInBounds_toArray, List.set_cons_zero, List.set_cons_succ]
          refine wpAnyH_ready (rs := [9]) (by kernel_rfl) (by simp) ?_
          refine AllReadyH.cons rfl (fun K hK => ?_) AllReadyH.nil
          have r0_ := rr.out.cell 0
          have r1_ := rr.out.cell 1
          have r2_ := rr.out.cell 2
          have r3_ := rr.out.cell 3
          have r4_ := rr.out.cell 4
          have r5_ := rr.out.cell 5
          have r6_ := rr.out.cell 6
          have r7_ := rr.out.cell 7
          have r8_ := rr.out.cell 8
          have r9_ := rr.out.cell 9
          have r10_ := rr.out.cell 10
          have r11_ := rr.out.cell 11
          have g0_ := rr.out.free 0
          have g1_ := rr.out.free 1
          have g2_ := rr.out.free 2
          have g3_ := rr.out.free 3
          have g4_ := rr.out.free 4
          have g5_ := rr.out.free 5
          have g6_ := rr.out.free 6
          have g7_ := rr.out.free 7
          have g8_ := rr.out.free 8
          have g9_ := rr.out.free 9
          have g10_ := rr.out.free 10
          have g11_ := rr.out.free 11
          go_simp
          have ho : Only G X4 ((((((((((((X4.setCell ⟨G, 0, none⟩ (.int .i64 (x0 + 1))).setCell ⟨G, 1, none⟩ (.string da)).setCell ⟨G, 2, none⟩ (.string db)).setCell ⟨G, 3, none⟩ (.int .i64 0)).setCell ⟨G, 4, none⟩ (.slice pa 0 pk)).setCell ⟨G, 5, none⟩ (.int .i64 0)).setCell ⟨G, 6, none⟩ (.int .i64 x0)).setCell ⟨G, 7, none⟩ (.string x1)).setCell ⟨G, 8, none⟩ (.string x2)).setCell ⟨G, 9, none⟩ (.int .i64 x3)).setCell ⟨G, 10, none⟩ (.slice qa r4.length qk)).setCell ⟨G, 11, none⟩ (.int .i64 (now + 10))) := (putMain_only X4 G _ _ _ _ _ _).trans (putLame_only _ G _ _ _ _ _ _)
          have hb2 : Below w3.heap.size w3 ((((((((((((X4.setCell ⟨G, 0, none⟩ (.int .i64 (x0 + 1))).setCell ⟨G, 1, none⟩ (.string da)).setCell ⟨G, 2, none⟩ (.string db)).setCell ⟨G, 3, none⟩ (.int .i64 0)).setCell ⟨G, 4, none⟩ (.slice pa 0 pk)).setCell ⟨G, 5, none⟩ (.int .i64 0)).setCell ⟨G, 6, none⟩ (.int .i64 x0)).setCell ⟨G, 7, none⟩ (.string x1)).setCell ⟨G, 8, none⟩ (.string x2)).setCell ⟨G, 9, none⟩ (.int .i64 x3)).setCell ⟨G, 10, none⟩ (.slice qa r4.length qk)).setCell ⟨G, 11, none⟩ (.int .i64 (now + 10))) := putBoth_below hHeld.out.2 hlo _ _ _ _ _ _ _ _ _ _ _ _
          refine hK.out _ _ (Lib.hid ⟨hHeld.out.1.only ho (by omega), hb2⟩) (fun hHeld => ?_)
          clear hK K r0_ g0_ r1_ g1_ r2_ g2_ r3_ g3_ r4_ g4_ r5_ g5_ r6_ g6_ r7_ g7_ r8_ g8_ r9_ g9_ r10_ g10_ r11_ g11_
          replace O1 := Lib.hid (own_only O1.out ho (row_off flatIntK O1.out rr.out (by decide)))
          replace O2 := Lib.hid (own_only O2.out ho (row_off flatIntK O2.out rr.out (by decide)))
          have RS := Lib.hid (putBoth rr.out (.int .i64 (x0 + 1)) (.string da) (.string db) (.int .i64 0) (.slice pa 0 pk) (.int .i64 0) (.int .i64 x0) (.string x1) (.string x2) (.int .i64 x3) (.slice qa r4.length qk) (.int .i64 (now + 10)))
          clear ho hb2 rr
          generalize ((((((((((((X4.setCell ⟨G, 0, none⟩ (.int .i64 (x0 + 1))).setCell ⟨G, 1, none⟩ (.string da)).setCell ⟨G, 2, none⟩ (.string db)).setCell ⟨G, 3, none⟩ (.int .i64 0)).setCell ⟨G, 4, none⟩ (.slice pa 0 pk)).setCell ⟨G, 5, none⟩ (.int .i64 0)).setCell ⟨G, 6, none⟩ (.int .i64 x0)).setCell ⟨G, 7, none⟩ (.string x1)).setCell ⟨G, 8, none⟩ (.string x2)).setCell ⟨G, 9, none⟩ (.int .i64 x3)).setCell ⟨G, 10, none⟩ (.slice qa r4.length qk)).setCell ⟨G, 11, none⟩ (.int .i64 (now + 10))) = X5 at *
          try simp only [Act.put, List.getElem_toArray, List.getElem_cons_succ, List.getElem_cons_zero, List.setIfInBounds_toArray, List.set_cons_zero, List.set_cons_succ]
          refine wpAnyH_take (i := 10) (v := ?_) rfl (by kernel_rfl) (by kernel_rfl) (by kernel_rfl) (fun _ _ _ h => h) (Or.inl ⟨by kernel_rfl, ?_⟩) hHeld ?_
          rotate_left
          · intro X hX
            first | (go_simp; done) | (go_simp; with_reducible rfl)
          try simp only [Act.put, List.getElem_toArray, List.getElem_cons_succ, List.getElem_cons_zero, List.setIfInBounds_toArray, List.set_cons_zero, List.set_cons_succ]
          refine wpAnyH_done (by kernel_rfl) ?_ _
          have hz := hHeld.out.2
          clear hHeld
          go_wp2_with fail
          go_meet
          exact ⟨G, pa, pk, qa, qk, rfl, rfl, Lib.hid ⟨RS.out, layIntS.read O1.out, layIntS.read O2.out, hz⟩⟩
        · go_simp
          have hal : Below X2.heap.size X2 (X2.alloc (.cells #[.int .i64 0, .string ⟨#[]⟩, .string ⟨#[]⟩, .int .i64 0, .slice none 0 0, .int .i64 0, .int .i64 0, .string ⟨#[]⟩, .string ⟨#[]⟩, .int .i64 0, .slice none 0 0, .int .i64 0] SlotsT)) := (Below.refl _ _).alloc (Nat.le_refl _) _
          have hlo : w3.heap.size ≤ X2.heap.size := hHeld.out.2.size
          refine hK.out _ _ (qv _ _ hHeld hal) (fun hHeld => ?_)
          clear hK K
          have rr := Lib.hid (VarA.new X2 SlotsT #[.int .i64 0, .string ⟨#[]⟩, .string ⟨#[]⟩, .int .i64 0, .slice none 0 0, .int .i64 0, .int .i64 0, .string ⟨#[]⟩, .string ⟨#[]⟩, .int .i64 0, .slice none 0 0, .int .i64 0])
          have hb := Lib.hid hal
          clear hal hb
          generalize X2.alloc (.cells #[.int .i64 0, .string ⟨#[]⟩, .string ⟨#[]⟩, .int .i64 0, .slice none 0 0, .int .i64 0, .int .i64 0, .string ⟨#[]⟩, .string ⟨#[]⟩, .int .i64 0, .slice none 0 0, .int .i64 0] SlotsT) = X3 at *
          generalize X2.heap.size = G at *
          try simp only [Act.put, List.getElem_toArray, List.getElem_cons_succ, List.getElem_cons_zero, List.setIfInBounds_toArray, List.set_cons_zero, List.set_cons_succ]
          refine wpAnyH_ready (rs := [4]) (by kernel_rfl) (by simp) ?_
          refine AllReadyH.cons rfl (fun K hK => ?_) AllReadyH.nil
          go_simp
          go_wp2_with (go_at_call 7; refine (implInstall_gen HG x0 x1 x2 x3 _ r4 x5 y0 y1 y2 y3 _ s4 y5 da db now (by omega) (by omega) (by omega) (by omega) (by omega) (by omega) hi1 hi2 (by omega) (by omega) X3 (layIntS.below HM.out hHeld.out.2) (layIntS.below HL.out hHeld.out.2)).mono ?_; intro e X4 he; obtain ⟨v5, v6, f, g, rfl, o1, o2, hb0⟩ := install_good GD.out HP.out he; obtain ⟨pa, pk, rfl⟩ := (show ∃ a c, v5 = .slice a 0 c from rows_form (layIntS.read o1)); obtain ⟨qa, qk, rfl⟩ := rows_form (layIntS.read o2); have hlo : w3.heap.size ≤ X3.heap.size := hHeld.out.2.size; have hS := qv _ _ hHeld hb0; have hb := Lib.hid hb0; have O1 := Lib.hid (layIntS.lower o1 hlo); have O2 := Lib.hid (layIntS.lower o2 hlo); clear hb0 o1 o2 hlo he)
          refine hK.out _ _ hS (fun hHeld => ?_)
          clear hK K hS
          replace rr := Lib.hid (rr.out.next hb.out)
          clear hb
          try simp only [Act.put, List.getElem_toArray, List.getElem_cons_succ, List.getElem_cons_zero, List.setIfInBounds_toArray, List.set_cons_zero, List.set_cons_succ]
          refine wpAnyH_take (i := 5) (v := ?_) rfl (by kernel_rfl) (by kernel_rfl) (by kernel_rfl) (fun _ _ _ h => h) (Or.inl ⟨by kernel_rfl, ?_⟩) hHeld ?_
          rotate_left
          · intro X hX
            first | (go_simp; done) | (go_simp; with_reducible rfl)
          try simp only [Act.put, List.getElem_toArray, List.getElem_cons_succ, List.getElem_cons_zero, List.setIfInBounds_toArray, List.set_cons_zero, List.set_cons_succ]
          refine wpAnyH_take (i := 6) (v := ?_) rfl (by kernel_rfl) (by kernel_rfl) (by kernel_rfl) (fun _ _ _ h => h) (Or.inl ⟨by kernel_rfl, ?_⟩) hHeld ?_
          rotate_left
          · intro X hX
            first | (go_simp; done) | (go_simp; with_reducible rfl)
          try simp only [Act.put, List.getElem_toArray, List.getElem_cons_succ, List.getElem_cons_zero, List.setIfInBounds_toArray, List.set_cons_zero, List.set_cons_succ]
          refine wpAnyH_take (i := 7) (v := ?_) rfl (by kernel_rfl) (by kernel_rfl) (by kernel_rfl) (fun _ _ _ h => h) (Or.inl ⟨by kernel_rfl, ?_⟩) hHeld ?_
          rotate_left
          · intro X hX
            first | (go_simp; done) | (go_simp; with_reducible rfl)
          try simp only [Act.put, List.getElem_toArray, List.getElem_cons_succ, List.getElem_cons_zero, List.setIfInBounds_toArray, List.set_cons_zero, List.set_cons_succ]
          refine wpAnyH_ready (rs := [9]) (by kernel_rfl) (by simp) ?_
          refine AllReadyH.cons rfl (fun K hK => ?_) AllReadyH.nil
          have r0_ := rr.out.cell 0
          have r1_ := rr.out.cell 1
          have r2_ := rr.out.cell 2
          have r3_ := rr.out.cell 3
          have r4_ := rr.out.cell 4
          have r5_ := rr.out.cell 5
          have r6_ := rr.out.cell 6
          have r7_ := rr.out.cell 7
          have r8_ := rr.out.cell 8
          have r9_ := rr.out.cell 9
          have r10_ := rr.out.cell 10
          have r11_ := rr.out.cell 11
          have g0_ := rr.out.free 0
          have g1_ := rr.out.free 1
          have g2_ := rr.out.free 2
          have g3_ := rr.out.free 3
          have g4_ := rr.out.free 4
          have g5_ := rr.out.free 5
          have g6_ := rr.out.free 6
          have g7_ := rr.out.free 7
          have g8_ := rr.out.free 8
          have g9_ := rr.out.free 9
          have g10_ := rr.out.free 10
          have g11_ := rr.out.free 11
          go_simp
          have ho : Only G X4 ((((((((((((X4.setCell ⟨G, 0, none⟩ (.int .i64 (x0 + 1))).setCell ⟨G, 1, none⟩ (.string da)).setCell ⟨G, 2, none⟩ (.string db)).setCell ⟨G, 3, none⟩ (.int .i64 0)).setCell ⟨G, 4, none⟩ (.slice pa 0 pk)).setCell ⟨G, 5, none⟩ (.int .i64 0)).setCell ⟨G, 6, none⟩ (.int .i64 x0)).setCell ⟨G, 7, none⟩ (.string x1)).setCell ⟨G, 8, none⟩ (.string x2)).setCell ⟨G, 9, none⟩ (.int .i64 x3)).setCell ⟨G, 10, none⟩ (.slice qa r4.length qk)).setCell ⟨G, 11, none⟩ (.int .i64 (now + 10))) := (putMain_only X4 G _ _ _ _ _ _).trans (putLame_only _ G _ _ _ _ _ _)
          have hb2 : Below w3.heap.size w3 ((((((((((((X4.setCell ⟨G, 0, none⟩ (.int .i64 (x0 + 1))).setCell ⟨G, 1, none⟩ (.string da)).setCell ⟨G, 2, none⟩ (.string db)).setCell ⟨G, 3, none⟩ (.int .i64 0)).setCell ⟨G, 4, none⟩ (.slice pa 0 pk)).setCell ⟨G, 5, none⟩ (.int .i64 0)).setCell ⟨G, 6, none⟩ (.int .i64 x0)).setCell ⟨G, 7, none⟩ (.string x1)).setCell ⟨G, 8, none⟩ (.string x2)).setCell ⟨G, 9, none⟩ (.int .i64 x3)).setCell ⟨G, 10, none⟩ (.slice qa r4.length qk)).setCell ⟨G, 11, none⟩ (.int .i64 (now + 10))) := putBoth_below hHeld.out.2 hlo _ _ _ _ _ _ _ _ _ _ _ _
          refine hK.out _ _ (Lib.hid ⟨hHeld.out.1.only ho (by omega), hb2⟩) (fun hHeld => ?_)
          clear hK K r0_ g0_ r1_ g1_ r2_ g2_ r3_ g3_ r4_ g4_ r5_ g5_ r6_ g6_ r7_ g7_ r8_ g8_ r9_ g9_ r10_ g10_ r11_ g11_
          replace O1 := Lib.hid (own_only O1.out ho (row_off flatIntK O1.out rr.out (by decide)))
          replace O2 := Lib.hid (own_only O2.out ho (row_off flatIntK O2.out rr.out (by decide)))
          have RS := Lib.hid (putBoth rr.out (.int .i64 (x0 + 1)) (.string da) (.string db) (.int .i64 0) (.slice pa 0 pk) (.int .i64 0) (.int .i64 x0) (.string x1) (.string x2) (.int .i64 x3) (.slice qa r4.length qk) (.int .i64 (now + 10)))
          clear ho hb2 rr
          generalize ((((((((((((X4.setCell ⟨G, 0, none⟩ (.int .i64 (x0 + 1))).setCell ⟨G, 1, none⟩ (.string da)).setCell ⟨G, 2, none⟩ (.string db)).setCell ⟨G, 3, none⟩ (.int .i64 0)).setCell ⟨G, 4, none⟩ (.slice pa 0 pk)).setCell ⟨G, 5, none⟩ (.int .i64 0)).setCell ⟨G, 6, none⟩ (.int .i64 x0)).setCell ⟨G, 7, none⟩ (.string x1)).setCell ⟨G, 8, none⟩ (.string x2)).setCell ⟨G, 9, none⟩ (.int .i64 x3)).setCell ⟨G, 10, none⟩ (.slice qa r4.length qk)).setCell ⟨G, 11, none⟩ (.int .i64 (now + 10))) = X5 at *
          try simp only [Act.put, List.getElem_toArray, List.getElem_cons_succ, List.getElem_cons_zero, List.setIfInBounds_toArray, List.set_cons_zero, List.set_cons_succ]
          refine wpAnyH_take (i := 10) (v := ?_) rfl (by kernel_rfl) (by kernel_rfl) (by kernel_rfl) (fun _ _ _ h => h) (Or.inl ⟨by kernel_rfl, ?_⟩) hHeld ?_
          rotate_left
          · intro X hX
            first | (go_simp; done) | (go_simp; with_reducible rfl)
          try simp only [Act.put, List.getElem_toArray, List.getElem_cons_succ, List.getElem_cons_zero, List.setIfInBounds_toArray, List.set_cons_zero, List.set_cons_succ]
          refine wpAnyH_done (by kernel_rfl) ?_ _
          have hz := hHeld.out.2
          clear hHeld
          go_wp2_with fail
          go_meet
          exact ⟨G, pa, pk, qa, qk, rfl, rfl, Lib.hid ⟨RS.out, layIntS.read O1.out, layIntS.read O2.out, hz⟩⟩
      · go_simp
        have hal : Below X1.heap.size X1 (X1.alloc (.cells #[.int .i64 0, .string ⟨#[]⟩, .string ⟨#[]⟩, .int .i64 0, .slice none 0 0, .int .i64 0, .int .i64 0, .string ⟨#[]⟩, .string ⟨#[]⟩, .int .i64 0, .slice none 0 0, .int .i64 0] SlotsT)) := (Below.refl _ _).alloc (Nat.le_refl _) _
        have hlo : w3.heap.size ≤ X1.heap.size := hHeld.out.2.size
        refine hK.out _ _ (qv _ _ hHeld hal) (fun hHeld => ?_)
        clear hK K
        have rr := Lib.hid (VarA.new X1 SlotsT #[.int .i64 0, .string ⟨#[]⟩, .string ⟨#[]⟩, .int .i64 0, .slice none 0 0, .int .i64 0, .int .i64 0, .string ⟨#[]⟩, .string ⟨#[]⟩, .int .i64 0, .slice none 0 0, .int .i64 0])
        have hb := Lib.hid hal
        clear hal hb
        generalize X1.alloc (.cells #[.int .i64 0, .string ⟨#[]⟩, .string ⟨#[]⟩, .int .i64 0, .slice none 0 0, .int .i64 0, .int .i64 0, .string ⟨#[]⟩, .string ⟨#[]⟩, .int .i64 0, .slice none 0 0, .int .i64 0] SlotsT) = X2 at *
        generalize X1.heap.size = G at *
        try simp only [Act.put, List.getElem_toArray, List.getElem_cons_succ, List.getElem_cons_zero, List.setIfInBounds_toArray, List.set_cons_zero, List.set_cons_succ]
        refine wpAnyH_ready (rs := [2]) (by kernel_rfl) (by simp) ?_
        refine AllReadyH.cons rfl (fun K hK => ?_) AllReadyH.nil
        go_simp
        go_wp2_with (go_at_call 8; refine (KB.out X2).mono ?_; rintro e X3 ⟨rfl, hb0⟩; have hS := qv _ _ hHeld hb0; have hb := Lib.hid hb0; clear hb0)
        refine hK.out _ _ hS (fun hHeld => ?_)
        clear hK K hS
        replace rr := Lib.hid (rr.out.next hb.out)
        clear hb
        try simp only [Act.put, List.getElem_toArray, List.getElem_cons_succ, List.getElem_cons_zero, List.setIfInBounds_toArray, List.set_cons_zero, List.set_cons_succ]
        refine wpAnyH_ready (rs := [4]) (by kernel_rfl) (by simp) ?_
        refine AllReadyH.cons rfl (fun K hK => ?_) AllReadyH.nil
        go_simp
        go_wp2_with (go_at_call 7; refine (implInstall_gen HG x0 x1 x2 x3 _ r4 x5 y0 y1 y2 y3 _ s4 y5 da db now (by omega) (by omega) (by omega) (by omega) (by omega) (by omega) hi1 hi2 (by omega) (by omega) X3 (layIntS.below HM.out hHeld.out.2) (layIntS.below HL.out hHeld.out.2)).mono ?_; intro e X4 he; obtain ⟨v5, v6, f, g, rfl, o1, o2, hb0⟩ := install_good GD.out HP.out he; obtain ⟨pa, pk, rfl⟩ := (show ∃ a c, v5 = .slice a 0 c from rows_form (layIntS.read o1)); obtain ⟨qa, qk, rfl⟩ := rows_form (layIntS.read o2); have hlo : w3.heap.size ≤ X3.heap.size := hHeld.out.2.size; have hS := qv _ _ hHeld hb0; have hb := Lib.hid hb0; have O1 := Lib.hid (layIntS.lower o1 hlo); have O2 := Lib.hid (layIntS.lower o2 hlo); clear hb0 o1 o2 hlo he)
        refine hK.out _ _ hS (fun hHeld => ?_)
        clear hK K hS
        replace rr := Lib.hid (rr.out.next hb.out)
        clear hb
        try simp only [Act.put, List.getElem_toArray, List.getElem_cons_succ, List.getElem_cons_zero, List.setIfInBounds_toArray, List.set_cons_zero, List.set_cons_succ]
        refine wpAnyH_take (i := 5) (v := ?_) rfl (by kernel_rfl) (by kernel_rfl) (by kernel_rfl) (fun _ _ _ h => h) (Or.inl ⟨by kernel_rfl, ?_⟩) hHeld ?_
        rotate_left
        · intro X hX
          first | (go_simp; done) | (go_simp; with_reducible rfl)
        try simp only [Act.put, List.getElem_toArray, List.getElem_cons_succ, List.getElem_cons_zero, List.setIfInBounds_toArray, List.set_cons_zero, List.set_cons_succ]
        refine wpAnyH_take (i := 6) (v := ?_) rfl (by kernel_rfl) (by kernel_rfl) (by kernel_rfl) (fun _ _ _ h => h) (Or.inl ⟨by kernel_rfl, ?_⟩) hHeld ?_
        rotate_left
        · intro X hX
          first | (go_simp; done) | (go_simp; with_reducible rfl)
        try simp only [Act.put, List.getElem_toArray, List.getElem_cons_succ, List.getElem_cons_zero, List.setIfInBounds_toArray, List.set_cons_zero, List.set_cons_succ]
        refine wpAnyH_take (i := 7) (v := ?_) rfl (by kernel_rfl) (by kernel_rfl) (by kernel_rfl) (fun _ _ _ h => h) (Or.inl ⟨by kernel_rfl, ?_⟩) hHeld ?_
        rotate_left
        · intro X hX
          first | (go_simp; done) | (go_simp; with_reducible rfl)
        try simp only [Act.put, List.getElem_toArray, List.getElem_cons_succ, List.getElem_cons_zero, List.setIfInBounds_toArray, List.set_cons_zero, List.set_cons_succ]
        refine wpAnyH_ready (rs := [9]) (by kernel_rfl) (by simp) ?_
        refine AllReadyH.cons rfl (fun K hK => ?_) AllReadyH.nil
        have r0_ := rr.out.cell 0
        have r1_ := rr.out.cell 1
        have r2_ := rr.out.cell 2
        have r3_ := rr.out.cell 3
        have r4_ := rr.out.cell 4
        have r5_ := rr.out.cell 5
        have r6_ := rr.out.cell 6
        have r7_ := rr.out.cell 7
        have r8_ := rr.out.cell 8
        have r9_ := rr.out.cell 9
        have r10_ := rr.out.cell 10
        have r11_ := rr.out.cell 11
        have g0_ := rr.out.free 0
        have g1_ := rr.out.free 1
        have g2_ := rr.out.free 2
        have g3_ := rr.out.free 3
        have g4_ := rr.out.free 4
        have g5_ := rr.out.free 5
        have g6_ := rr.out.free 6
        have g7_ := rr.out.free 7
        have g8_ := rr.out.free 8
        have g9_ := rr.out.free 9
        have g10_ := rr.out.free 10
        have g11_ := rr.out.free 11
        go_simp
        have ho : Only G X4 ((((((((((((X4.setCell ⟨G, 0, none⟩ (.int .i64 (x0 + 1))).setCell ⟨G, 1, none⟩ (.string da)).setCell ⟨G, 2, none⟩ (.string db)).setCell ⟨G, 3, none⟩ (.int .i64 0)).setCell ⟨G, 4, none⟩ (.slice pa 0 pk)).setCell ⟨G, 5, none⟩ (.int .i64 0)).setCell ⟨G, 6, none⟩ (.int .i64 x0)).setCell ⟨G, 7, none⟩ (.string x1)).setCell ⟨G, 8, none⟩ (.string x2)).setCell ⟨G, 9, none⟩ (.int .i64 x3)).setCell ⟨G, 10, none⟩ (.slice qa r4.length qk)).setCell ⟨G, 11, none⟩ (.int .i64 (now + 10))) := (putMain_only X4 G _ _ _ _ _ _).trans (putLame_only _ G _ _ _ _ _ _)
        have hb2 : Below w3.heap.size w3 ((((((((((((X4.setCell ⟨G, 0, none⟩ (.int .i64 (x0 + 1))).setCell ⟨G, 1, none⟩ (.string da)).setCell ⟨G, 2, none⟩ (.string db)).setCell ⟨G, 3, none⟩ (.int .i64 0)).setCell ⟨G, 4, none⟩ (.slice pa 0 pk)).setCell ⟨G, 5, none⟩ (.int .i64 0)).setCell ⟨G, 6, none⟩ (.int .i64 x0)).setCell ⟨G, 7, none⟩ (.string x1)).setCell ⟨G, 8, none⟩ (.string x2)).setCell ⟨G, 9, none⟩ (.int .i64 x3)).setCell ⟨G, 10, none⟩ (.slice qa r4.length qk)).setCell ⟨G, 11, none⟩ (.int .i64 (now + 10))) := putBoth_below hHeld.out.2 hlo _ _ _ _ _ _ _ _ _ _ _ _
        refine hK.out _ _ (Lib.hid ⟨hHeld.out.1.only ho (by omega), hb2⟩) (fun hHeld => ?_)
        clear hK K r0_ g0_ r1_ g1_ r2_ g2_ r3_ g3_ r4_ g4_ r5_ g5_ r6_ g6_ r7_ g7_ r8_ g8_ r9_ g9_ r10_ g10_ r11_ g11_
        replace O1 := Lib.hid (own_only O1.out ho (row_off flatIntK O1.out rr.out (by decide)))
        replace O2 := Lib.hid (own_only O2.out ho (row_off flatIntK O2.out rr.out (by decide)))
        have RS := Lib.hid (putBoth rr.out (.int .i64 (x0 + 1)) (.string da) (.string db) (.int .i64 0) (.slice pa 0 pk) (.int .i64 0) (.int .i64 x0) (.string x1) (.string x2) (.int .i64 x3) (.slice qa r4.length qk) (.int .i64 (now + 10)))
        clear ho hb2 rr
        generalize ((((((((((((X4.setCell ⟨G, 0, none⟩ (.int .i64 (x0 + 1))).setCell ⟨G, 1, none⟩ (.string da)).setCell ⟨G, 2, none⟩ (.string db)).setCell ⟨G, 3, none⟩ (.int .i64 0)).setCell ⟨G, 4, none⟩ (.slice pa 0 pk)).setCell ⟨G, 5, none⟩ (.int .i64 0)).setCell ⟨G, 6, none⟩ (.int .i64 x0)).setCell ⟨G, 7, none⟩ (.string x1)).setCell ⟨G, 8, none⟩ (.string x2)).setCell ⟨G, 9, none⟩ (.int .i64 x3)).setCell ⟨G, 10, none⟩ (.slice qa r4.length qk)).setCell ⟨G, 11, none⟩ (.int .i64 (now + 10))) = X5 at *
        try simp only [Act.put, List.getElem_toArray, List.getElem_cons_succ, List.getElem_cons_zero, List.setIfInBounds_toArray, List.set_cons_zero, List.set_cons_succ]
        refine wpAnyH_take (i := 10) (v := ?_) rfl (by kernel_rfl) (by kernel_rfl) (by kernel_rfl) (fun _ _ _ h => h) (Or.inl ⟨by kernel_rfl, ?_⟩) hHeld ?_
        rotate_left
        · intro X hX
          first | (go_simp; done) | (go_simp; with_reducible rfl)
        try simp only [Act.put, List.getElem_toArray, List.getElem_cons_succ, List.getElem_cons_zero, List.setIfInBounds_toArray, List.set_cons_zero, List.set_cons_succ]
        refine wpAnyH_done (by kernel_rfl) ?_ _
        have hz := hHeld.out.2
        clear hHeld
        go_wp2_with fail
        go_meet
        exact ⟨G, pa, pk, qa, qk, rfl, rfl, Lib.hid ⟨RS.out, layIntS.read O1.out, layIntS.read O2.out, hz⟩⟩
    · go_simp
      have hal : Below X0.heap.size X0 (X0.alloc (.cells #[.int .i64 0, .string ⟨#[]⟩, .string ⟨#[]⟩, .int .i64 0, .slice none 0 0, .int .i64 0, .int .i64 0, .string ⟨#[]⟩, .string ⟨#[]⟩, .int .i64 0, .slice none 0 0, .int .i64 0] SlotsT)) := (Below.refl _ _).alloc (Nat.le_refl _) _
      have hlo : w3.heap.size ≤ X0.heap.size := hHeld.out.2.size
      refine hK.out _ _ (qv _ _ hHeld hal) (fun hHeld => ?_)
      clear hK K
      have rr := Lib.hid (VarA.new X0 SlotsT #[.int .i64 0, .string ⟨#[]⟩, .string ⟨#[]⟩, .int .i64 0, .slice none 0 0, .int .i64 0, .int .i64 0, .string ⟨#[]⟩, .string ⟨#[]⟩, .int .i64 0, .slice none 0 0, .int .i64 0])
      have hb := Lib.hid hal
      clear hal hb
      generalize X0.alloc (.cells #[.int .i64 0, .string ⟨#[]⟩, .string ⟨#[]⟩, .int .i64 0, .slice none 0 0, .int .i64 0, .int .i64 0, .string ⟨#[]⟩, .string ⟨#[]⟩, .int .i64 0, .slice none 0 0, .int .i64 0] SlotsT) = X1 at *
      generalize X0.heap.size = G at *
      try simp only [Act.put, List.getElem_toArray, List.getElem_cons_succ, List.getElem_cons_zero, List.setIfInBounds_toArray, List.set_cons_zero, List.set_cons_succ]
      refine wpAnyH_ready (rs := [1]) (by kernel_rfl) (by simp) ?_
      refine AllReadyH.cons rfl (fun K hK => ?_) AllReadyH.nil
      go_simp
      go_wp2_with (go_at_call 8; refine (KA.out X1).mono ?_; rintro e X2 ⟨rfl, hb0⟩; have hS := qv _ _ hHeld hb0; have hb := Lib.hid hb0; clear hb0)
      refine hK.out _ _ hS (fun hHeld => ?_)
      clear hK K hS
      replace rr := Lib.hid (rr.out.next hb.out)
      clear hb
      try simp only [Act.put, List.getElem_toArray, List.getElem_cons_succ, List.getElem_cons_zero, List.setIfInBounds_toArray, List.set_cons_zero, List.set_cons_succ]
      refine wpAnyH_ready (rs := [2]) (by kernel_rfl) (by simp) ?_
      refine AllReadyH.cons rfl (fun K hK => ?_) AllReadyH.nil
      go_simp
      go_wp2_with (go_at_call 8; refine (KB.out X2).mono ?_; rintro e X3 ⟨rfl, hb0⟩; have hS := qv _ _ hHeld hb0; have hb := Lib.hid hb0; clear hb0)
      refine hK.out _ _ hS (fun hHeld => ?_)
      clear hK K hS
      replace rr := Lib.hid (rr.out.next hb.out)
      clear hb
      try simp only [Act.put, List.getElem_toArray, List.getElem_cons_succ, List.getElem_cons_zero, List.setIfInBounds_toArray, List.set_cons_zero, List.set_cons_succ]
      refine wpAnyH_ready (rs := [4]) (by kernel_rfl) (by simp) ?_
      refine AllReadyH.cons rfl (fun K hK => ?_) AllReadyH.nil
      go_simp
      go_wp2_with (go_at_call 7; refine (implInstall_gen HG x0 x1 x2 x3 _ r4 x5 y0 y1 y2 y3 _ s4 y5 da db now (by omega) (by omega) (by omega) (by omega) (by omega) (by omega) hi1 hi2 (by omega) (by omega) X3 (layIntS.below HM.out hHeld.out.2) (layIntS.below HL.out hHeld.out.2)).mono ?_; intro e X4 he; obtain ⟨v5, v6, f, g, rfl, o1, o2, hb0⟩ := install_good GD.out HP.out he; obtain ⟨pa, pk, rfl⟩ := (show ∃ a c, v5 = .slice a 0 c from rows_form (layIntS.read o1)); obtain ⟨qa, qk, rfl⟩ := rows_form (layIntS.read o2); have hlo : w3.heap.size ≤ X3.heap.size := hHeld.out.2.size; have hS := qv _ _ hHeld hb0; have hb := Lib.hid hb0; have O1 := Lib.hid (layIntS.lower o1 hlo); have O2 := Lib.hid (layIntS.lower o2 hlo); clear hb0 o1 o2 hlo he)
      refine hK.out _ _ hS (fun hHeld => ?_)
      clear hK K hS
      replace rr := Lib.hid (rr.out.next hb.out)
      clear hb
      try simp only [Act.put, List.getElem_toArray, List.getElem_cons_succ, List.getElem_cons_zero, List.setIfInBounds_toArray, List.set_cons_zero, List.set_cons_succ]
      refine wpAnyH_take (i := 5) (v := ?_) rfl (by kernel_rfl) (by kernel_rfl) (by kernel_rfl) (fun _ _ _ h => h) (Or.inl ⟨by kernel_rfl, ?_⟩) hHeld ?_
      rotate_left
      · intro X hX
        first | (go_simp; done) | (go_simp; with_reducible rfl)
      try simp only [Act.put, List.getElem_toArray, List.getElem_cons_succ, List.getElem_cons_zero, List.setIfInBounds_toArray, List.set_cons_zero, List.set_cons_succ]
      refine wpAnyH_take (i := 6) (v := ?_) rfl (by kernel_rfl) (by kernel_rfl) (by kernel_rfl) (fun _ _ _ h => h) (Or.inl ⟨by kernel_rfl, ?_⟩) hHeld ?_
      rotate_left
      · intro X hX
        first | (go_simp; done) | (go_simp; with_reducible rfl)
      try simp only [Act.put, List.getElem_toArray, List.getElem_cons_succ, List.getElem_cons_zero, List.setIfInBounds_toArray, List.set_cons_zero, List.set_cons_succ]
      refine wpAnyH_take (i := 7) (v := ?_) rfl (by kernel_rfl) (by kernel_rfl) (by kernel_rfl) (fun _ _ _ h => h) (Or.inl ⟨by kernel_rfl, ?_⟩) hHeld ?_
      rotate_left
      · intro X hX
        first | (go_simp; done) | (go_simp; with_reducible rfl)
      try simp only [Act.put, List.getElem_toArray, List.getElem_cons_succ, List.getElem_cons_zero, List.setIfInBounds_toArray, List.set_cons_zero, List.set_cons_succ]
      refine wpAnyH_ready (rs := [9]) (by kernel_rfl) (by simp) ?_
      refine AllReadyH.cons rfl (fun K hK => ?_) AllReadyH.nil
      have r0_ := rr.out.cell 0
      have r1_ := rr.out.cell 1
      have r2_ := rr.out.cell 2
      have r3_ := rr.out.cell 3
      have r4_ := rr.out.cell 4
      have r5_ := rr.out.cell 5
      have r6_ := rr.out.cell 6
      have r7_ := rr.out.cell 7
      have r8_ := rr.out.cell 8
      have r9_ := rr.out.cell 9
      have r10_ := rr.out.cell 10
      have r11_ := rr.out.cell 11
      have g0_ := rr.out.free 0
      have g1_ := rr.out.free 1
      have g2_ := rr.out.free 2
      have g3_ := rr.out.free 3
      have g4_ := rr.out.free 4
      have g5_ := rr.out.free 5
      have g6_ := rr.out.free 6
      have g7_ := rr.out.free 7
      have g8_ := rr.out.free 8
      have g9_ := rr.out.free 9
      have g10_ := rr.out.free 10
      have g11_ := rr.out.free 11
      go_simp
      have ho : Only G X4 ((((((((((((X4.setCell ⟨G, 0, none⟩ (.int .i64 (x0 + 1))).setCell ⟨G, 1, none⟩ (.string da)).setCell ⟨G, 2, none⟩ (.string db)).setCell ⟨G, 3, none⟩ (.int .i64 0)).setCell ⟨G, 4, none⟩ (.slice pa 0 pk)).setCell ⟨G, 5, none⟩ (.int .i64 0)).setCell ⟨G, 6, none⟩ (.int .i64 x0)).setCell ⟨G, 7, none⟩ (.string x1)).setCell ⟨G, 8, none⟩ (.string x2)).setCell ⟨G, 9, none⟩ (.int .i64 x3)).setCell ⟨G, 10, none⟩ (.slice qa r4.length qk)).setCell ⟨G, 11, none⟩ (.int .i64 (now + 10))) := (putMain_only X4 G _ _ _ _ _ _).trans (putLame_only _ G _ _ _ _ _ _)
      have hb2 : Below w3.heap.size w3 ((((((((((((X4.setCell ⟨G, 0, none⟩ (.int .i64 (x0 + 1))).setCell ⟨G, 1, none⟩ (.string da)).setCell ⟨G, 2, none⟩ (.string db)).setCell ⟨G, 3, none⟩ (.int .i64 0)).setCell ⟨G, 4, none⟩ (.slice pa 0 pk)).setCell ⟨G, 5, none⟩ (.int .i64 0)).setCell ⟨G, 6, none⟩ (.int .i64 x0)).setCell ⟨G, 7, none⟩ (.string x1)).setCell ⟨G, 8, none⟩ (.string x2)).setCell ⟨G, 9, none⟩ (.int .i64 x3)).setCell ⟨G, 10, none⟩ (.slice qa r4.length qk)).setCell ⟨G, 11, none⟩ (.int .i64 (now + 10))) := putBoth_below hHeld.out.2 hlo _ _ _ _ _ _ _ _ _ _ _ _
      refine hK.out _ _ (Lib.hid ⟨hHeld.out.1.only ho (by omega), hb2⟩) (fun hHeld => ?_)
      clear hK K r0_ g0_ r1_ g1_ r2_ g2_ r3_ g3_ r4_ g4_ r5_ g5_ r6_ g6_ r7_ g7_ r8_ g8_ r9_ g9_ r10_ g10_ r11_ g11_
      replace O1 := Lib.hid (own_only O1.out ho (row_off flatIntK O1.out rr.out (by decide)))
      replace O2 := Lib.hid (own_only O2.out ho (row_off flatIntK O2.out rr.out (by decide)))
      have RS := Lib.hid (putBoth rr.out (.int .i64 (x0 + 1)) (.string da) (.string db) (.int .i64 0) (.slice pa 0 pk) (.int .i64 0) (.int .i64 x0) (.string x1) (.string x2) (.int .i64 x3) (.slice qa r4.length qk) (.int .i64 (now + 10)))
      clear ho hb2 rr
      generalize ((((((((((((X4.setCell ⟨G, 0, none⟩ (.int .i64 (x0 + 1))).setCell ⟨G, 1, none⟩ (.string da)).setCell ⟨G, 2, none⟩ (.string db)).setCell ⟨G, 3, none⟩ (.int .i64 0)).setCell ⟨G, 4, none⟩ (.slice pa 0 pk)).setCell ⟨G, 5, none⟩ (.int .i64 0)).setCell ⟨G, 6, none⟩ (.int .i64 x0)).setCell ⟨G, 7, none⟩ (.string x1)).setCell ⟨G, 8, none⟩ (.string x2)).setCell ⟨G, 9, none⟩ (.int .i64 x3)).setCell ⟨G, 10, none⟩ (.slice qa r4.length qk)).setCell ⟨G, 11, none⟩ (.int .i64 (now + 10))) = X5 at *
      try simp only [Act.put, List.getElem_toArray, List.getElem_cons_succ, List.getElem_cons_zero, List.setIfInBounds_toArray, List.set_cons_zero, List.set_cons_succ]
      refine wpAnyH_take (i := 10) (v := ?_) rfl (by kernel_rfl) (by kernel_rfl) (by kernel_rfl) (fun _ _ _ h => h) (Or.inl ⟨by kernel_rfl, ?_⟩) hHeld ?_
      rotate_left
      · intro X hX
        first | (go_simp; done) | (go_simp; with_reducible rfl)
      try simp only [Act.put, List.getElem_toArray, List.getElem_cons_succ, List.getElem_cons_zero, List.setIfInBounds_toArray, List.set_cons_zero, List.set_cons_succ]
      refine wpAnyH_done (by kernel_rfl) ?_ _
      have hz := hHeld.out.2
      clear hHeld
      go_wp2_with fail
      go_meet
      exact ⟨G, pa, pk, qa, qk, rfl, rfl, Lib.hid ⟨RS.out, layIntS.read O1.out, layIntS.read O2.out, hz⟩⟩
  case rest =>
    obtain ⟨ga, pa, pk, qa, qk, rfl, rfl, hc⟩ := hcut
    have hb := hc.out.2.2.2
    have AV := Lib.hid hc.out.1
    have AM := Lib.hid hc.out.2.1
    have AL := Lib.hid hc.out.2.2.1
    clear hc E0 hgs qv
    replace SV := Lib.hid (SV.out.next hb)
    replace HM := Lib.hid (layIntS.below HM.out hb)
    replace HL := Lib.hid (layIntS.below HL.out hb)
    replace BY := Lib.hid (BY.out.trans (hb.mono BY.out.size))
    clear hb
    have hfa := slot_few GA.out.p.1
    have hfb := slot_few GA.out.p.2.1
    have c0 : wc.cell? ⟨ga, 0, none⟩ = some (.int .i64 (x0 + 1)) := AV.out.cell 0
    have c1 : wc.cell? ⟨ga, 1, none⟩ = some (.string da) := AV.out.cell 1
    have c2 : wc.cell? ⟨ga, 2, none⟩ = some (.string db) := AV.out.cell 2
    have c3 : wc.cell? ⟨ga, 3, none⟩ = some (.int .i64 0) := AV.out.cell 3
    have c4 : wc.cell? ⟨ga, 4, none⟩ = some (.slice pa 0 pk) := AV.out.cell 4
    have c5 : wc.cell? ⟨ga, 5, none⟩ = some (.int .i64 0) := AV.out.cell 5
    have c6 : wc.cell? ⟨ga, 6, none⟩ = some (.int .i64 x0) := AV.out.cell 6
    have c7 : wc.cell? ⟨ga, 7, none⟩ = some (.string x1) := AV.out.cell 7
    have c8 : wc.cell? ⟨ga, 8, none⟩ = some (.string x2) := AV.out.cell 8
    have c9 : wc.cell? ⟨ga, 9, none⟩ = some (.int .i64 x3) := AV.out.cell 9
    have c10 : wc.cell? ⟨ga, 10, none⟩ = some (.slice qa r4.length qk) := AV.out.cell 10
    have c11 : wc.cell? ⟨ga, 11, none⟩ = some (.int .i64 (now + 10)) := AV.out.cell 11
    have K := Lib.hid (implTidySlots_gen HG (x0 + 1) da db 0 _ [] 0 x0 x1 x2 x3 _ r4 (now + 10) (now + 10) (by omega) (by omega) (by omega) (by omega) (by simp) (by omega) wc AM.out AL.out)
    go_wp2_with fail
    refine (K.out).mono ?_
    intro e w4 he
    obtain ⟨v5, v6, f, g, rfl, -, o1, o2, hb⟩ : SlotsMade (x0 + 1) da db 0 [] 0 0 ⟨#[]⟩ ⟨#[]⟩ 0 [] 0 wc e w4 := by
      rcases he with ⟨h9, he⟩ | ⟨h9, he⟩
      · exact he
      · exact absurd (Int.le_refl _) h9
    clear he K c0 c1 c2 c3 c4 c5 c6 c7 c8 c9 c10 c11
    obtain ⟨ea, ek, rfl⟩ : ∃ a c, v5 = .slice a 0 c := rows_form (layIntS.read o1)
    obtain ⟨fa, fk, rfl⟩ : ∃ a c, v6 = .slice a 0 c := rows_form (layIntS.read o2)
    have hal : Below w4.heap.size w4 (w4.alloc (.cells #[.int .i64 (x0 + 1), .string da, .string db, .int .i64 0, .slice ea 0 ek, .int .i64 0, .int .i64 0, .string ⟨#[]⟩, .string ⟨#[]⟩, .int .i64 0, .slice fa 0 fk, .int .i64 0] SlotsT)) := (Below.refl _ _).alloc (Nat.le_refl _) _
    have BV := Lib.hid (VarA.new w4 SlotsT #[.int .i64 (x0 + 1), .string da, .string db, .int .i64 0, .slice ea 0 ek, .int .i64 0, .int .i64 0, .string ⟨#[]⟩, .string ⟨#[]⟩, .int .i64 0, .slice fa 0 fk, .int .i64 0])
    have BM := Lib.hid (layIntS.below (layIntS.read o1) hal)
    have BL := Lib.hid (layIntS.below (layIntS.read o2) hal)
    replace hb := hb.trans (hal.mono hb.size)
    clear o1 o2 hal
    replace SV := Lib.hid (SV.out.next hb)
    replace HM := Lib.hid (layIntS.below HM.out hb)
    replace HL := Lib.hid (layIntS.below HL.out hb)
    replace AV := Lib.hid (AV.out.next hb)
    replace AM := Lib.hid (layIntS.below AM.out hb)
    replace AL := Lib.hid (layIntS.below AL.out hb)
    replace BY := Lib.hid (BY.out.trans (hb.mono BY.out.size))
    clear hb
    go_upto_region 7 with fail
    generalize w4.alloc (.cells #[.int .i64 (x0 + 1), .string da, .string db, .int .i64 0, .slice ea 0 ek, .int .i64 0, .int .i64 0, .string ⟨#[]⟩, .string ⟨#[]⟩, .int .i64 0, .slice fa 0 fk, .int .i64 0] SlotsT) = w5 at *
    generalize w4.heap.size = gb at *
    have c0 : w5.cell? ⟨ga, 0, none⟩ = some (.int .i64 (x0 + 1)) := AV.out.cell 0
    have c1 : w5.cell? ⟨ga, 1, none⟩ = some (.string da) := AV.out.cell 1
    have c2 : w5.cell? ⟨ga, 2, none⟩ = some (.string db) := AV.out.cell 2
    have c3 : w5.cell? ⟨ga, 3, none⟩ = some (.int .i64 0) := AV.out.cell 3
    have c4 : w5.cell? ⟨ga, 4, none⟩ = some (.slice pa 0 pk) := AV.out.cell 4
    have c5 : w5.cell? ⟨ga, 5, none⟩ = some (.int .i64 0) := AV.out.cell 5
    have c6 : w5.cell? ⟨ga, 6, none⟩ = some (.int .i64 x0) := AV.out.cell 6
    have c7 : w5.cell? ⟨ga, 7, none⟩ = some (.string x1) := AV.out.cell 7
    have c8 : w5.cell? ⟨ga, 8, none⟩ = some (.string x2) := AV.out.cell 8
    have c9 : w5.cell? ⟨ga, 9, none⟩ = some (.int .i64 x3) := AV.out.cell 9
    have c10 : w5.cell? ⟨ga, 10, none⟩ = some (.slice qa r4.length qk) := AV.out.cell 10
    have c11 : w5.cell? ⟨ga, 11, none⟩ = some (.int .i64 (now + 10)) := AV.out.cell 11
    have K := Lib.hid (implTidySlots_gen HG (x0 + 1) da db 0 _ [] 0 x0 x1 x2 x3 _ r4 (now + 10) (now + 9) (by omega) (by omega) (by omega) (by omega) (by simp) (by omega) w5 AM.out AL.out)
    go_wp2_with fail
    refine (K.out).mono ?_
    intro e w6 he
    obtain ⟨v5, v6, f, g, rfl, -, o1, o2, hb⟩ : SlotsMade (x0 + 1) da db 0 [] 0 x0 x1 x2 x3 r4 (now + 10) w5 e w6 := by
      rcases he with ⟨h9, he⟩ | ⟨h9, he⟩
      · exact absurd h9 (by omega)
      · exact he
    clear he K c0 c1 c2 c3 c4 c5 c6 c7 c8 c9 c10 c11
    obtain ⟨ga2, gk2, rfl⟩ : ∃ a c, v5 = .slice a 0 c := rows_form (layIntS.read o1)
    obtain ⟨ha, hk2, rfl⟩ := rows_form (layIntS.read o2)
    have hal : Below w6.heap.size w6 (w6.alloc (.cells #[.int .i64 (x0 + 1), .string da, .string db, .int .i64 0, .slice ga2 0 gk2, .int .i64 0, .int .i64 x0, .string x1, .string x2, .int .i64 x3, .slice ha r4.length hk2, .int .i64 (now + 10)] SlotsT)) := (Below.refl _ _).alloc (Nat.le_refl _) _
    have CV := Lib.hid (VarA.new w6 SlotsT #[.int .i64 (x0 + 1), .string da, .string db, .int .i64 0, .slice ga2 0 gk2, .int .i64 0, .int .i64 x0, .string x1, .string x2, .int .i64 x3, .slice ha r4.length hk2, .int .i64 (now + 10)])
    replace hb := hb.trans (hal.mono hb.size)
    clear o1 o2 hal
    replace SV := Lib.hid (SV.out.next hb)
    replace HM := Lib.hid (layIntS.below HM.out hb)
    replace HL := Lib.hid (layIntS.below HL.out hb)
    replace AV := Lib.hid (AV.out.next hb)
    replace AM := Lib.hid (layIntS.below AM.out hb)
    replace AL := Lib.hid (layIntS.below AL.out hb)
    replace BV := Lib.hid (BV.out.next hb)
    replace BM := Lib.hid (layIntS.below BM.out hb)
    replace BL := Lib.hid (layIntS.below BL.out hb)
    replace BY := Lib.hid (BY.out.trans (hb.mono BY.out.size))
    clear hb
    go_upto_region 8 with fail
    generalize w6.alloc (.cells #[.int .i64 (x0 + 1), .string da, .string db, .int .i64 0, .slice ga2 0 gk2, .int .i64 0, .int .i64 x0, .string x1, .string x2, .int .i64 x3, .slice ha r4.length hk2, .int .i64 (now + 10)] SlotsT) = w7 at *
    generalize w6.heap.size = gc at *
    have HN : Hid (¬ InstallP x0 x1 x2 x3 r4 x5 y0 y1 y2 y3 s4 y5 (⟨#[115, 104, 111, 114, 116]⟩ : ByteArray) db now) := Lib.hid (fun h => absurd h.2.1 (by decide))
    have E0 : Hid (VarA gs SlotsT #[.int .i64 x0, .string x1, .string x2, .int .i64 x3, .slice va r4.length vk, .int .i64 x5, .int .i64 y0, .string y1, .string y2, .int .i64 y3, .slice ua s4.length uk, .int .i64 y5] w7.drew ∧ Below w7.heap.size w7 w7.drew) := Lib.hid ⟨SV.out.drew, (Below.refl _ _).drew⟩
    have hgs := SV.out.lt
    have qv : ∀ X Y, (Hid (VarA gs SlotsT #[.int .i64 x0, .string x1, .string x2, .int .i64 x3, .slice va r4.length vk, .int .i64 x5, .int .i64 y0, .string y1, .string y2, .int .i64 y3, .slice ua s4.length uk, .int .i64 y5] X ∧ Below w7.heap.size w7 X)) → Below X.heap.size X Y → (Hid (VarA gs SlotsT #[.int .i64 x0, .string x1, .string x2, .int .i64 x3, .slice va r4.length vk, .int .i64 x5, .int .i64 y0, .string y1, .string y2, .int .i64 y3, .slice ua s4.length uk, .int .i64 y5] Y ∧ Below w7.heap.size w7 Y)) := fun X Y h hb => Lib.hid ⟨h.out.1.next hb, h.out.2.trans (hb.mono h.out.2.size)⟩
    go_wp2_with fail
    go_cut [9, 10] (fun z y wx => ∃ (gz : Nat), z = .pointer (some ⟨gz, 0, none⟩) ∧ y = .bool false ∧ Hid (Below w7.heap.size w7 wx))
    case first =>
      refine wp_region_held_drew (S := fun X => Hid (VarA gs SlotsT #[.int .i64 x0, .string x1, .string x2, .int .i64 x3, .slice va r4.length vk, .int .i64 x5, .int .i64 y0, .string y1, .string y2, .int .i64 y3, .slice ua s4.length uk, .int .i64 y5] X ∧ Below w7.heap.size w7 X)) (by kernel_rfl) E0 (fun hHeld => ?_)
      clear E0
      generalize w7.drew = X0 at *
      refine wpAnyH_take (i := 0) (v := ?_) rfl (by kernel_rfl) (by kernel_rfl) (by kernel_rfl) (fun _ _ _ h => h) (Or.inl ⟨by kernel_rfl, ?_⟩) hHeld ?_
      rotate_left
      · intro X hX
        have yy0_ : X.cell? ⟨gs, 0, none⟩ = some (.int .i64 x0) := hX.out.1.cell 0
        have yy1_ : X.cell? ⟨gs, 1, none⟩ = some (.string x1) := hX.out.1.cell 1
        have yy2_ : X.cell? ⟨gs, 2, none⟩ = some (.string x2) := hX.out.1.cell 2
        have yy3_ : X.cell? ⟨gs, 3, none⟩ = some (.int .i64 x3) := hX.out.1.cell 3
        have yy4_ : X.cell? ⟨gs, 4, none⟩ = some (.slice va r4.length vk) := hX.out.1.cell 4
        have yy5_ : X.cell? ⟨gs, 5, none⟩ = some (.int .i64 x5) := hX.out.1.cell 5
        have yy6_ : X.cell? ⟨gs, 6, none⟩ = some (.int .i64 y0) := hX.out.1.cell 6
        have yy7_ : X.cell? ⟨gs, 7, none⟩ = some (.string y1) := hX.out.1.cell 7
        have yy8_ : X.cell? ⟨gs, 8, none⟩ = some (.string y2) := hX.out.1.cell 8
        have yy9_ : X.cell? ⟨gs, 9, none⟩ = some (.int .i64 y3) := hX.out.1.cell 9
        have yy10_ : X.cell? ⟨gs, 10, none⟩ = some (.slice ua s4.length uk) := hX.out.1.cell 10
        have yy11_ : X.cell? ⟨gs, 11, none⟩ = some (.int .i64 y5) := hX.out.1.cell 11
        first | (go_simp; done) | (go_simp; with_reducible rfl)
      try simp only [Act.put, List.getElem_toArray, List.getElem_cons_zero, List.setIfInBounds_toArray, List.set_cons_zero, List.set_cons_succ]
      refine wpAnyH_take (i := 2) (v := ?_) rfl (by kernel_rfl) (by kernel_rfl) (by kernel_rfl) (fun _ _ _ h => h) (Or.inl ⟨by kernel_rfl, ?_⟩) hHeld ?_
      rotate_left
      · intro X hX
        first | (go_simp; done) | (go_simp; with_reducible rfl)
      try simp only [Act.put, List.getElem_toArray, List.getElem_cons_succ, List.getElem_cons_zero, List.setIfInBounds_toArray, List.set_cons_zero, List.set_cons_succ]
      refine wpAnyH_ready (rs := [1, 7]) (by kernel_rfl) (by simp) ?_
      refine AllReadyH.cons rfl (fun K hK => ?_) (AllReadyH.cons rfl (fun K hK => ?_) AllReadyH.nil)
      · go_simp
        go_wp2_with (go_at_call 8; refine (KB.out X0).mono ?_; rintro e X1 ⟨rfl, hb0⟩; have hS := qv _ _ hHeld hb0; have hb := Lib.hid hb0; clear hb0)
        refine hK.out _ _ hS (fun hHeld => ?_)
        clear hK K hS
        clear hb
        try simp only [Act.put, List.getElem_toArray, List.getElem_cons_succ, List.getElem_cons_zero, List.setIfInBounds_toArray, List.set_cons_zero, List.set_cons_succ]
        refine wpAnyH_ready (rs := [3, 7]) (by kernel_rfl) (by simp) ?_
        refine AllReadyH.cons rfl (fun K hK => ?_) (AllReadyH.cons rfl (fun K hK => ?_) AllReadyH.nil)
        · go_simp
          go_wp2_with (go_at_call 7; refine (implInstall_gen HG x0 x1 x2 x3 _ r4 x5 y0 y1 y2 y3 _ s4 y5 ⟨#[115, 104, 111, 114, 116]⟩ db now (by omega) (by omega) (by omega) (by omega) (by omega) (by omega) hi1 hi2 (by decide) (by omega) X1 (layIntS.below HM.out hHeld.out.2) (layIntS.below HL.out hHeld.out.2)).mono ?_; intro e X2 he; obtain ⟨v5, v6, f, g, rfl, o1, o2, hb0⟩ := install_bad HN.out he; obtain ⟨pa, pk, rfl⟩ := rows_form (layIntS.read o1); obtain ⟨qa, qk, rfl⟩ := rows_form (layIntS.read o2); have hlo : w7.heap.size ≤ X1.heap.size := hHeld.out.2.size; have hS := qv _ _ hHeld hb0; have hb := Lib.hid hb0; have O1 := Lib.hid (layIntS.lower o1 hlo); have O2 := Lib.hid (layIntS.lower o2 hlo); clear hb0 o1 o2 hlo he)
          refine hK.out _ _ hS (fun hHeld => ?_)
          clear hK K hS
          clear hb
          try simp only [Act.put, List.getElem_toArray, List.getElem_cons_succ, List.getElem_cons_zero, List.setIfInBounds_toArray, List.set_cons_zero, List.set_cons_succ]
          refine wpAnyH_take (i := 4) (v := ?_) rfl (by kernel_rfl) (by kernel_rfl) (by kernel_rfl) (fun _ _ _ h => h) (Or.inl ⟨by kernel_rfl, ?_⟩) hHeld ?_
          rotate_left
          · intro X hX
            first | (go_simp; done) | (go_simp; with_reducible rfl)
          try simp only [Act.put, List.getElem_toArray, List.getElem_cons_succ, List.getElem_cons_zero, List.setIfInBounds_toArray, List.set_cons_zero, List.set_cons_succ]
          refine wpAnyH_take (i := 5) (v := ?_) rfl (by kernel_rfl) (by kernel_rfl) (by kernel_rfl) (fun _ _ _ h => h) (Or.inl ⟨by kernel_rfl, ?_⟩) hHeld ?_
          rotate_left
          · intro X hX
            first | (go_simp; done) | (go_simp; with_reducible rfl)
          try simp only [Act.put, List.getElem_toArray, List.getElem_cons_succ, List.getElem_cons_zero, List.setIfInBounds_toArray, List.set_cons_zero, List.set_cons_succ]
          refine wpAnyH_take (i := 6) (v := ?_) rfl (by kernel_rfl) (by kernel_rfl) (by kernel_rfl) (fun _ _ _ h => h) (Or.inl ⟨by kernel_rfl, ?_⟩) hHeld ?_
          rotate_left
          · intro X hX
            first | (go_simp; done) | (go_simp; with_reducible rfl)
          try simp only [Act.put, List.getElem_toArray, List.getElem_cons_succ, List.getElem_cons_zero, List.setIfInBounds_toArray, List.set_cons_zero, List.set_cons_succ]
          refine wpAnyH_ready (rs := [7]) (by kernel_rfl) (by simp) ?_
          refine AllReadyH.cons rfl (fun K hK => ?_) AllReadyH.nil
          go_simp
          have hal : Below X2.heap.size X2 (X2.alloc (.cells #[.int .i64 0, .string ⟨#[]⟩, .string ⟨#[]⟩, .int .i64 0, .slice none 0 0, .int .i64 0, .int .i64 0, .string ⟨#[]⟩, .string ⟨#[]⟩, .int .i64 0, .slice none 0 0, .int .i64 0] SlotsT)) := (Below.refl _ _).alloc (Nat.le_refl _) _
          have hlo : w7.heap.size ≤ X2.heap.size := hHeld.out.2.size
          refine hK.out _ _ (qv _ _ hHeld hal) (fun hHeld => ?_)
          clear hK K
          have rr := Lib.hid (VarA.new X2 SlotsT #[.int .i64 0, .string ⟨#[]⟩, .string ⟨#[]⟩, .int .i64 0, .slice none 0 0, .int .i64 0, .int .i64 0, .string ⟨#[]⟩, .string ⟨#[]⟩, .int .i64 0, .slice none 0 0, .int .i64 0])
          have hb := Lib.hid hal
          replace O1 := Lib.hid (layIntS.next O1.out hb.out)
          replace O2 := Lib.hid (layIntS.next O2.out hb.out)
          clear hal hb
          generalize X2.alloc (.cells #[.int .i64 0, .string ⟨#[]⟩, .string ⟨#[]⟩, .int .i64 0, .slice none 0 0, .int .i64 0, .int .i64 0, .string ⟨#[]⟩, .string ⟨#[]⟩, .int .i64 0, .slice none 0 0, .int .i64 0] SlotsT) = X3 at *
          generalize X2.heap.size = G at *
          try simp only [Act.put, List.getElem_toArray, List.getElem_cons_succ, List.getElem_cons_zero, List.setIfInBounds_toArray, List.set_cons_zero, List.set_cons_succ]
          refine wpAnyH_ready (rs := [8]) (by kernel_rfl) (by simp) ?_
          refine AllReadyH.cons rfl (fun K hK => ?_) AllReadyH.nil
          have r0_ := rr.out.cell 0
          have r1_ := rr.out.cell 1
          have r2_ := rr.out.cell 2
          have r3_ := rr.out.cell 3
          have r4_ := rr.out.cell 4
          have r5_ := rr.out.cell 5
          have r6_ := rr.out.cell 6
          have r7_ := rr.out.cell 7
          have r8_ := rr.out.cell 8
          have r9_ := rr.out.cell 9
          have r10_ := rr.out.cell 10
          have r11_ := rr.out.cell 11
          have g0_ := rr.out.free 0
          have g1_ := rr.out.free 1
          have g2_ := rr.out.free 2
          have g3_ := rr.out.free 3
          have g4_ := rr.out.free 4
          have g5_ := rr.out.free 5
          have g6_ := rr.out.free 6
          have g7_ := rr.out.free 7
          have g8_ := rr.out.free 8
          have g9_ := rr.out.free 9
          have g10_ := rr.out.free 10
          have g11_ := rr.out.free 11
          go_simp
          have ho : Only G X3 ((((((((((((X3.setCell ⟨G, 0, none⟩ (.int .i64 x0)).setCell ⟨G, 1, none⟩ (.string x1)).setCell ⟨G, 2, none⟩ (.string x2)).setCell ⟨G, 3, none⟩ (.int .i64 x3)).setCell ⟨G, 4, none⟩ (.slice pa r4.length pk)).setCell ⟨G, 5, none⟩ (.int .i64 x5)).setCell ⟨G, 6, none⟩ (.int .i64 y0)).setCell ⟨G, 7, none⟩ (.string y1)).setCell ⟨G, 8, none⟩ (.string y2)).setCell ⟨G, 9, none⟩ (.int .i64 y3)).setCell ⟨G, 10, none⟩ (.slice qa s4.length qk)).setCell ⟨G, 11, none⟩ (.int .i64 y5)) := (putMain_only X3 G _ _ _ _ _ _).trans (putLame_only _ G _ _ _ _ _ _)
          have hb2 : Below w7.heap.size w7 ((((((((((((X3.setCell ⟨G, 0, none⟩ (.int .i64 x0)).setCell ⟨G, 1, none⟩ (.string x1)).setCell ⟨G, 2, none⟩ (.string x2)).setCell ⟨G, 3, none⟩ (.int .i64 x3)).setCell ⟨G, 4, none⟩ (.slice pa r4.length pk)).setCell ⟨G, 5, none⟩ (.int .i64 x5)).setCell ⟨G, 6, none⟩ (.int .i64 y0)).setCell ⟨G, 7, none⟩ (.string y1)).setCell ⟨G, 8, none⟩ (.string y2)).setCell ⟨G, 9, none⟩ (.int .i64 y3)).setCell ⟨G, 10, none⟩ (.slice qa s4.length qk)).setCell ⟨G, 11, none⟩ (.int .i64 y5)) := putBoth_below hHeld.out.2 hlo _ _ _ _ _ _ _ _ _ _ _ _
          refine hK.out _ _ (Lib.hid ⟨hHeld.out.1.only ho (by omega), hb2⟩) (fun hHeld => ?_)
          clear hK K r0_ g0_ r1_ g1_ r2_ g2_ r3_ g3_ r4_ g4_ r5_ g5_ r6_ g6_ r7_ g7_ r8_ g8_ r9_ g9_ r10_ g10_ r11_ g11_
          replace O1 := Lib.hid (own_only O1.out ho (row_off flatIntK O1.out rr.out (by decide)))
          replace O2 := Lib.hid (own_only O2.out ho (row_off flatIntK O2.out rr.out (by decide)))
          have RS := Lib.hid (putBoth rr.out (.int .i64 x0) (.string x1) (.string x2) (.int .i64 x3) (.slice pa r4.length pk) (.int .i64 x5) (.int .i64 y0) (.string y1) (.string y2) (.int .i64 y3) (.slice qa s4.length qk) (.int .i64 y5))
          clear ho hb2 rr
          generalize ((((((((((((X3.setCell ⟨G, 0, none⟩ (.int .i64 x0)).setCell ⟨G, 1, none⟩ (.string x1)).setCell ⟨G, 2, none⟩ (.string x2)).setCell ⟨G, 3, none⟩ (.int .i64 x3)).setCell ⟨G, 4, none⟩ (.slice pa r4.length pk)).setCell ⟨G, 5, none⟩ (.int .i64 x5)).setCell ⟨G, 6, none⟩ (.int .i64 y0)).setCell ⟨G, 7, none⟩ (.string y1)).setCell ⟨G, 8, none⟩ (.string y2)).setCell ⟨G, 9, none⟩ (.int .i64 y3)).setCell ⟨G, 10, none⟩ (.slice qa s4.length qk)).setCell ⟨G, 11, none⟩ (.int .i64 y5)) = X4 at *
          try simp only [Act.put, List.getElem_toArray, List.getElem_cons_succ, List.getElem_cons_zero, List.setIfInBounds_toArray, List.set_cons_zero, List.set_cons_succ]
          refine wpAnyH_take (i := 9) (v := ?_) rfl (by kernel_rfl) (by kernel_rfl) (by kernel_rfl) (fun _ _ _ h => h) (Or.inl ⟨by kernel_rfl, ?_⟩) hHeld ?_
          rotate_left
          · intro X hX
            first | (go_simp; done) | (go_simp; with_reducible rfl)
          try simp only [Act.put, List.getElem_toArray, List.getElem_cons_succ, List.getElem_cons_zero, List.setIfInBounds_toArray, List.set_cons_zero, List.set_cons_succ]
          refine wpAnyH_done (by kernel_rfl) ?_ _
          have hz := hHeld.out.2
          clear hHeld
          go_wp2_with fail
          go_meet
          exact ⟨G, rfl, rfl, Lib.hid hz⟩
        · go_simp
          have hal : Below X1.heap.size X1 (X1.alloc (.cells #[.int .i64 0, .string ⟨#[]⟩, .string ⟨#[]⟩, .int .i64 0, .slice none 0 0, .int .i64 0, .int .i64 0, .string ⟨#[]⟩, .string ⟨#[]⟩, .int .i64 0, .slice none 0 0, .int .i64 0] SlotsT)) := (Below.refl _ _).alloc (Nat.le_refl _) _
          have hlo : w7.heap.size ≤ X1.heap.size := hHeld.out.2.size
          refine hK.out _ _ (qv _ _ hHeld hal) (fun hHeld => ?_)
          clear hK K
          have rr := Lib.hid (VarA.new X1 SlotsT #[.int .i64 0, .string ⟨#[]⟩, .string ⟨#[]⟩, .int .i64 0, .slice none 0 0, .int .i64 0, .int .i64 0, .string ⟨#[]⟩, .string ⟨#[]⟩, .int .i64 0, .slice none 0 0, .int .i64 0])
          have hb := Lib.hid hal
          clear hal hb
          generalize X1.alloc (.cells #[.int .i64 0, .string ⟨#[]⟩, .string ⟨#[]⟩, .int .i64 0, .slice none 0 0, .int .i64 0, .int .i64 0, .string ⟨#[]⟩, .string ⟨#[]⟩, .int .i64 0, .slice none 0 0, .int .i64 0] SlotsT) = X2 at *
          generalize X1.heap.size = G at *
          try simp only [Act.put, List.getElem_toArray, List.getElem_cons_succ, List.getElem_cons_zero, List.setIfInBounds_toArray, List.set_cons_zero, List.set_cons_succ]
          refine wpAnyH_ready (rs := [3]) (by kernel_rfl) (by simp) ?_
          refine AllReadyH.cons rfl (fun K hK => ?_) AllReadyH.nil
          go_simp
          go_wp2_with (go_at_call 7; refine (implInstall_gen HG x0 x1 x2 x3 _ r4 x5 y0 y1 y2 y3 _ s4 y5 ⟨#[115, 104, 111, 114, 116]⟩ db now (by omega) (by omega) (by omega) (by omega) (by omega) (by omega) hi1 hi2 (by decide) (by omega) X2 (layIntS.below HM.out hHeld.out.2) (layIntS.below HL.out hHeld.out.2)).mono ?_; intro e X3 he; obtain ⟨v5, v6, f, g, rfl, o1, o2, hb0⟩ := install_bad HN.out he; obtain ⟨pa, pk, rfl⟩ := rows_form (layIntS.read o1); obtain ⟨qa, qk, rfl⟩ := rows_form (layIntS.read o2); have hlo : w7.heap.size ≤ X2.heap.size := hHeld.out.2.size; have hS := qv _ _ hHeld hb0; have hb := Lib.hid hb0; have O1 := Lib.hid (layIntS.lower o1 hlo); have O2 := Lib.hid (layIntS.lower o2 hlo); clear hb0 o1 o2 hlo he)
          refine hK.out _ _ hS (fun hHeld => ?_)
          clear hK K hS
          replace rr := Lib.hid (rr.out.next hb.out)
          clear hb
          try simp only [Act.put, List.getElem_toArray, List.getElem_cons_succ, List.getElem_cons_zero, List.setIfInBounds_toArray, List.set_cons_zero, List.set_cons_succ]
          refine wpAnyH_take (i := 4) (v := ?_) rfl (by kernel_rfl) (by kernel_rfl) (by kernel_rfl) (fun _ _ _ h => h) (Or.inl ⟨by kernel_rfl, ?_⟩) hHeld ?_
          rotate_left
          · intro X hX
            first | (go_simp; done) | (go_simp; with_reducible rfl)
          try simp only [Act.put, List.getElem_toArray, List.getElem_cons_succ, List.getElem_cons_zero, List.setIfInBounds_toArray, List.set_cons_zero, List.set_cons_succ]
          refine wpAnyH_take (i := 5) (v := ?_) rfl (by kernel_rfl) (by kernel_rfl) (by kernel_rfl) (fun _ _ _ h => h) (Or.inl ⟨by kernel_rfl, ?_⟩) hHeld ?_
          rotate_left
          · intro X hX
            first | (go_simp; done) | (go_simp; with_reducible rfl)
          try simp only [Act.put, List.getElem_toArray, List.getElem_cons_succ, List.getElem_cons_zero, List.setIfInBounds_toArray, List.set_cons_zero, List.set_cons_succ]
          refine wpAnyH_take (i := 6) (v := ?_) rfl (by kernel_rfl) (by kernel_rfl) (by kernel_rfl) (fun _ _ _ h => h) (Or.inl ⟨by kernel_rfl, ?_⟩) hHeld ?_
          rotate_left
          · intro X hX
            first | (go_simp; done) | (go_simp; with_reducible rfl)
          try simp only [Act.put, List.getElem_toArray, List.getElem_cons_succ, List.getElem_cons_zero, List.setIfInBounds_toArray, List.set_cons_zero, List.set_cons_succ]
          refine wpAnyH_ready (rs := [8]) (by kernel_rfl) (by simp) ?_
          refine AllReadyH.cons rfl (fun K hK => ?_) AllReadyH.nil
          have r0_ := rr.out.cell 0
          have r1_ := rr.out.cell 1
          have r2_ := rr.out.cell 2
          have r3_ := rr.out.cell 3
          have r4_ := rr.out.cell 4
          have r5_ := rr.out.cell 5
          have r6_ := rr.out.cell 6
          have r7_ := rr.out.cell 7
          have r8_ := rr.out.cell 8
          have r9_ := rr.out.cell 9
          have r10_ := rr.out.cell 10
          have r11_ := rr.out.cell 11
          have g0_ := rr.out.free 0
          have g1_ := rr.out.free 1
          have g2_ := rr.out.free 2
          have g3_ := rr.out.free 3
          have g4_ := rr.out.free 4
          have g5_ := rr.out.free 5
          have g6_ := rr.out.free 6
          have g7_ := rr.out.free 7
          have g8_ := rr.out.free 8
          have g9_ := rr.out.free 9
          have g10_ := rr.out.free 10
          have g11_ := rr.out.free 11
          go_simp
          have ho : Only G X3 ((((((((((((X3.setCell ⟨G, 0, none⟩ (.int .i64 x0)).setCell ⟨G, 1, none⟩ (.string x1)).setCell ⟨G, 2, none⟩ (.string x2)).setCell ⟨G, 3, none⟩ (.int .i64 x3)).setCell ⟨G, 4, none⟩ (.slice pa r4.length pk)).setCell ⟨G, 5, none⟩ (.int .i64 x5)).setCell ⟨G, 6, none⟩ (.int .i64 y0)).setCell ⟨G, 7, none⟩ (.string y1)).setCell ⟨G, 8, none⟩ (.string y2)).setCell ⟨G, 9, none⟩ (.int .i64 y3)).setCell ⟨G, 10, none⟩ (.slice qa s4.length qk)).setCell ⟨G, 11, none⟩ (.int .i64 y5)) := (putMain_only X3 G _ _ _ _ _ _).trans (putLame_only _ G _ _ _ _ _ _)
          have hb2 : Below w7.heap.size w7 ((((((((((((X3.setCell ⟨G, 0, none⟩ (.int .i64 x0)).setCell ⟨G, 1, none⟩ (.string x1)).setCell ⟨G, 2, none⟩ (.string x2)).setCell ⟨G, 3, none⟩ (.int .i64 x3)).setCell ⟨G, 4, none⟩ (.slice pa r4.length pk)).setCell ⟨G, 5, none⟩ (.int .i64 x5)).setCell ⟨G, 6, none⟩ (.int .i64 y0)).setCell ⟨G, 7, none⟩ (.string y1)).setCell ⟨G, 8, none⟩ (.string y2)).setCell ⟨G, 9, none⟩ (.int .i64 y3)).setCell ⟨G, 10, none⟩ (.slice qa s4.length qk)).setCell ⟨G, 11, none⟩ (.int .i64 y5)) := putBoth_below hHeld.out.2 hlo _ _ _ _ _ _ _ _ _ _ _ _
          refine hK.out _ _ (Lib.hid ⟨hHeld.out.1.only ho (by omega), hb2⟩) (fun hHeld => ?_)
          clear hK K r0_ g0_ r1_ g1_ r2_ g2_ r3_ g3_ r4_ g4_ r5_ g5_ r6_ g6_ r7_ g7_ r8_ g8_ r9_ g9_ r10_ g10_ r11_ g11_
          replace O1 := Lib.hid (own_only O1.out ho (row_off flatIntK O1.out rr.out (by decide)))
          replace O2 := Lib.hid (own_only O2.out ho (row_off flatIntK O2.out rr.out (by decide)))
          have RS := Lib.hid (putBoth rr.out (.int .i64 x0) (.string x1) (.string x2) (.int .i64 x3) (.slice pa r4.length pk) (.int .i64 x5) (.int .i64 y0) (.string y1) (.string y2) (.int .i64 y3) (.slice qa s4.length qk) (.int .i64 y5))
          clear ho hb2 rr
          generalize ((((((((((((X3.setCell ⟨G, 0, none⟩ (.int .i64 x0)).setCell ⟨G, 1, none⟩ (.string x1)).setCell ⟨G, 2, none⟩ (.string x2)).setCell ⟨G, 3, none⟩ (.int .i64 x3)).setCell ⟨G, 4, none⟩ (.slice pa r4.length pk)).setCell ⟨G, 5, none⟩ (.int .i64 x5)).setCell ⟨G, 6, none⟩ (.int .i64 y0)).setCell ⟨G, 7, none⟩ (.string y1)).setCell ⟨G, 8, none⟩ (.string y2)).setCell ⟨G, 9, none⟩ (.int .i64 y3)).setCell ⟨G, 10, none⟩ (.slice qa s4.length qk)).setCell ⟨G, 11, none⟩ (.int .i64 y5)) = X4 at *
          try simp only [Act.put, List.getElem_toArray, List.getElem_cons_succ, List.getElem_cons_zero, List.setIfInBounds_toArray, List.set_cons_zero, List.set_cons_succ]
          refine wpAnyH_take (i := 9) (v := ?_) rfl (by kernel_rfl) (by kernel_rfl) (by kernel_rfl) (fun _ _ _ h => h) (Or.inl ⟨by kernel_rfl, ?_⟩) hHeld ?_
          rotate_left
          · intro X hX
            first | (go_simp; done) | (go_simp; with_reducible rfl)
          try simp only [Act.put, List.getElem_toArray, List.getElem_cons_succ, List.getElem_cons_zero, List.setIfInBounds_toArray, List.set_cons_zero, List.set_cons_succ]
          refine wpAnyH_done (by kernel_rfl) ?_ _
          have hz := hHeld.out.2
          clear hHeld
          go_wp2_with fail
          go_meet
          exact ⟨G, rfl, rfl, Lib.hid hz⟩
      · go_simp
        have hal : Below X0.heap.size X0 (X0.alloc (.cells #[.int .i64 0, .string ⟨#[]⟩, .string ⟨#[]⟩, .int .i64 0, .slice none 0 0, .int .i64 0, .int .i64 0, .string ⟨#[]⟩, .string ⟨#[]⟩, .int .i64 0, .slice none 0 0, .int .i64 0] SlotsT)) := (Below.refl _ _).alloc (Nat.le_refl _) _
        have hlo : w7.heap.size ≤ X0.heap.size := hHeld.out.2.size
        refine hK.out _ _ (qv _ _ hHeld hal) (fun hHeld => ?_)
        clear hK K
        have rr := Lib.hid (VarA.new X0 SlotsT #[.int .i64 0, .string ⟨#[]⟩, .string ⟨#[]⟩, .int .i64 0, .slice none 0 0, .int .i64 0, .int .i64 0, .string ⟨#[]⟩, .string ⟨#[]⟩, .int .i64 0, .slice none 0 0, .int .i64 0])
        have hb := Lib.hid hal
        clear hal hb
        generalize X0.alloc (.cells #[.int .i64 0, .string ⟨#[]⟩, .string ⟨#[]⟩, .int .i64 0, .slice none 0 0, .int .i64 0, .int .i64 0, .string ⟨#[]⟩, .string ⟨#[]⟩, .int .i64 0, .slice none 0 0, .int .i64 0] SlotsT) = X1 at *
        generalize X0.heap.size = G at *
        try simp only [Act.put, List.getElem_toArray, List.getElem_cons_succ, List.getElem_cons_zero, List.setIfInBounds_toArray, List.set_cons_zero, List.set_cons_succ]
        refine wpAnyH_ready (rs := [1]) (by kernel_rfl) (by simp) ?_
        refine AllReadyH.cons rfl (fun K hK => ?_) AllReadyH.nil
        go_simp
        go_wp2_with (go_at_call 8; refine (KB.out X1).mono ?_; rintro e X2 ⟨rfl, hb0⟩; have hS := qv _ _ hHeld hb0; have hb := Lib.hid hb0; clear hb0)
        refine hK.out _ _ hS (fun hHeld => ?_)
        clear hK K hS
        replace rr := Lib.hid (rr.out.next hb.out)
        clear hb
        try simp only [Act.put, List.getElem_toArray, List.getElem_cons_succ, List.getElem_cons_zero, List.setIfInBounds_toArray, List.set_cons_zero, List.set_cons_succ]
        refine wpAnyH_ready (rs := [3]) (by kernel_rfl) (by simp) ?_
        refine AllReadyH.cons rfl (fun K hK => ?_) AllReadyH.nil
        go_simp
        go_wp2_with (go_at_call 7; refine (implInstall_gen HG x0 x1 x2 x3 _ r4 x5 y0 y1 y2 y3 _ s4 y5 ⟨#[115, 104, 111, 114, 116]⟩ db now (by omega) (by omega) (by omega) (by omega) (by omega) (by omega) hi1 hi2 (by decide) (by omega) X2 (layIntS.below HM.out hHeld.out.2) (layIntS.below HL.out hHeld.out.2)).mono ?_; intro e X3 he; obtain ⟨v5, v6, f, g, rfl, o1, o2, hb0⟩ := install_bad HN.out he; obtain ⟨pa, pk, rfl⟩ := rows_form (layIntS.read o1); obtain ⟨qa, qk, rfl⟩ := rows_form (layIntS.read o2); have hlo : w7.heap.size ≤ X2.heap.size := hHeld.out.2.size; have hS := qv _ _ hHeld hb0; have hb := Lib.hid hb0; have O1 := Lib.hid (layIntS.lower o1 hlo); have O2 := Lib.hid (layIntS.lower o2 hlo); clear hb0 o1 o2 hlo he)
        refine hK.out _ _ hS (fun hHeld => ?_)
        clear hK K hS
        replace rr := Lib.hid (rr.out.next hb.out)
        clear hb
        try simp only [Act.put, List.getElem_toArray, List.getElem_cons_succ, List.getElem_cons_zero, List.setIfInBounds_toArray, List.set_cons_zero, List.set_cons_succ]
        refine wpAnyH_take (i := 4) (v := ?_) rfl (by kernel_rfl) (by kernel_rfl) (by kernel_rfl) (fun _ _ _ h => h) (Or.inl ⟨by kernel_rfl, ?_⟩) hHeld ?_
        rotate_left
        · intro X hX
          first | (go_simp; done) | (go_simp; with_reducible rfl)
        try simp only [Act.put, List.getElem_toArray, List.getElem_cons_succ, List.getElem_cons_zero, List.setIfInBounds_toArray, List.set_cons_zero, List.set_cons_succ]
        refine wpAnyH_take (i := 5) (v := ?_) rfl (by kernel_rfl) (by kernel_rfl) (by kernel_rfl) (fun _ _ _ h => h) (Or.inl ⟨by kernel_rfl, ?_⟩) hHeld ?_
        rotate_left
        · intro X hX
          first | (go_simp; done) | (go_simp; with_reducible rfl)
        try simp only [Act.put, List.getElem_toArray, List.getElem_cons_succ, List.getElem_cons_zero, List.setIfInBounds_toArray, List.set_cons_zero, List.set_cons_succ]
        refine wpAnyH_take (i := 6) (v := ?_) rfl (by kernel_rfl) (by kernel_rfl) (by kernel_rfl) (fun _ _ _ h => h) (Or.inl ⟨by kernel_rfl, ?_⟩) hHeld ?_
        rotate_left
        · intro X hX
          first | (go_simp; done) | (go_simp; with_reducible rfl)
        try simp only [Act.put, List.getElem_toArray, List.getElem_cons_succ, List.getElem_cons_zero, List.setIfInBounds_toArray, List.set_cons_zero, List.set_cons_succ]
        refine wpAnyH_ready (rs := [8]) (by kernel_rfl) (by simp) ?_
        refine AllReadyH.cons rfl (fun K hK => ?_) AllReadyH.nil
        have r0_ := rr.out.cell 0
        have r1_ := rr.out.cell 1
        have r2_ := rr.out.cell 2
        have r3_ := rr.out.cell 3
        have r4_ := rr.out.cell 4
        have r5_ := rr.out.cell 5
        have r6_ := rr.out.cell 6
        have r7_ := rr.out.cell 7
        have r8_ := rr.out.cell 8
        have r9_ := rr.out.cell 9
        have r10_ := rr.out.cell 10
        have r11_ := rr.out.cell 11
        have g0_ := rr.out.free 0
        have g1_ := rr.out.free 1
        have g2_ := rr.out.free 2
        have g3_ := rr.out.free 3
        have g4_ := rr.out.free 4
        have g5_ := rr.out.free 5
        have g6_ := rr.out.free 6
        have g7_ := rr.out.free 7
        have g8_ := rr.out.free 8
        have g9_ := rr.out.free 9
        have g10_ := rr.out.free 10
        have g11_ := rr.out.free 11
        go_simp
        have ho : Only G X3 ((((((((((((X3.setCell ⟨G, 0, none⟩ (.int .i64 x0)).setCell ⟨G, 1, none⟩ (.string x1)).setCell ⟨G, 2, none⟩ (.string x2)).setCell ⟨G, 3, none⟩ (.int .i64 x3)).setCell ⟨G, 4, none⟩ (.slice pa r4.length pk)).setCell ⟨G, 5, none⟩ (.int .i64 x5)).setCell ⟨G, 6, none⟩ (.int .i64 y0)).setCell ⟨G, 7, none⟩ (.string y1)).setCell ⟨G, 8, none⟩ (.string y2)).setCell ⟨G, 9, none⟩ (.int .i64 y3)).setCell ⟨G, 10, none⟩ (.slice qa s4.length qk)).setCell ⟨G, 11, none⟩ (.int .i64 y5)) := (putMain_only X3 G _ _ _ _ _ _).trans (putLame_only _ G _ _ _ _ _ _)
        have hb2 : Below w7.heap.size w7 ((((((((((((X3.setCell ⟨G, 0, none⟩ (.int .i64 x0)).setCell ⟨G, 1, none⟩ (.string x1)).setCell ⟨G, 2, none⟩ (.string x2)).setCell ⟨G, 3, none⟩ (.int .i64 x3)).setCell ⟨G, 4, none⟩ (.slice pa r4.length pk)).setCell ⟨G, 5, none⟩ (.int .i64 x5)).setCell ⟨G, 6, none⟩ (.int .i64 y0)).setCell ⟨G, 7, none⟩ (.string y1)).setCell ⟨G, 8, none⟩ (.string y2)).setCell ⟨G, 9, none⟩ (.int .i64 y3)).setCell ⟨G, 10, none⟩ (.slice qa s4.length qk)).setCell ⟨G, 11, none⟩ (.int .i64 y5)) := putBoth_below hHeld.out.2 hlo _ _ _ _ _ _ _ _ _ _ _ _
        refine hK.out _ _ (Lib.hid ⟨hHeld.out.1.only ho (by omega), hb2⟩) (fun hHeld => ?_)
        clear hK K r0_ g0_ r1_ g1_ r2_ g2_ r3_ g3_ r4_ g4_ r5_ g5_ r6_ g6_ r7_ g7_ r8_ g8_ r9_ g9_ r10_ g10_ r11_ g11_
        replace O1 := Lib.hid (own_only O1.out ho (row_off flatIntK O1.out rr.out (by decide)))
        replace O2 := Lib.hid (own_only O2.out ho (row_off flatIntK O2.out rr.out (by decide)))
        have RS := Lib.hid (putBoth rr.out (.int .i64 x0) (.string x1) (.string x2) (.int .i64 x3) (.slice pa r4.length pk) (.int .i64 x5) (.int .i64 y0) (.string y1) (.string y2) (.int .i64 y3) (.slice qa s4.length qk) (.int .i64 y5))
        clear ho hb2 rr
        generalize ((((((((((((X3.setCell ⟨G, 0, none⟩ (.int .i64 x0)).setCell ⟨G, 1, none⟩ (.string x1)).setCell ⟨G, 2, none⟩ (.string x2)).setCell ⟨G, 3, none⟩ (.int .i64 x3)).setCell ⟨G, 4, none⟩ (.slice pa r4.length pk)).setCell ⟨G, 5, none⟩ (.int .i64 x5)).setCell ⟨G, 6, none⟩ (.int .i64 y0)).setCell ⟨G, 7, none⟩ (.string y1)).setCell ⟨G, 8, none⟩ (.string y2)).setCell ⟨G, 9, none⟩ (.int .i64 y3)).setCell ⟨G, 10, none⟩ (.slice qa s4.length qk)).setCell ⟨G, 11, none⟩ (.int .i64 y5)) = X4 at *
        try simp only [Act.put, List.getElem_toArray, List.getElem_cons_succ, List.getElem_cons_zero, List.setIfInBounds_toArray, List.set_cons_zero, List.set_cons_succ]
        refine wpAnyH_take (i := 9) (v := ?_) rfl (by kernel_rfl) (by kernel_rfl) (by kernel_rfl) (fun _ _ _ h => h) (Or.inl ⟨by kernel_rfl, ?_⟩) hHeld ?_
        rotate_left
        · intro X hX
          first | (go_simp; done) | (go_simp; with_reducible rfl)
        try simp only [Act.put, List.getElem_toArray, List.getElem_cons_succ, List.getElem_cons_zero, List.setIfInBounds_toArray, List.set_cons_zero, List.set_cons_succ]
        refine wpAnyH_done (by kernel_rfl) ?_ _
        have hz := hHeld.out.2
        clear hHeld
        go_wp2_with fail
        go_meet
        exact ⟨G, rfl, rfl, Lib.hid hz⟩
    case rest =>
      obtain ⟨gz, rfl, rfl, hc⟩ := hcut
      have hb := hc.out
      clear hc E0 hgs qv
      replace SV := Lib.hid (SV.out.next hb)
      replace HM := Lib.hid (layIntS.below HM.out hb)
      replace HL := Lib.hid (layIntS.below HL.out hb)
      replace AV := Lib.hid (AV.out.next hb)
      replace AM := Lib.hid (layIntS.below AM.out hb)
      replace AL := Lib.hid (layIntS.below AL.out hb)
      replace BV := Lib.hid (BV.out.next hb)
      replace BM := Lib.hid (layIntS.below BM.out hb)
      replace BL := Lib.hid (layIntS.below BL.out hb)
      replace CV := Lib.hid (CV.out.next hb)
      replace BY := Lib.hid (BY.out.trans (hb.mono BY.out.size))
      clear hb
      have HN1 := Lib.hid (implNextKeys_any x1 x2 (by omega) (by omega) wc (LL.out _ BY.out))
      have HN2 := Lib.hid (specNextKeys_any x1 x2 (by omega) (by omega))
      generalize nextK x1 = k1 at *
      generalize nextK x2 = k2 at *
      have SP1 : SlotsP x0 x1 x2 x3 r4 x5 y0 y1 y2 y3 s4 y5 := GD.out.p
      have SP2 : SlotsP (x0 + 1) da db 0 [] 0 x0 x1 x2 x3 r4 (now + 10) := GA.out.p
      have SP3 : SlotsP (x0 + 1) da db 0 [] 0 0 ⟨#[]⟩ ⟨#[]⟩ 0 [] 0 := (good_tidy GA.out).p
      have c0 : wc.cell? ⟨gs, 0, none⟩ = some (.int .i64 x0) := SV.out.cell 0
      have c1 : wc.cell? ⟨gs, 1, none⟩ = some (.string x1) := SV.out.cell 1
      have c2 : wc.cell? ⟨gs, 2, none⟩ = some (.string x2) := SV.out.cell 2
      have c3 : wc.cell? ⟨gs, 3, none⟩ = some (.int .i64 x3) := SV.out.cell 3
      have c4 : wc.cell? ⟨gs, 4, none⟩ = some (.slice va r4.length vk) := SV.out.cell 4
      have c5 : wc.cell? ⟨gs, 5, none⟩ = some (.int .i64 x5) := SV.out.cell 5
      have c6 : wc.cell? ⟨gs, 6, none⟩ = some (.int .i64 y0) := SV.out.cell 6
      have c7 : wc.cell? ⟨gs, 7, none⟩ = some (.string y1) := SV.out.cell 7
      have c8 : wc.cell? ⟨gs, 8, none⟩ = some (.string y2) := SV.out.cell 8
      have c9 : wc.cell? ⟨gs, 9, none⟩ = some (.int .i64 y3) := SV.out.cell 9
      have c10 : wc.cell? ⟨gs, 10, none⟩ = some (.slice ua s4.length uk) := SV.out.cell 10
      have c11 : wc.cell? ⟨gs, 11, none⟩ = some (.int .i64 y5) := SV.out.cell 11
      go_wp2_with fail
      refine (HN1.out).mono ?_
      rintro e w8 ⟨rfl, hb⟩
      replace SV := Lib.hid (SV.out.next hb)
      replace HM := Lib.hid (layIntS.below HM.out hb)
      replace HL := Lib.hid (layIntS.below HL.out hb)
      replace AV := Lib.hid (AV.out.next hb)
      replace AM := Lib.hid (layIntS.below AM.out hb)
      replace AL := Lib.hid (layIntS.below AL.out hb)
      replace BV := Lib.hid (BV.out.next hb)
      replace BM := Lib.hid (layIntS.below BM.out hb)
      replace BL := Lib.hid (layIntS.below BL.out hb)
      replace CV := Lib.hid (CV.out.next hb)
      replace BY := Lib.hid (BY.out.trans (hb.mono BY.out.size))
      clear hb
      clear c0 c1 c2 c3 c4 c5 c6 c7 c8 c9 c10 c11
      have c0 : w8.cell? ⟨gs, 0, none⟩ = some (.int .i64 x0) := SV.out.cell 0
      have c1 : w8.cell? ⟨gs, 1, none⟩ = some (.string x1) := SV.out.cell 1
      have c2 : w8.cell? ⟨gs, 2, none⟩ = some (.string x2) := SV.out.cell 2
      have c3 : w8.cell? ⟨gs, 3, none⟩ = some (.int .i64 x3) := SV.out.cell 3
      have c4 : w8.cell? ⟨gs, 4, none⟩ = some (.slice va r4.length vk) := SV.out.cell 4
      have c5 : w8.cell? ⟨gs, 5, none⟩ = some (.int .i64 x5) := SV.out.cell 5
      have c6 : w8.cell? ⟨gs, 6, none⟩ = some (.int .i64 y0) := SV.out.cell 6
      have c7 : w8.cell? ⟨gs, 7, none⟩ = some (.string y1) := SV.out.cell 7
      have c8 : w8.cell? ⟨gs, 8, none⟩ = some (.string y2) := SV.out.cell 8
      have c9 : w8.cell? ⟨gs, 9, none⟩ = some (.int .i64 y3) := SV.out.cell 9
      have c10 : w8.cell? ⟨gs, 10, none⟩ = some (.slice ua s4.length uk) := SV.out.cell 10
      have c11 : w8.cell? ⟨gs, 11, none⟩ = some (.int .i64 y5) := SV.out.cell 11
      go_wp2_with fail
      refine (HN2.out w8).mono ?_
      rintro e w9 ⟨rfl, hb⟩
      replace SV := Lib.hid (SV.out.next hb)
      replace HM := Lib.hid (layIntS.below HM.out hb)
      replace HL := Lib.hid (layIntS.below HL.out hb)
      replace AV := Lib.hid (AV.out.next hb)
      replace AM := Lib.hid (layIntS.below AM.out hb)
      replace AL := Lib.hid (layIntS.below AL.out hb)
      replace BV := Lib.hid (BV.out.next hb)
      replace BM := Lib.hid (layIntS.below BM.out hb)
      replace BL := Lib.hid (layIntS.below BL.out hb)
      replace CV := Lib.hid (CV.out.next hb)
      replace BY := Lib.hid (BY.out.trans (hb.mono BY.out.size))
      clear hb
      clear c0 c1 c2 c3 c4 c5 c6 c7 c8 c9 c10 c11
      clear HN1 HN2
      have c0 : w9.cell? ⟨gs, 0, none⟩ = some (.int .i64 x0) := SV.out.cell 0
      have c1 : w9.cell? ⟨gs, 1, none⟩ = some (.string x1) := SV.out.cell 1
      have c2 : w9.cell? ⟨gs, 2, none⟩ = some (.string x2) := SV.out.cell 2
      have c3 : w9.cell? ⟨gs, 3, none⟩ = some (.int .i64 x3) := SV.out.cell 3
      have c4 : w9.cell? ⟨gs, 4, none⟩ = some (.slice va r4.length vk) := SV.out.cell 4
      have c5 : w9.cell? ⟨gs, 5, none⟩ = some (.int .i64 x5) := SV.out.cell 5
      have c6 : w9.cell? ⟨gs, 6, none⟩ = some (.int .i64 y0) := SV.out.cell 6
      have c7 : w9.cell? ⟨gs, 7, none⟩ = some (.string y1) := SV.out.cell 7
      have c8 : w9.cell? ⟨gs, 8, none⟩ = some (.string y2) := SV.out.cell 8
      have c9 : w9.cell? ⟨gs, 9, none⟩ = some (.int .i64 y3) := SV.out.cell 9
      have c10 : w9.cell? ⟨gs, 10, none⟩ = some (.slice ua s4.length uk) := SV.out.cell 10
      have c11 : w9.cell? ⟨gs, 11, none⟩ = some (.int .i64 y5) := SV.out.cell 11
      go_wp2_with fail
      refine (implSlotsOk_any x0 x1 x2 x3 _ r4 x5 y0 y1 y2 y3 _ s4 y5 true ⟨fun _ => SP1, fun _ => rfl⟩ (by omega) (by omega) hi1 hi2 w9 HM.out HL.out).mono ?_
      rintro e w10 ⟨rfl, hb⟩
      replace SV := Lib.hid (SV.out.next hb)
      replace HM := Lib.hid (layIntS.below HM.out hb)
      replace HL := Lib.hid (layIntS.below HL.out hb)
      replace AV := Lib.hid (AV.out.next hb)
      replace AM := Lib.hid (layIntS.below AM.out hb)
      replace AL := Lib.hid (layIntS.below AL.out hb)
      replace BV := Lib.hid (BV.out.next hb)
      replace BM := Lib.hid (layIntS.below BM.out hb)
      replace BL := Lib.hid (layIntS.below BL.out hb)
      replace CV := Lib.hid (CV.out.next hb)
      replace BY := Lib.hid (BY.out.trans (hb.mono BY.out.size))
      clear hb
      clear c0 c1 c2 c3 c4 c5 c6 c7 c8 c9 c10 c11
      have d0 : w10.cell? ⟨ga, 0, none⟩ = some (.int .i64 (x0 + 1)) := AV.out.cell 0
      have d1 : w10.cell? ⟨ga, 1, none⟩ = some (.string da) := AV.out.cell 1
      have d2 : w10.cell? ⟨ga, 2, none⟩ = some (.string db) := AV.out.cell 2
      have d3 : w10.cell? ⟨ga, 3, none⟩ = some (.int .i64 0) := AV.out.cell 3
      have d4 : w10.cell? ⟨ga, 4, none⟩ = some (.slice pa 0 pk) := AV.out.cell 4
      have d5 : w10.cell? ⟨ga, 5, none⟩ = some (.int .i64 0) := AV.out.cell 5
      have d6 : w10.cell? ⟨ga, 6, none⟩ = some (.int .i64 x0) := AV.out.cell 6
      have d7 : w10.cell? ⟨ga, 7, none⟩ = some (.string x1) := AV.out.cell 7
      have d8 : w10.cell? ⟨ga, 8, none⟩ = some (.string x2) := AV.out.cell 8
      have d9 : w10.cell? ⟨ga, 9, none⟩ = some (.int .i64 x3) := AV.out.cell 9
      have d10 : w10.cell? ⟨ga, 10, none⟩ = some (.slice qa r4.length qk) := AV.out.cell 10
      have d11 : w10.cell? ⟨ga, 11, none⟩ = some (.int .i64 (now + 10)) := AV.out.cell 11
      go_wp2_with fail
      refine (implSlotsOk_any (x0 + 1) da db 0 _ [] 0 x0 x1 x2 x3 _ r4 (now + 10) true ⟨fun _ => SP2, fun _ => rfl⟩ (by simp) (by omega) (fun _ h => by cases h) hi1 w10 AM.out AL.out).mono ?_
      rintro e w11 ⟨rfl, hb⟩
      replace SV := Lib.hid (SV.out.next hb)
      replace HM := Lib.hid (layIntS.below HM.out hb)
      replace HL := Lib.hid (layIntS.below HL.out hb)
      replace AV := Lib.hid (AV.out.next hb)
      replace AM := Lib.hid (layIntS.below AM.out hb)
      replace AL := Lib.hid (layIntS.below AL.out hb)
      replace BV := Lib.hid (BV.out.next hb)
      replace BM := Lib.hid (layIntS.below BM.out hb)
      replace BL := Lib.hid (layIntS.below BL.out hb)
      replace CV := Lib.hid (CV.out.next hb)
      replace BY := Lib.hid (BY.out.trans (hb.mono BY.out.size))
      clear hb
      clear d0 d1 d2 d3 d4 d5 d6 d7 d8 d9 d10 d11
      have e0 : w11.cell? ⟨gb, 0, none⟩ = some (.int .i64 (x0 + 1)) := BV.out.cell 0
      have e1 : w11.cell? ⟨gb, 1, none⟩ = some (.string da) := BV.out.cell 1
      have e2 : w11.cell? ⟨gb, 2, none⟩ = some (.string db) := BV.out.cell 2
      have e3 : w11.cell? ⟨gb, 3, none⟩ = some (.int .i64 0) := BV.out.cell 3
      have e4 : w11.cell? ⟨gb, 4, none⟩ = some (.slice ea 0 ek) := BV.out.cell 4
      have e5 : w11.cell? ⟨gb, 5, none⟩ = some (.int .i64 0) := BV.out.cell 5
      have e6 : w11.cell? ⟨gb, 6, none⟩ = some (.int .i64 0) := BV.out.cell 6
      have e7 : w11.cell? ⟨gb, 7, none⟩ = some (.string ⟨#[]⟩) := BV.out.cell 7
      have e8 : w11.cell? ⟨gb, 8, none⟩ = some (.string ⟨#[]⟩) := BV.out.cell 8
      have e9 : w11.cell? ⟨gb, 9, none⟩ = some (.int .i64 0) := BV.out.cell 9
      have e10 : w11.cell? ⟨gb, 10, none⟩ = some (.slice fa 0 fk) := BV.out.cell 10
      have e11 : w11.cell? ⟨gb, 11, none⟩ = some (.int .i64 0) := BV.out.cell 11
      go_wp2_with fail
      refine (implSlotsOk_any (x0 + 1) da db 0 _ [] 0 0 ⟨#[]⟩ ⟨#[]⟩ 0 _ [] 0 true ⟨fun _ => SP3, fun _ => rfl⟩ (by simp) (by simp) (fun _ h => by cases h) (fun _ h => by cases h) w11 BM.out BL.out).mono ?_
      rintro e w12 ⟨rfl, hb⟩
      replace SV := Lib.hid (SV.out.next hb)
      replace HM := Lib.hid (layIntS.below HM.out hb)
      replace HL := Lib.hid (layIntS.below HL.out hb)
      replace AV := Lib.hid (AV.out.next hb)
      replace AM := Lib.hid (layIntS.below AM.out hb)
      replace AL := Lib.hid (layIntS.below AL.out hb)
      replace BV := Lib.hid (BV.out.next hb)
      replace BM := Lib.hid (layIntS.below BM.out hb)
      replace BL := Lib.hid (layIntS.below BL.out hb)
      replace CV := Lib.hid (CV.out.next hb)
      replace BY := Lib.hid (BY.out.trans (hb.mono BY.out.size))
      clear hb
      clear e0 e1 e2 e3 e4 e5 e6 e7 e8 e9 e10 e11
      have d0 : w12.cell? ⟨ga, 0, none⟩ = some (.int .i64 (x0 + 1)) := AV.out.cell 0
      have d1 : w12.cell? ⟨ga, 1, none⟩ = some (.string da) := AV.out.cell 1
      have d2 : w12.cell? ⟨ga, 2, none⟩ = some (.string db) := AV.out.cell 2
      have d3 : w12.cell? ⟨ga, 3, none⟩ = some (.int .i64 0) := AV.out.cell 3
      have d4 : w12.cell? ⟨ga, 4, none⟩ = some (.slice pa 0 pk) := AV.out.cell 4
      have d5 : w12.cell? ⟨ga, 5, none⟩ = some (.int .i64 0) := AV.out.cell 5
      have d6 : w12.cell? ⟨ga, 6, none⟩ = some (.int .i64 x0) := AV.out.cell 6
      have d7 : w12.cell? ⟨ga, 7, none⟩ = some (.string x1) := AV.out.cell 7
      have d8 : w12.cell? ⟨ga, 8, none⟩ = some (.string x2) := AV.out.cell 8
      have d9 : w12.cell? ⟨ga, 9, none⟩ = some (.int .i64 x3) := AV.out.cell 9
      have d10 : w12.cell? ⟨ga, 10, none⟩ = some (.slice qa r4.length qk) := AV.out.cell 10
      have d11 : w12.cell? ⟨ga, 11, none⟩ = some (.int .i64 (now + 10)) := AV.out.cell 11
      go_wp2_with fail
      refine (implSlotOk_any x0 x1 x2 x3 _ r4 (now + 10) true ⟨fun _ => SP2.2.1, fun _ => rfl⟩ (by omega) hi1 w12 AL.out).mono ?_
      rintro e w13 ⟨rfl, hb⟩
      replace SV := Lib.hid (SV.out.next hb)
      replace HM := Lib.hid (layIntS.below HM.out hb)
      replace HL := Lib.hid (layIntS.below HL.out hb)
      replace AV := Lib.hid (AV.out.next hb)
      replace AM := Lib.hid (layIntS.below AM.out hb)
      replace AL := Lib.hid (layIntS.below AL.out hb)
      replace BV := Lib.hid (BV.out.next hb)
      replace BM := Lib.hid (layIntS.below BM.out hb)
      replace BL := Lib.hid (layIntS.below BL.out hb)
      replace CV := Lib.hid (CV.out.next hb)
      replace BY := Lib.hid (BY.out.trans (hb.mono BY.out.size))
      clear hb
      clear d0 d1 d2 d3 d4 d5 d6 d7 d8 d9 d10 d11
      have u1 : ((x0 + 1 : Int) == x0 + 1) = true := beq_self_eq_true _
      have u2 : (x1.toList == x1.toList) = true := beq_self_eq_true _
      have u3 : ((now + 10 : Int) == now + 10) = true := beq_self_eq_true _
      have u4_ : (x0 == x0) = true := beq_self_eq_true _
      have u5 : (k1.toList == k1.toList) = true := beq_self_eq_true _
      have u6 : (k2.toList == k2.toList) = true := beq_self_eq_true _
      have c0 : w13.cell? ⟨gs, 0, none⟩ = some (.int .i64 x0) := SV.out.cell 0
      have c1 : w13.cell? ⟨gs, 1, none⟩ = some (.string x1) := SV.out.cell 1
      have c2 : w13.cell? ⟨gs, 2, none⟩ = some (.string x2) := SV.out.cell 2
      have c3 : w13.cell? ⟨gs, 3, none⟩ = some (.int .i64 x3) := SV.out.cell 3
      have c4 : w13.cell? ⟨gs, 4, none⟩ = some (.slice va r4.length vk) := SV.out.cell 4
      have c5 : w13.cell? ⟨gs, 5, none⟩ = some (.int .i64 x5) := SV.out.cell 5
      have c6 : w13.cell? ⟨gs, 6, none⟩ = some (.int .i64 y0) := SV.out.cell 6
      have c7 : w13.cell? ⟨gs, 7, none⟩ = some (.string y1) := SV.out.cell 7
      have c8 : w13.cell? ⟨gs, 8, none⟩ = some (.string y2) := SV.out.cell 8
      have c9 : w13.cell? ⟨gs, 9, none⟩ = some (.int .i64 y3) := SV.out.cell 9
      have c10 : w13.cell? ⟨gs, 10, none⟩ = some (.slice ua s4.length uk) := SV.out.cell 10
      have c11 : w13.cell? ⟨gs, 11, none⟩ = some (.int .i64 y5) := SV.out.cell 11
      have d0 : w13.cell? ⟨ga, 0, none⟩ = some (.int .i64 (x0 + 1)) := AV.out.cell 0
      have d1 : w13.cell? ⟨ga, 1, none⟩ = some (.string da) := AV.out.cell 1
      have d2 : w13.cell? ⟨ga, 2, none⟩ = some (.string db) := AV.out.cell 2
      have d3 : w13.cell? ⟨ga, 3, none⟩ = some (.int .i64 0) := AV.out.cell 3
      have d4 : w13.cell? ⟨ga, 4, none⟩ = some (.slice pa 0 pk) := AV.out.cell 4
      have d5 : w13.cell? ⟨ga, 5, none⟩ = some (.int .i64 0) := AV.out.cell 5
      have d6 : w13.cell? ⟨ga, 6, none⟩ = some (.int .i64 x0) := AV.out.cell 6
      have d7 : w13.cell? ⟨ga, 7, none⟩ = some (.string x1) := AV.out.cell 7
      have d8 : w13.cell? ⟨ga, 8, none⟩ = some (.string x2) := AV.out.cell 8
      have d9 : w13.cell? ⟨ga, 9, none⟩ = some (.int .i64 x3) := AV.out.cell 9
      have d10 : w13.cell? ⟨ga, 10, none⟩ = some (.slice qa r4.length qk) := AV.out.cell 10
      have d11 : w13.cell? ⟨ga, 11, none⟩ = some (.int .i64 (now + 10)) := AV.out.cell 11
      have e0 : w13.cell? ⟨gb, 0, none⟩ = some (.int .i64 (x0 + 1)) := BV.out.cell 0
      have e1 : w13.cell? ⟨gb, 1, none⟩ = some (.string da) := BV.out.cell 1
      have e2 : w13.cell? ⟨gb, 2, none⟩ = some (.string db) := BV.out.cell 2
      have e3 : w13.cell? ⟨gb, 3, none⟩ = some (.int .i64 0) := BV.out.cell 3
      have e4 : w13.cell? ⟨gb, 4, none⟩ = some (.slice ea 0 ek) := BV.out.cell 4
      have e5 : w13.cell? ⟨gb, 5, none⟩ = some (.int .i64 0) := BV.out.cell 5
      have e6 : w13.cell? ⟨gb, 6, none⟩ = some (.int .i64 0) := BV.out.cell 6
      have e7 : w13.cell? ⟨gb, 7, none⟩ = some (.string ⟨#[]⟩) := BV.out.cell 7
      have e8 : w13.cell? ⟨gb, 8, none⟩ = some (.string ⟨#[]⟩) := BV.out.cell 8
      have e9 : w13.cell? ⟨gb, 9, none⟩ = some (.int .i64 0) := BV.out.cell 9
      have e10 : w13.cell? ⟨gb, 10, none⟩ = some (.slice fa 0 fk) := BV.out.cell 10
      have e11 : w13.cell? ⟨gb, 11, none⟩ = some (.int .i64 0) := BV.out.cell 11
      have f6 : w13.cell? ⟨gc, 6, none⟩ = some (.int .i64 x0) := CV.out.cell 6
      go_wp2_with fail
      refine (implSpent_any (x0 + 1) da db 0 _ [] 0 x0 x1 x2 x3 _ r4 (now + 10) false ⟨fun e => (by cases e), fun e => by omega⟩ w13 AM.out AL.out).mono ?_
      rintro e w14 ⟨rfl, hb⟩
      replace SV := Lib.hid (SV.out.next hb)
      replace HM := Lib.hid (layIntS.below HM.out hb)
      replace HL := Lib.hid (layIntS.below HL.out hb)
      replace AV := Lib.hid (AV.out.next hb)
      replace AM := Lib.hid (layIntS.below AM.out hb)
      replace AL := Lib.hid (layIntS.below AL.out hb)
      replace BV := Lib.hid (BV.out.next hb)
      replace BM := Lib.hid (layIntS.below BM.out hb)
      replace BL := Lib.hid (layIntS.below BL.out hb)
      replace CV := Lib.hid (CV.out.next hb)
      replace BY := Lib.hid (BY.out.trans (hb.mono BY.out.size))
      clear hb
      clear c0 c1 c2 c3 c4 c5 c6 c7 c8 c9 c10 c11 d0 d1 d2 d3 d4 d5 d6 d7 d8 d9 d10 d11 e0 e1 e2 e3 e4 e5 e6 e7 e8 e9 e10 e11 f6
      go_wp2_with fail
      refine (implSpent_any 0 ⟨#[]⟩ ⟨#[]⟩ 0 (.slice none 0 0) [] 0 0 ⟨#[]⟩ ⟨#[]⟩ 0 (.slice none 0 0) [] 0 true ⟨fun _ => .inl rfl, fun _ => rfl⟩ w14 (layIntS.read (none_own w14 0)) (layIntS.read (none_own w14 0))).mono ?_
      rintro e w15 ⟨rfl, hb⟩
      replace SV := Lib.hid (SV.out.next hb)
      replace HM := Lib.hid (layIntS.below HM.out hb)
      replace HL := Lib.hid (layIntS.below HL.out hb)
      replace AV := Lib.hid (AV.out.next hb)
      replace AM := Lib.hid (layIntS.below AM.out hb)
      replace AL := Lib.hid (layIntS.below AL.out hb)
      replace BV := Lib.hid (BV.out.next hb)
      replace BM := Lib.hid (layIntS.below BM.out hb)
      replace BL := Lib.hid (layIntS.below BL.out hb)
      replace CV := Lib.hid (CV.out.next hb)
      replace BY := Lib.hid (BY.out.trans (hb.mono BY.out.size))
      clear hb
      go_wp2_with fail
      go_ret
      exact ⟨rfl, BY.out⟩

end Go.Proofs.YtpfkokjbpfaafaeDoor
