/-
  The exact law on AddPart, out of one answer that both give.
  AddPart's variables: what is held of memory meanwhile.
-/
import Derived.Test.YtfhlpgngeiploabJ31
import Derived.Deep.RegionHeld3
import Derived.Test.YtfhlpgngeiploabJ16
namespace Go.Proofs.Ytfhlpgngeiploab
open Go.RowKit

/-- A shelf, a text and whether are handed back. -/
def AddMade (w : World) (xs : List HeldD) (whole : ByteArray) (ok : Bool) (e : Ending) (w' : World) : Prop := ∃ v fp, e = .returned (.tuple #[.agg #[v], .string whole, .bool ok]) ∧ fp.Nodup ∧ layHeldC.own w' w.heap.size fp [v] xs ∧ Below w.heap.size w w'
set_option maxRecDepth 100000 in
set_option maxHeartbeats 12800000 in
theorem lawAddPartF (v : Value) (xs : List HeldD) (fr : Int) (txt : ByteArray) (now : Int) (hR : RoomHeldS xs) (ys : List HeldD) (whole : ByteArray) (ok : Bool) (hy : ys.length + partsN ys ≤ 10000000) (hI : txt.size ≤ 1048576 → FitsHeldS xs → ∀ (v : Value) (X : World), layHeldS.rd X [v] xs → Calls Try.prog 12 #[.agg #[v], .int .i64 fr, .string txt, .int .i64 now] X (AddMade X ys whole ok)) (hS : txt.size ≤ 1048576 → FitsHeldS xs → ∀ (v : Value) (X : World), layHeldS.rd X [v] xs → Calls Try.prog 11 #[.agg #[v], .int .i64 fr, .string txt, .int .i64 now] X (AddMade X ys whole ok))
    (w : World) (hr : layHeldS.rd w [v] xs) :
    Calls Try.prog 4 #[.agg #[v], .int .i64 fr, .string txt, .int .i64 now] w fun e w' => e = .returned (.bool true) ∧ Below w.heap.size w w' := by
  obtain ⟨a, p, rfl⟩ := rows_form hr
  have HA := Lib.hid hr
  have HI0 := Lib.hid hI
  have HS0 := Lib.hid hS
  have M := Lib.hid hR
  have A0 := Lib.hid (VarA.new w LShT #[.slice a xs.length p])
  have B0 := Lib.hid ((Below.refl w.heap.size w).alloc (Nat.le_refl _) (.cells #[.slice a xs.length p] LShT))
  have hw0 : w.heap.size < (w.alloc (.cells #[.slice a xs.length p] LShT)).heap.size := by simp
  clear hI hS hr hR
  go_enter Try.func4, Try.ntmps4
  go_upto_region 1 with fail
  generalize w.alloc (.cells #[.slice a xs.length p] LShT) = Y0 at *
  have hbb : (ok != ok) = false := by cases ok <;> rfl
  have htt : (whole.toList == whole.toList) = true := beq_self_eq_true _
  by_cases hs1 : txt.size ≤ 1048576
  rotate_left
  · have hs1' : (1048576 : Int) < (txt.size : Int) := by omega
    go_wp2_with fail
    go_ret
    exact ⟨rfl, B0.out⟩
  have hs1' : ¬ ((1048576 : Int) < (txt.size : Int)) := by omega
  have c0 : Y0.cell? ⟨w.heap.size, 0, none⟩ = some (.slice a xs.length p) := A0.out.cell 0
  have KZ := Lib.hid (szShelf_any _ xs 1048576 (by omega) (by omega) M.out Y0 (layHeldS.below HA.out B0.out))
  go_wp2_with fail
  refine (KZ.out).mono ?_
  rintro e Y1 ⟨⟨z, rfl, hz⟩, hb⟩
  have zY1 : Y0.heap.size ≤ Y1.heap.size := hb.size
  replace A0 := Lib.hid (A0.out.next hb)
  replace B0 := Lib.hid (B0.out.trans (hb.mono B0.out.size))
  clear hb KZ c0
  rcases hz with rfl | ⟨hz0, hz1, hfit⟩
  · go_wp2_with fail
    go_ret
    exact ⟨rfl, B0.out⟩
  have hz2 : ¬ (z < 0) := by omega
  have HI := Lib.hid (HI0.out hs1 hfit)
  have HS := Lib.hid (HS0.out hs1 hfit)
  have TT : Hid (∀ X, Below w.heap.size w X → Calls Try.prog 8 #[.agg #[.slice a xs.length p]] X (ShelfMade X xs)) := Lib.hid (fun X hX => toShelf_any _ xs hfit X (layHeldS.below HA.out hX))
  have hxs : xs.length + partsN xs ≤ 10000000 := by have := hfit.2.2; omega
  have HX := Lib.hid hxs
  have HYS := Lib.hid hy
  clear hfit hz0 hz1 HI0 HS0 hxs hy
  have c0 : Y1.cell? ⟨w.heap.size, 0, none⟩ = some (.slice a xs.length p) := A0.out.cell 0
  go_wp2_with fail
  refine (TT.out Y1 B0.out).mono ?_
  rintro e Y2 ⟨v5, f5, rfl, hd, o1, hb⟩
  obtain ⟨ta, tk, rfl⟩ := rows_form (layHeldS.read o1)
  have zY2 : Y1.heap.size ≤ Y2.heap.size := hb.size
  replace A0 := Lib.hid (A0.out.next hb)
  replace B0 := Lib.hid (B0.out.trans (hb.mono B0.out.size))
  have K := Lib.hid (HS.out _ Y2 (layHeldS.read o1))
  clear hb hd o1 f5 c0
  go_wp2_with fail
  refine (K.out).mono ?_
  rintro e Y3 ⟨v5, f5, rfl, hd, o1, hb⟩
  obtain ⟨ua, uk, rfl⟩ := rows_form (e := HeldT) (A := layHeld) (layHeldC.read o1)
  have zY3 : Y2.heap.size ≤ Y3.heap.size := hb.size
  replace A0 := Lib.hid (A0.out.next hb)
  replace B0 := Lib.hid (B0.out.trans (hb.mono B0.out.size))
  clear K
  have hal : Below Y3.heap.size Y3 (Y3.alloc (.cells #[.slice ua ys.length uk] ShelfT)) := (Below.refl _ _).alloc (Nat.le_refl _) _
  have hszY4 : (Y3.alloc (.cells #[.slice ua ys.length uk] ShelfT)).heap.size = Y3.heap.size + 1 := by simp
  replace A0 := Lib.hid (A0.out.next hal)
  replace B0 := Lib.hid (B0.out.trans (hal.mono B0.out.size))
  have U := Lib.hid (SHO.newC (v := .slice ua ys.length uk) hd o1)
  clear hb hal hd o1 f5
  go_upto_region 8 with fail
  generalize Y3.alloc (.cells #[.slice ua ys.length uk] ShelfT) = Y4 at *
  have c0 : Y4.cell? ⟨w.heap.size, 0, none⟩ = some (.slice a xs.length p) := A0.out.cell 0
  go_wp2_with fail
  refine (TT.out Y4 B0.out).mono ?_
  rintro e Y5 ⟨v5, f5, rfl, hd, o1, hb⟩
  obtain ⟨xa, xk, rfl⟩ := rows_form (layHeldS.read o1)
  have zY5 : Y4.heap.size ≤ Y5.heap.size := hb.size
  replace A0 := Lib.hid (A0.out.next hb)
  replace B0 := Lib.hid (B0.out.trans (hb.mono B0.out.size))
  replace U := Lib.hid (U.out.next hb)
  have hal : Below Y5.heap.size Y5 (Y5.alloc (.cells #[.slice xa xs.length xk] ShelfT)) := (Below.refl _ _).alloc (Nat.le_refl _) _
  have hszY6 : (Y5.alloc (.cells #[.slice xa xs.length xk] ShelfT)).heap.size = Y5.heap.size + 1 := by simp
  replace A0 := Lib.hid (A0.out.next hal)
  replace B0 := Lib.hid (B0.out.trans (hal.mono B0.out.size))
  replace U := Lib.hid (U.out.next hal)
  have VV := Lib.hid (SHO.new (v := .slice xa xs.length xk) hd o1)
  clear hb hal hd o1 f5 c0
  go_upto_region 9 with fail
  generalize Y5.alloc (.cells #[.slice xa xs.length xk] ShelfT) = Y6 at *
  have c0 : Y6.cell? ⟨Y5.heap.size, 0, none⟩ = some (.slice xa xs.length xk) := VV.out.var.cell 0
  have K := Lib.hid (HI.out _ Y6 VV.out.rd)
  go_wp2_with fail
  refine (K.out).mono ?_
  rintro e Y7 ⟨v5, f5, rfl, hd, o1, hb⟩
  obtain ⟨ga, gk, rfl⟩ := rows_form (e := HeldT) (A := layHeld) (layHeldC.read o1)
  have zY7 : Y6.heap.size ≤ Y7.heap.size := hb.size
  replace A0 := Lib.hid (A0.out.next hb)
  replace B0 := Lib.hid (B0.out.trans (hb.mono B0.out.size))
  replace U := Lib.hid (U.out.next hb)
  replace VV := Lib.hid (VV.out.next hb)
  clear K
  have hal : Below Y7.heap.size Y7 (Y7.alloc (.cells #[.slice ga ys.length gk] ShelfT)) := (Below.refl _ _).alloc (Nat.le_refl _) _
  have hszY8 : (Y7.alloc (.cells #[.slice ga ys.length gk] ShelfT)).heap.size = Y7.heap.size + 1 := by simp
  replace A0 := Lib.hid (A0.out.next hal)
  replace B0 := Lib.hid (B0.out.trans (hal.mono B0.out.size))
  replace U := Lib.hid (U.out.next hal)
  replace VV := Lib.hid (VV.out.next hal)
  have GG := Lib.hid (SHO.newC (v := .slice ga ys.length gk) hd o1)
  clear hb hal hd o1 f5 c0
  go_upto_region 10 with fail
  generalize Y7.alloc (.cells #[.slice ga ys.length gk] ShelfT) = Y8 at *
  have c0 : Y8.cell? ⟨Y7.heap.size, 0, none⟩ = some (.slice ga ys.length gk) := GG.out.var.cell 0
  have d0 : Y8.cell? ⟨Y3.heap.size, 0, none⟩ = some (.slice ua ys.length uk) := U.out.var.cell 0
  have K := Lib.hid (eqShelf_same _ _ ys (by have := HYS.out; omega) (parts_few HYS.out) Y8 GG.out.rd U.out.rd)
  go_wp2_with fail
  refine (K.out).mono ?_
  rintro e Y9 ⟨rfl, hb⟩
  have zY9 : Y8.heap.size ≤ Y9.heap.size := hb.size
  replace A0 := Lib.hid (A0.out.next hb)
  replace B0 := Lib.hid (B0.out.trans (hb.mono B0.out.size))
  replace U := Lib.hid (U.out.next hb)
  replace VV := Lib.hid (VV.out.next hb)
  replace GG := Lib.hid (GG.out.next hb)
  clear hb K c0 d0
  have qv : ∀ X Y, (Hid (VarA w.heap.size LShT #[.slice a xs.length p] X ∧ SHO Y4.heap.size Y5.heap.size Y5.heap.size (.slice xa xs.length xk) xs X ∧ SHO Y2.heap.size Y3.heap.size Y3.heap.size (.slice ua ys.length uk) ys X ∧ SHO Y6.heap.size Y7.heap.size Y7.heap.size (.slice ga ys.length gk) ys X ∧ Below w.heap.size w X)) → Below X.heap.size X Y → (Hid (VarA w.heap.size LShT #[.slice a xs.length p] Y ∧ SHO Y4.heap.size Y5.heap.size Y5.heap.size (.slice xa xs.length xk) xs Y ∧ SHO Y2.heap.size Y3.heap.size Y3.heap.size (.slice ua ys.length uk) ys Y ∧ SHO Y6.heap.size Y7.heap.size Y7.heap.size (.slice ga ys.length gk) ys Y ∧ Below w.heap.size w Y)) := fun X Y h hb => Lib.hid ⟨h.out.1.next hb, h.out.2.1.next hb, h.out.2.2.1.next hb, h.out.2.2.2.1.next hb, h.out.2.2.2.2.trans (hb.mono h.out.2.2.2.2.size)⟩
  have hdr : Below Y9.heap.size Y9 Y9.drew := (Below.refl _ _).drew
  have E0 : Hid (VarA w.heap.size LShT #[.slice a xs.length p] Y9.drew ∧ SHO Y4.heap.size Y5.heap.size Y5.heap.size (.slice xa xs.length xk) xs Y9.drew ∧ SHO Y2.heap.size Y3.heap.size Y3.heap.size (.slice ua ys.length uk) ys Y9.drew ∧ SHO Y6.heap.size Y7.heap.size Y7.heap.size (.slice ga ys.length gk) ys Y9.drew ∧ Below w.heap.size w Y9.drew) := qv _ _ (Lib.hid ⟨A0.out, VV.out, U.out, GG.out, B0.out⟩) hdr
  have zdr : Y9.heap.size ≤ Y9.drew.heap.size := hdr.size
  go_wp2_with fail
  clear hdr A0 VV U GG B0
  refine wp_region_held_drew (S := fun X => Hid (VarA w.heap.size LShT #[.slice a xs.length p] X ∧ SHO Y4.heap.size Y5.heap.size Y5.heap.size (.slice xa xs.length xk) xs X ∧ SHO Y2.heap.size Y3.heap.size Y3.heap.size (.slice ua ys.length uk) ys X ∧ SHO Y6.heap.size Y7.heap.size Y7.heap.size (.slice ga ys.length gk) ys X ∧ Below w.heap.size w X)) (by kernel_rfl) E0 (fun hHeld => ?_)
  clear E0
  generalize Y9.drew = X0 at *
  refine wpAnyH_take (i := 0) (v := ?_) rfl (by kernel_rfl) (by kernel_rfl) (by kernel_rfl) (fun _ _ _ h => h) (Or.inl ⟨by kernel_rfl, ?_⟩) hHeld ?_
  rotate_left
  · intro X hX
    have yy0 : X.cell? ⟨Y5.heap.size, 0, none⟩ = some (.slice xa xs.length xk) := hX.out.2.1.var.cell 0
    first | (go_simp; done) | (go_simp; with_reducible rfl)
  try simp only [Act.put, List.getElem_toArray, List.getElem_cons_zero, List.setIfInBounds_toArray, List.set_cons_zero, List.set_cons_succ]
  refine wpAnyH_take (i := 1) (v := ?_) rfl (by kernel_rfl) (by kernel_rfl) (by kernel_rfl) (fun _ _ _ h => h) (Or.inl ⟨by kernel_rfl, ?_⟩) hHeld ?_
  rotate_left
  · intro X hX
    have yy0 : X.cell? ⟨w.heap.size, 0, none⟩ = some (.slice a xs.length p) := hX.out.1.cell 0
    first | (go_simp; done) | (go_simp; with_reducible rfl)
  try simp only [Act.put, List.getElem_toArray, List.getElem_cons_succ, List.getElem_cons_zero, List.setIfInBounds_toArray, List.set_cons_zero, List.set_cons_succ]
  refine wpAnyH_ready (rs := [2]) (by kernel_rfl) (by simp) ?_
  refine AllReadyH.cons rfl (fun K hK => ?_) AllReadyH.nil
  go_simp
  go_wp2_with (go_at_call 8; refine (TT.out X0 hHeld.out.2.2.2.2).mono ?_; rintro e X1 ⟨v5, f5, rfl, hd, o1, hb⟩; obtain ⟨ta, tk, rfl⟩ := rows_form (layHeldS.read o1); have hS := qv _ _ hHeld hb; have zz := hb.size; have R1 := Lib.hid (layHeldS.read o1); clear hb o1 hd f5)
  refine hK.out _ _ hS (fun hHeld => ?_)
  clear hK K hS
  have zX1 : X0.heap.size ≤ X1.heap.size := zz
  clear zz
  try simp only [Act.put, List.getElem_toArray, List.getElem_cons_succ, List.getElem_cons_zero, List.setIfInBounds_toArray, List.set_cons_zero, List.set_cons_succ]
  refine wpAnyH_ready (rs := [3]) (by kernel_rfl) (by simp) ?_
  refine AllReadyH.cons rfl (fun K hK => ?_) AllReadyH.nil
  have KE := Lib.hid (eqShelf_same _ _ xs (by have := HX.out; omega) (parts_few HX.out) X1 hHeld.out.2.1.rd R1.out)
  go_simp
  go_wp2_with (go_at_call 10; refine (KE.out).mono ?_; rintro e X2 ⟨rfl, hb⟩; have hS := qv _ _ hHeld hb; have zz := hb.size; clear hb)
  refine hK.out _ _ hS (fun hHeld => ?_)
  clear hK K hS KE R1
  have zX2 : X1.heap.size ≤ X2.heap.size := zz
  clear zz
  try simp only [Act.put, List.getElem_toArray, List.getElem_cons_succ, List.getElem_cons_zero, List.setIfInBounds_toArray, List.set_cons_zero, List.set_cons_succ]
  refine wpAnyH_take (i := 4) (v := ?_) rfl (by kernel_rfl) (by kernel_rfl) (by kernel_rfl) (fun _ _ _ h => h) (Or.inl ⟨by kernel_rfl, ?_⟩) hHeld ?_
  rotate_left
  · intro X hX
    first | (go_simp; done) | (go_simp; with_reducible rfl)
  try simp only [Act.put, List.getElem_toArray, List.getElem_cons_succ, List.getElem_cons_zero, List.setIfInBounds_toArray, List.set_cons_zero, List.set_cons_succ]
  refine wpAnyH_done (by kernel_rfl) ?_ _
  have A0 := Lib.hid hHeld.out.1
  have VV := Lib.hid hHeld.out.2.1
  have U := Lib.hid hHeld.out.2.2.1
  have GG := Lib.hid hHeld.out.2.2.2.1
  have B0 := Lib.hid hHeld.out.2.2.2.2
  clear hHeld qv
  obtain ⟨mx, HMK⟩ : ∃ mx : Int, Hid (mx = (layHeldS.mark 1 xs).2) := ⟨_, Lib.hid rfl⟩
  have hk1 : ¬ (mx < 0) := by have h8 := HMK.out; have h9 := markHds_num xs 1; omega
  have c0 : X2.cell? ⟨Y5.heap.size, 0, none⟩ = some (.slice xa xs.length xk) := VV.out.var.cell 0
  have K := Lib.hid (VV.out.mark HX.out)
  rw [← HMK.out] at K
  go_wp2_with fail
  refine (K.out).mono ?_
  rintro e Y10 ⟨rfl, hm, hc⟩
  have zY10 : X2.heap.size ≤ Y10.heap.size := hc.size
  replace U := Lib.hid (U.out.away hc (by omega) (by omega))
  replace GG := Lib.hid (GG.out.away hc (by omega) (by omega))
  replace A0 := Lib.hid (hc.var A0.out (by omega))
  replace B0 := Lib.hid (hc.below B0.out (by omega))
  clear VV
  clear hm hc K c0
  have c0 : Y10.cell? ⟨Y7.heap.size, 0, none⟩ = some (.slice ga ys.length gk) := GG.out.var.cell 0
  have d0 : Y10.cell? ⟨Y3.heap.size, 0, none⟩ = some (.slice ua ys.length uk) := U.out.var.cell 0
  have K := Lib.hid (eqShelf_same _ _ ys (by have := HYS.out; omega) (parts_few HYS.out) Y10 GG.out.rd U.out.rd)
  go_wp2_with fail
  refine (K.out).mono ?_
  rintro e Y11 ⟨rfl, hb⟩
  have zY11 : Y10.heap.size ≤ Y11.heap.size := hb.size
  replace A0 := Lib.hid (A0.out.next hb)
  replace B0 := Lib.hid (B0.out.trans (hb.mono B0.out.size))
  replace U := Lib.hid (U.out.next hb)
  replace GG := Lib.hid (GG.out.next hb)
  clear hb K c0 d0
  clear HMK
  obtain ⟨mg, HMK⟩ : ∃ mg : Int, Hid (mg = (layHeldS.mark 1 ys).2) := ⟨_, Lib.hid rfl⟩
  have hk2 : ¬ (mg < 0) := by have h8 := HMK.out; have h9 := markHds_num ys 1; omega
  have c0 : Y11.cell? ⟨Y7.heap.size, 0, none⟩ = some (.slice ga ys.length gk) := GG.out.var.cell 0
  have K := Lib.hid (GG.out.mark HYS.out)
  rw [← HMK.out] at K
  go_wp2_with fail
  refine (K.out).mono ?_
  rintro e Y12 ⟨rfl, hm, hc⟩
  have zY12 : Y11.heap.size ≤ Y12.heap.size := hc.size
  replace U := Lib.hid (U.out.away hc (by omega) (by omega))
  replace A0 := Lib.hid (hc.var A0.out (by omega))
  replace B0 := Lib.hid (hc.below B0.out (by omega))
  replace GG := Lib.hid hm
  clear hm hc K c0
  have c0 : Y12.cell? ⟨Y7.heap.size, 0, none⟩ = some (.slice ga ys.length gk) := GG.out.var.cell 0
  have K := Lib.hid (GG.out.held HYS.out)
  rw [← HMK.out] at K
  go_wp2_with fail
  refine (K.out).mono ?_
  rintro e Y13 ⟨rfl, hb⟩
  have zY13 : Y12.heap.size ≤ Y13.heap.size := hb.size
  replace A0 := Lib.hid (A0.out.next hb)
  replace B0 := Lib.hid (B0.out.trans (hb.mono B0.out.size))
  replace U := Lib.hid (U.out.next hb)
  replace GG := Lib.hid (GG.out.next hb)
  clear hb K c0
  have c0 : Y13.cell? ⟨w.heap.size, 0, none⟩ = some (.slice a xs.length p) := A0.out.cell 0
  go_wp2_with fail
  refine (TT.out Y13 B0.out).mono ?_
  rintro e Y14 ⟨v5, f5, rfl, hd, o1, hb⟩
  obtain ⟨ta, tk, rfl⟩ := rows_form (layHeldS.read o1)
  have zY14 : Y13.heap.size ≤ Y14.heap.size := hb.size
  replace A0 := Lib.hid (A0.out.next hb)
  replace B0 := Lib.hid (B0.out.trans (hb.mono B0.out.size))
  replace U := Lib.hid (U.out.next hb)
  replace GG := Lib.hid (GG.out.next hb)
  have K := Lib.hid (HI.out _ Y14 (layHeldS.read o1))
  clear hb hd o1 f5 c0
  go_wp2_with fail
  refine (K.out).mono ?_
  rintro e Y15 ⟨v5, f5, rfl, hd, o1, hb⟩
  obtain ⟨ha, hk, rfl⟩ := rows_form (e := HeldT) (A := layHeld) (layHeldC.read o1)
  have zY15 : Y14.heap.size ≤ Y15.heap.size := hb.size
  replace A0 := Lib.hid (A0.out.next hb)
  replace B0 := Lib.hid (B0.out.trans (hb.mono B0.out.size))
  replace U := Lib.hid (U.out.next hb)
  replace GG := Lib.hid (GG.out.next hb)
  clear K
  have hal : Below Y15.heap.size Y15 (Y15.alloc (.cells #[.slice ha ys.length hk] ShelfT)) := (Below.refl _ _).alloc (Nat.le_refl _) _
  replace A0 := Lib.hid (A0.out.next hal)
  replace B0 := Lib.hid (B0.out.trans (hal.mono B0.out.size))
  replace U := Lib.hid (U.out.next hal)
  replace GG := Lib.hid (GG.out.next hal)
  have HH := Lib.hid (SHO.newC (v := .slice ha ys.length hk) hd o1)
  clear hb hal hd o1 f5
  go_upto_region 27 with fail
  generalize Y15.alloc (.cells #[.slice ha ys.length hk] ShelfT) = Y16 at *
  have c0 : Y16.cell? ⟨Y15.heap.size, 0, none⟩ = some (.slice ha ys.length hk) := HH.out.var.cell 0
  have d0 : Y16.cell? ⟨Y3.heap.size, 0, none⟩ = some (.slice ua ys.length uk) := U.out.var.cell 0
  have K := Lib.hid (eqShelf_same _ _ ys (by have := HYS.out; omega) (parts_few HYS.out) Y16 HH.out.rd U.out.rd)
  go_wp2_with fail
  refine (K.out).mono ?_
  rintro e Y17 ⟨rfl, hb⟩
  have zY17 : Y16.heap.size ≤ Y17.heap.size := hb.size
  replace A0 := Lib.hid (A0.out.next hb)
  replace B0 := Lib.hid (B0.out.trans (hb.mono B0.out.size))
  replace U := Lib.hid (U.out.next hb)
  replace GG := Lib.hid (GG.out.next hb)
  replace HH := Lib.hid (HH.out.next hb)
  clear hb K c0 d0
  have c0 : Y17.cell? ⟨Y7.heap.size, 0, none⟩ = some (.slice ga ys.length gk) := GG.out.var.cell 0
  have K := Lib.hid (GG.out.held HYS.out)
  rw [← HMK.out] at K
  go_wp2_with fail
  refine (K.out).mono ?_
  rintro e Y18 ⟨rfl, hb⟩
  have zY18 : Y17.heap.size ≤ Y18.heap.size := hb.size
  replace A0 := Lib.hid (A0.out.next hb)
  replace B0 := Lib.hid (B0.out.trans (hb.mono B0.out.size))
  replace U := Lib.hid (U.out.next hb)
  replace GG := Lib.hid (GG.out.next hb)
  replace HH := Lib.hid (HH.out.next hb)
  clear hb K c0
  go_wp2_with fail
  go_ret
  exact ⟨rfl, B0.out⟩

end Go.Proofs.Ytfhlpgngeiploab
namespace Go.Proofs.Ytfhlpgngeiploab
open Go.RowKit

/-- The shelf, the result and the next shelf in their variables. -/
structure APS (w : World) (q : Nat) (v u : Value) (fp : List Nat) (ys : List HeldD) (X : World) : Prop where
  s : VarA w.heap.size ShelfT #[v] X
  r : VarA (w.heap.size + 1) ShelfT #[.slice none 0 0] X
  n : VarA q ShelfT #[u] X
  dup : fp.Nodup
  own : layHeldC.own X (w.heap.size + 2) fp [u] ys
  out : q ∉ fp
  low : w.heap.size + 2 ≤ q
  below : Below w.heap.size w X
theorem APS.next {w X Y : World} {q : Nat} {v u : Value} {fp : List Nat} {ys : List HeldD} (h : APS w q v u fp ys X) (hb : Below X.heap.size X Y) : APS w q v u fp ys Y := ⟨h.s.next hb, h.r.next hb, h.n.next hb, h.dup, layHeldC.next h.own hb, h.out, h.low, h.below.trans (hb.mono h.below.size)⟩
theorem APS.ends {w X : World} {q : Nat} {v u : Value} {fp : List Nat} {ys : List HeldD} (h : APS w q v u fp ys X) (whole : ByteArray) (ok : Bool) : AddMade w ys whole ok (.returned (.tuple #[.agg #[u], .string whole, .bool ok])) (X.setCell ⟨w.heap.size + 1, 0, none⟩ u) := by
  have ho1 : Only (w.heap.size + 1) X (X.setCell ⟨w.heap.size + 1, 0, none⟩ u) := Only.setCell 0 _
  exact ⟨u, fp, rfl, h.dup, layHeldC.lower (layHeldC.keep h.own (fun a ha => ho1.block a (layHeldC.blocks h.own a ha).2 (by have := (layHeldC.blocks h.own a ha).1; omega))) (by omega), h.below.trans (ho1.below (by omega) h.below.size)⟩

end Go.Proofs.Ytfhlpgngeiploab
