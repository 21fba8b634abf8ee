/-
  The program's key, isOfKey, nextNum, seal, takerOf and take.
-/
import Derived.Test.YtoaifgblbfdncaaGreatDoorJ24
import Derived.Test.YtoaifgblbfdncaaGreatDoorJ11
import Derived.Test.YtoaifgblbfdncaaGreatDoorJ23
import Derived.Test.YtoaifgblbfdncaaGreatDoorJ33
import Derived.Test.YtoaifgblbfdncaaGreatDoorJ34
namespace Go.Proofs.YtoaifgblbfdncaaGreatDoor
open Go.RowKit

abbrev SealT : TypeId := 66
theorem dvar_ne {X : World} {b c : Nat} {T U : TypeId} {xs ys : Array Value} (h : VarA b T xs X) (k : VarA c U ys X) (hT : T ≠ U) : b ≠ c := by
  rintro rfl
  have e := h.row.symm.trans k.row
  simp only [Option.some.injEq, Obj.cells.injEq] at e
  exact hT e.2.1
set_option maxRecDepth 100000 in
set_option maxHeartbeats 800000 in
theorem key_any (G o : Nat) (x0 z : Int) (h0 : 0 ≤ x0) (hz : x0 % 8 = z) (w : World) (c0 : w.cell? ⟨G, o, none⟩ = some (.int .i64 x0)) :
    Calls Tryz.prog 65 #[.pointer (some ⟨G, o, none⟩)] w fun e w' => e = .returned (.int .i64 z) ∧ w' = w := by
  have hm : Int.tmod x0 8 = z := by rw [Int.tmod_eq_emod_of_nonneg h0]; exact hz
  clear hz h0
  go_enter Tryz.func65, Tryz.ntmps65
  go_wp2_with fail
  go_ret
  exact ⟨rfl, rfl⟩
set_option maxRecDepth 100000 in
set_option maxHeartbeats 800000 in
theorem nextNum_any (G : Nat) (x3 n : Int) (cs : Array Value) (hn : IntKind.i64.wrap (x3 + 1) = n) (w : World) (hv : VarA G SlotsT cs w) (hz : 3 < cs.size) (c3 : w.cell? ⟨G, 3, none⟩ = some (.int .i64 x3)) :
    Calls Tryz.prog 63 #[.pointer (some ⟨G, 0, none⟩)] w fun e w' => e = .returned (.int .i64 n) ∧ w' = w.setCell ⟨G, 3, none⟩ (.int .i64 n) := by
  have g3 := hv.free 3
  have j3 : (w.setCell ⟨G, 3, none⟩ (.int .i64 n)).cell? ⟨G, 3, none⟩ = some (.int .i64 n) := by
    have h := (hv.set 3 (.int .i64 n)).cell 3
    rw [h, Array.getElem?_setIfInBounds_self_of_lt hz]
  clear hv
  go_enter Tryz.func63, Tryz.ntmps63
  go_upto_region 2 with fail
  generalize hX : w.setCell ⟨G, 3, none⟩ (.int .i64 n) = X at *
  go_wp2_with fail
  go_ret
  exact ⟨rfl, hX.symm⟩
set_option maxRecDepth 100000 in
set_option maxHeartbeats 3200000 in
theorem seal_any (G H : Nat) (x0 x3 : Int) (x1 : ByteArray) (o2 o4 o5 o6 o7 o8 o9 o10 o11 : Value) (fr dst : Int) (body lt : ByteArray) (n : Nat) (m : Int) (hx0 : 0 ≤ x0) (hm : x0 % 8 = m) (hn : x3 + 1 = n) (hn9 : n ≤ 1000) (h1 : x1.size ≤ 1048576) (hb : body.size ≤ 104) (hlt : lockP x1 n body = lt) (w : World) (hL : ∀ X, Only G w X → LaidK X)
    (hG : VarA G SlotsT #[.int .i64 x0, .string x1, o2, .int .i64 x3, o4, o5, o6, o7, o8, o9, o10, o11] w) (hH : VarA H SealT #[.pointer (some ⟨G, 0, none⟩), .int .i64 fr, .int .i64 dst] w) :
    Calls Tryz.prog 32 #[.pointer (some ⟨H, 0, none⟩), .string body] w fun e X => e = .returned (.agg #[.int .i64 3, .int .i64 m, .int .i64 fr, .int .i64 dst, .int .i64 (n : Nat), .slice none 0 0, .string lt]) ∧ Only G w X ∧ VarA G SlotsT #[.int .i64 x0, .string x1, o2, .int .i64 (n : Nat), o4, o5, o6, o7, o8, o9, o10, o11] X := by
  have hne : H ≠ G := dvar_ne hH hG (by decide)
  have hGl := hG.lt
  have hHl := hH.lt
  have OW : Hid (Only G w (w.alloc (.cells #[.int .i64 0, .int .i64 0, .int .i64 0, .int .i64 0, .int .i64 0, .slice none 0 0, .string ⟨#[]⟩] SPkT))) := Lib.hid (Only.of_below ((Below.refl _ _).alloc (Nat.le_refl _) _))
  have rr := Lib.hid (VarA.new w SPkT #[.int .i64 0, .int .i64 0, .int .i64 0, .int .i64 0, .int .i64 0, .slice none 0 0, .string ⟨#[]⟩])
  have HS := Lib.hid (hH.alloc (.cells #[.int .i64 0, .int .i64 0, .int .i64 0, .int .i64 0, .int .i64 0, .slice none 0 0, .string ⟨#[]⟩] SPkT))
  have HG := Lib.hid (hG.alloc (.cells #[.int .i64 0, .int .i64 0, .int .i64 0, .int .i64 0, .int .i64 0, .slice none 0 0, .string ⟨#[]⟩] SPkT))
  have hw9 : IntKind.i64.wrap (x3 + 1) = (n : Int) := by rw [IntKind.wrap_i64]; omega
  have PL : Hid (w.heap.size ≤ (w.alloc (.cells #[.int .i64 0, .int .i64 0, .int .i64 0, .int .i64 0, .int .i64 0, .slice none 0 0, .string ⟨#[]⟩] SPkT)).heap.size) := Lib.hid (by simp)
  have HL := Lib.hid hL
  have KY := Lib.hid (fun X (h : Hid (VarA H SealT #[.pointer (some ⟨G, 0, none⟩), .int .i64 fr, .int .i64 dst] X ∧ VarA G SlotsT #[.int .i64 x0, .string x1, o2, .int .i64 (n : Nat), o4, o5, o6, o7, o8, o9, o10, o11] X)) => key_any G 0 x0 m hx0 hm X (h.out.2.cell 0))
  clear hG hH hn hx0 hm hL
  go_enter Tryz.func32, Tryz.ntmps32
  go_upto_region 1 with fail
  generalize w.alloc (.cells #[.int .i64 0, .int .i64 0, .int .i64 0, .int .i64 0, .int .i64 0, .slice none 0 0, .string ⟨#[]⟩] SPkT) = Y at *
  have s0 : Y.cell? ⟨H, 0, none⟩ = some (.pointer (some ⟨G, 0, none⟩)) := HS.out.cell 0
  have K := Lib.hid (nextNum_any G x3 n _ hw9 Y HG.out (by simp) (HG.out.cell 3))
  go_wp2_with fail
  refine K.out.mono ?_
  rintro e Y1 ⟨rfl, hw⟩
  have HG1 : Hid (VarA G SlotsT #[.int .i64 x0, .string x1, o2, .int .i64 (n : Nat), o4, o5, o6, o7, o8, o9, o10, o11] Y1) := Lib.hid (by rw [hw]; exact HG.out.set 3 _)
  have ho : Only G Y Y1 := by rw [hw]; exact Only.setCell 3 _
  replace HS := Lib.hid (HS.out.only ho hne)
  replace rr := Lib.hid (rr.out.only ho (by omega))
  replace OW := Lib.hid (OW.out.trans ho)
  replace PL : Hid (w.heap.size ≤ Y1.heap.size) := Lib.hid (Nat.le_trans PL.out ho.size)
  clear ho hw K s0 HG hw9
  have s0 : Y1.cell? ⟨H, 0, none⟩ = some (.pointer (some ⟨G, 0, none⟩)) := HS.out.cell 0
  have q1 : Y1.cell? ⟨G, 1, none⟩ = some (.string x1) := HG1.out.cell 1
  have K := Lib.hid (implLock_yes x1 n body (by omega) (by omega) (by omega) Y1 (HL.out _ OW.out))
  rw [hlt] at K
  go_wp2_with fail
  refine K.out.mono ?_
  rintro e Y2 ⟨rfl, hb2⟩
  replace HS := Lib.hid (HS.out.next hb2)
  replace HG1 := Lib.hid (HG1.out.next hb2)
  replace rr := Lib.hid (rr.out.next hb2)
  replace OW := Lib.hid (OW.out.trans (Only.of_below hb2))
  replace PL : Hid (w.heap.size ≤ Y2.heap.size) := Lib.hid (Nat.le_trans PL.out hb2.size)
  clear hb2 K s0 q1
  have E0 : Hid (VarA H SealT #[.pointer (some ⟨G, 0, none⟩), .int .i64 fr, .int .i64 dst] Y2.drew ∧ VarA G SlotsT #[.int .i64 x0, .string x1, o2, .int .i64 (n : Nat), o4, o5, o6, o7, o8, o9, o10, o11] Y2.drew) := Lib.hid ⟨HS.out.drew, HG1.out.drew⟩
  replace rr := Lib.hid rr.out.drew
  replace OW : Hid (Only G w Y2.drew) := Lib.hid (OW.out.trans (Only.of_below (Below.refl _ _).drew))
  replace PL : Hid (w.heap.size ≤ Y2.drew.heap.size) := PL
  go_wp2_with fail
  refine wp_region_held_drew (S := fun X => Hid (VarA H SealT #[.pointer (some ⟨G, 0, none⟩), .int .i64 fr, .int .i64 dst] X ∧ VarA G SlotsT #[.int .i64 x0, .string x1, o2, .int .i64 (n : Nat), o4, o5, o6, o7, o8, o9, o10, o11] X)) (by kernel_rfl) E0 (fun hHeld => ?_)
  clear E0 HS HG1
  generalize Y2.drew = X0 at *
  refine wpAnyH_take (i := 0) (v := ?_) rfl (by kernel_rfl) (by kernel_rfl) (by kernel_rfl) (fun _ _ _ h => h) (Or.inl ⟨by kernel_rfl, ?_⟩) hHeld ?_
  rotate_left
  · intro X hX
    first | (go_simp; done) | (go_simp; with_reducible rfl)
  try simp only [Act.put, List.getElem_toArray, List.getElem_cons_zero, List.setIfInBounds_toArray, List.set_cons_zero, List.set_cons_succ]
  refine wpAnyH_take (i := 1) (v := ?_) rfl (by kernel_rfl) (by kernel_rfl) (by kernel_rfl) (fun _ _ _ h => h) (Or.inl ⟨by kernel_rfl, ?_⟩) hHeld ?_
  rotate_left
  · intro X hX
    first | (go_simp; done) | (go_simp; with_reducible rfl)
  try simp only [Act.put, List.getElem_toArray, List.getElem_cons_succ, List.getElem_cons_zero, List.setIfInBounds_toArray, List.set_cons_zero, List.set_cons_succ]
  refine wpAnyH_take (i := 2) (v := ?_) rfl (by kernel_rfl) (by kernel_rfl) (by kernel_rfl) (fun _ _ _ h => h) (Or.inl ⟨by kernel_rfl, ?_⟩) hHeld ?_
  rotate_left
  · intro X hX
    first | (go_simp; done) | (go_simp; with_reducible rfl)
  try simp only [Act.put, List.getElem_toArray, List.getElem_cons_succ, List.getElem_cons_zero, List.setIfInBounds_toArray, List.set_cons_zero, List.set_cons_succ]
  refine wpAnyH_take (i := 3) (v := ?_) rfl (by kernel_rfl) (by kernel_rfl) (by kernel_rfl) (fun _ _ _ h => h) (Or.inl ⟨by kernel_rfl, ?_⟩) hHeld ?_
  rotate_left
  · intro X hX
    have y0 : X.cell? ⟨H, 0, none⟩ = some (.pointer (some ⟨G, 0, none⟩)) := hX.out.1.cell 0
    first | (go_simp; done) | (go_simp; with_reducible rfl)
  try simp only [Act.put, List.getElem_toArray, List.getElem_cons_succ, List.getElem_cons_zero, List.setIfInBounds_toArray, List.set_cons_zero, List.set_cons_succ]
  refine wpAnyH_take (i := 5) (v := ?_) rfl (by kernel_rfl) (by kernel_rfl) (by kernel_rfl) (fun _ _ _ h => h) (Or.inl ⟨by kernel_rfl, ?_⟩) hHeld ?_
  rotate_left
  · intro X hX
    first | (go_simp; done) | (go_simp; with_reducible rfl)
  try simp only [Act.put, List.getElem_toArray, List.getElem_cons_succ, List.getElem_cons_zero, List.setIfInBounds_toArray, List.set_cons_zero, List.set_cons_succ]
  refine wpAnyH_take (i := 6) (v := ?_) rfl (by kernel_rfl) (by kernel_rfl) (by kernel_rfl) (fun _ _ _ h => h) (Or.inl ⟨by kernel_rfl, ?_⟩) hHeld ?_
  rotate_left
  · intro X hX
    first | (go_simp; done) | (go_simp; with_reducible rfl)
  try simp only [Act.put, List.getElem_toArray, List.getElem_cons_succ, List.getElem_cons_zero, List.setIfInBounds_toArray, List.set_cons_zero, List.set_cons_succ]
  refine wpAnyH_take (i := 7) (v := ?_) rfl (by kernel_rfl) (by kernel_rfl) (by kernel_rfl) (fun _ _ _ h => h) (Or.inl ⟨by kernel_rfl, ?_⟩) hHeld ?_
  rotate_left
  · intro X hX
    first | (go_simp; done) | (go_simp; with_reducible rfl)
  try simp only [Act.put, List.getElem_toArray, List.getElem_cons_succ, List.getElem_cons_zero, List.setIfInBounds_toArray, List.set_cons_zero, List.set_cons_succ]
  refine wpAnyH_take (i := 8) (v := ?_) rfl (by kernel_rfl) (by kernel_rfl) (by kernel_rfl) (fun _ _ _ h => h) (Or.inl ⟨by kernel_rfl, ?_⟩) hHeld ?_
  rotate_left
  · intro X hX
    have y1 : X.cell? ⟨H, 1, none⟩ = some (.int .i64 fr) := hX.out.1.cell 1
    first | (go_simp; done) | (go_simp; with_reducible rfl)
  try simp only [Act.put, List.getElem_toArray, List.getElem_cons_succ, List.getElem_cons_zero, List.setIfInBounds_toArray, List.set_cons_zero, List.set_cons_succ]
  refine wpAnyH_take (i := 9) (v := ?_) rfl (by kernel_rfl) (by kernel_rfl) (by kernel_rfl) (fun _ _ _ h => h) (Or.inl ⟨by kernel_rfl, ?_⟩) hHeld ?_
  rotate_left
  · intro X hX
    first | (go_simp; done) | (go_simp; with_reducible rfl)
  try simp only [Act.put, List.getElem_toArray, List.getElem_cons_succ, List.getElem_cons_zero, List.setIfInBounds_toArray, List.set_cons_zero, List.set_cons_succ]
  refine wpAnyH_take (i := 10) (v := ?_) rfl (by kernel_rfl) (by kernel_rfl) (by kernel_rfl) (fun _ _ _ h => h) (Or.inl ⟨by kernel_rfl, ?_⟩) hHeld ?_
  rotate_left
  · intro X hX
    first | (go_simp; done) | (go_simp; with_reducible rfl)
  try simp only [Act.put, List.getElem_toArray, List.getElem_cons_succ, List.getElem_cons_zero, List.setIfInBounds_toArray, List.set_cons_zero, List.set_cons_succ]
  refine wpAnyH_take (i := 11) (v := ?_) rfl (by kernel_rfl) (by kernel_rfl) (by kernel_rfl) (fun _ _ _ h => h) (Or.inl ⟨by kernel_rfl, ?_⟩) hHeld ?_
  rotate_left
  · intro X hX
    first | (go_simp; done) | (go_simp; with_reducible rfl)
  try simp only [Act.put, List.getElem_toArray, List.getElem_cons_succ, List.getElem_cons_zero, List.setIfInBounds_toArray, List.set_cons_zero, List.set_cons_succ]
  refine wpAnyH_take (i := 12) (v := ?_) rfl (by kernel_rfl) (by kernel_rfl) (by kernel_rfl) (fun _ _ _ h => h) (Or.inl ⟨by kernel_rfl, ?_⟩) hHeld ?_
  rotate_left
  · intro X hX
    have y2 : X.cell? ⟨H, 2, none⟩ = some (.int .i64 dst) := hX.out.1.cell 2
    first | (go_simp; done) | (go_simp; with_reducible rfl)
  try simp only [Act.put, List.getElem_toArray, List.getElem_cons_succ, List.getElem_cons_zero, List.setIfInBounds_toArray, List.set_cons_zero, List.set_cons_succ]
  refine wpAnyH_take (i := 13) (v := ?_) rfl (by kernel_rfl) (by kernel_rfl) (by kernel_rfl) (fun _ _ _ h => h) (Or.inl ⟨by kernel_rfl, ?_⟩) hHeld ?_
  rotate_left
  · intro X hX
    first | (go_simp; done) | (go_simp; with_reducible rfl)
  try simp only [Act.put, List.getElem_toArray, List.getElem_cons_succ, List.getElem_cons_zero, List.setIfInBounds_toArray, List.set_cons_zero, List.set_cons_succ]
  refine wpAnyH_take (i := 14) (v := ?_) rfl (by kernel_rfl) (by kernel_rfl) (by kernel_rfl) (fun _ _ _ h => h) (Or.inl ⟨by kernel_rfl, ?_⟩) hHeld ?_
  rotate_left
  · intro X hX
    first | (go_simp; done) | (go_simp; with_reducible rfl)
  try simp only [Act.put, List.getElem_toArray, List.getElem_cons_succ, List.getElem_cons_zero, List.setIfInBounds_toArray, List.set_cons_zero, List.set_cons_succ]
  refine wpAnyH_ready (rs := [4]) (by kernel_rfl) (by simp) ?_
  refine AllReadyH.cons rfl (fun K hK => ?_) AllReadyH.nil
  go_simp
  go_wp2_with (go_at_call 65; refine (KY.out X0 hHeld).mono ?_; rintro e X1 ⟨rfl, hw⟩; rw [hw]; clear hw X1)
  refine hK.out _ _ hHeld (fun hHeld => ?_)
  clear hK K
  try simp only [Act.put, List.getElem_toArray, List.getElem_cons_succ, List.getElem_cons_zero, List.setIfInBounds_toArray, List.set_cons_zero, List.set_cons_succ]
  refine wpAnyH_take (i := 15) (v := ?_) rfl (by kernel_rfl) (by kernel_rfl) (by kernel_rfl) (fun _ _ _ h => h) (Or.inl ⟨by kernel_rfl, ?_⟩) hHeld ?_
  rotate_left
  · intro X hX
    first | (go_simp; done) | (go_simp; with_reducible rfl)
  try simp only [Act.put, List.getElem_toArray, List.getElem_cons_succ, List.getElem_cons_zero, List.setIfInBounds_toArray, List.set_cons_zero, List.set_cons_succ]
  refine wpAnyH_ready (rs := [16]) (by kernel_rfl) (by simp) ?_
  refine AllReadyH.cons rfl (fun K hK => ?_) AllReadyH.nil
  have r0_ := rr.out.cell 0
  have r1_ := rr.out.cell 1
  have r2_ := rr.out.cell 2
  have r3_ := rr.out.cell 3
  have r4_ := rr.out.cell 4
  have r5_ := rr.out.cell 5
  have r6_ := rr.out.cell 6
  have g0_ := rr.out.free 0
  have g1_ := rr.out.free 1
  have g2_ := rr.out.free 2
  have g3_ := rr.out.free 3
  have g4_ := rr.out.free 4
  have g5_ := rr.out.free 5
  have g6_ := rr.out.free 6
  go_simp
  have ho : Only w.heap.size X0 (((((((X0.setCell ⟨w.heap.size, 0, none⟩ (.int .i64 3)).setCell ⟨w.heap.size, 1, none⟩ (.int .i64 m)).setCell ⟨w.heap.size, 2, none⟩ (.int .i64 fr)).setCell ⟨w.heap.size, 3, none⟩ (.int .i64 dst)).setCell ⟨w.heap.size, 4, none⟩ (.int .i64 (n : Nat))).setCell ⟨w.heap.size, 5, none⟩ (.slice none 0 0)).setCell ⟨w.heap.size, 6, none⟩ (.string lt)) := (((((((Only.setCell 0 (.int .i64 3) : Only w.heap.size X0 _).trans (Only.setCell 1 (.int .i64 m))).trans (Only.setCell 2 (.int .i64 fr))).trans (Only.setCell 3 (.int .i64 dst))).trans (Only.setCell 4 (.int .i64 (n : Nat)))).trans (Only.setCell 5 (.slice none 0 0))).trans (Only.setCell 6 (.string lt)))
  refine hK.out _ _ (Lib.hid ⟨hHeld.out.1.only ho (by omega), hHeld.out.2.only ho (by omega)⟩) (fun hHeld => ?_)
  clear hK K r0_ g0_ r1_ g1_ r2_ g2_ r3_ g3_ r4_ g4_ r5_ g5_ r6_ g6_
  replace rr := Lib.hid (putSeven rr.out (.int .i64 3) (.int .i64 m) (.int .i64 fr) (.int .i64 dst) (.int .i64 (n : Nat)) (.slice none 0 0) (.string lt))
  replace OW := Lib.hid (OW.out.behind (ho.below (Nat.le_refl _) PL.out))
  clear ho PL
  generalize (((((((X0.setCell ⟨w.heap.size, 0, none⟩ (.int .i64 3)).setCell ⟨w.heap.size, 1, none⟩ (.int .i64 m)).setCell ⟨w.heap.size, 2, none⟩ (.int .i64 fr)).setCell ⟨w.heap.size, 3, none⟩ (.int .i64 dst)).setCell ⟨w.heap.size, 4, none⟩ (.int .i64 (n : Nat))).setCell ⟨w.heap.size, 5, none⟩ (.slice none 0 0)).setCell ⟨w.heap.size, 6, none⟩ (.string lt)) = X2 at *
  try simp only [Act.put, List.getElem_toArray, List.getElem_cons_succ, List.getElem_cons_zero, List.setIfInBounds_toArray, List.set_cons_zero, List.set_cons_succ]
  refine wpAnyH_done (by kernel_rfl) ?_ _
  have HG2 := Lib.hid hHeld.out.2
  clear hHeld
  have l0_ := rr.out.cell 0
  have l1_ := rr.out.cell 1
  have l2_ := rr.out.cell 2
  have l3_ := rr.out.cell 3
  have l4_ := rr.out.cell 4
  have l5_ := rr.out.cell 5
  have l6_ := rr.out.cell 6
  go_wp2_with fail
  try simp only [Exit.inBlock, Exit.then]
  exact bodyPost_ret (v := .agg #[.int .i64 3, .int .i64 m, .int .i64 fr, .int .i64 dst, .int .i64 (n : Nat), .slice none 0 0, .string lt]) (by simp [results, Tryz.results32, go_sem, l0_, l1_, l2_, l3_, l4_, l5_, l6_]) rfl ⟨rfl, OW.out, HG2.out⟩
end Go.Proofs.YtoaifgblbfdncaaGreatDoor
