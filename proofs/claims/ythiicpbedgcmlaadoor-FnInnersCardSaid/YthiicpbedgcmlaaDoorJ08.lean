/-
  The program's inner packets: one read from a text that is long enough; ReadInner.
-/
import Derived.Test.YthiicpbedgcmlaaDoorJ07
namespace Go.Proofs.YthiicpbedgcmlaaDoor
open Go.RowKit

set_option maxRecDepth 100000 in
set_option maxHeartbeats 3200000 in
theorem innerIn_long (s : ByteArray) (h : 8 ≤ s.size) (hz : s.size ≤ 9223372036854775807) (v : Value) (hk : ∀ w : World, Calls Tryd.prog 31 #[.agg #[.int .i64 (backAt s 0 : Nat), .int .i64 (backAt s 4 : Nat), .string (s.extract 8 s.size)]] w fun e w' => e = .returned v ∧ Below w.heap.size w w') (w : World) :
    Calls Tryd.prog 22 #[.string s] w fun e w' => e = .returned (.tuple #[.agg #[.int .i64 (backAt s 0 : Nat), .int .i64 (backAt s 4 : Nat), .string (s.extract 8 s.size)], v]) ∧ Below w.heap.size w w' := by
  have k1 := textWord_head s (by omega)
  have k2 := textWord_head (s.extract 4 s.size) (by rw [ByteArray.size_extract]; omega)
  have e4 : (s.extract 4 s.size).extract 0 4 = s.extract 4 8 := by
    rw [ByteArray.extract_extract]
    congr 1
    omega
  rw [e4] at k2
  have u1 : fourBack (s.extract 0 4).data.toList = backAt s 0 := rfl
  have u2 : fourBack (s.extract 4 8).data.toList = backAt s 4 := rfl
  rw [u1] at k1
  rw [u2] at k2
  have la := backAt_lt s 0
  have lb := backAt_lt s 4
  obtain ⟨a, A⟩ : ∃ n, Hid (n = backAt s 0) := ⟨_, rfl⟩
  obtain ⟨b, B⟩ : ∃ n, Hid (n = backAt s 4) := ⟨_, rfl⟩
  obtain ⟨t4, T4⟩ : ∃ n, Hid (n = s.extract 4 s.size) := ⟨_, rfl⟩
  obtain ⟨t8, T8⟩ : ∃ n, Hid (n = s.extract 8 s.size) := ⟨_, rfl⟩
  rw [← A.out] at k1 la hk ⊢
  rw [← B.out] at k2 lb hk ⊢
  rw [← T4.out] at k2
  rw [← T8.out] at hk ⊢
  have HK := Lib.hid hk
  have K1 : Hid (∀ X, QIo w X → Calls Tryd.prog 37 #[.string s] X fun e Y => e = .returned (.int .u32 a) ∧ QIo w Y ∧ Below X.heap.size X Y) := fun X hX => by
    refine (k1 X).mono ?_
    rintro e Y ⟨rfl, hb⟩
    exact ⟨rfl, hX.next hb, hb⟩
  have K2 : Hid (∀ X, QIo w X → Calls Tryd.prog 37 #[.string t4] X fun e Y => e = .returned (.int .u32 b) ∧ QIo w Y ∧ Below X.heap.size X Y) := fun X hX => by
    refine (k2 X).mono ?_
    rintro e Y ⟨rfl, hb⟩
    exact ⟨rfl, hX.next hb, hb⟩
  have h1 : ¬ (s.size : Int) < 8 := by omega
  have g4 : (4 : Int) ≤ (s.size : Int) := by omega
  have g8 : (8 : Int) ≤ (s.size : Int) := by omega
  have wa : IntKind.i64.wrap (a : Int) = (a : Int) := by rw [IntKind.wrap_i64]; omega
  have wb : IntKind.i64.wrap (b : Int) = (b : Int) := by rw [IntKind.wrap_i64]; omega
  have V0 := Lib.hid (show QIo w (w.alloc (.cells #[.int .i64 0, .int .i64 0, .string ⟨#[]⟩] InnerT)) from ⟨VarA.new w _ _, (Below.refl _ _).alloc (Nat.le_refl _) _⟩)
  have T4' := T4.out.symm
  have T8' := T8.out.symm
  clear k1 k2 A B h hk la lb u1 u2 e4
  go_enter Tryd.func22, Tryd.ntmps22
  go_upto_region 3 with fail
  generalize w.alloc (.cells #[.int .i64 0, .int .i64 0, .string ⟨#[]⟩] InnerT) = W at V0
  go_cut [4] (fun y wx => ∃ q : Nat, y = .pointer (some ⟨q, 0, none⟩) ∧ Hid (QIn w q (.int .i64 (a : Int)) (.int .i64 (b : Int)) (.string t8) wx))
  case first =>
    go_region_held3 (fun X => QIo w X) (first | (with_reducible assumption) | (with_reducible exact (QIo.drew V0.out)) | (with_reducible exact QIo.alloc (by assumption) _) | (with_reducible exact QIo.alloc (QIo.drew V0.out) _) | (with_reducible exact QIo.drew (QIo.alloc V0.out _))) (first | (go_at_call_of 37 (Value.string s); refine (K1.out _ (by assumption)).mono ?_; rintro e v1 ⟨rfl, hT, hb⟩; (first | (have hF := QIn.next hF hb) | (with_reducible have hF := inNewB (by assumption) hb) | (with_reducible have hF := inNewA V0.out hb) | (with_reducible have hF := inNewC V0.out hb) | skip); first | (have g0 := hF.two.cell 0; have g1 := hF.two.cell 1; have g2 := hF.two.cell 2; have f0 := hF.two.free 0; have f1 := hF.two.free 1; have f2 := hF.two.free 2; have hQ5 := hF.set3 (.int .i64 (a : Int)) (.int .i64 (b : Int)) (.string t8); have hT5 := hQ5.io) | skip) | (go_at_call_of 37 (Value.string t4); refine (K2.out _ (by assumption)).mono ?_; rintro e v1 ⟨rfl, hT, hb⟩; (first | (have hF := QIn.next hF hb) | (with_reducible have hF := inNewB (by assumption) hb) | (with_reducible have hF := inNewA V0.out hb) | (with_reducible have hF := inNewC V0.out hb) | skip); first | (have g0 := hF.two.cell 0; have g1 := hF.two.cell 1; have g2 := hF.two.cell 2; have f0 := hF.two.free 0; have f1 := hF.two.free 1; have f2 := hF.two.free 2; have hQ5 := hF.set3 (.int .i64 (a : Int)) (.int .i64 (b : Int)) (.string t8); have hT5 := hQ5.io) | skip))
    all_goals
      go_wp2_with fail
      go_meet
      first | exact ⟨_, rfl, Lib.hid hQ5⟩ | exact ⟨_, rfl, Lib.hid (QIn.new hT (.int .i64 (a : Int)) (.int .i64 (b : Int)) (.string t8))⟩
  case rest =>
    obtain ⟨q, rfl, hc⟩ := hcut
    have A0 := Lib.hid hc.out.two
    have rr := Lib.hid hc.out.one
    have BY := Lib.hid hc.out.below
    have hlt := Lib.hid hc.out.lt
    clear hc K1 K2 V0
    generalize wc = Y at *
    have qv : ∀ X Y, (Hid (VarA q InnerT #[.int .i64 (a : Int), .int .i64 (b : Int), .string t8] X ∧ Below w.heap.size w X)) → Below X.heap.size X Y → (Hid (VarA q InnerT #[.int .i64 (a : Int), .int .i64 (b : Int), .string t8] Y ∧ Below w.heap.size w Y)) := fun X Y h hb => Lib.hid ⟨h.out.1.next hb, h.out.2.trans (hb.mono h.out.2.size)⟩
    have E0 : Hid (VarA q InnerT #[.int .i64 (a : Int), .int .i64 (b : Int), .string t8] Y.drew ∧ Below w.heap.size w Y.drew) := Lib.hid ⟨A0.out.drew, BY.out.drew⟩
    replace rr := Lib.hid rr.out.drew
    go_wp2_with fail
    clear A0 BY
    refine wp_region_held_drew (S := fun X => Hid (VarA q InnerT #[.int .i64 (a : Int), .int .i64 (b : Int), .string t8] X ∧ Below w.heap.size w X)) (by kernel_rfl) E0 (fun hHeld => ?_)
    clear E0
    generalize Y.drew = X0 at *
    refine wpAnyH_take (i := 0) (v := ?_) rfl (by kernel_rfl) (by kernel_rfl) (by kernel_rfl) (fun _ _ _ h => h) (Or.inl ⟨by kernel_rfl, ?_⟩) hHeld ?_
    rotate_left
    · intro X hX
      have y0 : X.cell? ⟨q, 0, none⟩ = some (.int .i64 (a : Int)) := hX.out.1.cell 0
      have y1 : X.cell? ⟨q, 1, none⟩ = some (.int .i64 (b : Int)) := hX.out.1.cell 1
      have y2 : X.cell? ⟨q, 2, none⟩ = some (.string t8) := hX.out.1.cell 2
      first | (go_simp; done) | (go_simp; with_reducible rfl)
    try simp only [Act.put, List.getElem_toArray, List.getElem_cons_zero, List.setIfInBounds_toArray, List.set_cons_zero, List.set_cons_succ]
    refine wpAnyH_take (i := 1) (v := ?_) rfl (by kernel_rfl) (by kernel_rfl) (by kernel_rfl) (fun _ _ _ h => h) (Or.inl ⟨by kernel_rfl, ?_⟩) hHeld ?_
    rotate_left
    · intro X hX
      have y0 : X.cell? ⟨q, 0, none⟩ = some (.int .i64 (a : Int)) := hX.out.1.cell 0
      have y1 : X.cell? ⟨q, 1, none⟩ = some (.int .i64 (b : Int)) := hX.out.1.cell 1
      have y2 : X.cell? ⟨q, 2, none⟩ = some (.string t8) := hX.out.1.cell 2
      first | (go_simp; done) | (go_simp; with_reducible rfl)
    try simp only [Act.put, List.getElem_toArray, List.getElem_cons_succ, List.getElem_cons_zero, List.setIfInBounds_toArray, List.set_cons_zero, List.set_cons_succ]
    refine wpAnyH_ready (rs := [2]) (by kernel_rfl) (by simp) ?_
    refine AllReadyH.cons rfl (fun K hK => ?_) AllReadyH.nil
    go_simp
    go_wp2_with (go_at_call 31; refine (HK.out X0).mono ?_; rintro e X1 ⟨rfl, hb0⟩; have hS := qv _ _ hHeld hb0; have hb := Lib.hid hb0; clear hb0)
    refine hK.out _ _ hS (fun hHeld => ?_)
    clear hK K hS
    replace rr := Lib.hid (rr.out.next hb.out)
    clear hb
    try simp only [Act.put, List.getElem_toArray, List.getElem_cons_succ, List.getElem_cons_zero, List.setIfInBounds_toArray, List.set_cons_zero, List.set_cons_succ]
    refine wpAnyH_ready (rs := [3]) (by kernel_rfl) (by simp) ?_
    refine AllReadyH.cons rfl (fun K hK => ?_) AllReadyH.nil
    have r0_ := rr.out.cell 0
    have r1_ := rr.out.cell 1
    have r2_ := rr.out.cell 2
    have g0_ := rr.out.free 0
    have g1_ := rr.out.free 1
    have g2_ := rr.out.free 2
    go_simp
    have hS : Hid (VarA q InnerT #[.int .i64 (a : Int), .int .i64 (b : Int), .string t8] ((((X1).setCell ⟨w.heap.size, 0, none⟩ (.int .i64 (a : Int))).setCell ⟨w.heap.size, 1, none⟩ (.int .i64 (b : Int))).setCell ⟨w.heap.size, 2, none⟩ (.string t8)) ∧ Below w.heap.size w ((((X1).setCell ⟨w.heap.size, 0, none⟩ (.int .i64 (a : Int))).setCell ⟨w.heap.size, 1, none⟩ (.int .i64 (b : Int))).setCell ⟨w.heap.size, 2, none⟩ (.string t8))) := Lib.hid ⟨((hHeld.out.1.off 0 _ (by have := hlt.out; omega)).off 1 _ (by have := hlt.out; omega)).off 2 _ (by have := hlt.out; omega), ((hHeld.out.2.setCell (p := ⟨w.heap.size, 0, none⟩) (Nat.le_refl _) _).setCell (p := ⟨w.heap.size, 1, none⟩) (Nat.le_refl _) _).setCell (p := ⟨w.heap.size, 2, none⟩) (Nat.le_refl _) _⟩
    refine hK.out _ _ hS (fun hHeld => ?_)
    clear hK K hS r0_ g0_ r1_ g1_ r2_ g2_
    have RS : Hid (VarA w.heap.size InnerT #[.int .i64 (a : Int), .int .i64 (b : Int), .string t8] (((((X1).setCell ⟨w.heap.size, 0, none⟩ (.int .i64 (a : Int))).setCell ⟨w.heap.size, 1, none⟩ (.int .i64 (b : Int))).setCell ⟨w.heap.size, 2, none⟩ (.string t8)))) := Lib.hid (by simpa using ((rr.out.set 0 (.int .i64 (a : Int))).set 1 (.int .i64 (b : Int))).set 2 (.string t8))
    generalize ((((X1).setCell ⟨w.heap.size, 0, none⟩ (.int .i64 (a : Int))).setCell ⟨w.heap.size, 1, none⟩ (.int .i64 (b : Int))).setCell ⟨w.heap.size, 2, none⟩ (.string t8)) = X2 at *
    try simp only [Act.put, List.getElem_toArray, List.getElem_cons_succ, List.getElem_cons_zero, List.setIfInBounds_toArray, List.set_cons_zero, List.set_cons_succ]
    refine wpAnyH_take (i := 4) (v := ?_) rfl (by kernel_rfl) (by kernel_rfl) (by kernel_rfl) (fun _ _ _ h => h) (Or.inl ⟨by kernel_rfl, ?_⟩) hHeld ?_
    rotate_left
    · intro X hX
      first | (go_simp; done) | (go_simp; with_reducible rfl)
    try simp only [Act.put, List.getElem_toArray, List.getElem_cons_succ, List.getElem_cons_zero, List.setIfInBounds_toArray, List.set_cons_zero, List.set_cons_succ]
    refine wpAnyH_done (by kernel_rfl) ?_ _
    have j0 := RS.out.cell 0
    have j1 := RS.out.cell 1
    have j2 := RS.out.cell 2
    have BB := Lib.hid hHeld.out.2
    clear hHeld rr
    go_wp2_with fail
    try simp only [Exit.inBlock, Exit.then]
    exact bodyPost_ret (v := .tuple #[.agg #[.int .i64 (a : Int), .int .i64 (b : Int), .string t8], v]) (by simp [results, Tryd.results22, go_sem, j0, j1, j2]) rfl ⟨rfl, BB.out⟩

set_option maxRecDepth 100000 in
set_option maxHeartbeats 1600000 in
theorem implReadInner_any (HG : CloneGives) (s : ByteArray) (a b : Int) (t : ByteArray) (ok : Bool) (hs : s.size ≤ 1048576) (h : ReadInnerIs s a b t ok) (w : World) (hL : LaidE w) :
    Calls Tryd.prog 10 #[.string s] w (ReadEnd a b t ok w) := by
  obtain ⟨Q, HQ⟩ : ∃ Q : Ending → World → Prop, Hid (Q = ReadEnd a b t ok w) := ⟨_, Lib.hid rfl⟩
  rw [← HQ.out]
  have hIN : ∃ (x y : Int) (z : ByteArray) (v : Value) (n : Int), (∀ X : World, Calls Tryd.prog 22 #[.string s] X fun e Y => e = .returned (.tuple #[.agg #[.int .i64 x, .int .i64 y, .string z], v]) ∧ Below X.heap.size X Y) ∧ (∀ X : World, LaidE X → Calls Tryd.prog 23 #[v] X fun e Y => e = .returned (.int .i64 n) ∧ Below X.heap.size X Y) ∧ ((n = 0 ∧ ok = true ∧ x = a ∧ y = b ∧ z = t ∧ t.size ≤ 1048576) ∨ (n ≠ 0 ∧ ok = false ∧ a = 0 ∧ b = 0 ∧ t = ⟨#[]⟩)) := by
    by_cases h8 : 8 ≤ s.size
    · obtain ⟨v, hv, hk⟩ := innerFaultOf_any (backAt s 0 : Nat) (backAt s 4 : Nat) (s.extract 8 s.size)
      obtain ⟨n, hn, k2⟩ := innerCode_of _ _ _ v hv
      refine ⟨_, _, _, v, n, innerIn_long s h8 (by omega) v hk, k2, ?_⟩
      have l0 := backAt_lt s 0
      have l4 := backAt_lt s 4
      have hx : (s.extract 8 s.size).size = s.size - 8 := by rw [ByteArray.size_extract]; omega
      rcases h with ⟨rfl, ⟨h1, h2⟩, ha, hb, ht⟩ | ⟨rfl, hp, rfl, rfl, rfl⟩
      · refine .inl ⟨hn.2 ⟨by omega, by omega, by omega⟩, rfl, ha.symm, hb.symm, ht.symm, ?_⟩
        rw [ht, hx]
        omega
      · refine .inr ⟨fun e => ?_, rfl, rfl, rfl, rfl⟩
        have := (hn.1 e).2.2
        omega
    · refine ⟨0, 0, ⟨#[]⟩, .iface FaultT (.agg #[.int .i64 4]), 4, innerIn_short s (by omega), fun X hX => innerCode_fault 4 X hX, ?_⟩
      rcases h with ⟨_, ⟨h1, _⟩, _⟩ | ⟨rfl, _, rfl, rfl, rfl⟩
      · omega
      · exact .inr ⟨by omega, rfl, rfl, rfl, rfl⟩
  obtain ⟨x, y, z, v, n, k1, k2, hc⟩ := hIN
  have K1 := Lib.hid k1
  have K2 := Lib.hid k2
  have HC := Lib.hid hc
  have LH := Lib.hid hL
  have A0 := Lib.hid (VarA.new w InnerT #[.int .i64 0, .int .i64 0, .string ⟨#[]⟩])
  have B0 := Lib.hid ((Below.refl w.heap.size w).alloc (Nat.le_refl _) (.cells #[.int .i64 0, .int .i64 0, .string ⟨#[]⟩] InnerT))
  clear k1 k2 hc hL h
  go_enter Tryd.func10, Tryd.ntmps10
  go_upto_region 1 with fail
  generalize w.alloc (.cells #[.int .i64 0, .int .i64 0, .string ⟨#[]⟩] InnerT) = Y at *
  go_wp2_with fail
  refine (K1.out _).mono ?_
  rintro e X ⟨rfl, hb⟩
  replace A0 := Lib.hid (A0.out.next hb)
  replace B0 := Lib.hid (B0.out.trans (hb.mono B0.out.size))
  have V0 := Lib.hid (VarA.new X InnerT #[.int .i64 x, .int .i64 y, .string z])
  have A1 := Lib.hid (A0.out.alloc (.cells #[.int .i64 x, .int .i64 y, .string z] InnerT))
  have B1 := Lib.hid (B0.out.alloc B0.out.size (.cells #[.int .i64 x, .int .i64 y, .string z] InnerT))
  have hlt := Lib.hid A0.out.lt
  clear hb K1 A0 B0
  go_upto_region 2 with fail
  generalize X.alloc (.cells #[.int .i64 x, .int .i64 y, .string z] InnerT) = Z at *
  generalize X.heap.size = q at *
  rcases HC.out with ⟨rfl, rfl, rfl, rfl, rfl, hz⟩ | ⟨hn, rfl, rfl, rfl, rfl⟩
  · have K3 := Lib.hid (fun X => HG z X hz)
    clear hz
    go_wp2_with fail
    refine (K2.out _ (LaidE.all _ _ LH.out B1.out)).mono ?_
    rintro e X1 ⟨rfl, hb⟩
    replace A1 := Lib.hid (A1.out.next hb)
    replace V0 := Lib.hid (V0.out.next hb)
    replace B1 := Lib.hid (B1.out.trans (hb.mono B1.out.size))
    have c2 : X1.cell? ⟨q, 2, none⟩ = some (.string z) := V0.out.cell 2
    clear hb K2
    go_wp2_with fail
    refine (K3.out _).mono ?_
    rintro e X2 ⟨rfl, hb⟩
    replace A1 := Lib.hid (A1.out.next hb)
    replace V0 := Lib.hid (V0.out.next hb)
    replace B1 := Lib.hid (B1.out.trans (hb.mono B1.out.size))
    clear hb K3 c2
    have d2 : X2.cell? ⟨q, 2, none⟩ = some (.string z) := V0.out.cell 2
    have g2 := V0.out.free 2
    have V1 : Hid (VarA q InnerT #[.int .i64 x, .int .i64 y, .string z] (X2.setCell ⟨q, 2, none⟩ (.string z))) := Lib.hid (by simpa using V0.out.set 2 (.string z))
    have A2 := Lib.hid (A1.out.off 2 (.string z) (show w.heap.size ≠ q by have := hlt.out; omega))
    have B2 := Lib.hid (B1.out.setCell (p := ⟨q, 2, none⟩) (by have := hlt.out; show w.heap.size ≤ q; omega) (.string z))
    clear V0 A1 B1
    go_upto_region 5 with fail
    generalize X2.setCell ⟨q, 2, none⟩ (.string z) = X3 at *
    clear d2 g2
    have c0 : X3.cell? ⟨q, 0, none⟩ = some (.int .i64 x) := V1.out.cell 0
    have c1 : X3.cell? ⟨q, 1, none⟩ = some (.int .i64 y) := V1.out.cell 1
    have c2 : X3.cell? ⟨q, 2, none⟩ = some (.string z) := V1.out.cell 2
    have d0 : X3.cell? ⟨w.heap.size, 0, none⟩ = some (.int .i64 0) := A2.out.cell 0
    have d1 : X3.cell? ⟨w.heap.size, 1, none⟩ = some (.int .i64 0) := A2.out.cell 1
    have d2 : X3.cell? ⟨w.heap.size, 2, none⟩ = some (.string ⟨#[]⟩) := A2.out.cell 2
    have f0 := A2.out.free 0
    have f1 := A2.out.free 1
    have f2 := A2.out.free 2
    have r0 := (((A2.out.set 0 (.int .i64 x)).set 1 (.int .i64 y)).set 2 (.string z)).cell 0
    have r1 := (((A2.out.set 0 (.int .i64 x)).set 1 (.int .i64 y)).set 2 (.string z)).cell 1
    have r2 := (((A2.out.set 0 (.int .i64 x)).set 1 (.int .i64 y)).set 2 (.string z)).cell 2
    have E : Hid (Q (.returned (.tuple #[.agg #[.int .i64 x, .int .i64 y, .string z], .bool true])) (((X3.setCell ⟨w.heap.size, 0, none⟩ (.int .i64 x)).setCell ⟨w.heap.size, 1, none⟩ (.int .i64 y)).setCell ⟨w.heap.size, 2, none⟩ (.string z))) := Lib.hid (by
      rw [HQ.out]
      exact ⟨rfl, ((B2.out.setCell (p := ⟨w.heap.size, 0, none⟩) (Nat.le_refl _) _).setCell (p := ⟨w.heap.size, 1, none⟩) (Nat.le_refl _) _).setCell (p := ⟨w.heap.size, 2, none⟩) (Nat.le_refl _) _⟩)
    clear A2 V1 B2
    go_wp2_with fail
    exact bodyPost_ret (v := .tuple #[.agg #[.int .i64 x, .int .i64 y, .string z], .bool true]) (by simp [results, Tryd.results10, go_sem, r0, r1, r2]) rfl E.out
  · have hne : (n != 0) = true := bne_iff_ne.2 hn
    clear hn
    go_wp2_with fail
    refine (K2.out _ (LaidE.all _ _ LH.out B1.out)).mono ?_
    rintro e X3 ⟨rfl, hb⟩
    have A2 := Lib.hid (A1.out.next hb)
    have B2 := Lib.hid (B1.out.trans (hb.mono B1.out.size))
    clear hb K2 V0 A1 B1
    have d0 : X3.cell? ⟨w.heap.size, 0, none⟩ = some (.int .i64 0) := A2.out.cell 0
    have d1 : X3.cell? ⟨w.heap.size, 1, none⟩ = some (.int .i64 0) := A2.out.cell 1
    have d2 : X3.cell? ⟨w.heap.size, 2, none⟩ = some (.string ⟨#[]⟩) := A2.out.cell 2
    have f0 := A2.out.free 0
    have f1 := A2.out.free 1
    have f2 := A2.out.free 2
    have r0 := (((A2.out.set 0 (.int .i64 0)).set 1 (.int .i64 0)).set 2 (.string ⟨#[]⟩)).cell 0
    have r1 := (((A2.out.set 0 (.int .i64 0)).set 1 (.int .i64 0)).set 2 (.string ⟨#[]⟩)).cell 1
    have r2 := (((A2.out.set 0 (.int .i64 0)).set 1 (.int .i64 0)).set 2 (.string ⟨#[]⟩)).cell 2
    have E : Hid (Q (.returned (.tuple #[.agg #[.int .i64 0, .int .i64 0, .string ⟨#[]⟩], .bool false])) (((X3.setCell ⟨w.heap.size, 0, none⟩ (.int .i64 0)).setCell ⟨w.heap.size, 1, none⟩ (.int .i64 0)).setCell ⟨w.heap.size, 2, none⟩ (.string ⟨#[]⟩))) := Lib.hid (by
      rw [HQ.out]
      exact ⟨rfl, ((B2.out.setCell (p := ⟨w.heap.size, 0, none⟩) (Nat.le_refl _) _).setCell (p := ⟨w.heap.size, 1, none⟩) (Nat.le_refl _) _).setCell (p := ⟨w.heap.size, 2, none⟩) (Nat.le_refl _) _⟩)
    clear A2 B2
    go_wp2_with fail
    exact bodyPost_ret (v := .tuple #[.agg #[.int .i64 0, .int .i64 0, .string ⟨#[]⟩], .bool false]) (by simp [results, Tryd.results10, go_sem, r0, r1, r2]) rfl E.out

end Go.Proofs.YthiicpbedgcmlaaDoor
