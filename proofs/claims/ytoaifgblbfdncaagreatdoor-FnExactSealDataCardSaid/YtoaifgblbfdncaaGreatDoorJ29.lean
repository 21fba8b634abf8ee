/-
  The program's round of a block.
-/
import Derived.Test.YtoaifgblbfdncaaGreatDoorJ28
import Derived.Test.YtoaifgblbfdncaaGreatDoorJ25
import Derived.Lib.LaidTab
import Derived.Lib.SmallJoins
namespace Go.Proofs.YtoaifgblbfdncaaGreatDoor
open Go.RowKit

/-- The table of cube roots is laid. -/
def LaidK (w : World) : Prop := Lib.TabIs Tryz.prog w "loop.example/g00193/impl.cubeRoots" .u32 (kTab.map fun (x : Nat) => (x : Int))
theorem gCube : Tryz.prog.globalNamed "loop.example/g00193/impl.cubeRoots" = some 0 := by kernel_rfl
theorem LaidK.stays {w w' : World} {B : Nat} (h : LaidK w) (hb : Below B w w') (hB : w.heap.size ≤ B) : LaidK w' := Joins.tab_stays gCube h hb hB
theorem LaidK.cell {w : World} (h : LaidK w) (k : Nat) (hk : k < 64) : w.cell? ⟨0, k, none⟩ = some (.int .u32 (kTab.getD k 0 : Nat)) := by
  have h1 := Lib.TabIs.cell h gCube k hk
  rw [h1, List.getD_eq_getElem?_getD, List.getElem?_map, List.getD_eq_getElem?_getD, List.getElem?_eq_getElem (show k < kTab.length from hk)]
  rfl

/-- The variables of a round: the state, the result, the words, the next state. -/
structure RV (w : World) (t8 t64 : TypeId) (st W : List Nat) (b : Nat) (ns : List Nat) (X : World) : Prop where
  state : ArrW w.heap.size t8 st X
  res : ArrW (w.heap.size + 1) t8 zero8 X
  words : ArrW b t64 W X
  next : ArrW (b + 1) t8 ns X
  place : w.heap.size + 1 < b
  below : Below w.heap.size w X
theorem RV.step {w : World} {t8 t64 : TypeId} {st W : List Nat} {b : Nat} {ns : List Nat} {X Y : World} (h : RV w t8 t64 st W b ns X) (hb : Below X.heap.size X Y) : RV w t8 t64 st W b ns Y :=
  ⟨h.state.next hb, h.res.next hb, h.words.next hb, h.next.next hb, h.place, h.below.trans (hb.mono h.below.size)⟩
theorem RV.turn {w : World} {t8 t64 : TypeId} {st W : List Nat} {b : Nat} {ns ms : List Nat} {X Y : World} (h : RV w t8 t64 st W b ns X) (ho : Only (b + 1) X Y) (hn : ArrW (b + 1) t8 ms Y) : RV w t8 t64 st W b ms Y := by
  have hp := h.place
  exact ⟨h.state.only ho (by omega), h.res.only ho (by omega), h.words.only ho (by omega), hn, hp, h.below.trans (ho.below (by omega) h.below.size)⟩
theorem RV.drew {w : World} {t8 t64 : TypeId} {st W : List Nat} {b : Nat} {ns : List Nat} {X : World} (h : RV w t8 t64 st W b ns X) : RV w t8 t64 st W b ns X.drew := ⟨h.state.drew, h.res.drew, h.words.drew, h.next.drew, h.place, h.below.drew⟩
theorem toList_words (v : Eight) (h : v.Ok) : Words v.toList := by
  have h1 := h.a; have h2 := h.b; have h3 := h.c; have h4 := h.d; have h5 := h.e; have h6 := h.f; have h7 := h.g; have h8 := h.h
  intro x hx
  unfold Eight.toList at hx
  simp at hx
  omega
/-- The first k words are sums already. -/
def mixU (a b : List Nat) (k : Nat) : List Nat := addUp a b k ++ b.drop k
theorem mixU_getD (a b : List Nat) (k : Nat) : (mixU a b k).getD k 0 = b.getD k 0 := by
  unfold mixU
  rw [List.getD_eq_getElem?_getD, List.getElem?_append_right (by rw [addUp_length]; exact Nat.le_refl _), addUp_length, Nat.sub_self, List.getElem?_drop, List.getD_eq_getElem?_getD]
  rfl
theorem mixU_set (a b : List Nat) (k x : Nat) (h : k < b.length) (hx : x = (a.getD k 0 + b.getD k 0) % 4294967296) : (mixU a b k).set k x = mixU a b (k + 1) := by
  unfold mixU
  rw [List.set_append_right _ _ (by rw [addUp_length]; exact Nat.le_refl _), addUp_length, Nat.sub_self, addUp_succ, List.drop_eq_getElem_cons h, List.set_cons_zero, List.append_assoc, hx]
  rfl
theorem mixU_length (a b : List Nat) (k : Nat) (h : k ≤ b.length) : (mixU a b k).length = b.length := by unfold mixU; rw [List.length_append, addUp_length, List.length_drop]; omega
theorem mixU_end (a b : List Nat) (k : Nat) (h : b.length = k) : mixU a b k = addUp a b k := by unfold mixU; rw [List.drop_of_length_le (by omega), List.append_nil]
/-- The variables ahead of a step, or behind it. -/
structure R2 (w : World) (t8 t64 : TypeId) (st W : List Nat) (b : Nat) (ns ms : List Nat) (X : World) : Prop where
  two : RV w t8 t64 st W b ns X ∨ RV w t8 t64 st W b ms X
theorem runE_eq (v : Eight) (ks ws : List Nat) (n : Nat) : runE v ks ws (n + 1) = stepE (runE v ks ws n) (ks.getD n 0) (ws.getD n 0) := rfl

set_option maxRecDepth 100000 in
set_option maxHeartbeats 1600000 in
theorem implRound_any (st : List Nat) (hst : Words st) (hst8 : st.length = 8) (s : ByteArray) (hs : s.size = 64) (w : World) (hK : LaidK w) :
    Calls Tryz.prog 84 #[stV st, .string s] w fun e w' => e = .returned (stV (roundOf st s.data.toList)) ∧ Below w.heap.size w w' := by
  have H1 := Lib.hid (implWords_any s hs)
  obtain ⟨W, HW⟩ : ∃ W, Hid (W = grow (wordsOf s.data.toList) 48) := ⟨_, rfl⟩
  have hW64 : W.length = 64 := by rw [HW.out, grow_length, wordsOf_length]; simp; omega
  have hWw : Words W := by rw [HW.out]; exact grow_words _ (wordsOf_words _) _
  rw [← HW.out] at H1
  have e64 : (filled []).length = W.length := by rw [hW64]; rfl
  have e8 : zero8.length = st.length := by rw [hst8]; rfl
  have i64 : (Tryz.prog.info? 144).map (·.size) = some W.length := by rw [hW64]; kernel_rfl
  have i8 : (Tryz.prog.info? 92).map (·.size) = some st.length := by rw [hst8]; kernel_rfl
  have E := Lib.hid (And.intro e64 (And.intro e8 (And.intro i64 i8)))
  clear e64 e8 i64 i8
  have HK := Lib.hid hK
  clear hK
  have A0 := Lib.hid (And.intro ((ArrW.new w 92 st).alloc (.cells (wcells zero8).toArray 92)) (And.intro (ArrW.new2 w (.cells (wcells st).toArray 92) 92 zero8) (((Below.refl w.heap.size w).alloc (Nat.le_refl _) (.cells (wcells st).toArray 92)).alloc (by simp) (.cells (wcells zero8).toArray 92))))
  show Calls Tryz.prog 84 #[.agg (wcells st).toArray, .string s] w _
  go_enter Tryz.func84, Tryz.ntmps84
  go_wp2_with fail
  refine (H1.out _).mono ?_
  rintro e w1 ⟨rfl, hb1⟩
  have HB1 := Lib.hid hb1
  have A1 := Lib.hid (And.intro (A0.out.1.next hb1) (And.intro (A0.out.2.1.next hb1) (A0.out.2.2.trans (hb1.mono A0.out.2.2.size))))
  have P1 : Hid (w.heap.size + 1 < w1.heap.size) := by
    have := A1.out.2.1.lt
    exact this
  have A2 := Lib.hid (ArrW.new w1 144 (filled []))
  clear hb1
  go_wp2_with (refine wpList_storeY _ rfl (.tmp 5) (.tmp 11) 144 rfl w1.heap.size (filled []) W rfl rfl E.out.1 E.out.2.2.1 A2.out ?_)
  intro w2 hA2 ho2 hz2
  have hs2 : w2.heap.size = w1.heap.size + 1 := by rw [hz2]
  have B2 : Below w1.heap.size w1 w2 := ((Below.refl w1.heap.size w1).alloc (Nat.le_refl _) _).trans (ho2.below (Nat.le_refl _) (by simp))
  have A3 := Lib.hid (And.intro (A1.out.1.next B2) (And.intro (A1.out.2.1.next B2) (And.intro hA2 (A1.out.2.2.trans (B2.mono A1.out.2.2.size)))))
  have A4 := Lib.hid (ArrW.new w2 92 zero8)
  rw [hs2] at A4
  clear hA2 ho2 hz2 B2
  go_wp2_with (first | (refine wpList_loadA _ rfl (.tmp 2) 92 rfl w.heap.size st rfl Tryz.underlying92 E.out.2.2.2 A3.out.1 ?_) | (refine wpList_storeY _ rfl (.tmp 6) (.tmp 12) 92 rfl (w1.heap.size + 1) zero8 st rfl rfl E.out.2.1 E.out.2.2.2 A4.out ?_))
  intro w3 hA4 ho4 hz4
  have B3 : Below w2.heap.size w2 w3 := ((Below.refl w2.heap.size w2).alloc (Nat.le_refl _) _).trans (ho4.below (by omega) (by simp))
  have R0 : Hid (RV w 92 144 st W w1.heap.size (runE (Eight.of st) kTab W 0).toList w3) := by
    refine ⟨A3.out.1.next B3, A3.out.2.1.next B3, A3.out.2.2.1.next B3, ?_, P1.out, A3.out.2.2.2.trans (B3.mono A3.out.2.2.2.size)⟩
    show ArrW _ _ (Eight.of st).toList _
    rw [toList_of st hst8]
    exact hA4
  obtain ⟨b, HBb⟩ : ∃ b, Hid (b = w1.heap.size) := ⟨_, rfl⟩
  rw [← HBb.out] at R0
  rw [← HBb.out]
  clear A0 A4 A3 A2 A1 hA4 ho4 hz4 B3 P1 HB1 hs2
  go_wp2_with fail
  go_loopw [13] (fun i wr => ∃ k : Nat, k ≤ 64 ∧ i = .int .i64 (k : Int) ∧ RV w 92 144 st W b (runE (Eight.of st) kTab W k).toList wr) (fun i _ => 64 - (intOf i).toNat)
  case atStart =>
    exact ⟨0, by omega, rfl, R0.out⟩
  case round =>
    obtain ⟨k, hk, rfl, hv⟩ := hrel
    have HV := Lib.hid hv
    clear hv R0
    have hok := runE_ok (Eight.of st) (Eight.of_ok hst) kTab W k
    obtain ⟨v, V⟩ : ∃ v, Hid (v = runE (Eight.of st) kTab W k) := ⟨_, rfl⟩
    rw [← V.out] at HV hok
    by_cases hlt : (k : Int) < 64
    · obtain ⟨kk, KK⟩ : ∃ x, Hid (x = kTab.getD k 0) := ⟨_, rfl⟩
      obtain ⟨ww, WW⟩ : ∃ x, Hid (x = W.getD k 0) := ⟨_, rfl⟩
      obtain ⟨z, q1, Q1⟩ := sumW kk ww
      obtain ⟨u, U⟩ : ∃ u, Hid (u = stepE v kk ww) := ⟨_, rfl⟩
      have K1 := fun X => afterStep_any v hok kk ww X
      rw [← Q1.out, ← U.out] at K1
      have HE : Hid (u = runE (Eight.of st) kTab W (k + 1)) := by
        show _ = _
        rw [runE_eq, ← V.out, ← KK.out, ← WW.out]
        exact U.out
      obtain ⟨va, vb, vc, vd, ve, vf, vg, vh⟩ := v
      obtain ⟨ua, ub, uc, ud, ue, uf, ug, uh⟩ := u
      have HV' : Hid (RV w 92 144 st W b [va, vb, vc, vd, ve, vf, vg, vh] wr) := HV
      have K2 : Hid (∀ X, Calls Tryz.prog 113 #[.agg #[.int .u32 va, .int .u32 vb, .int .u32 vc, .int .u32 vd, .int .u32 ve, .int .u32 vf, .int .u32 vg, .int .u32 vh], .int .u32 z] X fun e X' => e = .returned (.agg #[.int .u32 ua, .int .u32 ub, .int .u32 uc, .int .u32 ud, .int .u32 ue, .int .u32 uf, .int .u32 ug, .int .u32 uh]) ∧ Below X.heap.size X X') := K1
      have tk : wr.cell? ⟨0, k, none⟩ = some (.int .u32 kk) := by rw [KK.out]; exact (HK.out.stays HV.out.below (Nat.le_refl _)).cell k (by omega)
      have wk : wr.cell? ⟨b, k, none⟩ = some (.int .u32 ww) := by rw [WW.out]; exact HV.out.words.cell k (by omega)
      have c0 : wr.cell? ⟨b + 1, 0, none⟩ = some (.int .u32 va) := HV'.out.next.cell 0 (by show 0 < 8; decide)
      have c1 : wr.cell? ⟨b + 1, 1, none⟩ = some (.int .u32 vb) := HV'.out.next.cell 1 (by show 1 < 8; decide)
      have c2 : wr.cell? ⟨b + 1, 2, none⟩ = some (.int .u32 vc) := HV'.out.next.cell 2 (by show 2 < 8; decide)
      have c3 : wr.cell? ⟨b + 1, 3, none⟩ = some (.int .u32 vd) := HV'.out.next.cell 3 (by show 3 < 8; decide)
      have c4 : wr.cell? ⟨b + 1, 4, none⟩ = some (.int .u32 ve) := HV'.out.next.cell 4 (by show 4 < 8; decide)
      have c5 : wr.cell? ⟨b + 1, 5, none⟩ = some (.int .u32 vf) := HV'.out.next.cell 5 (by show 5 < 8; decide)
      have c6 : wr.cell? ⟨b + 1, 6, none⟩ = some (.int .u32 vg) := HV'.out.next.cell 6 (by show 6 < 8; decide)
      have c7 : wr.cell? ⟨b + 1, 7, none⟩ = some (.int .u32 vh) := HV'.out.next.cell 7 (by show 7 < 8; decide)
      clear K1 hok
      go_wp2_with fail
      have HF : Hid (∀ X, R2 w 92 144 st W b [va, vb, vc, vd, ve, vf, vg, vh] [ua, ub, uc, ud, ue, uf, ug, uh] X → X.cell? ⟨0, k, none⟩ = some (.int .u32 kk) ∧ X.cell? ⟨b, k, none⟩ = some (.int .u32 ww) ∧ R2 w 92 144 st W b [va, vb, vc, vd, ve, vf, vg, vh] [ua, ub, uc, ud, ue, uf, ug, uh] X) := fun X hX => by
        rcases hX.two with q | q
        · exact ⟨by rw [KK.out]; exact (HK.out.stays q.below (Nat.le_refl _)).cell k (by omega), by rw [WW.out]; exact q.words.cell k (by omega), hX⟩
        · exact ⟨by rw [KK.out]; exact (HK.out.stays q.below (Nat.le_refl _)).cell k (by omega), by rw [WW.out]; exact q.words.cell k (by omega), hX⟩
      have HT : Hid (∀ v1, Below wr.drew.heap.size wr.drew v1 → RV w 92 144 st W b [va, vb, vc, vd, ve, vf, vg, vh] v1 ∧ (v1.cell? ⟨0, k, none⟩ = some (.int .u32 kk) ∧ v1.cell? ⟨b, k, none⟩ = some (.int .u32 ww) ∧ R2 w 92 144 st W b [va, vb, vc, vd, ve, vf, vg, vh] [ua, ub, uc, ud, ue, uf, ug, uh] v1) ∧
          RV w 92 144 st W b [ua, ub, uc, ud, ue, uf, ug, uh] ((((((((v1.setCell ⟨b + 1, 0, none⟩ (.int .u32 ua)).setCell ⟨b + 1, 1, none⟩ (.int .u32 ub)).setCell ⟨b + 1, 2, none⟩ (.int .u32 uc)).setCell ⟨b + 1, 3, none⟩ (.int .u32 ud)).setCell ⟨b + 1, 4, none⟩ (.int .u32 ue)).setCell ⟨b + 1, 5, none⟩ (.int .u32 uf)).setCell ⟨b + 1, 6, none⟩ (.int .u32 ug)).setCell ⟨b + 1, 7, none⟩ (.int .u32 uh)) ∧
          R2 w 92 144 st W b [va, vb, vc, vd, ve, vf, vg, vh] [ua, ub, uc, ud, ue, uf, ug, uh] ((((((((v1.setCell ⟨b + 1, 0, none⟩ (.int .u32 ua)).setCell ⟨b + 1, 1, none⟩ (.int .u32 ub)).setCell ⟨b + 1, 2, none⟩ (.int .u32 uc)).setCell ⟨b + 1, 3, none⟩ (.int .u32 ud)).setCell ⟨b + 1, 4, none⟩ (.int .u32 ue)).setCell ⟨b + 1, 5, none⟩ (.int .u32 uf)).setCell ⟨b + 1, 6, none⟩ (.int .u32 ug)).setCell ⟨b + 1, 7, none⟩ (.int .u32 uh))) := fun v1 hb1 => by
        have hR1 := HV'.out.drew.step hb1
        have hE1 := hR1.turn (Only.set8 v1 (b + 1) (.int .u32 ua) (.int .u32 ub) (.int .u32 uc) (.int .u32 ud) (.int .u32 ue) (.int .u32 uf) (.int .u32 ug) (.int .u32 uh)) (hR1.next.set8 rfl ua ub uc ud ue uf ug uh)
        exact ⟨hR1, HF.out v1 ⟨.inl hR1⟩, hE1, ⟨.inr hE1⟩⟩
      go_region_with (first | (go_at_call_of 113 (Value.int IntKind.u32 (z : Int)); refine (K2.out _).mono ?_; rintro e v1 ⟨rfl, hb1⟩; obtain ⟨hR1, hS1, hE1, hE2⟩ := HT.out v1 hb1; have m0 := hR1.next.cell 0 (by show 0 < 8; decide); have m1 := hR1.next.cell 1 (by show 1 < 8; decide); have m2 := hR1.next.cell 2 (by show 2 < 8; decide); have m3 := hR1.next.cell 3 (by show 3 < 8; decide); have m4 := hR1.next.cell 4 (by show 4 < 8; decide); have m5 := hR1.next.cell 5 (by show 5 < 8; decide); have m6 := hR1.next.cell 6 (by show 6 < 8; decide); have m7 := hR1.next.cell 7 (by show 7 < 8; decide); have f0 := hR1.next.free 0; have f1 := hR1.next.free 1; have f2 := hR1.next.free 2; have f3 := hR1.next.free 3; have f4 := hR1.next.free 4; have f5 := hR1.next.free 5; have f6 := hR1.next.free 6; have f7 := hR1.next.free 7))
      all_goals
        go_wp2_with fail
        go_roundw
        case rel =>
          refine ⟨k + 1, by omega, by go_num, ?_⟩
          rw [← HE.out]
          exact hE1
        case measure => simp [intOf]; omega
    · have hk64 : k = 64 := by omega
      subst hk64
      obtain ⟨vs, VS⟩ : ∃ vs, Hid (vs = v.toList) := ⟨_, rfl⟩
      have hvs : vs.length = 8 := by rw [VS.out]; rfl
      have hvw : Words vs := by rw [VS.out]; exact toList_words v hok
      rw [← VS.out] at HV
      go_wp2_with (refine wpList_loadA _ rfl (.tmp 2) 92 rfl w.heap.size st rfl Tryz.underlying92 E.out.2.2.2 HV.out.state ?_)
      go_loopw [27] (fun i wr => ∃ k : Nat, k ≤ 8 ∧ i = .int .i64 (k : Int) ∧ RV w 92 144 st W b (mixU st vs k) wr) (fun i _ => 8 - (intOf i).toNat)
      case atStart =>
        exact ⟨0, by omega, rfl, HV.out⟩
      case round =>
        obtain ⟨k, hk, rfl, hv⟩ := hrel
        have HN := Lib.hid hv
        clear hv
        by_cases hlt : (k : Int) < 8
        · have hix := index8 st hst8 k (by omega) wr
          obtain ⟨x, X1⟩ : ∃ x, Hid (x = st.getD k 0) := ⟨_, rfl⟩
          obtain ⟨y, Y1⟩ : ∃ y, Hid (y = vs.getD k 0) := ⟨_, rfl⟩
          rw [← X1.out] at hix
          have hl : (mixU st vs k).length = 8 := by rw [mixU_length _ _ _ (by omega), hvs]
          have hc : wr.cell? ⟨b + 1, k, none⟩ = some (.int .u32 y) := by rw [Y1.out, ← mixU_getD st vs k]; exact HN.out.next.cell k (by omega)
          have hf := HN.out.next.free k
          obtain ⟨z, q1, Q1⟩ : ∃ z : Nat, ((y : Int) + (x : Int)) % 4294967296 = (z : Int) ∧ Hid (z = (st.getD k 0 + vs.getD k 0) % 4294967296) := ⟨_, by rw [X1.out, Y1.out]; omega, rfl⟩
          have HE : Hid (RV w 92 144 st W b (mixU st vs (k + 1)) (wr.setCell ⟨b + 1, k, none⟩ (.int .u32 (z : Int)))) := by
            rw [← mixU_set st vs k z (by omega) Q1.out]
            exact HN.out.turn (Only.setCell k _) (HN.out.next.set k z)
          go_wp2_with fail
          go_roundw
          case rel => exact ⟨k + 1, by omega, by go_num, HE.out⟩
          case measure => simp [intOf]; omega
        · have hk8 : k = 8 := by omega
          subst hk8
          have HR : Hid (mixU st vs 8 = roundOf st s.data.toList) := by
            show _ = _
            rw [mixU_end st vs 8 hvs, VS.out, V.out, HW.out]
            rfl
          rw [HR.out] at HN
          obtain ⟨rs, RS⟩ : ∃ rs, Hid (rs = roundOf st s.data.toList) := ⟨_, rfl⟩
          have hrs : rs.length = st.length := by rw [RS.out, roundOf_length, hst8]
          have hzr : zero8.length = rs.length := by rw [hrs, hst8]; rfl
          rw [← RS.out] at HN
          have I8 : Hid ((Tryz.prog.info? 92).map (·.size) = some rs.length) := by rw [hrs]; exact E.out.2.2.2
          go_wp2_with (first | (refine wpList_loadA _ rfl (.tmp 6) 92 rfl (b + 1) rs rfl Tryz.underlying92 I8.out HN.out.next ?_) | (refine wpList_storeA _ rfl (.tmp 4) (.tmp 38) 92 rfl (w.heap.size + 1) zero8 rs rfl rfl hzr I8.out HN.out.res ?_))
          refine bodyPost_ret (v := stV (roundOf st s.data.toList)) ?_ rfl ⟨rfl, ?_⟩
          · have := (HN.out.res.setRow rs).loadVar (P := Tryz.prog) Tryz.underlying92 I8.out
            rw [RS.out] at this
            simp [results, Tryz.results84, asAddr, this, RS.out]
          · exact Below.setRow HN.out.below (by omega) _
end Go.Proofs.YtoaifgblbfdncaaGreatDoor
