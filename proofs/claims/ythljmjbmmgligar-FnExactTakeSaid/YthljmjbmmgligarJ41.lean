/-
  The program's bringOut.
-/
import Derived.Test.YthljmjbmmgligarJ40
import Derived.Test.YthljmjbmmgligarJ23
import Derived.Deep.RegionLaw
namespace Go.Proofs.Ythljmjbmmgligar
open Go.RowKit

def BringEnd (lo G : Nat) (me peer next got : Int) (v3 v4 v7 : Value) (f3 f4 f7 : List Nat) (qs : List ByteArray) (ss : List PendingD) (os : List Int) (es : List EarlyD) (xs : List ByteArray) (w : World) (e : Ending) (w' : World) : Prop :=
  e = .returned (.tuple #[]) ∧ ∃ (v6 v8 : Value) (f6 f8 : List Nat), VarA G ChanT #[.int .i64 me, .int .i64 peer, .int .i64 next, v3, v4, .int .i64 got, v6, v7, v8] w' ∧ COT lo v3 v4 v6 v7 v8 f3 f4 f6 f7 f8 qs ss es os xs w' ∧ Below lo w w'

set_option maxRecDepth 100000 in
set_option maxHeartbeats 6400000 in
theorem bringOut_any (lo G : Nat) (me peer next got : Int) (hg0 : 0 ≤ got) (hg1 : got ≤ 1000000) (v3 v4 v7 v8 : Value) (f3 f4 f7 f8 : List Nat) (a6 k6 : Nat) (qs : List ByteArray) (ss : List PendingD) (L : List EarlyD) (os : List Int) (xs : List ByteArray) (ll : L.length ≤ 1000000) (lx : xs.length ≤ 1000000) (w : World)
    (hv : VarA G ChanT #[.int .i64 me, .int .i64 peer, .int .i64 next, v3, v4, .int .i64 got, .slice (some ⟨a6, 0, none⟩) L.length k6, v7, v8] w) (hco : CO lo v3 v4 (.slice (some ⟨a6, 0, none⟩) L.length k6) v7 v8 f3 f4 [a6] f7 f8 qs ss L os xs w) (hlg : lo ≤ G) (hlo : lo ≤ w.heap.size) :
    Calls Try.prog 73 #[.pointer (some ⟨G, 0, none⟩)] w (BringEnd lo G me peer next (got + (drainN got L : Nat)) v3 v4 v7 f3 f4 f7 qs ss os (L.drop (drainN got L)) (xs ++ (L.take (drainN got L)).map (·.2)) w) := by
  obtain ⟨xa0, xc0, rfl⟩ := rows_form (layStringS.read hco.x)
  obtain ⟨i1, hi1, hz1, hsz1, hby1⟩ := info_of infoString
  have hroom : L.length ≤ k6 := rows_room (layEarlyS.read hco.e)
  have HV := Lib.hid hv
  have HCO := Lib.hid hco
  clear hv hco
  obtain ⟨Q, HQQ⟩ : ∃ Q : Ending → World → Prop, Hid (Q = BringEnd lo G me peer next (got + (drainN got L : Nat)) v3 v4 v7 f3 f4 f7 qs ss os (L.drop (drainN got L)) (xs ++ (L.take (drainN got L)).map (·.2)) w) := ⟨_, Lib.hid rfl⟩
  rw [← HQQ.out]
  go_enter Try.func73, Try.ntmps73
  go_wp2_with fail
  go_loopg [] L.length (fun g wr => ∃ (j : Nat) (aa : Option Addr) (r cc : Nat) (xa : Option Addr) (xc : Nat) (z : List ByteArray) (fz : List Nat), j + g = L.length ∧ Hid (r = L.length - j) ∧ Hid (cc = k6 - j) ∧ (j < L.length → aa = some ⟨a6, j * 2, none⟩) ∧ (aa = none → cc = 0) ∧ Hid (z = xs ++ (L.take j).map (·.2)) ∧ Hid (drainN got L = j + drainN (got + (j : Int)) (L.drop j)) ∧ Hid (VarA G ChanT #[.int .i64 me, .int .i64 peer, .int .i64 next, v3, v4, .int .i64 (got + (j : Int)), .slice aa r cc, v7, .slice xa z.length xc] wr) ∧ Hid (CO lo v3 v4 (.slice (some ⟨a6, 0, none⟩) L.length k6) v7 (.slice xa z.length xc) f3 f4 [a6] f7 fz qs ss L os z wr) ∧ Hid (Below lo w wr))
  case atStart => exact ⟨0, some ⟨a6, 0, none⟩, L.length, k6, xa0, xc0, xs, f8, by omega, Lib.hid rfl, Lib.hid rfl, (fun _ => by simp), (fun h => by cases h), Lib.hid (by simp), Lib.hid (by simp), Lib.hid (by simpa using HV.out), HCO, Lib.hid (Below.refl _ _)⟩
  case round =>
    obtain ⟨j, aa, r, cc, xa, xc, z, fz, hjg, HRR, HCC, haa, hna, HZ, HDR, VR, CR, BR⟩ := hrel
    clear HV HCO
    have c5 : wr.cell? ⟨G, 5, none⟩ = some (.int .i64 (got + (j : Int))) := VR.out.cell 5
    have c6 : wr.cell? ⟨G, 6, none⟩ = some (.slice aa r cc) := VR.out.cell 6
    have hj3 : j ≤ L.length := by omega
    have hzl : z.length ≤ 2000000 := by rw [HZ.out]; simp; omega
    -- how it ends here
    have HEND : Hid (drainN got L = j → ∀ X : World, Below wr.heap.size wr X → Q (.returned (.tuple #[])) X) := Lib.hid (fun hd X hX => by
      rw [HQQ.out, hd]
      have C5 := CR.out.next hX
      have he : ∃ f6, layEarlyT.own X lo f6 [.slice aa r cc] (L.drop j) := by
        by_cases hlt : j < L.length
        · have h1 := haa hlt
          have htl : (L.take j).length = j := by rw [List.length_take]; omega
          refine ⟨[a6], .inr (.inl ⟨a6, k6, cc, L.take j, ?_, ?_, ?_, rfl, ?_⟩)⟩
          · rw [h1, htl, List.length_drop, ← HRR.out]
            rfl
          · rw [List.length_drop, HCC.out]
            omega
          · rw [List.take_append_drop]
            intro e
            rw [e] at hlt
            simp at hlt
          · rw [List.take_append_drop]
            exact C5.e
        · have hr0 : r = 0 := by rw [HRR.out]; omega
          refine ⟨[], .inr (.inr ⟨List.drop_eq_nil_of_le (by omega), rfl, aa, cc, by rw [hr0], hna⟩)⟩
      obtain ⟨f6, he⟩ := he
      rw [← HZ.out]
      exact ⟨rfl, _, _, f6, fz, VR.out.next hX, ⟨.inl C5.q, C5.s, he, C5.o, .inl C5.x, C5.ap⟩, BR.out.trans (hX.mono (Nat.le_trans hlo BR.out.size))⟩)
    by_cases hlt : j < L.length
    · obtain rfl := haa hlt
      have hr0 : (0 : Int) < (r : Int) := by have := HRR.out; omega
      have hr1 : 0 < r := by have := HRR.out; omega
      have hget := List.getElem?_eq_getElem hlt
      have HD1 : Hid (L.drop j = L[j] :: L.drop (j + 1)) := Lib.hid (List.drop_eq_getElem_cons hlt)
      have HT1 : Hid (L.take (j + 1) = L.take j ++ [L[j]]) := Lib.hid (by rw [List.take_add_one, hget]; rfl)
      obtain ⟨g', off', cs, hge, hg, hr, hc⟩ := rows_elem (layEarlyS.read CR.out.e) j _ hget
      simp only [Option.some.injEq, Addr.mk.injEq, and_true] at hge
      obtain ⟨rfl, rfl⟩ := hge
      clear hget
      generalize L[j] = y at hr HD1 HT1
      rw [layEarly_rd] at hr
      subst hr
      obtain ⟨y0, y1⟩ := y
      have d0 : wr.cell? ⟨a6, j * 2, none⟩ = some (.int .i64 y0) := by have h9 := hc 0 _ rfl; rw [Nat.zero_add] at h9; exact h9
      have d1 : wr.cell? ⟨a6, j * 2 + 1, none⟩ = some (.string y1) := by have h9 := hc 1 _ rfl; rw [Nat.zero_add] at h9; exact h9
      clear hc
      by_cases hy : y0 = got + (j : Int) + 1
      · have k9 : (y0 == got + (j : Int) + 1) = true := by rw [beq_iff_eq]; exact hy
        have HDR2 : Hid (drainN got L = (j + 1) + drainN (got + ((j + 1 : Nat) : Int)) (L.drop (j + 1))) := Lib.hid (by
          rw [HDR.out, HD1.out, drainN, if_pos hy, show got + ((j + 1 : Nat) : Int) = got + (j : Int) + 1 by omega]
          omega)
        have hpos9 : ((r : Int) == 0) = false := by rw [beq_eq_false_iff_ne]; omega
        clear hy HEND
        go_wp2_with fail
        go_quiet (fail)
        go_wp2_with fail
        generalize hq9 : wr.drewN _ = wr9 at *
        have BQ : Below wr.heap.size wr wr9 := by rw [← hq9]; exact below_drewN (Below.refl _ _) _
        have BQC : ∀ p : Addr, p.block < wr.heap.size → wr9.cell? p = wr.cell? p := fun p hp => BQ.cell (p := p) hp
        replace VR := Lib.hid (VR.out.next BQ)
        replace CR := Lib.hid (CR.out.next BQ)
        replace BR := Lib.hid (BR.out.trans (BQ.mono (Nat.le_trans hlo BR.out.size)))
        clear hq9 BQ
        obtain ⟨_, _, _, hf8⟩ := flat_inv flatString CR.out.x
        subst hf8
        have b0 : wr9.cell? ⟨a6, j * 2, none⟩ = some (.int .i64 y0) := by rw [BQC ⟨a6, j * 2, none⟩ hg]; exact d0
        have b1 : wr9.cell? ⟨a6, j * 2 + 1, none⟩ = some (.string y1) := by rw [BQC ⟨a6, j * 2 + 1, none⟩ hg]; exact d1
        clear BQC d0 d1 c5 c6 hg
        have c5 : wr9.cell? ⟨G, 5, none⟩ = some (.int .i64 (got + (j : Int))) := VR.out.cell 5
        have c6 : wr9.cell? ⟨G, 6, none⟩ = some (.slice (some ⟨a6, j * 2, none⟩) r cc) := VR.out.cell 6
        have c8 : wr9.cell? ⟨G, 8, none⟩ = some (.slice xa z.length xc) := VR.out.cell 8
        have AD : Below wr9.heap.size wr9 (wr9.alloc (.cells #[.string y1] StringT)).drew := ((Below.refl _ _).alloc (Nat.le_refl _) _).drew
        have VD := Lib.hid (VR.out.next AD)
        have CD := Lib.hid (CR.out.next AD)
        have BD := Lib.hid (BR.out.trans (AD.mono (Nat.le_trans hlo BR.out.size)))
        have e6 : (wr9.alloc (.cells #[.string y1] StringT)).cell? ⟨G, 6, none⟩ = some (.slice (some ⟨a6, j * 2, none⟩) r cc) := VD.out.cell 6
        have e8 : (wr9.alloc (.cells #[.string y1] StringT)).cell? ⟨G, 8, none⟩ = some (.slice xa z.length xc) := VD.out.cell 8
        have hws : lo ≤ (wr9.alloc (.cells #[.string y1] StringT)).drew.heap.size := Nat.le_trans hlo BD.out.size
        clear AD VR CR BR
        go_region_law (refine step_pushT rfl (.tmp 27) (.tmp 35) 22 rfl lo StringT i1 (.string ⟨#[]⟩) 16 layString flatString Try.underlying22 hi1 hz1 hsz1 hby1 rfl (by omega) (.slice xa z.length xc) (blk (.slice xa z.length xc)) z (by first | rfl | simp [Act.eval, Act.put]) CD.out.x y1 [.string y1] rfl ⟨wr9.heap.size, 0, none⟩ (by first | rfl | simp [Act.eval, Act.put]) (fun j u hj => lit_cells_one wr9 #[.string y1] StringT j u hj) (by omega) hws ?_; intro v1 w2 hown1 hnn1 htl1 hgr1 hbe1; obtain ⟨a9, k9, rfl, hblk, -, -⟩ := flat_some flatString hown1 hnn1; obtain ⟨l9, HL9⟩ : ∃ l : Nat, Hid (l = (z ++ [y1]).length) := ⟨_, Lib.hid rfl⟩; rw [← HL9.out] at hown1 htl1 hblk; rw [← HL9.out]; have hchg : Chg (blk (.slice xa z.length xc)) (wr9.alloc (.cells #[.string y1] StringT)).drew w2 := Chg.grown hgr1 _ (fun k hk => by simp [blk, hk]); have hvr : VarA G ChanT #[.int .i64 me, .int .i64 peer, .int .i64 next, v3, v4, .int .i64 (got + (j : Int)), .slice (some ⟨a6, j * 2, none⟩) r cc, v7, .slice xa z.length xc] w2 := ⟨(hchg.block G VD.out.lt (row_off flatString CD.out.x VD.out (by decide))).trans VD.out.row⟩; have g8 : w2.cell? ⟨G, 8, none⟩ = some (.slice xa z.length xc) := hvr.cell 8; have u8 := hvr.free 8)
        all_goals
          have C2 : CO lo v3 v4 (.slice (some ⟨a6, 0, none⟩) L.length k6) v7 (.slice (some ⟨a9, 0, none⟩) l9 k9) f3 f4 [a6] f7 (blk (.slice (some ⟨a9, 0, none⟩) l9 k9)) qs ss L os (z ++ [y1]) w2 := by
            refine ⟨layStringS.chg CD.out.q hchg CD.out.ap, layPendingS.chg CD.out.s hchg ?_, layEarlyS.chg CD.out.e hchg ?_, layIntS.chg CD.out.o hchg ?_, hown1, fun g hg hg2 => ?_⟩
            · exact fun g hg hm => rows_off flatPending flatString CD.out.s CD.out.x (by decide) g hg hm
            · exact fun g hg hm => rows_off flatEarly flatString CD.out.e CD.out.x (by decide) g hg hm
            · exact fun g hg hm => rows_off flatIntP flatString CD.out.o CD.out.x (by decide) g hg hm
            · rcases htl1 with h9 | h9
              · exact CD.out.ap g hg (h9 ▸ hg2)
              · have h10 := h9 g hg2
                exact absurd (layStringS.blocks CD.out.q g hg).2 (Nat.not_lt.2 h10)
          have B2 := BD.out.trans hbe1
          have S8 : Only G w2 (w2.setCell ⟨G, 8, none⟩ (.slice (some ⟨a9, 0, none⟩) l9 k9)) := Only.setCell 8 _
          have V3 : Hid (VarA G ChanT #[.int .i64 me, .int .i64 peer, .int .i64 next, v3, v4, .int .i64 (got + (j : Int)), .slice (some ⟨a6, j * 2, none⟩) r cc, v7, .slice (some ⟨a9, 0, none⟩) l9 k9] (w2.setCell ⟨G, 8, none⟩ (.slice (some ⟨a9, 0, none⟩) l9 k9))) := Lib.hid (hvr.set 8 _)
          have C3 := Lib.hid (C2.only S8 hvr (by decide) (by decide) (by decide) (by decide))
          have B3 := Lib.hid (B2.trans (only_below S8 hlg (Nat.le_trans hlo B2.size)))
          clear C2 B2 S8 hvr g8 u8 hchg hown1 hnn1 htl1 hgr1 hbe1 hblk CD BD VD e6 e8 c5 c6 c8 b0 b1 hws
          generalize w2.setCell ⟨G, 8, none⟩ (.slice (some ⟨a9, 0, none⟩) l9 k9) = w3 at *
          clear w2
          have c5 : w3.cell? ⟨G, 5, none⟩ = some (.int .i64 (got + (j : Int))) := V3.out.cell 5
          have u5 := V3.out.free 5
          have S5 : Only G w3 (w3.setCell ⟨G, 5, none⟩ (.int .i64 (got + (j : Int) + 1))) := Only.setCell 5 _
          have V4 : Hid (VarA G ChanT #[.int .i64 me, .int .i64 peer, .int .i64 next, v3, v4, .int .i64 (got + (j : Int) + 1), .slice (some ⟨a6, j * 2, none⟩) r cc, v7, .slice (some ⟨a9, 0, none⟩) l9 k9] (w3.setCell ⟨G, 5, none⟩ (.int .i64 (got + (j : Int) + 1)))) := Lib.hid (V3.out.set 5 _)
          have C4 := Lib.hid (C3.out.only S5 V3.out (by decide) (by decide) (by decide) (by decide))
          have B4 := Lib.hid (B3.out.trans (only_below S5 hlg (Nat.le_trans hlo B3.out.size)))
          have HZ2 : Hid (z ++ [y1] = xs ++ (L.take (j + 1)).map (·.2)) := Lib.hid (by
            rw [HT1.out, List.map_append, ← List.append_assoc, ← HZ.out]
            rfl)
          clear S5 C3 B3
          go_upto_region 3 with fail
          clear V3
          generalize w3.setCell ⟨G, 5, none⟩ (.int .i64 (got + (j : Int) + 1)) = w4 at *
          clear c5 u5 w3
          have c6 : w4.cell? ⟨G, 6, none⟩ = some (.slice (some ⟨a6, j * 2, none⟩) r cc) := V4.out.cell 6
          have u6 := V4.out.free 6
          have hr4 : ¬ ((r : Int) < 1) := by omega
          have hr5 : (1 : Int) ≤ (r : Int) := by omega
          have hrc : r ≤ cc := by have h1 := HRR.out; have h2 := HCC.out; omega
          have hr6 : (1 : Int) ≤ (cc : Int) := by omega
          have QQ : Hid (r - 1 = L.length - (j + 1)) := Lib.hid (by have h1 := HRR.out; omega)
          have QR : Hid (cc - 1 = k6 - (j + 1)) := Lib.hid (by have h1 := HCC.out; omega)
          have q4 : got + ((j + 1 : Nat) : Int) = got + (j : Int) + 1 := by omega
          by_cases hcc : cc = 1
          · have hend : Hid (j + 1 = L.length) := Lib.hid (by have h1 := HRR.out; omega)
            have S6 : Only G w4 (w4.setCell ⟨G, 6, none⟩ (.slice (some ⟨a6, j * 2, none⟩) (r - 1) 0)) := Only.setCell 6 _
            have V5 : Hid (VarA G ChanT #[.int .i64 me, .int .i64 peer, .int .i64 next, v3, v4, .int .i64 (got + (j : Int) + 1), .slice (some ⟨a6, j * 2, none⟩) (r - 1) 0, v7, .slice (some ⟨a9, 0, none⟩) l9 k9] (w4.setCell ⟨G, 6, none⟩ (.slice (some ⟨a6, j * 2, none⟩) (r - 1) 0))) := Lib.hid (V4.out.set 6 _)
            have C5 := Lib.hid (C4.out.only S6 V4.out (by decide) (by decide) (by decide) (by decide))
            have B5 := Lib.hid (B4.out.trans (only_below S6 hlg (Nat.le_trans hlo B4.out.size)))
            clear S6
            go_wp2_with fail
            go_roundg (L.length - (j + 1))
            case measure => have := hjg; omega
            case rel =>
              refine ⟨j + 1, some ⟨a6, j * 2, none⟩, r - 1, 0, some ⟨a9, 0, none⟩, k9, z ++ [y1], blk (.slice (some ⟨a9, 0, none⟩) l9 k9), by omega, QQ, Lib.hid (by have h1 := QR.out; omega), (fun h => absurd h (by have := hend.out; omega)), (fun h => by cases h), HZ2, HDR2, Lib.hid ?_, Lib.hid ?_, ?_⟩
              · rw [q4, ← HL9.out]
                exact V5.out
              · rw [← HL9.out]
                exact C5.out
              · exact B5
          · have S6 : Only G w4 (w4.setCell ⟨G, 6, none⟩ (.slice (some ⟨a6, j * 2 + 2, none⟩) (r - 1) (cc - 1))) := Only.setCell 6 _
            have V5 : Hid (VarA G ChanT #[.int .i64 me, .int .i64 peer, .int .i64 next, v3, v4, .int .i64 (got + (j : Int) + 1), .slice (some ⟨a6, j * 2 + 2, none⟩) (r - 1) (cc - 1), v7, .slice (some ⟨a9, 0, none⟩) l9 k9] (w4.setCell ⟨G, 6, none⟩ (.slice (some ⟨a6, j * 2 + 2, none⟩) (r - 1) (cc - 1)))) := Lib.hid (V4.out.set 6 _)
            have C5 := Lib.hid (C4.out.only S6 V4.out (by decide) (by decide) (by decide) (by decide))
            have B5 := Lib.hid (B4.out.trans (only_below S6 hlg (Nat.le_trans hlo B4.out.size)))
            clear S6
            go_wp2_with fail
            go_roundg (L.length - (j + 1))
            case measure => have := hjg; omega
            case rel =>
              refine ⟨j + 1, some ⟨a6, j * 2 + 2, none⟩, r - 1, cc - 1, some ⟨a9, 0, none⟩, k9, z ++ [y1], blk (.slice (some ⟨a9, 0, none⟩) l9 k9), by omega, QQ, QR, (fun h => by simp only [Option.some.injEq, Addr.mk.injEq, and_true, true_and]; omega), (fun h => by cases h), HZ2, HDR2, Lib.hid ?_, Lib.hid ?_, B5⟩
              · rw [q4, ← HL9.out]
                exact V5.out
              · rw [← HL9.out]
                exact C5.out
      · have k9 : (y0 == got + (j : Int) + 1) = false := by rw [beq_eq_false_iff_ne]; exact hy
        have HJE : Hid (drainN got L = j) := Lib.hid (by rw [HDR.out, HD1.out, drainN, if_neg hy, Nat.add_zero])
        have HE := Lib.hid (HEND.out HJE.out)
        clear hy HEND
        go_wp2_with fail
        go_quiet (fail)
        go_wp2_with fail
        exact bodyPost_end (results_none rfl _ _ _) rfl (HE.out _ (below_drewN (Below.refl _ _) _))
    · have hr0 : r = 0 := by rw [HRR.out]; omega
      subst hr0
      have HJE : Hid (drainN got L = j) := Lib.hid (by rw [HDR.out, List.drop_eq_nil_of_le (by omega)]; rfl)
      have HE := Lib.hid (HEND.out HJE.out)
      clear HEND
      go_wp2_with fail
      go_quiet (fail)
      go_wp2_with fail
      exact bodyPost_end (results_none rfl _ _ _) rfl (HE.out _ (below_drewN (Below.refl _ _) _))

end Go.Proofs.Ythljmjbmmgligar
