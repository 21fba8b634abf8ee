/-
  A pool that is drawn.
-/
import Derived.Test.YtphmomlgmnllkadJ37
import Derived.Deep.RegionHeld3
namespace Go.Proofs.Ytphmomlgmnllkad
open Go.RowKit

def netLens : List Int := [24, 28, 29, 30]
theorem netLens_nat (x : Int) (h : x ∈ netLens) : ∃ n : Nat, x = n ∧ (n = 24 ∨ n = 28 ∨ n = 29 ∨ n = 30) := by
  simp only [netLens, List.mem_cons, List.not_mem_nil, or_false] at h
  rcases h with rfl | rfl | rfl | rfl
  · exact ⟨24, rfl, .inl rfl⟩
  · exact ⟨28, rfl, .inr (.inl rfl)⟩
  · exact ⟨29, rfl, .inr (.inr (.inl rfl))⟩
  · exact ⟨30, rfl, .inr (.inr (.inr rfl))⟩

/-- The cursor goes on; one cell of a variable stays. -/
def CS (c : Nat) (a : Option Addr) (len cap : Nat) (V : World) (X : World) : Prop := Cur c a len cap X ∧ Only c V X
theorem CS.next {c : Nat} {a : Option Addr} {len cap : Nat} {V X Y : World} (h : CS c a len cap V X) (hb : Below X.heap.size X Y) : CS c a len cap V Y := ⟨h.1.below hb, h.2.trans (.of_below hb)⟩
theorem CS.step {c : Nat} {a : Option Addr} {len cap : Nat} {V X Y : World} (h : CS c a len cap V X) (hc : Cur c a len cap Y) (ho : Only c X Y) : CS c a len cap V Y := ⟨hc, h.2.trans ho⟩
theorem CS.far {c : Nat} {a : Option Addr} {len cap : Nat} {V X : World} (h : CS c a len cap V X) (hc : c < V.heap.size) {G : Nat} (hG : V.heap.size ≤ G) (j : Nat) (v : Value) : CS c a len cap V (X.setCell ⟨G, j, none⟩ v) :=
  have hb : Below V.heap.size X (X.setCell ⟨G, j, none⟩ v) := (Chg.cell X G j v).below (fun g hg => by rw [List.mem_singleton] at hg; omega) h.2.size
  ⟨h.1.kept hb hc, h.2.behind hb⟩
/-- The region's cell. -/
theorem CS.cell {c : Nat} {a : Option Addr} {len cap : Nat} {V X : World} (h : CS c a len cap V X) {gn : Nat} {v : Value} (hv : V.cell? ⟨gn, 0, none⟩ = some v) (hc : gn ≠ c) : X.cell? ⟨gn, 0, none⟩ = some v := by
  rw [h.2.cell (p := ⟨gn, 0, none⟩) (cell_size (p := ⟨gn, 0, none⟩) hv) hc]
  exact hv

section
variable {c : Nat} {a : Option Addr} {len cap : Nat} {w : World} {gn q : Nat} {pa pn : Int} {lv fv : Value} {ls : List Ls} {fs : List Fx} {X Y : World}
theorem DP.var_grown (h : DP c a len cap w gn q pa pn lv fv ls fs X) (hg : X.grownBy Y fv.ownBlock) : VarA q PoolT #[.int .i64 pa, .int .i64 pn, lv, fv] Y := by
  obtain ⟨k, hf⟩ := h.fo
  obtain ⟨us, hr, _, rfl⟩ := flat_inv flatFixed hf
  have hc : Chg (blk fv) X Y := Chg.grown hg _ (fun j hj => by unfold blk; rw [hj]; simp)
  exact ⟨(hc.block _ h.var.lt (row_off flatFixed hf h.var (by decide))).trans h.var.row⟩
/-- One more is fixed. -/
theorem DP.pushed (h : DP c a len cap w gn q pa pn lv fv ls fs X) {f' : List Nat} {fu : Value} {gs : List Fx} (ho : layFixedS.own Y w.heap.size f' [fu] gs) (hg : X.grownBy Y fv.ownBlock) (hb : Below w.heap.size X Y) : DP c a len cap w gn q pa pn lv fu ls gs (Y.setCell ⟨q, 3, none⟩ fu) := by
  have hvar := h.var_grown hg
  obtain ⟨f, hl⟩ := h.lo
  obtain ⟨k, hf⟩ := h.fo
  have h1 := h.cl
  have h2 := h.lt
  obtain ⟨us, hr, _, rfl⟩ := flat_inv flatFixed hf
  have hc : Chg (blk fv) X Y := Chg.grown hg _ (fun j hj => by unfold blk; rw [hj]; simp)
  have hres : VarA w.heap.size PoolT _ Y := ⟨(hc.block _ h.res.lt (row_off flatFixed hf h.res (by decide))).trans h.res.row⟩
  have hnet : VarA gn PT _ Y := ⟨(hc.block _ h.net.lt (row_off flatFixed hf h.net (by decide))).trans h.net.row⟩
  have hl2 := layLeaseS.chg hl hc (rows_off flatLease flatFixed hl hf (by decide))
  have hc2 := Chg.cell Y q 3 fu
  have hb2 : Below q Y (Y.setCell ⟨q, 3, none⟩ fu) := hc2.below (fun g hg => by rw [List.mem_singleton] at hg; omega) (Nat.le_of_lt hvar.lt)
  have k1 := row_off flatLease hl2 hvar (by decide)
  have k2 := row_off flatFixed ho hvar (by decide)
  exact ⟨(h.cur.kept hb h1).kept hb2 (by omega), (h.only.behind hb).behind (hb2.mono (by omega)), hres.next' hb2 (by omega), hnet.next' hb2 (by omega), hvar.set 3 fu, ⟨f, layLeaseS.chg hl2 hc2 (fun g hg hg2 => by rw [List.mem_singleton] at hg2; subst hg2; exact k1 hg)⟩, ⟨f', layFixedS.chg ho hc2 (fun g hg hg2 => by rw [List.mem_singleton] at hg2; subst hg2; exact k2 hg)⟩, h.lt, h.cl⟩
/-- The pool goes into the result. -/
theorem DP.done (h : DP c a len cap w gn q pa pn lv fv ls fs X) :
    (∃ f, layLeaseS.own ((((X.setCell ⟨w.heap.size, 0, none⟩ (.int .i64 pa)).setCell ⟨w.heap.size, 1, none⟩ (.int .i64 pn)).setCell ⟨w.heap.size, 2, none⟩ lv).setCell ⟨w.heap.size, 3, none⟩ fv) w.heap.size f [lv] ls) ∧ (∃ f, layFixedS.own ((((X.setCell ⟨w.heap.size, 0, none⟩ (.int .i64 pa)).setCell ⟨w.heap.size, 1, none⟩ (.int .i64 pn)).setCell ⟨w.heap.size, 2, none⟩ lv).setCell ⟨w.heap.size, 3, none⟩ fv) w.heap.size f [fv] fs) ∧
    Cur c a len cap ((((X.setCell ⟨w.heap.size, 0, none⟩ (.int .i64 pa)).setCell ⟨w.heap.size, 1, none⟩ (.int .i64 pn)).setCell ⟨w.heap.size, 2, none⟩ lv).setCell ⟨w.heap.size, 3, none⟩ fv) ∧ Only c w ((((X.setCell ⟨w.heap.size, 0, none⟩ (.int .i64 pa)).setCell ⟨w.heap.size, 1, none⟩ (.int .i64 pn)).setCell ⟨w.heap.size, 2, none⟩ lv).setCell ⟨w.heap.size, 3, none⟩ fv) := by
  obtain ⟨f, hl⟩ := h.lo
  obtain ⟨k, hf⟩ := h.fo
  have hc := chg_four X w.heap.size (.int .i64 pa) (.int .i64 pn) lv fv
  have hb : Below w.heap.size X ((((X.setCell ⟨w.heap.size, 0, none⟩ (.int .i64 pa)).setCell ⟨w.heap.size, 1, none⟩ (.int .i64 pn)).setCell ⟨w.heap.size, 2, none⟩ lv).setCell ⟨w.heap.size, 3, none⟩ fv) := hc.below (fun g hg => by rw [List.mem_singleton] at hg; omega) h.only.size
  have k1 := row_off flatLease hl h.res (by decide)
  have k2 := row_off flatFixed hf h.res (by decide)
  exact ⟨⟨f, layLeaseS.chg hl hc (fun g hg hg2 => by rw [List.mem_singleton] at hg2; subst hg2; exact k1 hg)⟩, ⟨k, layFixedS.chg hf hc (fun g hg hg2 => by rw [List.mem_singleton] at hg2; subst hg2; exact k2 hg)⟩, h.cur.kept hb h.cl, h.only.behind hb⟩
end

set_option maxRecDepth 100000 in
set_option maxHeartbeats 3200000 in
theorem pool_any {c : Nat} {a : Option Addr} {len cap : Nat} (w : World) (H : Cur c a len cap w) :
    Calls Try.prog 12 #[.pointer (some ⟨c, 0, none⟩)] w fun e w' => ∃ (pa pn : Int) (lv fv : Value) (ls : List Ls) (fs : List Fx), PoolOkP pa pn ls fs ∧ e = .returned (.agg #[.int .i64 pa, .int .i64 pn, lv, fv]) ∧ (∃ f, layLeaseS.own w' w.heap.size f [lv] ls) ∧ (∃ f, layFixedS.own w' w.heap.size f [fv] fs) ∧ Cur c a len cap w' ∧ Only c w w' := by
  have hcs : c < w.heap.size := cell_size (p := ⟨c, 0, none⟩) H.c0
  have hB0 : Below w.heap.size w (w.alloc (.cells #[.int .i64 0, .int .i64 0, .slice none 0 0, .slice none 0 0] PoolT)) := (Below.refl _ _).alloc (Nat.le_refl _) _
  have R0 := Lib.hid (VarA.new w PoolT #[.int .i64 0, .int .i64 0, .slice none 0 0, .slice none 0 0])
  have HC := Lib.hid (H.below hB0)
  have HO := Lib.hid (show Only c w _ from .of_below hB0)
  clear H hB0
  go_enter Try.func12, Try.ntmps12
  go_upto_region 1 with fail
  generalize w.alloc (.cells #[.int .i64 0, .int .i64 0, .slice none 0 0, .slice none 0 0] PoolT) = Y0 at *
  have hcy : c < Y0.heap.size := Nat.lt_of_lt_of_le hcs HO.out.size
  have hb1 : Below Y0.heap.size Y0 (Y0.alloc (.cells #[.int .i64 24, .int .i64 28, .int .i64 29, .int .i64 30] 3)) := (Below.refl _ _).alloc (Nat.le_refl _) _
  have C1 := Lib.hid (HC.out.below hb1)
  have O1 := Lib.hid (HO.out.trans (.of_below hb1))
  have R1 := Lib.hid (R0.out.next hb1)
  clear hb1
  go_wp2_with fail
  refine (pickInt_any Y0.heap.size 4 netLens rfl (by omega) (by omega) (by omega) _ C1.out ?_).mono ?_
  · intro j hj
    have h4 : j = 0 ∨ j = 1 ∨ j = 2 ∨ j = 3 := by omega
    rcases h4 with rfl | rfl | rfl | rfl <;> simp [netLens]
  rintro e Y1 ⟨x, hx, rfl, hc1, ho1⟩
  obtain ⟨n, rfl, hn⟩ := netLens_nat x hx
  have hf : firstP 167772160 n = 167772160 := by rcases hn with rfl | rfl | rfl | rfl <;> decide
  have NT := Lib.hid (net_drawn n hn)
  have K1 := Lib.hid (specPrefixOf_yes 167772160 n (by omega) (by omega))
  rw [hf] at K1
  have C2 := Lib.hid hc1
  have O2 := Lib.hid (O1.out.trans ho1)
  have R2 := Lib.hid (R1.out.only ho1 (by omega))
  clear hc1 ho1 hx C1 O1 R1 HC HO R0 hn hf hcy
  go_wp2_with fail
  refine (K1.out _).mono ?_
  rintro e Y2 ⟨rfl, hb2⟩
  have C3 := Lib.hid (C2.out.below hb2)
  have O3 := Lib.hid (O2.out.trans (.of_below hb2))
  have R3 := Lib.hid (R2.out.next hb2)
  clear hb2 C2 O2 R2 K1
  go_upto_region 2 with fail
  have hb4 : Below Y2.heap.size Y2 (Y2.alloc (.cells #[.int .i64 167772160, .int .i64 (n : Int)] PT)) := (Below.refl _ _).alloc (Nat.le_refl _) _
  have e1 : (Y2.alloc (.cells #[.int .i64 167772160, .int .i64 (n : Int)] PT)).heap.size = Y2.heap.size + 1 := by simp
  have hb5 : Below (Y2.alloc (.cells #[.int .i64 167772160, .int .i64 (n : Int)] PT)).heap.size (Y2.alloc (.cells #[.int .i64 167772160, .int .i64 (n : Int)] PT)) ((Y2.alloc (.cells #[.int .i64 167772160, .int .i64 (n : Int)] PT)).alloc (.cells #[.int .i64 167772160, .int .i64 (n : Int), .slice none 0 0, .slice none 0 0] PoolT)) := (Below.refl _ _).alloc (Nat.le_refl _) _
  have hv := VarA.new (Y2.alloc (.cells #[.int .i64 167772160, .int .i64 (n : Int)] PT)) PoolT #[.int .i64 167772160, .int .i64 (n : Int), .slice none 0 0, .slice none 0 0]
  rw [e1] at hv
  have D0 : Hid (DP c a len cap w Y2.heap.size (Y2.heap.size + 1) 167772160 n (.slice none 0 0) (.slice none 0 0) [] [] ((Y2.alloc (.cells #[.int .i64 167772160, .int .i64 (n : Int)] PT)).alloc (.cells #[.int .i64 167772160, .int .i64 (n : Int), .slice none 0 0, .slice none 0 0] PoolT))) :=
    ⟨(C3.out.below hb4).below hb5, (O3.out.trans (.of_below hb4)).trans (.of_below hb5), (R3.out.next hb4).next hb5, (VarA.new Y2 PT _).next hb5, hv, ⟨[], rows_none _ _⟩, ⟨[], rows_none _ _⟩, ⟨Nat.lt_of_lt_of_le (Nat.lt_succ_self _) R3.out.lt, Nat.lt_succ_self _⟩, hcs⟩
  clear hb4 hb5 hv e1 C3 O3 R3
  go_upto_region 3 with fail
  generalize (Y2.alloc (.cells #[.int .i64 167772160, .int .i64 (n : Int)] PT)).alloc (.cells #[.int .i64 167772160, .int .i64 (n : Int), .slice none 0 0, .slice none 0 0] PoolT) = Y3 at *
  generalize Y2.heap.size = gn at *
  generalize Y0.heap.size = gy at *
  clear Y2 Y1 Y0
  go_wp2_with fail
  go_loopw [6] (fun i wr => ∃ (k : Nat) (fv : Value) (fs : List Fx), k ≤ 2 ∧ i = .int .i64 k ∧ Hid (FixesR 167772160 n fs ∧ fs.length ≤ k ∧ ∀ f ∈ fs, f.1 ≤ 3 * k) ∧ DP c a len cap w gn (gn + 1) 167772160 n (.slice none 0 0) fv [] fs wr) (fun i _ => 3 - (intOf i).toNat)
  case atStart => exact ⟨0, _, [], by omega, rfl, ⟨fixes_nil _ _, by simp, by simp⟩, D0.out⟩
  case round =>
    obtain ⟨k, fv, fs, hk, rfl, HF, hd⟩ := hrel
    have D1 := Lib.hid hd
    clear hd D0
    go_wp2_with fail
    refine (below_any 3 (by omega) (by omega) _ D1.out.cur).mono ?_
    rintro e w1 ⟨y, y0, y1, rfl, hc1, ho1⟩
    have D2 := Lib.hid (D1.out.step hc1 ho1)
    clear D1 hc1 ho1
    obtain ⟨f0, hf0⟩ := D2.out.fo
    obtain ⟨fa, fc, rfl⟩ := rows_form (layFixedS.read hf0)
    clear hf0
    have hcl := D2.out.cl
    have hgl := D2.out.lt
    have hnl := D2.out.net.lt
    by_cases hlt : (k : Int) < y
    · have c0 : w1.cell? ⟨gn, 0, none⟩ = some (.int .i64 167772160) := D2.out.net.cell 0
      have hcw : c < w1.heap.size := by omega
      have S0 : Hid (∀ X, CS c a len cap w1 X → X.cell? ⟨gn, 0, none⟩ = some (.int .i64 167772160) ∧ CS c a len cap w1 X) := fun X hX => ⟨hX.cell c0 (by omega), hX⟩
      have CS0 : Hid (CS c a len cap w1 w1) := ⟨D2.out.cur, Only.refl _ _⟩
      have KB : Hid (∀ (X : World) (m : Int), 0 < m → m ≤ 9 → (X.cell? ⟨gn, 0, none⟩ = some (.int .i64 167772160) ∧ CS c a len cap w1 X) → Calls Try.prog 15 #[.pointer (some ⟨c, 0, none⟩), .int .i64 m] X fun e Y => ∃ z : Int, 0 ≤ z ∧ z ≤ m - 1 ∧ e = .returned (.int .i64 z) ∧ (Y.cell? ⟨gn, 0, none⟩ = some (.int .i64 167772160) ∧ CS c a len cap w1 Y) ∧ Only c X Y) := fun X m hm hm2 hX => by
        refine (below_any m hm (by omega) X hX.2.1).mono ?_
        rintro e Y ⟨z, z0, z1, rfl, hc, ho⟩
        exact ⟨z, z0, z1, rfl, S0.out _ (hX.2.step hc ho), ho⟩
      have y2 : (k : Int) ≤ 1 := by omega
      have hm1 : IntKind.i64.wrap (3 * (k : Int)) = 3 * (k : Int) := by rw [IntKind.wrap_i64]; omega
      have hm2 : IntKind.i64.wrap (3 * (k : Int) + 1) = 3 * (k : Int) + 1 := by rw [IntKind.wrap_i64]; omega
      have hm3 : IntKind.i64.wrap (167772161 : Int) = 167772161 := by rw [IntKind.wrap_i64]; omega
      go_wp2_with fail
      go_cut [7] (fun v wx => ∃ (G : Nat) (who ad : Int), v = .pointer (some ⟨G, 0, none⟩) ∧ (3 * (k : Int) + 1 ≤ who ∧ who ≤ 3 * (k : Int) + 3) ∧ (167772161 ≤ ad ∧ ad ≤ 167772165) ∧ w1.heap.size ≤ G ∧ VarA G FiT #[.int .i64 who, .int .i64 ad] wx ∧ CS c a len cap w1 wx)
      case first =>
        go_region_held3 (fun X => X.cell? ⟨gn, 0, none⟩ = some (.int .i64 167772160) ∧ CS c a len cap w1 X) (first | (with_reducible assumption) | (with_reducible exact S0.out _ (CS.next CS0.out ((Below.refl _ _).drew))) | (with_reducible exact S0.out _ (CS.next (CS.next CS0.out ((Below.refl _ _).alloc (Nat.le_refl _) _)) ((Below.refl _ _).drew))) | (with_reducible exact S0.out _ (CS.next CS0.out ((Below.refl _ _).alloc (Nat.le_refl _) _))) | (with_reducible exact S0.out _ (CS.next hS.2 ((Below.refl _ _).drew))) | (with_reducible exact S0.out _ (CS.next hS.2 ((Below.refl _ _).alloc (Nat.le_refl _) _))) | (with_reducible exact S0.out _ (CS.next (CS.next hS.2 ((Below.refl _ _).alloc (Nat.le_refl _) _)) ((Below.refl _ _).drew))) | (with_reducible exact S0.out _ (CS.next (CS.next CS0.out ((Below.refl _ _).drew)) ((Below.refl _ _).alloc (Nat.le_refl _) _))) | (exact S0.out _ (CS.far (CS.far hS.2 hcw (by omega) _ _) hcw (by omega) _ _))) (first | (go_at_call 15; refine (KB.out _ _ (by omega) (by omega) (by assumption)).mono ?_; rintro e v1 ⟨z, z0, z1, rfl, hS, ho⟩; have hw1 : IntKind.i64.wrap (3 * (k : Int) + 1 + z) = 3 * (k : Int) + 1 + z := (by rw [IntKind.wrap_i64]; omega); have hw2 : IntKind.i64.wrap (167772161 + z) = 167772161 + z := (by rw [IntKind.wrap_i64]; omega); (first | (have rr := VarA.only rr ho (by first | omega | (show w1.heap.size ≠ c; omega))) | (have rr := VarA.only (VarA.drew rr) ho (by first | omega | (show w1.heap.size ≠ c; omega))) | (have rr := VarA.only (VarA.new _ FiT #[Value.int IntKind.i64 0, Value.int IntKind.i64 0]) ho (by first | omega | (show w1.heap.size ≠ c; omega))) | (have rr := VarA.only (VarA.drew (VarA.new _ FiT #[Value.int IntKind.i64 0, Value.int IntKind.i64 0])) ho (by first | omega | (show w1.heap.size ≠ c; omega))) | skip); (first | (have r0 := rr.cell 0; have r1 := rr.cell 1; have g0 := rr.free 0; have g1 := rr.free 1) | skip); have hz := hS.2.2.size))
        all_goals
          go_wp2_with fail
          go_meet
          first
            | (refine ⟨_, _, _, rfl, ?_, ?_, ?_, VarA.new _ _ _, CS.next hS.2 ((Below.refl _ _).alloc (Nat.le_refl _) _)⟩ <;> omega)
            | (refine ⟨_, _, _, rfl, ?_, ?_, ?_, (rr.set 0 _).set 1 _, CS.far (CS.far hS.2 hcw (by omega) _ _) hcw (by omega) _ _⟩ <;> omega)
      case rest =>
        obtain ⟨G, who, ad, rfl, hwho, had, hG, hV, hcs⟩ := hcut
        generalize wc = w2 at *
        have D3 := Lib.hid (D2.out.step hcs.1 hcs.2)
        have V3 := Lib.hid hV
        clear hV hcs S0 CS0 KB D2 c0 hcw
        have c0 : w2.cell? ⟨gn + 1, 0, none⟩ = some (.int .i64 167772160) := D3.out.var.cell 0
        have c1 : w2.cell? ⟨gn + 1, 1, none⟩ = some (.int .i64 (n : Int)) := D3.out.var.cell 1
        have c2 : w2.cell? ⟨gn + 1, 2, none⟩ = some (.slice none 0 0) := D3.out.var.cell 2
        have c3 : w2.cell? ⟨gn + 1, 3, none⟩ = some (.slice fa fs.length fc) := D3.out.var.cell 3
        have v1 : w2.cell? ⟨G, 1, none⟩ = some (.int .i64 ad) := V3.out.cell 1
        have KI := Lib.hid (specInside_any 167772160 n (.slice none 0 0) (.slice fa fs.length fc) [] fs ad w2 D3.out.pool)
        have hfl := HF.out.2.1
        go_wp2_with fail
        refine (KI.out).mono ?_
        rintro e w3 ⟨rfl, hb3⟩
        have D4 := Lib.hid (D3.out.next hb3)
        have V4 := Lib.hid (V3.out.next hb3)
        clear hb3 D3 V3 c0 c1 c2 c3 v1 KI
        have HSAME : Hid (FixesR 167772160 n fs ∧ fs.length ≤ k + 1 ∧ ∀ f ∈ fs, f.1 ≤ 3 * ((k + 1 : Nat) : Int)) := ⟨HF.out.1, by omega, fun f hf => by have := HF.out.2.2 f hf; omega⟩
        cases hins : insideP 167772160 n ad with
        | false =>
          go_wp2_with fail
          go_roundw
          case rel => exact ⟨k + 1, _, fs, by omega, by go_num, HSAME, D4.out⟩
          case measure => simp [intOf]; omega
        | true =>
          have c0 : w3.cell? ⟨gn + 1, 0, none⟩ = some (.int .i64 167772160) := D4.out.var.cell 0
          have c1 : w3.cell? ⟨gn + 1, 1, none⟩ = some (.int .i64 (n : Int)) := D4.out.var.cell 1
          have c2 : w3.cell? ⟨gn + 1, 2, none⟩ = some (.slice none 0 0) := D4.out.var.cell 2
          have c3 : w3.cell? ⟨gn + 1, 3, none⟩ = some (.slice fa fs.length fc) := D4.out.var.cell 3
          have v1 : w3.cell? ⟨G, 1, none⟩ = some (.int .i64 ad) := V4.out.cell 1
          have KF := Lib.hid (specFixedFor_any 167772160 n (.slice none 0 0) (.slice fa fs.length fc) [] fs ad (by omega) w3 D4.out.pool)
          go_wp2_with fail
          refine (KF.out).mono ?_
          rintro e w4 ⟨rfl, hb4⟩
          have D5 := Lib.hid (D4.out.next hb4)
          have V5 := Lib.hid (V4.out.next hb4)
          clear hb4 D4 V4 c0 c1 c2 c3 v1 KF
          by_cases hfx : fixedP fs ad = 0
          · have HNEW : Hid (FixesR 167772160 n (fs ++ [(who, ad)]) ∧ (fs ++ [(who, ad)]).length ≤ k + 1 ∧ ∀ f ∈ fs ++ [(who, ad)], f.1 ≤ 3 * ((k + 1 : Nat) : Int)) := by
              refine ⟨HF.out.1.push ⟨by omega, by omega⟩ (fun f hf => by have := HF.out.2.2 f hf; omega) hins hfx, by rw [List.length_append]; simp; omega, fun f hf => ?_⟩
              rcases List.mem_append.1 hf with h | h
              · have := HF.out.2.2 f h; omega
              · rw [List.mem_singleton] at h
                subst h
                show who ≤ _
                omega
            obtain ⟨i0, hi, hz0, hsz0, hby0⟩ := info_of infoFixed
            have c3 : w4.cell? ⟨gn + 1, 3, none⟩ = some (.slice fa fs.length fc) := D5.out.var.cell 3
            have e0 : w4.cell? ⟨G, 0, none⟩ = some (.int .i64 who) := V5.out.cell 0
            have e1 : w4.cell? ⟨G, 1, none⟩ = some (.int .i64 ad) := V5.out.cell 1
            obtain ⟨f0, hf0⟩ := D5.out.fo
            have hws := D5.out.only.size
            rw [hfx]
            clear hins hfx
            go_upto_region 8 with fail
            go_wp2_with (at_builtin; refine wpList_pushF w4 rfl _ _ 27 rfl w.heap.size FiT i0 _ 16 layFixed flatFixed Try.underlying27 hi hz0 hsz0 hby0 rfl (by omega) (.slice fa fs.length fc) f0 fs (by rfl) hf0 (who, ad) #[.int .i64 who, .int .i64 ad] (layFixed_rd.2 rfl) (by rfl) (by omega) hws ?_; intro v' w5 hw1 hw2 hw3 hw4; obtain ⟨g5, c5, rfl, hbk, _, _⟩ := flat_some flatFixed hw1 hw2; have D6 := Lib.hid (D5.out.pushed hw1 hw3 hw4); have V6 := D5.out.var_grown hw3; have s3 : w5.cell? ⟨gn + 1, 3, none⟩ = some (.slice fa fs.length fc) := V6.cell 3; have z3 : w5.frozen? ⟨gn + 1, 3, none⟩ = false := V6.free 3; clear hw1 hw2 hw3 hw4 hbk V6)
            go_roundw
            case rel => exact ⟨k + 1, _, fs ++ [(who, ad)], by omega, by go_num, HNEW, by have h := D6.out; rw [show (fs ++ [(who, ad)]).length = fs.length + 1 by simp] at h; exact h⟩
            case measure => simp [intOf]; omega
          · have hfx' : (fixedP fs ad == 0) = false := by rw [beq_eq_false_iff_ne]; exact hfx
            generalize fixedP fs ad = fz at *
            clear hfx
            go_wp2_with fail
            go_roundw
            case rel => exact ⟨k + 1, _, fs, by omega, by go_num, HSAME, D5.out⟩
            case measure => simp [intOf]; omega
    · have HP0 : Hid (PoolOkP 167772160 n [] fs) := pool_new NT.out.1 NT.out.2.1 NT.out.2.2 HF.out.1 (by have := HF.out.2.1; omega)
      go_wp2_with fail
      go_loopw [8] (fun i wr => ∃ (k : Nat) (lv fv : Value) (ls : List Ls) (fs : List Fx), k ≤ 8 ∧ i = .int .i64 k ∧ Hid (PoolOkP 167772160 n ls fs) ∧ DP c a len cap w gn (gn + 1) 167772160 n lv fv ls fs wr) (fun i _ => 9 - (intOf i).toNat)
      case atStart => exact ⟨0, _, _, [], fs, by omega, rfl, HP0, D2.out⟩
      case round =>
        clear D2 HP0 HF
        obtain ⟨k, lv, fv, ls, fs, hk, rfl, HP, hd⟩ := hrel
        obtain ⟨l0, hl0⟩ := hd.lo
        obtain ⟨f0, hf0⟩ := hd.fo
        obtain ⟨la, lc, rfl⟩ := rows_form (layLeaseS.read hl0)
        obtain ⟨fa, fc, rfl⟩ := rows_form (layFixedS.read hf0)
        have hll : ls.length ≤ 6 := HP.out.1.2.2.2.1
        have hff : fs.length ≤ 4 := HP.out.1.2.2.2.2
        have D1 := Lib.hid hd
        clear hd hl0 hf0
        go_wp2_with fail
        refine (below_any 9 (by omega) (by omega) _ D1.out.cur).mono ?_
        rintro e w2 ⟨y, y0, y1, rfl, hc1, ho1⟩
        have D2 := Lib.hid (D1.out.step hc1 ho1)
        clear D1 hc1 ho1
        by_cases hlt : (k : Int) < y
        · go_wp2_with fail
          refine (once_any 4 (by omega) (by omega) _ D2.out.cur).mono ?_
          rintro e w3 ⟨b, rfl, hc1, ho1⟩
          have D3 := Lib.hid (D2.out.step hc1 ho1)
          clear D2 hc1 ho1
          have KB : Hid (∀ (X : World) (m : Int), 0 < m → m ≤ 30 → DP c a len cap w gn (gn + 1) 167772160 n (.slice la ls.length lc) (.slice fa fs.length fc) ls fs X → Calls Try.prog 15 #[.pointer (some ⟨c, 0, none⟩), .int .i64 m] X fun e Y => ∃ z : Int, 0 ≤ z ∧ z ≤ m - 1 ∧ e = .returned (.int .i64 z) ∧ DP c a len cap w gn (gn + 1) 167772160 n (.slice la ls.length lc) (.slice fa fs.length fc) ls fs Y) := fun X m hm hm2 hX => by
            refine (below_any m hm (by omega) X hX.cur).mono ?_
            rintro e Y ⟨z, z0, z1, rfl, hc, ho⟩
            exact ⟨z, z0, z1, rfl, hX.step hc ho⟩
          have D4 := Lib.hid D3.out.drew
          have p0 : w3.cell? ⟨gn + 1, 0, none⟩ = some (.int .i64 167772160) := D3.out.var.cell 0
          have p1 : w3.cell? ⟨gn + 1, 1, none⟩ = some (.int .i64 (n : Int)) := D3.out.var.cell 1
          have p2 : w3.cell? ⟨gn + 1, 2, none⟩ = some (.slice la ls.length lc) := D3.out.var.cell 2
          have p3 : w3.cell? ⟨gn + 1, 3, none⟩ = some (.slice fa fs.length fc) := D3.out.var.cell 3
          cases b with
          | true =>
            have HR : Hid (∀ (who : Int) (X : World), DP c a len cap w gn (gn + 1) 167772160 n (.slice la ls.length lc) (.slice fa fs.length fc) ls fs X → Calls Try.prog 27 #[.agg #[.int .i64 167772160, .int .i64 (n : Int), .slice la ls.length lc, .slice fa fs.length fc], .int .i64 who] X fun e Y => ∃ (g gc kk kc : Nat) (rs : List Ls) (b : Bool), e = .returned (.tuple #[.agg #[.int .i64 167772160, .int .i64 (n : Int), .slice (some ⟨g, 0, none⟩) rs.length gc, .slice (some ⟨kk, 0, none⟩) fs.length kc], .bool b]) ∧ Hid (PoolOkP 167772160 n rs fs) ∧ DP c a len cap w gn (gn + 1) 167772160 n (.slice la ls.length lc) (.slice fa fs.length fc) ls fs Y ∧ Hid (DP c a len cap w gn (gn + 1) 167772160 n (.slice (some ⟨g, 0, none⟩) rs.length gc) (.slice (some ⟨kk, 0, none⟩) fs.length kc) rs fs ((((Y.setCell ⟨gn + 1, 0, none⟩ (.int .i64 167772160)).setCell ⟨gn + 1, 1, none⟩ (.int .i64 (n : Int))).setCell ⟨gn + 1, 2, none⟩ (.slice (some ⟨g, 0, none⟩) rs.length gc)).setCell ⟨gn + 1, 3, none⟩ (.slice (some ⟨kk, 0, none⟩) fs.length kc)))) := fun who X hX => by
              refine (specRelease_any 167772160 n _ _ ls fs who (by omega) (by omega) X hX.pool).mono ?_
              rintro e Y ⟨g, gc, kk, kc, rs, b, rfl, ht, ho, hf, hb⟩
              have hs := hX.only.size
              exact ⟨g, gc, kk, kc, rs, b, rfl, ht.right HP.out, hX.next hb, (hX.next hb).put ⟨[g], layLeaseS.lower ho hs⟩ ⟨[kk], layFixedS.lower hf hs⟩⟩
            go_wp2_with fail
            go_region_with (first | (go_at_call 15; refine (KB.out _ _ (by omega) (by omega) (by first | exact hd | exact D4.out | exact D3.out)).mono ?_; rintro e v1 ⟨z, z0, z1, rfl, hd⟩; have hwz : IntKind.i64.wrap (1 + z) = 1 + z := (by rw [IntKind.wrap_i64]; omega); have p0 : v1.cell? ⟨gn + 1, 0, none⟩ = some (.int .i64 167772160) := hd.var.cell 0; have p1 : v1.cell? ⟨gn + 1, 1, none⟩ = some (.int .i64 (n : Int)) := hd.var.cell 1; have p2 : v1.cell? ⟨gn + 1, 2, none⟩ = some (.slice la ls.length lc) := hd.var.cell 2; have p3 : v1.cell? ⟨gn + 1, 3, none⟩ = some (.slice fa fs.length fc) := hd.var.cell 3) | (go_at_call 27; refine (HR.out _ _ hd).mono ?_; rintro e v2 ⟨g, gc, kk, kc, rs, b, rfl, hok, hd1, hd2⟩; have q0 : v2.cell? ⟨gn + 1, 0, none⟩ = some (.int .i64 167772160) := hd1.var.cell 0; have q1 : v2.cell? ⟨gn + 1, 1, none⟩ = some (.int .i64 (n : Int)) := hd1.var.cell 1; have q2 : v2.cell? ⟨gn + 1, 2, none⟩ = some (.slice la ls.length lc) := hd1.var.cell 2; have q3 : v2.cell? ⟨gn + 1, 3, none⟩ = some (.slice fa fs.length fc) := hd1.var.cell 3; have g0 := hd1.var.free 0; have g1 := hd1.var.free 1; have g2 := hd1.var.free 2; have g3 := hd1.var.free 3))
            all_goals
              go_wp2_with fail
              go_roundw
              case rel => exact ⟨k + 1, _, _, rs, fs, by omega, by go_num, hok, hd2.out⟩
              case measure => simp [intOf]; omega
          | false =>
            have HR : Hid (∀ (who now : Int) (X : World), DP c a len cap w gn (gn + 1) 167772160 n (.slice la ls.length lc) (.slice fa fs.length fc) ls fs X → Calls Try.prog 28 #[.agg #[.int .i64 167772160, .int .i64 (n : Int), .slice la ls.length lc, .slice fa fs.length fc], .int .i64 who, .int .i64 now] X fun e Y => ∃ (g gc kk kc : Nat) (rs : List Ls) (u : Int) (b : Bool), e = .returned (.tuple #[.agg #[.int .i64 167772160, .int .i64 (n : Int), .slice (some ⟨g, 0, none⟩) rs.length gc, .slice (some ⟨kk, 0, none⟩) fs.length kc], .int .i64 u, .bool b]) ∧ Hid (PoolOkP 167772160 n rs fs) ∧ DP c a len cap w gn (gn + 1) 167772160 n (.slice la ls.length lc) (.slice fa fs.length fc) ls fs Y ∧ Hid (DP c a len cap w gn (gn + 1) 167772160 n (.slice (some ⟨g, 0, none⟩) rs.length gc) (.slice (some ⟨kk, 0, none⟩) fs.length kc) rs fs ((((Y.setCell ⟨gn + 1, 0, none⟩ (.int .i64 167772160)).setCell ⟨gn + 1, 1, none⟩ (.int .i64 (n : Int))).setCell ⟨gn + 1, 2, none⟩ (.slice (some ⟨g, 0, none⟩) rs.length gc)).setCell ⟨gn + 1, 3, none⟩ (.slice (some ⟨kk, 0, none⟩) fs.length kc)))) := fun who now X hX => by
              refine (specGrant_any 167772160 n _ _ ls fs who now (by omega) (by omega) X hX.pool).mono ?_
              rintro e Y ⟨g, gc, kk, kc, rs, u, b, rfl, ht, ho, hf, hb⟩
              have hs := hX.only.size
              exact ⟨g, gc, kk, kc, rs, u, b, rfl, ht.right HP.out, hX.next hb, (hX.next hb).put ⟨[g], layLeaseS.lower ho hs⟩ ⟨[kk], layFixedS.lower hf hs⟩⟩
            go_wp2_with fail
            go_region_with (first | (go_at_call 15; refine (KB.out _ _ (by omega) (by omega) (by first | exact hd | exact D4.out | exact D3.out)).mono ?_; rintro e v1 ⟨z, z0, z1, rfl, hd⟩; have hwz : IntKind.i64.wrap (1 + z) = 1 + z := (by rw [IntKind.wrap_i64]; omega); have p0 : v1.cell? ⟨gn + 1, 0, none⟩ = some (.int .i64 167772160) := hd.var.cell 0; have p1 : v1.cell? ⟨gn + 1, 1, none⟩ = some (.int .i64 (n : Int)) := hd.var.cell 1; have p2 : v1.cell? ⟨gn + 1, 2, none⟩ = some (.slice la ls.length lc) := hd.var.cell 2; have p3 : v1.cell? ⟨gn + 1, 3, none⟩ = some (.slice fa fs.length fc) := hd.var.cell 3) | (go_at_call 28; refine (HR.out _ _ _ hd).mono ?_; rintro e v2 ⟨g, gc, kk, kc, rs, u, b, rfl, hok, hd1, hd2⟩; have q0 : v2.cell? ⟨gn + 1, 0, none⟩ = some (.int .i64 167772160) := hd1.var.cell 0; have q1 : v2.cell? ⟨gn + 1, 1, none⟩ = some (.int .i64 (n : Int)) := hd1.var.cell 1; have q2 : v2.cell? ⟨gn + 1, 2, none⟩ = some (.slice la ls.length lc) := hd1.var.cell 2; have q3 : v2.cell? ⟨gn + 1, 3, none⟩ = some (.slice fa fs.length fc) := hd1.var.cell 3; have g0 := hd1.var.free 0; have g1 := hd1.var.free 1; have g2 := hd1.var.free 2; have g3 := hd1.var.free 3))
            all_goals
              go_wp2_with fail
              go_roundw
              case rel => exact ⟨k + 1, _, _, rs, fs, by omega, by go_num, hok, hd2.out⟩
              case measure => simp [intOf]; omega
        · have p0 : w2.cell? ⟨gn + 1, 0, none⟩ = some (.int .i64 167772160) := D2.out.var.cell 0
          have p1 : w2.cell? ⟨gn + 1, 1, none⟩ = some (.int .i64 (n : Int)) := D2.out.var.cell 1
          have p2 : w2.cell? ⟨gn + 1, 2, none⟩ = some (.slice la ls.length lc) := D2.out.var.cell 2
          have p3 : w2.cell? ⟨gn + 1, 3, none⟩ = some (.slice fa fs.length fc) := D2.out.var.cell 3
          have q0 : w2.cell? ⟨w.heap.size, 0, none⟩ = some (.int .i64 0) := D2.out.res.cell 0
          have q1 : w2.cell? ⟨w.heap.size, 1, none⟩ = some (.int .i64 0) := D2.out.res.cell 1
          have q2 : w2.cell? ⟨w.heap.size, 2, none⟩ = some (.slice none 0 0) := D2.out.res.cell 2
          have q3 : w2.cell? ⟨w.heap.size, 3, none⟩ = some (.slice none 0 0) := D2.out.res.cell 3
          have g0 := D2.out.res.free 0
          have g1 := D2.out.res.free 1
          have g2 := D2.out.res.free 2
          have g3 := D2.out.res.free 3
          have R4 := set_four D2.out.res (p := .int .i64 167772160) (q := .int .i64 (n : Int)) (r := .slice la ls.length lc) (s := .slice fa fs.length fc)
          have j0 := R4.cell 0
          have j1 := R4.cell 1
          have j2 := R4.cell 2
          have j3 := R4.cell 3
          have FIN := Lib.hid D2.out.done
          clear R4
          go_wp2_with fail
          exact bodyPost_ret (v := .agg #[.int .i64 167772160, .int .i64 (n : Int), .slice la ls.length lc, .slice fa fs.length fc]) (by simp [results, Try.results12, go_sem, j0, j1, j2, j3]) rfl ⟨_, _, _, _, ls, fs, HP.out, rfl, FIN.out.1, FIN.out.2.1, FIN.out.2.2.1, FIN.out.2.2.2⟩

end Go.Proofs.Ytphmomlgmnllkad
