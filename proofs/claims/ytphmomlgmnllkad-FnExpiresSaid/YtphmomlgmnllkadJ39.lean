/-
  Pools held against each other by values; whether a list of ints has one.
  A drawn text for sums, and twelve drawn places.
-/
import Derived.Test.YtphmomlgmnllkadJ19
import Derived.Test.YtphmomlgmnllkadJ28
import Derived.Test.YtphmomlgmnllkadJ27
import Derived.BigQuiet
import Derived.Deep.QuietTactic
import Derived.Test.YtphmomlgmnllkadJ37
import Derived.Test.YtphmomlgmnllkadJ36
namespace Go.Proofs.Ytphmomlgmnllkad
open Go.RowKit

theorem leaseFields : Try.prog.underlying 37 = some (.struct (Try.prog.fieldsOf 37)) := by kernel_rfl
theorem leaseStood : Try.prog.stoodInHeld 37 = false := by kernel_rfl
set_option maxRecDepth 100000 in
theorem lease_same (a b c : Int) (w : World) : (Op.equalIn 10000 37 (.agg #[.int .i64 a, .int .i64 b, .int .i64 c]) (.agg #[.int .i64 a, .int .i64 b, .int .i64 c])).run Try.prog w = .ok true w := by
  have u3 := Try.underlying3
  have a3 := Try.isAgg3
  have z3 := Try.sizeOf3
  rw [show (10000 : Nat) = 9999 + 1 from rfl, run_equalIn_agg w 9999 37 _ _ leaseFields leaseStood]
  simp only [Program.fieldsOf, Try.underlying37]
  go_simp

set_option maxRecDepth 100000 in
set_option maxHeartbeats 1600000 in
theorem samePool_same (pa pn : Int) (lv fv lu fu : Value) (ls : List Ls) (fs : List Fx) (hl : ls.length ≤ 100000000) (w : World) (h : PoolR w lv fv ls fs) (k : PoolR w lu fu ls fs) :
    Calls Try.prog 11 #[.agg #[.int .i64 pa, .int .i64 pn, lv, fv], .agg #[.int .i64 pa, .int .i64 pn, lu, fu]] w fun e w' => e = .returned (.bool true) ∧ Below w.heap.size w w' := by
  obtain ⟨la, lc, rfl⟩ := rows_form h.leases
  obtain ⟨fa, fc, rfl⟩ := rows_form h.fixes
  obtain ⟨ka, kc, rfl⟩ := rows_form k.leases
  obtain ⟨ga, gc, rfl⟩ := rows_form k.fixes
  have e1 : (w.alloc (.cells #[.int .i64 pa, .int .i64 pn, .slice la ls.length lc, .slice fa fs.length fc] PoolT)).heap.size = w.heap.size + 1 := by simp
  have A0 := Lib.hid ((VarA.new w PoolT #[.int .i64 pa, .int .i64 pn, .slice la ls.length lc, .slice fa fs.length fc]).alloc (.cells #[.int .i64 pa, .int .i64 pn, .slice ka ls.length kc, .slice ga fs.length gc] PoolT))
  have A1' := VarA.new (w.alloc (.cells #[.int .i64 pa, .int .i64 pn, .slice la ls.length lc, .slice fa fs.length fc] PoolT)) PoolT #[.int .i64 pa, .int .i64 pn, .slice ka ls.length kc, .slice ga fs.length gc]
  rw [e1] at A1'
  have A1 := Lib.hid A1'
  have B0 := Lib.hid (((Below.refl w.heap.size w).alloc (Nat.le_refl _) (.cells #[.int .i64 pa, .int .i64 pn, .slice la ls.length lc, .slice fa fs.length fc] PoolT)).alloc (by simp) (.cells #[.int .i64 pa, .int .i64 pn, .slice ka ls.length kc, .slice ga fs.length gc] PoolT))
  have HL := Lib.hid h.leases
  have KL := Lib.hid k.leases
  have hq0 := fun X => pref_same pa pn X
  clear A1' e1 h k
  go_enter Try.func11, Try.ntmps11
  go_upto_region 1 with fail
  generalize (w.alloc (.cells #[.int .i64 pa, .int .i64 pn, .slice la ls.length lc, .slice fa fs.length fc] PoolT)).alloc (.cells #[.int .i64 pa, .int .i64 pn, .slice ka ls.length kc, .slice ga fs.length gc] PoolT) = Y0 at *
  have a0 : Y0.cell? ⟨w.heap.size, 0, none⟩ = some (.int .i64 pa) := A0.out.cell 0
  have a1 : Y0.cell? ⟨w.heap.size, 1, none⟩ = some (.int .i64 pn) := A0.out.cell 1
  have a2 : Y0.cell? ⟨w.heap.size, 2, none⟩ = some (.slice la ls.length lc) := A0.out.cell 2
  have a3 : Y0.cell? ⟨w.heap.size, 3, none⟩ = some (.slice fa fs.length fc) := A0.out.cell 3
  have b0 : Y0.cell? ⟨w.heap.size + 1, 0, none⟩ = some (.int .i64 pa) := A1.out.cell 0
  have b1 : Y0.cell? ⟨w.heap.size + 1, 1, none⟩ = some (.int .i64 pn) := A1.out.cell 1
  have b2 : Y0.cell? ⟨w.heap.size + 1, 2, none⟩ = some (.slice ka ls.length kc) := A1.out.cell 2
  have b3 : Y0.cell? ⟨w.heap.size + 1, 3, none⟩ = some (.slice ga fs.length gc) := A1.out.cell 3
  go_wp2_with fail
  clear a0 a1 a2 a3 b0 b1 b2 b3
  go_loopw [5] (fun c wr => ∃ j : Nat, j ≤ ls.length ∧ c = .int .i64 j ∧ Below Y0.heap.size Y0 wr) (fun c _ => ls.length - (intOf c).toNat)
  case atStart => exact ⟨0, Nat.zero_le _, rfl, Below.refl _ _⟩
  case round =>
    obtain ⟨j, hj, rfl, hb2⟩ := hrel
    have HB := Lib.hid hb2
    have a2 : wr.cell? ⟨w.heap.size, 2, none⟩ = some (.slice la ls.length lc) := (A0.out.next hb2).cell 2
    have b2 : wr.cell? ⟨w.heap.size + 1, 2, none⟩ = some (.slice ka ls.length kc) := (A1.out.next hb2).cell 2
    have BW := Lib.hid (B0.out.trans (hb2.mono B0.out.size))
    clear hb2
    by_cases hlt : j < ls.length
    · have hlt' : (j : Int) < (ls.length : Int) := by omega
      obtain ⟨g, off, cs, rfl, hg, hr, hc⟩ := rows_elem (layLeaseS.below HL.out BW.out) j _ (List.getElem?_eq_getElem hlt)
      obtain ⟨g2, off2, cs2, rfl, hg2, hr2, hc2⟩ := rows_elem (layLeaseS.below KL.out BW.out) j _ (List.getElem?_eq_getElem hlt)
      rw [layLease_rd] at hr hr2
      subst hr hr2
      generalize ls[j] = x at hc hc2
      obtain ⟨x0, x1, x2⟩ := x
      have d0 : wr.cell? ⟨g, off + j * 3, none⟩ = some (.int .i64 x0) := hc 0 _ rfl
      have d1 : wr.cell? ⟨g, off + j * 3 + 1, none⟩ = some (.int .i64 x1) := hc 1 _ rfl
      have d2 : wr.cell? ⟨g, off + j * 3 + 2, none⟩ = some (.int .i64 x2) := hc 2 _ rfl
      have k0 : wr.cell? ⟨g2, off2 + j * 3, none⟩ = some (.int .i64 x0) := hc2 0 _ rfl
      have k1 : wr.cell? ⟨g2, off2 + j * 3 + 1, none⟩ = some (.int .i64 x1) := hc2 1 _ rfl
      have k2 : wr.cell? ⟨g2, off2 + j * 3 + 2, none⟩ = some (.int .i64 x2) := hc2 2 _ rfl
      have hq := fun X => lease_same x0 x1 x2 X
      clear hc hc2
      go_wp2_with fail
      go_quiet (fail)
      go_wp2_with fail
      go_roundw
      case rel => exact ⟨j + 1, by omega, by go_num, below_drewN HB.out _⟩
      case measure => simp [intOf]; omega
    · have hlt' : ¬ ((j : Int) < (ls.length : Int)) := by omega
      go_wp2_with fail
      go_ret
      exact ⟨rfl, BW.out⟩

set_option maxRecDepth 100000 in
set_option maxHeartbeats 800000 in
theorem in_any (v : Value) (xs : List Int) (x : Int) (hl : xs.length ≤ 100000000) (w : World) (h : layIntS.rd w [v] xs) :
    Calls Try.prog 9 #[v, .int .i64 x] w fun e w' => e = .returned (.bool (decide (x ∈ xs))) ∧ w' = w := by
  obtain ⟨ao, cp, rfl⟩ := rows_form h
  have HR := Lib.hid h
  clear h
  go_enter Try.func9, Try.ntmps9
  go_wp2_with fail
  go_loop [5] (fun c => ∃ j : Nat, j ≤ xs.length ∧ c = .int .i64 j ∧ ∀ i, (hi : i < xs.length) → i < j → xs[i] ≠ x) (fun c => xs.length - (intOf c).toNat)
  case atStart => exact ⟨0, Nat.zero_le _, rfl, fun i _ h => absurd h (by omega)⟩
  case round =>
    obtain ⟨j, hj, rfl, hno⟩ := hrel
    have HNO := Lib.hid hno
    clear hno
    by_cases hlt : j < xs.length
    · have hlt' : (j : Int) < (xs.length : Int) := by omega
      obtain ⟨g, off, cap, hv, hg, hcell⟩ := ints_get HR.out j hlt
      simp only [Value.slice.injEq] at hv
      obtain ⟨rfl, -, rfl⟩ := hv
      by_cases he : xs[j] = x
      · have HY : Hid (decide (x ∈ xs) = true) := decide_eq_true (by rw [← he]; exact List.getElem_mem hlt)
        rw [he] at hcell
        clear he
        go_wp2_with fail
        go_ret
        exact ⟨by rw [HY.out]; rfl, rfl⟩
      · have he' : (xs[j] == x) = false := by rw [beq_eq_false_iff_ne]; exact he
        have HNX : Hid (∀ i, (hi : i < xs.length) → i < j + 1 → xs[i] ≠ x) := fun i hi h => by
          rcases Nat.lt_or_ge i j with h2 | h2
          · exact HNO.out i hi h2
          · have : i = j := by omega
            subst this
            exact he
        generalize xs[j] = y at hcell he'
        clear he
        go_wp2_with fail
        go_round
        case rel => exact ⟨j + 1, by omega, by go_num, HNX.out⟩
        case measure => simp [intOf]; omega
    · have hlt' : ¬ ((j : Int) < (xs.length : Int)) := by omega
      have HY : Hid (decide (x ∈ xs) = false) := decide_eq_false (fun hm => by
        obtain ⟨i, hi, he⟩ := List.getElem_of_mem hm
        exact HNO.out i hi (by omega) he)
      go_wp2_with fail
      go_ret
      exact ⟨by rw [HY.out]; rfl, rfl⟩

end Go.Proofs.Ytphmomlgmnllkad
namespace Go.Proofs.Ytphmomlgmnllkad
open Go.RowKit

theorem infoIntP : (Try.prog.info? 3).map (fun i => (i.zero, i.size, i.bytes)) = some (some (.int .i64 0), 1, 8) := by kernel_rfl

/-- The slice value v is nil or the call's own (from block 'base' on), and holds these numbers. -/
def OwnI (w : World) (base : Nat) (e : TypeId) (v : Value) (zs : List Int) : Prop := w.ownsRow base e 1 v zs.length (zs.map (Value.int .i64))

theorem OwnI.lit (w : World) (base : Nat) (e : TypeId) (hb : base ≤ w.heap.size) : OwnI (w.alloc (.cells #[] e)) base e (.slice (some ⟨w.heap.size, 0, none⟩) 0 0) [] :=
  World.ownsRow_lit w #[] 0 hb (by decide) rfl

theorem OwnI.only {c : Nat} {w w' : World} {base : Nat} {e : TypeId} {v : Value} {xs : List Int} (h : OwnI w base e v xs) (ho : Only c w w') (hc : c < base) : OwnI w' base e v xs := by
  have h' : w.ownsRow base e 1 v xs.length (xs.map (Value.int .i64)) := h
  refine ⟨h'.1, ?_⟩
  rcases h'.2 with hn | ⟨g, cap, cur, hv, hb, hg, rest⟩
  · exact .inl hn
  · have hl : g < w.heap.size := by
      rcases Nat.lt_or_ge g w.heap.size with h2 | h2
      · exact h2
      · simp [Array.getElem?_eq_none h2] at hg
    exact .inr ⟨g, cap, cur, hv, hb, by rw [ho.block g hl (by omega)]; exact hg, rest⟩

theorem OwnI.form {w : World} {base : Nat} {e : TypeId} {v : Value} {xs : List Int} (h : OwnI w base e v xs) (h0 : 0 < xs.length) : ∃ g cap, v = .slice (some ⟨g, 0, none⟩) xs.length cap ∧ g < w.heap.size ∧
    ∀ j, j < xs.length → w.cell? ⟨g, j, none⟩ = some (.int .i64 (xs.getD j 0)) := by
  have h' : w.ownsRow base e 1 v xs.length (xs.map (Value.int .i64)) := h
  rcases h'.2 with ⟨rfl, hz⟩ | ⟨g, cap, cur, rfl, hb, hh, _, _, _, _⟩
  · omega
  · refine ⟨g, cap, rfl, lt_of_block hh, fun j hj => ?_⟩
    rw [h'.cellAt j (by omega)]
    simp [hj]

theorem push_cellsI (w : World) (e : TypeId) (z : Int) :
    ∀ j u, [Value.int .i64 z][j]? = some u → (w.alloc (.cells #[.int .i64 z] e)).cell? ((⟨w.heap.size, 0, none⟩ : Addr).add j) = some u := by
  intro j u hj
  match j, hj with
  | 0, hj => simp at hj; subst hj; simp [Addr.add]

/-- 'out = append(out, x)': out a row of numbers of the call's own. -/
theorem wpList_pushI {P : Program} (w : World) {ops : Array Oper} {rest : List Oper} {o : Oper} {a : Act} {Q : Exit → Act → World → Prop} (hgd : o.guard = none) (s x : Operand) (t : TypeId)
    (ho : o.op = .call { callee := .builtin .append, args := #[s, x], argTypes := #[t, t] })
    (base : Nat) (e : TypeId) (i : TypeInfo) (ht : P.underlying t = some (.slice e)) (hi : P.info? e = some i) (hz : i.zero = some (.int .i64 0))
    (hsize : i.size = 1) (hby : i.bytes = 8) (v : Value) (xs : List Int) (hs : a.eval s = v) (hown : OwnI w base e v xs)
    (z : Int) (hx : a.eval x = .slice (some ⟨w.heap.size, 0, none⟩) 1 1)
    (hlen : xs.length + 1 ≤ 1000000000) (hbase : base ≤ w.heap.size)
    (h : ∀ v' w', OwnI w' base e v' (xs ++ [z]) → Below base w w' → wpList P ops Q rest (a.put o.dst v') w') :
    wpList P ops Q (o :: rest) a (w.alloc (.cells #[.int .i64 z] e)) := by
  refine wpList_append_own (w.alloc (.cells #[.int .i64 z] e)) hgd s x t ho base e i (.int .i64 0) 1 8 ht hi hz hsize hby rfl (by decide) v xs.length (xs.map (Value.int .i64)) hs (World.ownsRow.alloc hown _) ⟨w.heap.size, 0, none⟩ 1 1 [.int .i64 z] hx rfl (push_cellsI w e z) (by intro u hu; simp at hu; subst hu; rfl) (by unfold maxLen; omega) (by omega) (by simp; omega) ?_
  intro v' w' h1 h2 _
  refine h v' w' ?_ ?_
  · unfold OwnI
    rw [List.length_append, List.map_append]
    exact h1
  · exact ((Below.refl base w).alloc hbase _).grown h2 (by simp; omega) (fun k hk => (World.ownsRow.lt hown k hk).1)

/-- How a draw of places ends. -/
def DrewPlaces (w : World) (e : Ending) (w' : World) : Prop :=
  ∃ (g cap : Nat) (zs : List Int), zs.length = 12 ∧ (∀ z ∈ zs, 0 ≤ z ∧ z ≤ 9999) ∧ e = .returned (.slice (some ⟨g, 0, none⟩) 12 cap) ∧ g < w'.heap.size ∧ (∀ j, j < 12 → w'.cell? ⟨g, j, none⟩ = some (.int .i64 (zs.getD j 0))) ∧ Below w.heap.size w w'

set_option maxRecDepth 100000 in
set_option maxHeartbeats 800000 in
theorem drawPlaces_any (a : Option Addr) (len cap : Nat) (w : World) (H : Src a len w) :
    Calls Try.prog 6 #[.slice a len cap] w (DrewPlaces w) := by
  obtain ⟨i0, hi, hz0, hz1, hz2⟩ := info_parts infoIntP
  have HS := Lib.hid H
  clear H
  go_enter Try.func6, Try.ntmps6
  go_wp2_with fail
  refine (new_any a len cap _ HS.out).mono ?_
  rintro e w1 ⟨c, rfl, hc, hcur, hb⟩
  have HC1 := Lib.hid hcur
  have HB1 := Lib.hid hb
  clear hcur hb
  go_wp2_with fail
  refine (byte_any _ HC1.out).mono ?_
  rintro e w2 ⟨x, x0, x1, rfl, hcur, ho⟩
  have HC2 := Lib.hid hcur
  have HB2 := Lib.hid (HB1.out.trans (ho.below hc HB1.out.size))
  have hcs : c < w2.heap.size := cell_size (p := ⟨c, 0, none⟩) hcur.c0
  clear hcur ho HC1 HB1
  go_wp2
  go_loopw [4, 5] (fun v i wr => ∃ (k : Nat) (zs : List Int), k ≤ 12 ∧ zs.length = k ∧ (∀ z ∈ zs, 0 ≤ z ∧ z ≤ 9999) ∧ i = .int .i64 k ∧ OwnI wr w2.heap.size 3 v zs ∧ Cur c a len cap wr ∧ Only c w2 wr) (fun _ i _ => 12 - (intOf i).toNat)
  case atStart =>
    have hb := (Below.refl w2.heap.size w2).alloc (Nat.le_refl _) (.cells #[] 3)
    exact ⟨0, [], Nat.zero_le _, rfl, fun z hz => (by cases hz), rfl, OwnI.lit _ _ _ (Nat.le_refl _), HC2.out.below hb, .of_below hb⟩
  case round =>
    obtain ⟨k, zs, hk, hl, hzs, rfl, hown, hc1, ho⟩ := hrel
    have HC1 := Lib.hid hc1
    have HO1 := Lib.hid ho
    have HW := Lib.hid hown
    have HL := Lib.hid hl
    have HZ := Lib.hid hzs
    clear hc1 ho hown hl hzs HC2
    by_cases hlt : (k : Int) < 12
    · go_wp2_with fail
      refine (below_any 10000 (by omega) (by omega) _ HC1.out).mono ?_
      rintro e w3 ⟨y, y0, y1, rfl, hc2, ho2⟩
      have HC2 := Lib.hid hc2
      have HO2 := Lib.hid ho2
      have hw2 := HW.out.only ho2 hcs
      have hsz := Nat.le_trans HO1.out.size ho2.size
      have hl2 := HL.out
      clear hc2 ho2
      go_wp2_with (at_builtin; refine wpList_pushI _ rfl _ _ 31 rfl w2.heap.size 3 i0 Try.underlying31 hi hz0 hz1 hz2 _ _ rfl hw2 _ rfl (by omega) hsz ?_)
      intro v' w4 hown2 hnx2
      go_wp2
      go_roundw
      case rel =>
        refine ⟨k + 1, zs ++ [y], by omega, by simp [hl2], fun z hz => ?_, by go_num, hown2, HC2.out.kept hnx2 hcs, (HO1.out.trans HO2.out).behind hnx2⟩
        rcases List.mem_append.1 hz with h | h
        · exact HZ.out z h
        · simp at h; subst h; omega
      case measure => simp [intOf]; omega
    · have hk12 : k = 12 := by omega
      obtain ⟨g, cp, rfl, hg, hcell⟩ := HW.out.form (by have := HL.out; omega)
      have HG := Lib.hid hcell
      clear hcell
      go_wp2
      go_ret
      refine ⟨g, cp, zs, by rw [HL.out, hk12], HZ.out, by rw [HL.out, hk12]; rfl, hg, fun j hj => HG.out j (by rw [HL.out, hk12]; exact hj), HB2.out.trans (HO1.out.below hc HB2.out.size)⟩

end Go.Proofs.Ytphmomlgmnllkad
