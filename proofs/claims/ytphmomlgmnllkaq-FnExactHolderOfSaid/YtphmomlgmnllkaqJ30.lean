/-
  The given Grant.
-/
import Derived.Test.YtphmomlgmnllkaqJ28
import Derived.Test.YtphmomlgmnllkaqJ29
namespace Go.Proofs.Ytphmomlgmnllkaq
open Go.RowKit

def aheadL (a : Int) (l : Ls) : Bool := decide (l.1 < a)
def behindL (a : Int) (l : Ls) : Bool := decide (a < l.1)
def NoOne (ls : List Ls) (who : Int) : Prop := ∀ (j : Nat) (x : Ls), ls[j]? = some x → x.2.1 ≠ who
def GrOk (pa pn : Int) (ls : List Ls) (fs : List Fx) (who now : Int) : Prop := PoolOkP pa pn ls fs ∧ (1 ≤ who ∧ who ≤ 99) ∧ (0 ≤ now ∧ now ≤ 999999980)
/-- What Grant tells. -/
def GrTold (pa pn : Int) (ls : List Ls) (fs : List Fx) (who now : Int) (rs : List Ls) (a : Int) (b : Bool) : Prop :=
  (b = false ∧ a = 0 ∧ rs = ls ∧ (¬ GrOk pa pn ls fs who now ∨ (NoOne ls who ∧ (ls.length = 6 ∨ freeP pa pn ls fs who = 0)))) ∨
  (b = true ∧ GrOk pa pn ls fs who now ∧ ∃ (k : Nat) (l : Ls), ls[k]? = some l ∧ l.2.1 = who ∧ (∀ j, j < k → ∀ x, ls[j]? = some x → x.2.1 ≠ who) ∧ rs = ls.set k (l.1, l.2.1, now + 20) ∧ a = l.1) ∨
  (b = true ∧ GrOk pa pn ls fs who now ∧ NoOne ls who ∧ ls.length ≠ 6 ∧ freeP pa pn ls fs who ≠ 0 ∧ a = freeP pa pn ls fs who ∧ rs = ls.filter (aheadL a) ++ [(a, who, now + 20)] ++ ls.filter (behindL a))
theorem GrTold.no {pa pn : Int} {ls : List Ls} {fs : List Fx} {who now : Int} (h : ¬ GrOk pa pn ls fs who now ∨ (NoOne ls who ∧ (ls.length = 6 ∨ freeP pa pn ls fs who = 0))) : GrTold pa pn ls fs who now ls 0 false := .inl ⟨rfl, rfl, rfl, h⟩
def GrGives (pa pn : Int) (ls : List Ls) (fs : List Fx) (who now : Int) (w : World) (e : Ending) (w' : World) : Prop :=
  ∃ (g gc k kc : Nat) (rs : List Ls) (a : Int) (b : Bool), e = .returned (.tuple #[.agg #[.int .i64 pa, .int .i64 pn, .slice (some ⟨g, 0, none⟩) rs.length gc, .slice (some ⟨k, 0, none⟩) fs.length kc], .int .i64 a, .bool b]) ∧ GrTold pa pn ls fs who now rs a b ∧ layLeaseS.own w' w.heap.size [g] [.slice (some ⟨g, 0, none⟩) rs.length gc] rs ∧ layFixedS.own w' w.heap.size [k] [.slice (some ⟨k, 0, none⟩) fs.length kc] fs ∧ Below w.heap.size w w'
/-- The copy goes into the result. -/
theorem gr_out {w X : World} {pa pn who now a : Int} {ls rs : List Ls} {fs : List Fx} {m mc k kc : Nat} {b : Bool} (hb : Below w.heap.size w X) (hr : VarA (w.heap.size + 1) PoolT #[.int .i64 0, .int .i64 0, .slice none 0 0, .slice none 0 0] X) (ho : layLeaseS.own X w.heap.size [m] [.slice (some ⟨m, 0, none⟩) rs.length mc] rs) (hf : layFixedS.own X w.heap.size [k] [.slice (some ⟨k, 0, none⟩) fs.length kc] fs) (ht : GrTold pa pn ls fs who now rs a b) :
    GrGives pa pn ls fs who now w (.returned (.tuple #[.agg #[.int .i64 pa, .int .i64 pn, .slice (some ⟨m, 0, none⟩) rs.length mc, .slice (some ⟨k, 0, none⟩) fs.length kc], .int .i64 a, .bool b])) ((((X.setCell ⟨w.heap.size + 1, 0, none⟩ (.int .i64 pa)).setCell ⟨w.heap.size + 1, 1, none⟩ (.int .i64 pn)).setCell ⟨w.heap.size + 1, 2, none⟩ (.slice (some ⟨m, 0, none⟩) rs.length mc)).setCell ⟨w.heap.size + 1, 3, none⟩ (.slice (some ⟨k, 0, none⟩) fs.length kc)) := by
  have CS := chg_four X (w.heap.size + 1) (.int .i64 pa) (.int .i64 pn) (.slice (some ⟨m, 0, none⟩) rs.length mc) (.slice (some ⟨k, 0, none⟩) fs.length kc)
  have h1 := row_off flatLease ho hr (by decide)
  have h2 := row_off flatFixed hf hr (by decide)
  exact ⟨m, mc, k, kc, rs, a, b, rfl, ht, layLeaseS.chg ho CS (fun j hj hj2 => by rw [List.mem_singleton] at hj2; subst hj2; exact h1 hj), layFixedS.chg hf CS (fun j hj hj2 => by rw [List.mem_singleton] at hj2; subst hj2; exact h2 hj), hb.trans (CS.below (fun j hj => by rw [List.mem_singleton] at hj; omega) hb.size)⟩

theorem GrGives.drew {pa pn : Int} {ls : List Ls} {fs : List Fx} {who now : Int} {w : World} {e : Ending} {X : World} (h : GrGives pa pn ls fs who now w e X) : GrGives pa pn ls fs who now w e X.drew := by
  obtain ⟨g, gc, k, kc, rs, a, b, h1, h2, h3, h4, h5⟩ := h
  have hb : Below X.heap.size X X.drew := (Below.refl _ X).drew
  exact ⟨g, gc, k, kc, rs, a, b, h1, h2, layLeaseS.next h3 hb, layFixedS.next h4 hb, h5.trans (hb.mono h5.size)⟩

set_option maxRecDepth 100000 in
set_option maxHeartbeats 6400000 in
theorem specGrant_any (pa pn : Int) (lv fv : Value) (ls : List Ls) (fs : List Fx) (who now : Int) (hl : ls.length ≤ 100000000) (hfl : fs.length ≤ 100000000) (w : World) (h : PoolR w lv fv ls fs) :
    Calls Try.prog 7 #[.agg #[.int .i64 pa, .int .i64 pn, lv, fv], .int .i64 who, .int .i64 now] w (GrGives pa pn ls fs who now w) := by
  obtain ⟨la, lc, rfl⟩ := rows_form h.leases
  obtain ⟨fa, fc, rfl⟩ := rows_form h.fixes
  obtain ⟨i0, hi, hz0, hsz0, hby0⟩ := info_of infoLease
  have e1 : (w.alloc (.cells #[.int .i64 pa, .int .i64 pn, .slice la ls.length lc, .slice fa fs.length fc] PoolT)).heap.size = w.heap.size + 1 := by simp
  have hB0 : Below w.heap.size w ((w.alloc (.cells #[.int .i64 pa, .int .i64 pn, .slice la ls.length lc, .slice fa fs.length fc] PoolT)).alloc (.cells #[.int .i64 0, .int .i64 0, .slice none 0 0, .slice none 0 0] PoolT)) := ((Below.refl w.heap.size w).alloc (Nat.le_refl _) _).alloc (by simp) _
  have hr0 := VarA.new (w.alloc (.cells #[.int .i64 pa, .int .i64 pn, .slice la ls.length lc, .slice fa fs.length fc] PoolT)) PoolT #[.int .i64 0, .int .i64 0, .slice none 0 0, .slice none 0 0]
  rw [e1] at hr0
  have R0 := Lib.hid hr0
  have P0 : Hid (PB w pa pn (.slice la ls.length lc) (.slice fa fs.length fc) ls fs ((w.alloc (.cells #[.int .i64 pa, .int .i64 pn, .slice la ls.length lc, .slice fa fs.length fc] PoolT)).alloc (.cells #[.int .i64 0, .int .i64 0, .slice none 0 0, .slice none 0 0] PoolT))) := ⟨(VarA.new w PoolT _).alloc _, h.next hB0, hB0⟩
  clear h hr0 e1 hB0
  go_enter Try.func7, Try.ntmps7
  go_upto_region 1 with fail
  generalize (w.alloc (.cells #[.int .i64 pa, .int .i64 pn, .slice la ls.length lc, .slice fa fs.length fc] PoolT)).alloc (.cells #[.int .i64 0, .int .i64 0, .slice none 0 0, .slice none 0 0] PoolT) = Y0 at *
  have k0 : Y0.cell? ⟨w.heap.size, 0, none⟩ = some (.int .i64 pa) := P0.out.box.cell 0
  have k1 : Y0.cell? ⟨w.heap.size, 1, none⟩ = some (.int .i64 pn) := P0.out.box.cell 1
  have k2 : Y0.cell? ⟨w.heap.size, 2, none⟩ = some (.slice la ls.length lc) := P0.out.box.cell 2
  have k3 : Y0.cell? ⟨w.heap.size, 3, none⟩ = some (.slice fa fs.length fc) := P0.out.box.cell 3
  go_wp2_with fail
  refine (specCopy_any pa pn _ _ ls fs hl hfl Y0 P0.out.rd).mono ?_
  rintro e Y1 ⟨g, gc, k, kc, rfl, hlo, hfo, hb1⟩
  have hb2 : Below Y1.heap.size Y1 (Y1.alloc (.cells #[.int .i64 pa, .int .i64 pn, .slice (some ⟨g, 0, none⟩) ls.length gc, .slice (some ⟨k, 0, none⟩) fs.length kc] PoolT)) := (Below.refl _ _).alloc (Nat.le_refl _) _
  have V0 : Hid (RP w pa pn (.slice la ls.length lc) (.slice fa fs.length fc) ls fs Y1.heap.size g gc k kc (Y1.alloc (.cells #[.int .i64 pa, .int .i64 pn, .slice (some ⟨g, 0, none⟩) ls.length gc, .slice (some ⟨k, 0, none⟩) fs.length kc] PoolT))) :=
    ⟨(P0.out.next hb1).next hb2, (R0.out.next hb1).next hb2, VarA.new Y1 PoolT _, layLeaseS.lower (layLeaseS.next hlo hb2) P0.out.below.size, layFixedS.lower (layFixedS.next hfo hb2) P0.out.below.size, Nat.lt_of_lt_of_le R0.out.lt hb1.size⟩
  clear hlo hfo hb1 hb2 P0 R0 k0 k1 k2 k3
  go_upto_region 2 with fail
  generalize Y1.alloc (.cells #[.int .i64 pa, .int .i64 pn, .slice (some ⟨g, 0, none⟩) ls.length gc, .slice (some ⟨k, 0, none⟩) fs.length kc] PoolT) = Y2 at *
  generalize Y1.heap.size = gx at *
  clear Y1 Y0
  obtain ⟨c1, hc1, H1⟩ := range_any who 1 99
  obtain ⟨c2, hc2, H2⟩ := range_any now 0 999999980
  have C1 := Lib.hid hc1
  have C2 := Lib.hid hc2
  clear hc1 hc2
  have k0 : Y2.cell? ⟨w.heap.size, 0, none⟩ = some (.int .i64 pa) := V0.out.pb.box.cell 0
  have k1 : Y2.cell? ⟨w.heap.size, 1, none⟩ = some (.int .i64 pn) := V0.out.pb.box.cell 1
  have k2 : Y2.cell? ⟨w.heap.size, 2, none⟩ = some (.slice la ls.length lc) := V0.out.pb.box.cell 2
  have k3 : Y2.cell? ⟨w.heap.size, 3, none⟩ = some (.slice fa fs.length fc) := V0.out.pb.box.cell 3
  go_wp2_with fail
  refine (specPoolOk_any pa pn _ _ ls fs hl hfl Y2 V0.out.pb.rd).mono ?_
  rintro e X1 ⟨hto, hb1⟩
  have V1 := Lib.hid (V0.out.next hb1)
  clear hb1 V0 k0 k1 k2 k3
  clear Y2
  rcases hto with ⟨hok, rfl⟩ | ⟨hno, rfl⟩
  rotate_left
  · have NP := Lib.hid hno
    clear hno H1 H2 C1 C2
    have o0 : X1.cell? ⟨gx, 0, none⟩ = some (.int .i64 pa) := V1.out.out.cell 0
    have o1 : X1.cell? ⟨gx, 1, none⟩ = some (.int .i64 pn) := V1.out.out.cell 1
    have o2 : X1.cell? ⟨gx, 2, none⟩ = some (.slice (some ⟨g, 0, none⟩) ls.length gc) := V1.out.out.cell 2
    have o3 : X1.cell? ⟨gx, 3, none⟩ = some (.slice (some ⟨k, 0, none⟩) fs.length kc) := V1.out.out.cell 3
    have m0 : X1.cell? ⟨w.heap.size + 1, 0, none⟩ = some (.int .i64 0) := V1.out.res.cell 0
    have m1 : X1.cell? ⟨w.heap.size + 1, 1, none⟩ = some (.int .i64 0) := V1.out.res.cell 1
    have m2 : X1.cell? ⟨w.heap.size + 1, 2, none⟩ = some (.slice none 0 0) := V1.out.res.cell 2
    have m3 : X1.cell? ⟨w.heap.size + 1, 3, none⟩ = some (.slice none 0 0) := V1.out.res.cell 3
    have n0 := V1.out.res.free 0
    have n1 := V1.out.res.free 1
    have n2 := V1.out.res.free 2
    have n3 := V1.out.res.free 3
    have RS := set_four (p := .int .i64 pa) (q := .int .i64 pn) (r := .slice (some ⟨g, 0, none⟩) ls.length gc) (s := .slice (some ⟨k, 0, none⟩) fs.length kc) V1.out.res
    have j0 := RS.cell 0
    have j1 := RS.cell 1
    have j2 := RS.cell 2
    have j3 := RS.cell 3
    have NO := Lib.hid (gr_out (pa := pa) (pn := pn) (who := who) (now := now) V1.out.pb.below V1.out.res V1.out.lown V1.out.fown (GrTold.no (.inl fun h => NP.out h.1)))
    go_wp2_with fail
    exact bodyPost_ret (v := .tuple #[.agg #[.int .i64 pa, .int .i64 pn, .slice (some ⟨g, 0, none⟩) ls.length gc, .slice (some ⟨k, 0, none⟩) fs.length kc], .int .i64 0, .bool false]) (by simp [results, Try.results7, go_sem, j0, j1, j2, j3]) rfl NO.out
  have OK := Lib.hid hok
  clear hok
  go_wp2_with fail
  refine (H1 X1).mono ?_
  rintro e Y ⟨rfl, rfl⟩
  cases c1
  · clear H1 H2
    have o0 : Y.cell? ⟨gx, 0, none⟩ = some (.int .i64 pa) := V1.out.out.cell 0
    have o1 : Y.cell? ⟨gx, 1, none⟩ = some (.int .i64 pn) := V1.out.out.cell 1
    have o2 : Y.cell? ⟨gx, 2, none⟩ = some (.slice (some ⟨g, 0, none⟩) ls.length gc) := V1.out.out.cell 2
    have o3 : Y.cell? ⟨gx, 3, none⟩ = some (.slice (some ⟨k, 0, none⟩) fs.length kc) := V1.out.out.cell 3
    have m0 : Y.cell? ⟨w.heap.size + 1, 0, none⟩ = some (.int .i64 0) := V1.out.res.cell 0
    have m1 : Y.cell? ⟨w.heap.size + 1, 1, none⟩ = some (.int .i64 0) := V1.out.res.cell 1
    have m2 : Y.cell? ⟨w.heap.size + 1, 2, none⟩ = some (.slice none 0 0) := V1.out.res.cell 2
    have m3 : Y.cell? ⟨w.heap.size + 1, 3, none⟩ = some (.slice none 0 0) := V1.out.res.cell 3
    have n0 := V1.out.res.free 0
    have n1 := V1.out.res.free 1
    have n2 := V1.out.res.free 2
    have n3 := V1.out.res.free 3
    have RS := set_four (p := .int .i64 pa) (q := .int .i64 pn) (r := .slice (some ⟨g, 0, none⟩) ls.length gc) (s := .slice (some ⟨k, 0, none⟩) fs.length kc) V1.out.res
    have j0 := RS.cell 0
    have j1 := RS.cell 1
    have j2 := RS.cell 2
    have j3 := RS.cell 3
    have NO := Lib.hid (gr_out (pa := pa) (pn := pn) (who := who) (now := now) V1.out.pb.below V1.out.res V1.out.lown V1.out.fown (GrTold.no (.inl fun h => by have := C1.out.2 h.2.1; cases this)))
    go_wp2_with fail
    exact bodyPost_ret (v := .tuple #[.agg #[.int .i64 pa, .int .i64 pn, .slice (some ⟨g, 0, none⟩) ls.length gc, .slice (some ⟨k, 0, none⟩) fs.length kc], .int .i64 0, .bool false]) (by simp [results, Try.results7, go_sem, j0, j1, j2, j3]) rfl NO.out
  go_wp2_with fail
  refine (H2 Y).mono ?_
  rintro e X1 ⟨rfl, rfl⟩
  cases c2
  · clear H1 H2
    have o0 : X1.cell? ⟨gx, 0, none⟩ = some (.int .i64 pa) := V1.out.out.cell 0
    have o1 : X1.cell? ⟨gx, 1, none⟩ = some (.int .i64 pn) := V1.out.out.cell 1
    have o2 : X1.cell? ⟨gx, 2, none⟩ = some (.slice (some ⟨g, 0, none⟩) ls.length gc) := V1.out.out.cell 2
    have o3 : X1.cell? ⟨gx, 3, none⟩ = some (.slice (some ⟨k, 0, none⟩) fs.length kc) := V1.out.out.cell 3
    have m0 : X1.cell? ⟨w.heap.size + 1, 0, none⟩ = some (.int .i64 0) := V1.out.res.cell 0
    have m1 : X1.cell? ⟨w.heap.size + 1, 1, none⟩ = some (.int .i64 0) := V1.out.res.cell 1
    have m2 : X1.cell? ⟨w.heap.size + 1, 2, none⟩ = some (.slice none 0 0) := V1.out.res.cell 2
    have m3 : X1.cell? ⟨w.heap.size + 1, 3, none⟩ = some (.slice none 0 0) := V1.out.res.cell 3
    have n0 := V1.out.res.free 0
    have n1 := V1.out.res.free 1
    have n2 := V1.out.res.free 2
    have n3 := V1.out.res.free 3
    have RS := set_four (p := .int .i64 pa) (q := .int .i64 pn) (r := .slice (some ⟨g, 0, none⟩) ls.length gc) (s := .slice (some ⟨k, 0, none⟩) fs.length kc) V1.out.res
    have j0 := RS.cell 0
    have j1 := RS.cell 1
    have j2 := RS.cell 2
    have j3 := RS.cell 3
    have NO := Lib.hid (gr_out (pa := pa) (pn := pn) (who := who) (now := now) V1.out.pb.below V1.out.res V1.out.lown V1.out.fown (GrTold.no (.inl fun h => by have := C2.out.2 h.2.2; cases this)))
    go_wp2_with fail
    exact bodyPost_ret (v := .tuple #[.agg #[.int .i64 pa, .int .i64 pn, .slice (some ⟨g, 0, none⟩) ls.length gc, .slice (some ⟨k, 0, none⟩) fs.length kc], .int .i64 0, .bool false]) (by simp [results, Try.results7, go_sem, j0, j1, j2, j3]) rfl NO.out
  obtain ⟨hn0, hn1⟩ := C2.out.1 (by simp)
  have GO : Hid (GrOk pa pn ls fs who now) := ⟨OK.out, C1.out.1 (by simp), hn0, hn1⟩
  clear C1 C2 H1 H2
  have o0 : X1.cell? ⟨gx, 0, none⟩ = some (.int .i64 pa) := V1.out.out.cell 0
  have o1 : X1.cell? ⟨gx, 1, none⟩ = some (.int .i64 pn) := V1.out.out.cell 1
  have o2 : X1.cell? ⟨gx, 2, none⟩ = some (.slice (some ⟨g, 0, none⟩) ls.length gc) := V1.out.out.cell 2
  have o3 : X1.cell? ⟨gx, 3, none⟩ = some (.slice (some ⟨k, 0, none⟩) fs.length kc) := V1.out.out.cell 3
  go_wp2_with fail
  go_loopw [10] (fun c wr => ∃ j : Nat, j ≤ ls.length ∧ c = .int .i64 j ∧ Hid (∀ i, i < j → ∀ x, ls[i]? = some x → x.2.1 ≠ who) ∧ wr = X1) (fun c _ => ls.length - (intOf c).toNat)
  case atStart => exact ⟨0, Nat.zero_le _, rfl, fun j hj => absurd hj (by omega), by first | trivial | rfl⟩
  case round =>
    obtain ⟨j, hj, rfl, HN, rfl⟩ := hrel
    by_cases hlt : j < ls.length
    · have hlt' : (j : Int) < (ls.length : Int) := by omega
      have hget : ls[j]? = some ls[j] := List.getElem?_eq_getElem hlt
      obtain ⟨g', cap', cs, hv, hfg, hgb, hgl, hrx, hcx, hset⟩ := flat_at flatLease V1.out.lown j _ hget
      simp only [Value.slice.injEq, Option.some.injEq, Addr.mk.injEq, and_true, true_and] at hv
      obtain ⟨rfl, rfl⟩ := hv
      rw [layLease_rd] at hrx
      subst hrx
      generalize ls[j] = l at hget hcx hset
      obtain ⟨l0, l1, l2⟩ := l
      obtain ⟨d0, z0⟩ : wr.cell? ⟨g, j * 3, none⟩ = some (.int .i64 l0) ∧ wr.frozen? ⟨g, j * 3, none⟩ = false := hcx 0 _ rfl
      obtain ⟨d1, z1⟩ : wr.cell? ⟨g, j * 3 + 1, none⟩ = some (.int .i64 l1) ∧ wr.frozen? ⟨g, j * 3 + 1, none⟩ = false := hcx 1 _ rfl
      obtain ⟨d2, z2⟩ : wr.cell? ⟨g, j * 3 + 2, none⟩ = some (.int .i64 l2) ∧ wr.frozen? ⟨g, j * 3 + 2, none⟩ = false := hcx 2 _ rfl
      clear hcx hfg
      by_cases hw : l1 = who
      · have hbq : (l1 == who) = true := by rw [beq_iff_eq]; exact hw
        have hup := hset [.int .i64 (now + 20)] 2 (l0, l1, now + 20) (show 2 + 1 ≤ 3 by decide) (by rw [layLease_rd]; rfl)
        have HLEN : Hid ((ls.set j (l0, l1, now + 20)).length = ls.length) := List.length_set
        have L2 : Hid (layLeaseS.own (wr.setCell ⟨g, j * 3 + 2, none⟩ (.int .i64 (now + 20))) w.heap.size [g] [.slice (some ⟨g, 0, none⟩) ls.length gc] (ls.set j (l0, l1, now + 20))) := hup.1
        have UC : Hid (Chg [g] wr (wr.setCell ⟨g, j * 3 + 2, none⟩ (.int .i64 (now + 20)))) := hup.2
        have hg1 := row_off flatLease V1.out.lown V1.out.out (by decide)
        have hg2 := row_off flatLease V1.out.lown V1.out.res (by decide)
        have hg3 := rows_off flatLease flatFixed V1.out.lown V1.out.fown (by decide)
        have hgx : gx ≠ g := fun e => hg1 (by rw [e]; exact List.mem_singleton.2 rfl)
        have hgr : w.heap.size + 1 ≠ g := fun e => hg2 (by rw [e]; exact List.mem_singleton.2 rfl)
        have hfar : w.heap.size + 1 ≠ gx := by have := V1.out.far; omega
        have V2 : Hid (VarA gx PoolT #[.int .i64 pa, .int .i64 pn, .slice (some ⟨g, 0, none⟩) ls.length gc, .slice (some ⟨k, 0, none⟩) fs.length kc] (wr.setCell ⟨g, j * 3 + 2, none⟩ (.int .i64 (now + 20)))) := V1.out.out.off _ _ hgx
        have W2 : Hid (VarA (w.heap.size + 1) PoolT #[.int .i64 0, .int .i64 0, .slice none 0 0, .slice none 0 0] (wr.setCell ⟨g, j * 3 + 2, none⟩ (.int .i64 (now + 20)))) := V1.out.res.off _ _ hgr
        have F2 : Hid (layFixedS.own (wr.setCell ⟨g, j * 3 + 2, none⟩ (.int .i64 (now + 20))) w.heap.size [k] [.slice (some ⟨k, 0, none⟩) fs.length kc] fs) := layFixedS.chg V1.out.fown UC.out (fun x hx hx2 => hg3 x hx2 hx)
        have B2 : Hid (Below w.heap.size w (wr.setCell ⟨g, j * 3 + 2, none⟩ (.int .i64 (now + 20)))) := V1.out.pb.below.trans (UC.out.below (by simp; exact hgb) V1.out.pb.below.size)
        have TO : Hid (GrTold pa pn ls fs who now (ls.set j (l0, l1, now + 20)) l0 true) := .inr (.inl ⟨rfl, GO.out, j, (l0, l1, l2), hget, hw, HN.out, rfl, rfl⟩)
        obtain ⟨g', cap', cs, hv, hfg, _, _, hrx, hcx, _⟩ := flat_at flatLease L2.out j (l0, l1, now + 20) (by rw [List.getElem?_set_self hlt])
        simp only [Value.slice.injEq, Option.some.injEq, Addr.mk.injEq, and_true] at hv
        obtain ⟨rfl, hx, rfl⟩ := hv
        clear hx
        rw [layLease_rd] at hrx
        subst hrx
        have e0 : (wr.setCell ⟨g, j * 3 + 2, none⟩ (.int .i64 (now + 20))).cell? ⟨g, j * 3, none⟩ = some (.int .i64 l0) := (hcx 0 _ rfl).1
        clear hcx hfg
        clear hup hset hget hw HN
        go_upto_region 9 with fail
        generalize wr.setCell ⟨g, j * 3 + 2, none⟩ (.int .i64 (now + 20)) = X2 at *
        clear o0 o1 o2 o3 d0 d1 d2 z0 z1 z2
        have o0 : X2.cell? ⟨gx, 0, none⟩ = some (.int .i64 pa) := V2.out.cell 0
        have o1 : X2.cell? ⟨gx, 1, none⟩ = some (.int .i64 pn) := V2.out.cell 1
        have o2 : X2.cell? ⟨gx, 2, none⟩ = some (.slice (some ⟨g, 0, none⟩) ls.length gc) := V2.out.cell 2
        have o3 : X2.cell? ⟨gx, 3, none⟩ = some (.slice (some ⟨k, 0, none⟩) fs.length kc) := V2.out.cell 3
        have m0 : X2.cell? ⟨w.heap.size + 1, 0, none⟩ = some (.int .i64 0) := W2.out.cell 0
        have m1 : X2.cell? ⟨w.heap.size + 1, 1, none⟩ = some (.int .i64 0) := W2.out.cell 1
        have m2 : X2.cell? ⟨w.heap.size + 1, 2, none⟩ = some (.slice none 0 0) := W2.out.cell 2
        have m3 : X2.cell? ⟨w.heap.size + 1, 3, none⟩ = some (.slice none 0 0) := W2.out.cell 3
        have n0 := W2.out.free 0
        have n1 := W2.out.free 1
        have n2 := W2.out.free 2
        have n3 := W2.out.free 3
        have RS := set_four (p := .int .i64 pa) (q := .int .i64 pn) (r := .slice (some ⟨g, 0, none⟩) ls.length gc) (s := .slice (some ⟨k, 0, none⟩) fs.length kc) W2.out
        have j0 := RS.cell 0
        have j1 := RS.cell 1
        have j2 := RS.cell 2
        have j3 := RS.cell 3
        go_wp2_with fail
        go_region
        have G := gr_out B2.out W2.out (by rw [HLEN.out]; exact L2.out) F2.out TO.out
        rw [HLEN.out] at G
        have GD := Lib.hid G.drew
        clear G
        go_wp2_with fail
        exact bodyPost_ret (v := .tuple #[.agg #[.int .i64 pa, .int .i64 pn, .slice (some ⟨g, 0, none⟩) ls.length gc, .slice (some ⟨k, 0, none⟩) fs.length kc], .int .i64 l0, .bool true]) (by simp [results, Try.results7, go_sem, j0, j1, j2, j3]) rfl GD.out
      · have hbq : (l1 == who) = false := by rw [beq_eq_false_iff_ne]; exact hw
        have HN2 : Hid (∀ i, i < j + 1 → ∀ x, ls[i]? = some x → x.2.1 ≠ who) := fun i hi x hx => by
          rcases Nat.lt_or_ge i j with h1 | h1
          · exact HN.out i h1 x hx
          · have : i = j := by omega
            subst this
            rw [hget] at hx
            cases hx
            exact hw
        clear hw hget hset
        go_wp2_with fail
        go_roundw
        case rel => exact ⟨j + 1, by omega, by go_num, HN2, by first | trivial | rfl⟩
        case measure => simp [intOf]; omega
    · have hlt' : ¬ ((j : Int) < (ls.length : Int)) := by omega
      have NB : Hid (NoOne ls who) := fun i x hx => HN.out i (by have := (List.getElem?_eq_some_iff.1 hx).1; omega) x hx
      clear HN o0 o1 o3
      have k0 : wr.cell? ⟨w.heap.size, 0, none⟩ = some (.int .i64 pa) := V1.out.pb.box.cell 0
      have k1 : wr.cell? ⟨w.heap.size, 1, none⟩ = some (.int .i64 pn) := V1.out.pb.box.cell 1
      have k2 : wr.cell? ⟨w.heap.size, 2, none⟩ = some (.slice la ls.length lc) := V1.out.pb.box.cell 2
      have k3 : wr.cell? ⟨w.heap.size, 3, none⟩ = some (.slice fa fs.length fc) := V1.out.pb.box.cell 3
      go_wp2_with fail
      refine (specFree_any pa pn _ _ ls fs who hl hfl OK.out.1.1 OK.out.1.2.2.1 wr V1.out.pb.rd).mono ?_
      rintro e X2 ⟨rfl, hb2⟩
      have V2 := Lib.hid (V1.out.next hb2)
      clear hb2 V1 k0 k1 k2 k3 o2
      obtain ⟨a, HA⟩ : ∃ a, Hid (a = freeP pa pn ls fs who) := ⟨_, rfl⟩
      rw [← HA.out]
      have k2 : X2.cell? ⟨w.heap.size, 2, none⟩ = some (.slice la ls.length lc) := V2.out.pb.box.cell 2
      by_cases h6 : ls.length = 6
      · have h6q : ((ls.length : Int) == 6) = true := by rw [beq_iff_eq]; omega
        have H6 := Lib.hid h6
        clear h6
        have o0 : X2.cell? ⟨gx, 0, none⟩ = some (.int .i64 pa) := V2.out.out.cell 0
        have o1 : X2.cell? ⟨gx, 1, none⟩ = some (.int .i64 pn) := V2.out.out.cell 1
        have o2 : X2.cell? ⟨gx, 2, none⟩ = some (.slice (some ⟨g, 0, none⟩) ls.length gc) := V2.out.out.cell 2
        have o3 : X2.cell? ⟨gx, 3, none⟩ = some (.slice (some ⟨k, 0, none⟩) fs.length kc) := V2.out.out.cell 3
        have m0 : X2.cell? ⟨w.heap.size + 1, 0, none⟩ = some (.int .i64 0) := V2.out.res.cell 0
        have m1 : X2.cell? ⟨w.heap.size + 1, 1, none⟩ = some (.int .i64 0) := V2.out.res.cell 1
        have m2 : X2.cell? ⟨w.heap.size + 1, 2, none⟩ = some (.slice none 0 0) := V2.out.res.cell 2
        have m3 : X2.cell? ⟨w.heap.size + 1, 3, none⟩ = some (.slice none 0 0) := V2.out.res.cell 3
        have n0 := V2.out.res.free 0
        have n1 := V2.out.res.free 1
        have n2 := V2.out.res.free 2
        have n3 := V2.out.res.free 3
        have RS := set_four (p := .int .i64 pa) (q := .int .i64 pn) (r := .slice (some ⟨g, 0, none⟩) ls.length gc) (s := .slice (some ⟨k, 0, none⟩) fs.length kc) V2.out.res
        have j0 := RS.cell 0
        have j1 := RS.cell 1
        have j2 := RS.cell 2
        have j3 := RS.cell 3
        have NO := Lib.hid (gr_out (pa := pa) (pn := pn) (who := who) (now := now) V2.out.pb.below V2.out.res V2.out.lown V2.out.fown (GrTold.no (.inr ⟨NB.out, .inl H6.out⟩)))
        go_wp2_with fail
        exact bodyPost_ret (v := .tuple #[.agg #[.int .i64 pa, .int .i64 pn, .slice (some ⟨g, 0, none⟩) ls.length gc, .slice (some ⟨k, 0, none⟩) fs.length kc], .int .i64 0, .bool false]) (by simp [results, Try.results7, go_sem, j0, j1, j2, j3]) rfl NO.out
      have h6q : ((ls.length : Int) == 6) = false := by rw [beq_eq_false_iff_ne]; omega
      by_cases ha0 : a = 0
      · have A0 : Hid (freeP pa pn ls fs who = 0) := HA.out.symm.trans ha0
        subst ha0
        have o0 : X2.cell? ⟨gx, 0, none⟩ = some (.int .i64 pa) := V2.out.out.cell 0
        have o1 : X2.cell? ⟨gx, 1, none⟩ = some (.int .i64 pn) := V2.out.out.cell 1
        have o2 : X2.cell? ⟨gx, 2, none⟩ = some (.slice (some ⟨g, 0, none⟩) ls.length gc) := V2.out.out.cell 2
        have o3 : X2.cell? ⟨gx, 3, none⟩ = some (.slice (some ⟨k, 0, none⟩) fs.length kc) := V2.out.out.cell 3
        have m0 : X2.cell? ⟨w.heap.size + 1, 0, none⟩ = some (.int .i64 0) := V2.out.res.cell 0
        have m1 : X2.cell? ⟨w.heap.size + 1, 1, none⟩ = some (.int .i64 0) := V2.out.res.cell 1
        have m2 : X2.cell? ⟨w.heap.size + 1, 2, none⟩ = some (.slice none 0 0) := V2.out.res.cell 2
        have m3 : X2.cell? ⟨w.heap.size + 1, 3, none⟩ = some (.slice none 0 0) := V2.out.res.cell 3
        have n0 := V2.out.res.free 0
        have n1 := V2.out.res.free 1
        have n2 := V2.out.res.free 2
        have n3 := V2.out.res.free 3
        have RS := set_four (p := .int .i64 pa) (q := .int .i64 pn) (r := .slice (some ⟨g, 0, none⟩) ls.length gc) (s := .slice (some ⟨k, 0, none⟩) fs.length kc) V2.out.res
        have j0 := RS.cell 0
        have j1 := RS.cell 1
        have j2 := RS.cell 2
        have j3 := RS.cell 3
        have NO := Lib.hid (gr_out (pa := pa) (pn := pn) (who := who) (now := now) V2.out.pb.below V2.out.res V2.out.lown V2.out.fown (GrTold.no (.inr ⟨NB.out, .inr A0.out⟩)))
        go_wp2_with fail
        exact bodyPost_ret (v := .tuple #[.agg #[.int .i64 pa, .int .i64 pn, .slice (some ⟨g, 0, none⟩) ls.length gc, .slice (some ⟨k, 0, none⟩) fs.length kc], .int .i64 0, .bool false]) (by simp [results, Try.results7, go_sem, j0, j1, j2, j3]) rfl NO.out
      have haq : (a == 0) = false := by rw [beq_eq_false_iff_ne]; exact ha0
      have HA0 := Lib.hid ha0
      have H6 := Lib.hid h6
      clear h6 ha0
      go_wp2_with fail
      go_loopw [12, 13] (fun o c wr => ∃ (j m mc : Nat) (rs : List Ls), j ≤ ls.length ∧ c = .int .i64 j ∧ o = .slice (some ⟨m, 0, none⟩) rs.length mc ∧ Hid (rs = (ls.take j).filter (aheadL a)) ∧ layLeaseS.own wr X2.heap.size [m] [.slice (some ⟨m, 0, none⟩) rs.length mc] rs ∧ Below X2.heap.size X2 wr) (fun _ c _ => ls.length - (intOf c).toNat)
      case atStart => exact ⟨0, X2.heap.size, 0, [], Nat.zero_le _, rfl, rfl, rfl, flat_lit X2 _ (Nat.le_refl _), (Below.refl _ _).alloc (Nat.le_refl _) _⟩
      case round =>
        obtain ⟨j, m, mc, rs, hj, rfl, rfl, HE, hlo, hb⟩ := hrel
        have HLO := Lib.hid hlo
        have HB := Lib.hid hb
        have VV := Lib.hid (V2.out.next hb)
        have hbs := hb.size
        clear hlo hb
        have k2 : wr.cell? ⟨w.heap.size, 2, none⟩ = some (.slice la ls.length lc) := VV.out.pb.box.cell 2
        have hrl : rs.length ≤ 300000000 := by
          have h1 := List.length_filter_le (aheadL a) (ls.take j)
          rw [List.length_take] at h1
          rw [HE.out]
          omega
        by_cases hlt : j < ls.length
        · have hlt' : (j : Int) < (ls.length : Int) := by omega
          have hget : ls[j]? = some ls[j] := List.getElem?_eq_getElem hlt
          obtain ⟨q, off, rfl, hq, d0, d1, d2⟩ := lease_cells VV.out.pb.rd.leases j _ hget
          have hft := filter_take (aheadL a) ls j hlt
          generalize ls[j] = l at hget d0 d1 d2 hft
          obtain ⟨l0, l1, l2⟩ := l
          by_cases hw : l0 < a
          · have hp : aheadL a (l0, l1, l2) = true := decide_eq_true hw
            have HF : Hid (rs ++ [(l0, l1, l2)] = (ls.take (j + 1)).filter (aheadL a)) := by
              show _ = _
              rw [hft, if_pos hp, HE.out]
            have hw1 : l0 < a := hw
            clear hp hft hget HE
            go_wp2_with (at_builtin; refine wpList_pushF wr rfl _ _ 30 rfl X2.heap.size LeT i0 _ 24 layLease flatLease Try.underlying30 hi hz0 hsz0 hby0 rfl (by omega) (.slice (some ⟨m, 0, none⟩) rs.length mc) [m] rs (by rfl) HLO.out (l0, l1, l2) #[.int .i64 l0, .int .i64 l1, .int .i64 l2] (layLease_rd.2 rfl) (by rfl) (by omega) hbs ?_; intro v1 w1 hown1 hnn1 hgr1 hbe1; obtain ⟨m1, mc1, rfl, hblk, _, _⟩ := flat_some flatLease hown1 hnn1; rw [hblk] at hown1)
            go_roundw
            case rel => exact ⟨j + 1, m1, mc1, _, by omega, by go_num, by rw [List.length_append]; rfl, HF, hown1, HB.out.trans hbe1⟩
            case measure => simp [intOf]; omega
          · have hp : aheadL a (l0, l1, l2) = false := decide_eq_false hw
            have HF : Hid (rs = (ls.take (j + 1)).filter (aheadL a)) := by
              show _ = _
              rw [hft, if_neg (by rw [hp]; decide), List.append_nil, HE.out]
            have hw1 : ¬ l0 < a := hw
            clear hp hft hget HE
            go_wp2_with fail
            go_roundw
            case rel => exact ⟨j + 1, m, mc, rs, by omega, by go_num, rfl, HF, HLO.out, HB.out⟩
            case measure => simp [intOf]; omega
        · have hlt' : ¬ ((j : Int) < (ls.length : Int)) := by omega
          have hje : j = ls.length := by omega
          subst hje
          rw [List.take_length] at HE
          have HR := Lib.hid HE.out
          have hRl : rs.length ≤ ls.length := by rw [HE.out]; exact List.length_filter_le _ _
          clear HE
          go_wp2_with (at_builtin; refine wpList_pushF wr rfl _ _ 30 rfl X2.heap.size LeT i0 _ 24 layLease flatLease Try.underlying30 hi hz0 hsz0 hby0 rfl (by omega) (.slice (some ⟨m, 0, none⟩) rs.length mc) [m] rs (by rfl) HLO.out (a, who, now + 20) #[.int .i64 a, .int .i64 who, .int .i64 (now + 20)] (layLease_rd.2 rfl) (by rfl) (by omega) hbs ?_; intro v1 w1 hown1 hnn1 hgr1 hbe1; obtain ⟨m1, mc1, rfl, hblk, _, _⟩ := flat_some flatLease hown1 hnn1; rw [hblk] at hown1)
          have HB0 := HB
          clear HLO VV k2 hrl hj hlt hlt' HB hbs hnn1 hgr1 hblk
          generalize rs = R at *
          go_loopw [12, 14] (fun o c wr => ∃ (j m mc : Nat) (rs : List Ls), j ≤ ls.length ∧ c = .int .i64 j ∧ o = .slice (some ⟨m, 0, none⟩) rs.length mc ∧ Hid (rs = R ++ [(a, who, now + 20)] ++ (ls.take j).filter (behindL a)) ∧ layLeaseS.own wr X2.heap.size [m] [.slice (some ⟨m, 0, none⟩) rs.length mc] rs ∧ Below X2.heap.size X2 wr) (fun _ c _ => ls.length - (intOf c).toNat)
          case atStart => exact ⟨0, m1, mc1, _, Nat.zero_le _, rfl, by rw [List.length_append]; rfl, by show _ = _; rw [List.take_zero, List.filter_nil, List.append_nil], hown1, HB0.out.trans hbe1⟩
          case round =>
            obtain ⟨j, m, mc, rs, hj, rfl, rfl, HE, hlo, hb⟩ := hrel
            have HLO := Lib.hid hlo
            have HB := Lib.hid hb
            have VV := Lib.hid (V2.out.next hb)
            have hbs := hb.size
            clear hlo hb
            have k2 : wr.cell? ⟨w.heap.size, 2, none⟩ = some (.slice la ls.length lc) := VV.out.pb.box.cell 2
            have hrl : rs.length ≤ 300000000 := by
              have h1 := List.length_filter_le (behindL a) (ls.take j)
              rw [List.length_take] at h1
              rw [HE.out]
              rw [List.length_append, List.length_append, List.length_singleton]; omega
            by_cases hlt : j < ls.length
            · have hlt' : (j : Int) < (ls.length : Int) := by omega
              have hget : ls[j]? = some ls[j] := List.getElem?_eq_getElem hlt
              obtain ⟨q, off, rfl, hq, d0, d1, d2⟩ := lease_cells VV.out.pb.rd.leases j _ hget
              have hft := filter_take (behindL a) ls j hlt
              generalize ls[j] = l at hget d0 d1 d2 hft
              obtain ⟨l0, l1, l2⟩ := l
              by_cases hw : a < l0
              · have hp : behindL a (l0, l1, l2) = true := decide_eq_true hw
                have HF : Hid (rs ++ [(l0, l1, l2)] = R ++ [(a, who, now + 20)] ++ (ls.take (j + 1)).filter (behindL a)) := by
                  show _ = _
                  rw [hft, if_pos hp, HE.out, List.append_assoc (R ++ _)]
                have hw1 : l0 > a := hw
                clear hp hft hget HE
                go_wp2_with (at_builtin; refine wpList_pushF wr rfl _ _ 30 rfl X2.heap.size LeT i0 _ 24 layLease flatLease Try.underlying30 hi hz0 hsz0 hby0 rfl (by omega) (.slice (some ⟨m, 0, none⟩) rs.length mc) [m] rs (by rfl) HLO.out (l0, l1, l2) #[.int .i64 l0, .int .i64 l1, .int .i64 l2] (layLease_rd.2 rfl) (by rfl) (by omega) hbs ?_; intro v1 w1 hown1 hnn1 hgr1 hbe1; obtain ⟨m1, mc1, rfl, hblk, _, _⟩ := flat_some flatLease hown1 hnn1; rw [hblk] at hown1)
                go_roundw
                case rel => exact ⟨j + 1, m1, mc1, _, by omega, by go_num, by rw [List.length_append]; rfl, HF, hown1, HB.out.trans hbe1⟩
                case measure => simp [intOf]; omega
              · have hp : behindL a (l0, l1, l2) = false := decide_eq_false hw
                have HF : Hid (rs = R ++ [(a, who, now + 20)] ++ (ls.take (j + 1)).filter (behindL a)) := by
                  show _ = _
                  rw [hft, if_neg (by rw [hp]; decide), List.append_nil, HE.out]
                have hw1 : ¬ l0 > a := hw
                clear hp hft hget HE
                go_wp2_with fail
                go_roundw
                case rel => exact ⟨j + 1, m, mc, rs, by omega, by go_num, rfl, HF, HLO.out, HB.out⟩
                case measure => simp [intOf]; omega
            · have hlt' : ¬ ((j : Int) < (ls.length : Int)) := by omega
              have hje : j = ls.length := by omega
              subst hje
              rw [List.take_length] at HE
              have TO : Hid (GrTold pa pn ls fs who now rs a true) := .inr (.inr ⟨rfl, GO.out, NB.out, H6.out, fun e => HA0.out (HA.out.trans e), HA.out, by rw [HE.out, HR.out]⟩)
              clear HE
              have o2 : wr.cell? ⟨gx, 2, none⟩ = some (.slice (some ⟨g, 0, none⟩) ls.length gc) := VV.out.out.cell 2
              have q2 := VV.out.out.free 2
              have V3 : Hid (VarA gx PoolT #[.int .i64 pa, .int .i64 pn, .slice (some ⟨m, 0, none⟩) rs.length mc, .slice (some ⟨k, 0, none⟩) fs.length kc] (wr.setCell ⟨gx, 2, none⟩ (.slice (some ⟨m, 0, none⟩) rs.length mc))) := VV.out.out.set 2 _
              have W3 : Hid (VarA (w.heap.size + 1) PoolT #[.int .i64 0, .int .i64 0, .slice none 0 0, .slice none 0 0] (wr.setCell ⟨gx, 2, none⟩ (.slice (some ⟨m, 0, none⟩) rs.length mc))) := VV.out.res.off 2 _ (by have := VV.out.far; omega)
              have hg1 := row_off flatLease HLO.out VV.out.out (by decide)
              have hg2 := row_off flatFixed VV.out.fown VV.out.out (by decide)
              have L3 : Hid (layLeaseS.own (wr.setCell ⟨gx, 2, none⟩ (.slice (some ⟨m, 0, none⟩) rs.length mc)) w.heap.size [m] [.slice (some ⟨m, 0, none⟩) rs.length mc] rs) := layLeaseS.lower (layLeaseS.chg HLO.out (Chg.cell wr gx 2 _) (fun j hj hj2 => by rw [List.mem_singleton] at hj2; subst hj2; exact hg1 hj)) V2.out.pb.below.size
              have F3 : Hid (layFixedS.own (wr.setCell ⟨gx, 2, none⟩ (.slice (some ⟨m, 0, none⟩) rs.length mc)) w.heap.size [k] [.slice (some ⟨k, 0, none⟩) fs.length kc] fs) := layFixedS.chg VV.out.fown (Chg.cell wr gx 2 _) (fun j hj hj2 => by rw [List.mem_singleton] at hj2; subst hj2; exact hg2 hj)
              have B3 : Hid (Below w.heap.size w (wr.setCell ⟨gx, 2, none⟩ (.slice (some ⟨m, 0, none⟩) rs.length mc))) := VV.out.pb.below.setCell (p := ⟨gx, 2, none⟩) (by have := VV.out.far; show _ ≤ gx; omega) _
              have G := Lib.hid (gr_out B3.out W3.out L3.out F3.out TO.out)
              clear hg1 hg2
              go_upto_region 26 with fail
              generalize wr.setCell ⟨gx, 2, none⟩ (.slice (some ⟨m, 0, none⟩) rs.length mc) = X3 at *
              clear o2 q2 k2
              have o0 : X3.cell? ⟨gx, 0, none⟩ = some (.int .i64 pa) := V3.out.cell 0
              have o1 : X3.cell? ⟨gx, 1, none⟩ = some (.int .i64 pn) := V3.out.cell 1
              have o2 : X3.cell? ⟨gx, 2, none⟩ = some (.slice (some ⟨m, 0, none⟩) rs.length mc) := V3.out.cell 2
              have o3 : X3.cell? ⟨gx, 3, none⟩ = some (.slice (some ⟨k, 0, none⟩) fs.length kc) := V3.out.cell 3
              have m0 : X3.cell? ⟨w.heap.size + 1, 0, none⟩ = some (.int .i64 0) := W3.out.cell 0
              have m1 : X3.cell? ⟨w.heap.size + 1, 1, none⟩ = some (.int .i64 0) := W3.out.cell 1
              have m2 : X3.cell? ⟨w.heap.size + 1, 2, none⟩ = some (.slice none 0 0) := W3.out.cell 2
              have m3 : X3.cell? ⟨w.heap.size + 1, 3, none⟩ = some (.slice none 0 0) := W3.out.cell 3
              have n0 := W3.out.free 0
              have n1 := W3.out.free 1
              have n2 := W3.out.free 2
              have n3 := W3.out.free 3
              have RS := set_four (p := .int .i64 pa) (q := .int .i64 pn) (r := .slice (some ⟨m, 0, none⟩) rs.length mc) (s := .slice (some ⟨k, 0, none⟩) fs.length kc) W3.out
              have j0 := RS.cell 0
              have j1 := RS.cell 1
              have j2 := RS.cell 2
              have j3 := RS.cell 3
              go_wp2_with fail
              exact bodyPost_ret (v := .tuple #[.agg #[.int .i64 pa, .int .i64 pn, .slice (some ⟨m, 0, none⟩) rs.length mc, .slice (some ⟨k, 0, none⟩) fs.length kc], .int .i64 a, .bool true]) (by simp [results, Try.results7, go_sem, j0, j1, j2, j3]) rfl G.out

end Go.Proofs.Ytphmomlgmnllkaq
