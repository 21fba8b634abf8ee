/-
  The given Release.
-/
import Derived.Test.YtphmomlgmnllkaqJ23
import Derived.Test.YtphmomlgmnllkaqJ27
namespace Go.Proofs.Ytphmomlgmnllkaq
open Go.RowKit

/-- The pool in its box, a result, a copy in a variable. -/
structure RP (w : World) (pa pn : Int) (lv fv : Value) (ls : List Ls) (fs : List Fx) (gx g gc k kc : Nat) (X : World) : Prop where
  pb : PB w pa pn lv fv ls fs X
  res : VarA (w.heap.size + 1) PoolT #[.int .i64 0, .int .i64 0, .slice none 0 0, .slice none 0 0] X
  out : VarA gx PoolT #[.int .i64 pa, .int .i64 pn, .slice (some ⟨g, 0, none⟩) ls.length gc, .slice (some ⟨k, 0, none⟩) fs.length kc] X
  lown : layLeaseS.own X w.heap.size [g] [.slice (some ⟨g, 0, none⟩) ls.length gc] ls
  fown : layFixedS.own X w.heap.size [k] [.slice (some ⟨k, 0, none⟩) fs.length kc] fs
  far : w.heap.size + 1 < gx
theorem RP.next {w : World} {pa pn : Int} {lv fv : Value} {ls : List Ls} {fs : List Fx} {gx g gc k kc : Nat} {X Y : World} (h : RP w pa pn lv fv ls fs gx g gc k kc X) (hb : Below X.heap.size X Y) : RP w pa pn lv fv ls fs gx g gc k kc Y :=
  ⟨h.pb.next hb, h.res.next hb, h.out.next hb, layLeaseS.next h.lown hb, layFixedS.next h.fown hb, h.far⟩

/-- Four cells of a variable of four are set. -/
theorem set_four {X : World} {G : Nat} {a b c d p q r s : Value} (h : VarA G PoolT #[a, b, c, d] X) : VarA G PoolT #[p, q, r, s] ((((X.setCell ⟨G, 0, none⟩ p).setCell ⟨G, 1, none⟩ q).setCell ⟨G, 2, none⟩ r).setCell ⟨G, 3, none⟩ s) :=
  (((h.set 0 p).set 1 q).set 2 r).set 3 s
theorem chg_four (X : World) (G : Nat) (p q r s : Value) : Chg [G] X ((((X.setCell ⟨G, 0, none⟩ p).setCell ⟨G, 1, none⟩ q).setCell ⟨G, 2, none⟩ r).setCell ⟨G, 3, none⟩ s) :=
  (((Chg.cell _ _ _ _).trans (Chg.cell _ _ _ _)).trans (Chg.cell _ _ _ _)).trans (Chg.cell _ _ _ _)

/-- What Release tells. -/
def RelTold (pa pn : Int) (ls : List Ls) (fs : List Fx) (who : Int) (rs : List Ls) (b : Bool) : Prop :=
  (b = true ∧ (PoolOkP pa pn ls fs ∧ (ls.filter fun l => l.2.1 != who).length ≠ ls.length) ∧ rs = ls.filter fun l => l.2.1 != who) ∨
  (b = false ∧ rs = ls ∧ ¬ (PoolOkP pa pn ls fs ∧ (ls.filter fun l => l.2.1 != who).length ≠ ls.length))
def RelGives (pa pn : Int) (ls : List Ls) (fs : List Fx) (who : Int) (w : World) (e : Ending) (w' : World) : Prop :=
  ∃ (g gc k kc : Nat) (rs : List Ls) (b : Bool), e = .returned (.tuple #[.agg #[.int .i64 pa, .int .i64 pn, .slice (some ⟨g, 0, none⟩) rs.length gc, .slice (some ⟨k, 0, none⟩) fs.length kc], .bool b]) ∧ RelTold pa pn ls fs who rs b ∧ layLeaseS.own w' w.heap.size [g] [.slice (some ⟨g, 0, none⟩) rs.length gc] rs ∧ layFixedS.own w' w.heap.size [k] [.slice (some ⟨k, 0, none⟩) fs.length kc] fs ∧ Below w.heap.size w w'

/-- The copy goes into the result. -/
theorem rel_out {w X : World} {pa pn who : Int} {ls rs : List Ls} {fs : List Fx} {m mc k kc : Nat} {b : Bool} (hb : Below w.heap.size w X) (hr : VarA (w.heap.size + 1) PoolT #[.int .i64 0, .int .i64 0, .slice none 0 0, .slice none 0 0] X) (ho : layLeaseS.own X w.heap.size [m] [.slice (some ⟨m, 0, none⟩) rs.length mc] rs) (hf : layFixedS.own X w.heap.size [k] [.slice (some ⟨k, 0, none⟩) fs.length kc] fs) (ht : RelTold pa pn ls fs who rs b) :
    RelGives pa pn ls fs who w (.returned (.tuple #[.agg #[.int .i64 pa, .int .i64 pn, .slice (some ⟨m, 0, none⟩) rs.length mc, .slice (some ⟨k, 0, none⟩) fs.length kc], .bool b])) ((((X.setCell ⟨w.heap.size + 1, 0, none⟩ (.int .i64 pa)).setCell ⟨w.heap.size + 1, 1, none⟩ (.int .i64 pn)).setCell ⟨w.heap.size + 1, 2, none⟩ (.slice (some ⟨m, 0, none⟩) rs.length mc)).setCell ⟨w.heap.size + 1, 3, none⟩ (.slice (some ⟨k, 0, none⟩) fs.length kc)) := by
  have CS := chg_four X (w.heap.size + 1) (.int .i64 pa) (.int .i64 pn) (.slice (some ⟨m, 0, none⟩) rs.length mc) (.slice (some ⟨k, 0, none⟩) fs.length kc)
  have h1 := row_off flatLease ho hr (by decide)
  have h2 := row_off flatFixed hf hr (by decide)
  exact ⟨m, mc, k, kc, rs, b, rfl, ht, layLeaseS.chg ho CS (fun j hj hj2 => by rw [List.mem_singleton] at hj2; subst hj2; exact h1 hj), layFixedS.chg hf CS (fun j hj hj2 => by rw [List.mem_singleton] at hj2; subst hj2; exact h2 hj), hb.trans (CS.below (fun j hj => by rw [List.mem_singleton] at hj; omega) hb.size)⟩

set_option maxRecDepth 100000 in
set_option maxHeartbeats 3200000 in
theorem specRelease_any (pa pn : Int) (lv fv : Value) (ls : List Ls) (fs : List Fx) (who : Int) (hl : ls.length ≤ 100000000) (hfl : fs.length ≤ 100000000) (w : World) (h : PoolR w lv fv ls fs) :
    Calls Try.prog 13 #[.agg #[.int .i64 pa, .int .i64 pn, lv, fv], .int .i64 who] w (RelGives pa pn ls fs who w) := by
  obtain ⟨la, lc, rfl⟩ := rows_form h.leases
  obtain ⟨fa, fc, rfl⟩ := rows_form h.fixes
  obtain ⟨i0, hi, hz0, hsz0, hby0⟩ := info_of infoLease
  have e1 : (w.alloc (.cells #[.int .i64 pa, .int .i64 pn, .slice la ls.length lc, .slice fa fs.length fc] PoolT)).heap.size = w.heap.size + 1 := by simp
  have hB0 : Below w.heap.size w ((w.alloc (.cells #[.int .i64 pa, .int .i64 pn, .slice la ls.length lc, .slice fa fs.length fc] PoolT)).alloc (.cells #[.int .i64 0, .int .i64 0, .slice none 0 0, .slice none 0 0] PoolT)) := ((Below.refl w.heap.size w).alloc (Nat.le_refl _) _).alloc (by simp) _
  have hr0 := VarA.new (w.alloc (.cells #[.int .i64 pa, .int .i64 pn, .slice la ls.length lc, .slice fa fs.length fc] PoolT)) PoolT #[.int .i64 0, .int .i64 0, .slice none 0 0, .slice none 0 0]
  rw [e1] at hr0
  have R0 := Lib.hid hr0
  have P0 : Hid (PB w pa pn (.slice la ls.length lc) (.slice fa fs.length fc) ls fs ((w.alloc (.cells #[.int .i64 pa, .int .i64 pn, .slice la ls.length lc, .slice fa fs.length fc] PoolT)).alloc (.cells #[.int .i64 0, .int .i64 0, .slice none 0 0, .slice none 0 0] PoolT))) := ⟨(VarA.new w PoolT _).alloc _, h.next hB0, hB0⟩
  clear h hr0 e1 hB0
  go_enter Try.func13, Try.ntmps13
  go_upto_region 1 with fail
  generalize (w.alloc (.cells #[.int .i64 pa, .int .i64 pn, .slice la ls.length lc, .slice fa fs.length fc] PoolT)).alloc (.cells #[.int .i64 0, .int .i64 0, .slice none 0 0, .slice none 0 0] PoolT) = Y0 at *
  have k0 : Y0.cell? ⟨w.heap.size, 0, none⟩ = some (.int .i64 pa) := P0.out.box.cell 0
  have k1 : Y0.cell? ⟨w.heap.size, 1, none⟩ = some (.int .i64 pn) := P0.out.box.cell 1
  have k2 : Y0.cell? ⟨w.heap.size, 2, none⟩ = some (.slice la ls.length lc) := P0.out.box.cell 2
  have k3 : Y0.cell? ⟨w.heap.size, 3, none⟩ = some (.slice fa fs.length fc) := P0.out.box.cell 3
  go_wp2_with fail
  refine (specCopy_any pa pn _ _ ls fs hl hfl Y0 P0.out.rd).mono ?_
  rintro e Y1 ⟨g, gc, k, kc, rfl, hlo, hfo, hb1⟩
  have hb2 : Below Y1.heap.size Y1 (Y1.alloc (.cells #[.int .i64 pa, .int .i64 pn, .slice (some ⟨g, 0, none⟩) ls.length gc, .slice (some ⟨k, 0, none⟩) fs.length kc] PoolT)) := (Below.refl _ _).alloc (Nat.le_refl _) _
  have V0 : Hid (RP w pa pn (.slice la ls.length lc) (.slice fa fs.length fc) ls fs Y1.heap.size g gc k kc (Y1.alloc (.cells #[.int .i64 pa, .int .i64 pn, .slice (some ⟨g, 0, none⟩) ls.length gc, .slice (some ⟨k, 0, none⟩) fs.length kc] PoolT))) :=
    ⟨(P0.out.next hb1).next hb2, (R0.out.next hb1).next hb2, VarA.new Y1 PoolT _, layLeaseS.lower (layLeaseS.next hlo hb2) P0.out.below.size, layFixedS.lower (layFixedS.next hfo hb2) P0.out.below.size, Nat.lt_of_lt_of_le R0.out.lt hb1.size⟩
  clear hlo hfo hb1 hb2 P0 R0 k0 k1 k2 k3
  go_upto_region 2 with fail
  generalize Y1.alloc (.cells #[.int .i64 pa, .int .i64 pn, .slice (some ⟨g, 0, none⟩) ls.length gc, .slice (some ⟨k, 0, none⟩) fs.length kc] PoolT) = Y2 at *
  generalize Y1.heap.size = gx at *
  clear Y1 Y0
  go_wp2_with fail
  go_loopw [7, 8] (fun o c wr => ∃ (j m mc : Nat), j ≤ ls.length ∧ c = .int .i64 j ∧ o = .slice (some ⟨m, 0, none⟩) ((ls.take j).filter fun l => l.2.1 != who).length mc ∧ layLeaseS.own wr Y2.heap.size [m] [.slice (some ⟨m, 0, none⟩) ((ls.take j).filter fun l => l.2.1 != who).length mc] ((ls.take j).filter fun l => l.2.1 != who) ∧ Below Y2.heap.size Y2 wr) (fun _ c _ => ls.length - (intOf c).toNat)
  case atStart => exact ⟨0, Y2.heap.size, 0, Nat.zero_le _, rfl, rfl, flat_lit Y2 _ (Nat.le_refl _), (Below.refl _ _).alloc (Nat.le_refl _) _⟩
  case round =>
    obtain ⟨j, m, mc, hj, rfl, rfl, hlo, hb⟩ := hrel
    have HLO := Lib.hid hlo
    have HB := Lib.hid hb
    have VV := Lib.hid (V0.out.next hb)
    have hbs := hb.size
    clear hlo hb
    have k2 : wr.cell? ⟨w.heap.size, 2, none⟩ = some (.slice la ls.length lc) := VV.out.pb.box.cell 2
    by_cases hlt : j < ls.length
    · have hlt' : (j : Int) < (ls.length : Int) := by omega
      have hget : ls[j]? = some ls[j] := List.getElem?_eq_getElem hlt
      obtain ⟨q, off, rfl, hq, d0, d1, d2⟩ := lease_cells VV.out.pb.rd.leases j _ hget
      have hft := filter_take (fun l : Ls => l.2.1 != who) ls j hlt
      generalize ls[j] = l at hget d0 d1 d2 hft
      obtain ⟨l0, l1, l2⟩ := l
      have hlen : ((ls.take j).filter fun l => l.2.1 != who).length ≤ 100000000 := Nat.le_trans (List.length_filter_le _ _) (by rw [List.length_take]; omega)
      by_cases hw : l1 = who
      · have hne : (l1 != who) = false := by rw [bne_eq_false_iff_eq]; exact hw
        have HF : Hid ((ls.take (j + 1)).filter (fun l => l.2.1 != who) = (ls.take j).filter (fun l => l.2.1 != who)) := by
          show _ = _
          rw [hft, if_neg (by simp only; rw [hne]; decide), List.append_nil]
        clear hw hft hget
        go_wp2_with fail
        go_roundw
        case rel => exact ⟨j + 1, m, mc, by omega, by go_num, by rw [HF.out], by rw [HF.out]; exact HLO.out, HB.out⟩
        case measure => simp [intOf]; omega
      · have hne : (l1 != who) = true := by rw [bne_iff_ne]; exact hw
        have HF : Hid ((ls.take (j + 1)).filter (fun l => l.2.1 != who) = (ls.take j).filter (fun l => l.2.1 != who) ++ [(l0, l1, l2)]) := by
          show _ = _
          rw [hft, if_pos hne]
        clear hw hft hget
        generalize hfl2 : (ls.take j).filter (fun l => l.2.1 != who) = F at *
        go_wp2_with (at_builtin; refine wpList_pushF wr rfl _ _ 30 rfl Y2.heap.size LeT i0 _ 24 layLease flatLease Try.underlying30 hi hz0 hsz0 hby0 rfl (by omega) (.slice (some ⟨m, 0, none⟩) F.length mc) [m] F (by rfl) HLO.out (l0, l1, l2) #[.int .i64 l0, .int .i64 l1, .int .i64 l2] (layLease_rd.2 rfl) (by rfl) (by omega) hbs ?_; intro v1 w1 hown1 hnn1 hgr1 hbe1; obtain ⟨m1, mc1, rfl, hblk, _, _⟩ := flat_some flatLease hown1 hnn1; rw [hblk] at hown1)
        go_roundw
        case rel => exact ⟨j + 1, m1, mc1, by omega, by go_num, by rw [HF.out, List.length_append]; rfl, by rw [HF.out]; exact hown1, HB.out.trans hbe1⟩
        case measure => simp [intOf]; omega
    · have hlt' : ¬ ((j : Int) < (ls.length : Int)) := by omega
      have hje : j = ls.length := by omega
      subst hje
      rw [List.take_length] at HLO
      rw [List.take_length]
      have hrl : (ls.filter fun l => l.2.1 != who).length ≤ ls.length := List.length_filter_le _ _
      obtain ⟨F, hF⟩ : ∃ F, Hid (F = ls.filter fun l => l.2.1 != who) := ⟨_, rfl⟩
      rw [← hF.out] at HLO hrl
      rw [← hF.out]
      have k0 : wr.cell? ⟨w.heap.size, 0, none⟩ = some (.int .i64 pa) := VV.out.pb.box.cell 0
      have k1 : wr.cell? ⟨w.heap.size, 1, none⟩ = some (.int .i64 pn) := VV.out.pb.box.cell 1
      have k3 : wr.cell? ⟨w.heap.size, 3, none⟩ = some (.slice fa fs.length fc) := VV.out.pb.box.cell 3
      go_wp2_with fail
      refine (specPoolOk_any pa pn _ _ ls fs hl hfl wr VV.out.pb.rd).mono ?_
      rintro e X1 ⟨hto, hb1⟩
      have V1 := Lib.hid (VV.out.next hb1)
      have L1 := Lib.hid (layLeaseS.next HLO.out hb1)
      clear hb1 VV HLO k0 k1 k2 k3
      have k2 : X1.cell? ⟨w.heap.size, 2, none⟩ = some (.slice la ls.length lc) := V1.out.pb.box.cell 2
      have o0 : X1.cell? ⟨gx, 0, none⟩ = some (.int .i64 pa) := V1.out.out.cell 0
      have o1 : X1.cell? ⟨gx, 1, none⟩ = some (.int .i64 pn) := V1.out.out.cell 1
      have o2 : X1.cell? ⟨gx, 2, none⟩ = some (.slice (some ⟨g, 0, none⟩) ls.length gc) := V1.out.out.cell 2
      have o3 : X1.cell? ⟨gx, 3, none⟩ = some (.slice (some ⟨k, 0, none⟩) fs.length kc) := V1.out.out.cell 3
      have m0 : X1.cell? ⟨w.heap.size + 1, 0, none⟩ = some (.int .i64 0) := V1.out.res.cell 0
      have m1 : X1.cell? ⟨w.heap.size + 1, 1, none⟩ = some (.int .i64 0) := V1.out.res.cell 1
      have m2 : X1.cell? ⟨w.heap.size + 1, 2, none⟩ = some (.slice none 0 0) := V1.out.res.cell 2
      have m3 : X1.cell? ⟨w.heap.size + 1, 3, none⟩ = some (.slice none 0 0) := V1.out.res.cell 3
      have n0 := V1.out.res.free 0
      have n1 := V1.out.res.free 1
      have n2 := V1.out.res.free 2
      have n3 := V1.out.res.free 3
      have RS := set_four (p := .int .i64 pa) (q := .int .i64 pn) (r := .slice (some ⟨g, 0, none⟩) ls.length gc) (s := .slice (some ⟨k, 0, none⟩) fs.length kc) V1.out.res
      have j0 := RS.cell 0
      have j1 := RS.cell 1
      have j2 := RS.cell 2
      have j3 := RS.cell 3
      have NO : Hid (¬ (PoolOkP pa pn ls fs ∧ F.length ≠ ls.length) → RelGives pa pn ls fs who w (.returned (.tuple #[.agg #[.int .i64 pa, .int .i64 pn, .slice (some ⟨g, 0, none⟩) ls.length gc, .slice (some ⟨k, 0, none⟩) fs.length kc], .bool false])) ((((X1.setCell ⟨w.heap.size + 1, 0, none⟩ (.int .i64 pa)).setCell ⟨w.heap.size + 1, 1, none⟩ (.int .i64 pn)).setCell ⟨w.heap.size + 1, 2, none⟩ (.slice (some ⟨g, 0, none⟩) ls.length gc)).setCell ⟨w.heap.size + 1, 3, none⟩ (.slice (some ⟨k, 0, none⟩) fs.length kc))) :=
        fun hn => rel_out V1.out.pb.below V1.out.res V1.out.lown V1.out.fown (.inr ⟨rfl, rfl, by rw [← hF.out]; exact hn⟩)
      rcases hto with ⟨hok, rfl⟩ | ⟨hno, rfl⟩
      · have OK := Lib.hid hok
        clear hok
        by_cases hle : F.length = ls.length
        · have hle' : (F.length : Int) = (ls.length : Int) := by omega
          go_wp2_with fail
          exact bodyPost_ret (v := .tuple #[.agg #[.int .i64 pa, .int .i64 pn, .slice (some ⟨g, 0, none⟩) ls.length gc, .slice (some ⟨k, 0, none⟩) fs.length kc], .bool false]) (by simp [results, Try.results13, go_sem, j0, j1, j2, j3]) rfl (NO.out fun h => h.2 hle)
        · have hle' : ¬ (F.length : Int) = (ls.length : Int) := by omega
          have q2 := V1.out.out.free 2
          have V2 : Hid (VarA gx PoolT #[.int .i64 pa, .int .i64 pn, .slice (some ⟨m, 0, none⟩) F.length mc, .slice (some ⟨k, 0, none⟩) fs.length kc] (X1.setCell ⟨gx, 2, none⟩ (.slice (some ⟨m, 0, none⟩) F.length mc))) := V1.out.out.set 2 _
          have W2 : Hid (VarA (w.heap.size + 1) PoolT #[.int .i64 0, .int .i64 0, .slice none 0 0, .slice none 0 0] (X1.setCell ⟨gx, 2, none⟩ (.slice (some ⟨m, 0, none⟩) F.length mc))) := V1.out.res.off 2 _ (by have := V1.out.far; omega)
          have hg1 := row_off flatLease L1.out V1.out.out (by decide)
          have hg2 := row_off flatFixed V1.out.fown V1.out.out (by decide)
          have L2 : Hid (layLeaseS.own (X1.setCell ⟨gx, 2, none⟩ (.slice (some ⟨m, 0, none⟩) F.length mc)) w.heap.size [m] [.slice (some ⟨m, 0, none⟩) F.length mc] F) := layLeaseS.lower (layLeaseS.chg L1.out (Chg.cell X1 gx 2 _) (fun j hj hj2 => by rw [List.mem_singleton] at hj2; subst hj2; exact hg1 hj)) V0.out.pb.below.size
          have F2 : Hid (layFixedS.own (X1.setCell ⟨gx, 2, none⟩ (.slice (some ⟨m, 0, none⟩) F.length mc)) w.heap.size [k] [.slice (some ⟨k, 0, none⟩) fs.length kc] fs) := layFixedS.chg V1.out.fown (Chg.cell X1 gx 2 _) (fun j hj hj2 => by rw [List.mem_singleton] at hj2; subst hj2; exact hg2 hj)
          have B2 : Hid (Below w.heap.size w (X1.setCell ⟨gx, 2, none⟩ (.slice (some ⟨m, 0, none⟩) F.length mc))) := V1.out.pb.below.setCell (p := ⟨gx, 2, none⟩) (by have := V1.out.far; show _ ≤ gx; omega) _
          have G : Hid (RelGives pa pn ls fs who w (.returned (.tuple #[.agg #[.int .i64 pa, .int .i64 pn, .slice (some ⟨m, 0, none⟩) F.length mc, .slice (some ⟨k, 0, none⟩) fs.length kc], .bool true])) (((((X1.setCell ⟨gx, 2, none⟩ (.slice (some ⟨m, 0, none⟩) F.length mc)).setCell ⟨w.heap.size + 1, 0, none⟩ (.int .i64 pa)).setCell ⟨w.heap.size + 1, 1, none⟩ (.int .i64 pn)).setCell ⟨w.heap.size + 1, 2, none⟩ (.slice (some ⟨m, 0, none⟩) F.length mc)).setCell ⟨w.heap.size + 1, 3, none⟩ (.slice (some ⟨k, 0, none⟩) fs.length kc))) :=
            rel_out B2.out W2.out L2.out F2.out (.inl ⟨rfl, by rw [← hF.out]; exact ⟨OK.out, hle⟩, hF.out⟩)
          clear hg1 hg2 NO RS j0 j1 j2 j3
          go_upto_region 11 with fail
          generalize X1.setCell ⟨gx, 2, none⟩ (.slice (some ⟨m, 0, none⟩) F.length mc) = X2 at *
          clear o0 o1 o2 o3 m0 m1 m2 m3 n0 n1 n2 n3 k2
          have o0 : X2.cell? ⟨gx, 0, none⟩ = some (.int .i64 pa) := V2.out.cell 0
          have o1 : X2.cell? ⟨gx, 1, none⟩ = some (.int .i64 pn) := V2.out.cell 1
          have o2 : X2.cell? ⟨gx, 2, none⟩ = some (.slice (some ⟨m, 0, none⟩) F.length mc) := V2.out.cell 2
          have o3 : X2.cell? ⟨gx, 3, none⟩ = some (.slice (some ⟨k, 0, none⟩) fs.length kc) := V2.out.cell 3
          have m0 : X2.cell? ⟨w.heap.size + 1, 0, none⟩ = some (.int .i64 0) := W2.out.cell 0
          have m1 : X2.cell? ⟨w.heap.size + 1, 1, none⟩ = some (.int .i64 0) := W2.out.cell 1
          have m2 : X2.cell? ⟨w.heap.size + 1, 2, none⟩ = some (.slice none 0 0) := W2.out.cell 2
          have m3 : X2.cell? ⟨w.heap.size + 1, 3, none⟩ = some (.slice none 0 0) := W2.out.cell 3
          have n0 := W2.out.free 0
          have n1 := W2.out.free 1
          have n2 := W2.out.free 2
          have n3 := W2.out.free 3
          have RS := set_four (p := .int .i64 pa) (q := .int .i64 pn) (r := .slice (some ⟨m, 0, none⟩) F.length mc) (s := .slice (some ⟨k, 0, none⟩) fs.length kc) W2.out
          have j0 := RS.cell 0
          have j1 := RS.cell 1
          have j2 := RS.cell 2
          have j3 := RS.cell 3
          go_wp2_with fail
          exact bodyPost_ret (v := .tuple #[.agg #[.int .i64 pa, .int .i64 pn, .slice (some ⟨m, 0, none⟩) F.length mc, .slice (some ⟨k, 0, none⟩) fs.length kc], .bool true]) (by simp [results, Try.results13, go_sem, j0, j1, j2, j3]) rfl G.out
      · have NP := Lib.hid hno
        clear hno
        go_wp2_with fail
        exact bodyPost_ret (v := .tuple #[.agg #[.int .i64 pa, .int .i64 pn, .slice (some ⟨g, 0, none⟩) ls.length gc, .slice (some ⟨k, 0, none⟩) fs.length kc], .bool false]) (by simp [results, Try.results13, go_sem, j0, j1, j2, j3]) rfl (NO.out fun h => NP.out h.1)

end Go.Proofs.Ytphmomlgmnllkaq
