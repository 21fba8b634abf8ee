/-
  The given l11Copy.
  What a call that answers a pool leaves.
-/
import Derived.Test.YtphmomlgmnllkaqJ22
namespace Go.Proofs.Ytphmomlgmnllkaq
open Go.RowKit

abbrev LeT : TypeId := 49
abbrev FiT : TypeId := 73
/-- A flat row and a variable of another type lie apart. -/
theorem row_off {α : Type} {A : Lay α} (hf : Flat A) {e T : TypeId} {X : World} {b G : Nat} {f : List Nat} {v : Value} {xs : List α} {cs : Array Value} (h : (Lay.rows e A).own X b f [v] xs) (hv : VarA G T cs X) (hT : T ≠ e) : G ∉ f := by
  obtain ⟨us, ho, _, rfl⟩ := flat_inv hf h
  intro hm
  rcases ho.2 with ⟨rfl, _⟩ | ⟨g', cap, cur, rfl, _, hb, _⟩
  · simp [blk, Value.ownBlock] at hm
  · have : G = g' := by simpa [blk, Value.ownBlock] using hm
    subst this
    rw [hv.row] at hb
    injection hb with hb
    injection hb with _ hb
    exact hT hb
theorem rows_off {α β : Type} {A : Lay α} {B : Lay β} (hf : Flat A) (hf' : Flat B) {e e' : TypeId} {X : World} {b b' : Nat} {f f' : List Nat} {v v' : Value} {xs : List α} {ys : List β} (h : (Lay.rows e A).own X b f [v] xs) (h' : (Lay.rows e' B).own X b' f' [v'] ys) (he : e ≠ e') : ∀ g ∈ f, g ∉ f' := by
  obtain ⟨us, ho, _, rfl⟩ := flat_inv hf h
  obtain ⟨us', ho', _, rfl⟩ := flat_inv hf' h'
  intro g hg hg'
  rcases ho.2 with ⟨rfl, _⟩ | ⟨g1, cap, cur, rfl, _, hb, _⟩
  · simp [blk, Value.ownBlock] at hg
  · rcases ho'.2 with ⟨rfl, _⟩ | ⟨g2, cap2, cur2, rfl, _, hb2, _⟩
    · simp [blk, Value.ownBlock] at hg'
    · have e1 : g = g1 := by simpa [blk, Value.ownBlock] using hg
      have e2 : g = g2 := by simpa [blk, Value.ownBlock] using hg'
      subst e1
      subst e2
      rw [hb] at hb2
      injection hb2 with hb2
      injection hb2 with _ hb2
      exact he hb2

theorem VarA.next' {r : Nat} {t : TypeId} {cs : Array Value} {X Y : World} {b : Nat} (h : VarA r t cs X) (hb : Below b X Y) (hr : r < b) : VarA r t cs Y := ⟨(hb.block r hr).trans h.row⟩
/-- How l11Copy ends. -/
def CopyGives (pa pn : Int) (ls : List Ls) (fs : List Fx) (w : World) (e : Ending) (w' : World) : Prop :=
  ∃ (g gc h hc : Nat), e = .returned (.agg #[.int .i64 pa, .int .i64 pn, .slice (some ⟨g, 0, none⟩) ls.length gc, .slice (some ⟨h, 0, none⟩) fs.length hc]) ∧ layLeaseS.own w' w.heap.size [g] [.slice (some ⟨g, 0, none⟩) ls.length gc] ls ∧ layFixedS.own w' w.heap.size [h] [.slice (some ⟨h, 0, none⟩) fs.length hc] fs ∧ Below w.heap.size w w'

set_option maxRecDepth 100000 in
set_option maxHeartbeats 1600000 in
theorem specCopy_any (pa pn : Int) (lv fv : Value) (ls : List Ls) (fs : List Fx) (hl : ls.length ≤ 100000000) (hfl : fs.length ≤ 100000000) (w : World) (h : PoolR w lv fv ls fs) :
    Calls Try.prog 19 #[.agg #[.int .i64 pa, .int .i64 pn, lv, fv]] w (CopyGives pa pn ls fs w) := by
  obtain ⟨la, lc, rfl⟩ := rows_form h.leases
  obtain ⟨fa, fc, rfl⟩ := rows_form h.fixes
  obtain ⟨i0, hi, hz0, hsz0, hby0⟩ := info_of infoLease
  obtain ⟨i1, hi1, hz1, hsz1, hby1⟩ := info_of infoFixed
  have e1 : (w.alloc (.cells #[.int .i64 pa, .int .i64 pn, .slice la ls.length lc, .slice fa fs.length fc] PoolT)).heap.size = w.heap.size + 1 := by simp
  have A0 := Lib.hid ((VarA.new w PoolT #[.int .i64 pa, .int .i64 pn, .slice la ls.length lc, .slice fa fs.length fc]).alloc (.cells #[.int .i64 0, .int .i64 0, .slice none 0 0, .slice none 0 0] PoolT))
  have hr0 := VarA.new (w.alloc (.cells #[.int .i64 pa, .int .i64 pn, .slice la ls.length lc, .slice fa fs.length fc] PoolT)) PoolT #[.int .i64 0, .int .i64 0, .slice none 0 0, .slice none 0 0]
  rw [e1] at hr0
  have R0 := Lib.hid hr0
  have B0 := Lib.hid (((Below.refl w.heap.size w).alloc (Nat.le_refl _) (.cells #[.int .i64 pa, .int .i64 pn, .slice la ls.length lc, .slice fa fs.length fc] PoolT)).alloc (by simp) (.cells #[.int .i64 0, .int .i64 0, .slice none 0 0, .slice none 0 0] PoolT))
  have HR := Lib.hid h
  clear h hr0 e1
  go_enter Try.func19, Try.ntmps19
  go_upto_region 1 with fail
  generalize (w.alloc (.cells #[.int .i64 pa, .int .i64 pn, .slice la ls.length lc, .slice fa fs.length fc] PoolT)).alloc (.cells #[.int .i64 0, .int .i64 0, .slice none 0 0, .slice none 0 0] PoolT) = Y0 at *
  have hy0 : w.heap.size + 1 + 1 ≤ Y0.heap.size := R0.out.lt
  have hbl : Below Y0.heap.size Y0 (Y0.alloc (.cells #[] LeT)) := (Below.refl _ _).alloc (Nat.le_refl _) _
  have c2 : (Y0.alloc (.cells #[] LeT)).cell? ⟨w.heap.size, 2, none⟩ = some (.slice la ls.length lc) := (A0.out.next hbl).cell 2
  go_upto_region 2 with (at_builtin; refine wpList_copyF (Y0.alloc (.cells #[] LeT)) rfl _ _ 30 rfl Y0.heap.size LeT i0 _ 24 layLease flatLease Try.underlying30 hi hz0 hsz0 hby0 rfl (by omega) _ _ _ rfl (flat_lit Y0 _ (Nat.le_refl _)) (fun e => by cases e) _ ls rfl (layLeaseS.below HR.out.leases (B0.out.trans (hbl.mono B0.out.size))) (by simp; omega) (by simp) ?_; intro v1 w1 hown1 hnn1 hgr1 hbe1; obtain ⟨g, gc, rfl, hblk, hg1b, hg1l⟩ := flat_some flatLease hown1 hnn1; rw [hblk] at hown1; have A1 := (A0.out.next hbl).next' hbe1 (by omega); have a2 : w1.cell? ⟨w.heap.size, 2, none⟩ = some (.slice la ls.length lc) := A1.cell 2; have f2 := A1.free 2)
  have A2 : Hid (VarA w.heap.size PoolT #[.int .i64 pa, .int .i64 pn, .slice (some ⟨g, 0, none⟩) ls.length gc, .slice fa fs.length fc] (w1.setCell ⟨w.heap.size, 2, none⟩ (.slice (some ⟨g, 0, none⟩) ls.length gc))) := A1.set 2 _
  have R2 : Hid (VarA (w.heap.size + 1) PoolT #[.int .i64 0, .int .i64 0, .slice none 0 0, .slice none 0 0] (w1.setCell ⟨w.heap.size, 2, none⟩ (.slice (some ⟨g, 0, none⟩) ls.length gc))) := ((R0.out.next hbl).next' hbe1 (by omega)).off 2 _ (by omega)
  have O2 : Hid (layLeaseS.own (w1.setCell ⟨w.heap.size, 2, none⟩ (.slice (some ⟨g, 0, none⟩) ls.length gc)) w.heap.size [g] [.slice (some ⟨g, 0, none⟩) ls.length gc] ls) := layLeaseS.lower (layLeaseS.chg hown1 (Chg.cell w1 w.heap.size 2 _) (fun k hk hk2 => by rw [List.mem_singleton] at hk hk2; omega)) (by omega)
  have B2 : Hid (Below w.heap.size w (w1.setCell ⟨w.heap.size, 2, none⟩ (.slice (some ⟨g, 0, none⟩) ls.length gc))) := (B0.out.trans ((hbl.trans hbe1).mono (by omega))).setCell (p := ⟨w.heap.size, 2, none⟩) (Nat.le_refl _) _
  have hw2 : w.heap.size + 1 + 1 ≤ (w1.setCell ⟨w.heap.size, 2, none⟩ (.slice (some ⟨g, 0, none⟩) ls.length gc)).heap.size := R2.out.lt
  have hgl : g < (w1.setCell ⟨w.heap.size, 2, none⟩ (.slice (some ⟨g, 0, none⟩) ls.length gc)).heap.size := (layLeaseS.blocks O2.out g (by simp)).2
  have hgw : w.heap.size + 1 + 1 ≤ g := by omega
  clear A0 R0 B0 hy0 hbl c2 hown1 hnn1 hgr1 hbe1 hblk A1 a2 f2 hg1b hg1l
  generalize w1.setCell ⟨w.heap.size, 2, none⟩ (.slice (some ⟨g, 0, none⟩) ls.length gc) = Z0 at *
  generalize Y0.heap.size = gy at *
  clear w1 Y0
  have hbl : Below Z0.heap.size Z0 (Z0.alloc (.cells #[] FiT)) := (Below.refl _ _).alloc (Nat.le_refl _) _
  have c3 : (Z0.alloc (.cells #[] FiT)).cell? ⟨w.heap.size, 3, none⟩ = some (.slice fa fs.length fc) := (A2.out.next hbl).cell 3
  go_upto_region 3 with (at_builtin; refine wpList_copyF (Z0.alloc (.cells #[] FiT)) rfl _ _ 31 rfl Z0.heap.size FiT i1 _ 16 layFixed flatFixed Try.underlying31 hi1 hz1 hsz1 hby1 rfl (by omega) _ _ _ rfl (flat_lit Z0 _ (Nat.le_refl _)) (fun e => by cases e) _ fs rfl (layFixedS.below HR.out.fixes (B2.out.trans (hbl.mono B2.out.size))) (by simp; omega) (by simp) ?_; intro v1 w1 hown1 hnn1 hgr1 hbe1; obtain ⟨k, kc, rfl, hblk, hg1b, hg1l⟩ := flat_some flatFixed hown1 hnn1; rw [hblk] at hown1; have A1 := (A2.out.next hbl).next' hbe1 (by omega); have a3 : w1.cell? ⟨w.heap.size, 3, none⟩ = some (.slice fa fs.length fc) := A1.cell 3; have f3 := A1.free 3)
  have A3 : Hid (VarA w.heap.size PoolT #[.int .i64 pa, .int .i64 pn, .slice (some ⟨g, 0, none⟩) ls.length gc, .slice (some ⟨k, 0, none⟩) fs.length kc] (w1.setCell ⟨w.heap.size, 3, none⟩ (.slice (some ⟨k, 0, none⟩) fs.length kc))) := A1.set 3 _
  have R3 : Hid (VarA (w.heap.size + 1) PoolT #[.int .i64 0, .int .i64 0, .slice none 0 0, .slice none 0 0] (w1.setCell ⟨w.heap.size, 3, none⟩ (.slice (some ⟨k, 0, none⟩) fs.length kc))) := ((R2.out.next hbl).next' hbe1 (by omega)).off 3 _ (by omega)
  have O3 : Hid (layLeaseS.own (w1.setCell ⟨w.heap.size, 3, none⟩ (.slice (some ⟨k, 0, none⟩) fs.length kc)) w.heap.size [g] [.slice (some ⟨g, 0, none⟩) ls.length gc] ls) := layLeaseS.chg (layLeaseS.next O2.out (hbl.trans hbe1)) (Chg.cell w1 w.heap.size 3 _) (fun j hj hj2 => by rw [List.mem_singleton] at hj hj2; omega)
  have P3 : Hid (layFixedS.own (w1.setCell ⟨w.heap.size, 3, none⟩ (.slice (some ⟨k, 0, none⟩) fs.length kc)) w.heap.size [k] [.slice (some ⟨k, 0, none⟩) fs.length kc] fs) := layFixedS.lower (layFixedS.chg hown1 (Chg.cell w1 w.heap.size 3 _) (fun j hj hj2 => by rw [List.mem_singleton] at hj hj2; omega)) (by omega)
  have B3 : Hid (Below w.heap.size w (w1.setCell ⟨w.heap.size, 3, none⟩ (.slice (some ⟨k, 0, none⟩) fs.length kc))) := (B2.out.trans ((hbl.trans hbe1).mono (by omega))).setCell (p := ⟨w.heap.size, 3, none⟩) (Nat.le_refl _) _
  have hkw : w.heap.size + 1 + 1 ≤ k := by omega
  clear A2 R2 B2 O2 hbl c3 hown1 hnn1 hgr1 hbe1 hblk A1 a3 f3 hg1b hg1l hw2 hgl
  generalize w1.setCell ⟨w.heap.size, 3, none⟩ (.slice (some ⟨k, 0, none⟩) fs.length kc) = Z1 at *
  generalize Z0.heap.size = gz at *
  clear w1 Z0
  have k0 : Z1.cell? ⟨w.heap.size, 0, none⟩ = some (.int .i64 pa) := A3.out.cell 0
  have k1 : Z1.cell? ⟨w.heap.size, 1, none⟩ = some (.int .i64 pn) := A3.out.cell 1
  have k2 : Z1.cell? ⟨w.heap.size, 2, none⟩ = some (.slice (some ⟨g, 0, none⟩) ls.length gc) := A3.out.cell 2
  have k3 : Z1.cell? ⟨w.heap.size, 3, none⟩ = some (.slice (some ⟨k, 0, none⟩) fs.length kc) := A3.out.cell 3
  have m0 : Z1.cell? ⟨w.heap.size + 1, 0, none⟩ = some (.int .i64 0) := R3.out.cell 0
  have m1 : Z1.cell? ⟨w.heap.size + 1, 1, none⟩ = some (.int .i64 0) := R3.out.cell 1
  have m2 : Z1.cell? ⟨w.heap.size + 1, 2, none⟩ = some (.slice none 0 0) := R3.out.cell 2
  have m3 : Z1.cell? ⟨w.heap.size + 1, 3, none⟩ = some (.slice none 0 0) := R3.out.cell 3
  have n0 := R3.out.free 0
  have n1 := R3.out.free 1
  have n2 := R3.out.free 2
  have n3 := R3.out.free 3
  have RS := (((R3.out.set 0 (.int .i64 pa)).set 1 (.int .i64 pn)).set 2 (.slice (some ⟨g, 0, none⟩) ls.length gc)).set 3 (.slice (some ⟨k, 0, none⟩) fs.length kc)
  have CS : Chg [w.heap.size + 1] Z1 ((((Z1.setCell ⟨w.heap.size + 1, 0, none⟩ (.int .i64 pa)).setCell ⟨w.heap.size + 1, 1, none⟩ (.int .i64 pn)).setCell ⟨w.heap.size + 1, 2, none⟩ (.slice (some ⟨g, 0, none⟩) ls.length gc)).setCell ⟨w.heap.size + 1, 3, none⟩ (.slice (some ⟨k, 0, none⟩) fs.length kc)) := (((Chg.cell _ _ _ _).trans (Chg.cell _ _ _ _)).trans (Chg.cell _ _ _ _)).trans (Chg.cell _ _ _ _)
  have j0 := RS.cell 0
  have j1 := RS.cell 1
  have j2 := RS.cell 2
  have j3 := RS.cell 3
  have HE : Hid (CopyGives pa pn ls fs w (.returned (.agg #[.int .i64 pa, .int .i64 pn, .slice (some ⟨g, 0, none⟩) ls.length gc, .slice (some ⟨k, 0, none⟩) fs.length kc])) ((((Z1.setCell ⟨w.heap.size + 1, 0, none⟩ (.int .i64 pa)).setCell ⟨w.heap.size + 1, 1, none⟩ (.int .i64 pn)).setCell ⟨w.heap.size + 1, 2, none⟩ (.slice (some ⟨g, 0, none⟩) ls.length gc)).setCell ⟨w.heap.size + 1, 3, none⟩ (.slice (some ⟨k, 0, none⟩) fs.length kc))) :=
    ⟨g, gc, k, kc, rfl, layLeaseS.chg O3.out CS (fun j hj hj2 => by rw [List.mem_singleton] at hj hj2; omega), layFixedS.chg P3.out CS (fun j hj hj2 => by rw [List.mem_singleton] at hj hj2; omega), B3.out.trans (CS.below (fun j hj => by rw [List.mem_singleton] at hj; omega) B3.out.size)⟩
  go_wp2_with fail
  exact bodyPost_ret (v := .agg #[.int .i64 pa, .int .i64 pn, .slice (some ⟨g, 0, none⟩) ls.length gc, .slice (some ⟨k, 0, none⟩) fs.length kc]) (by simp [results, Try.results19, go_sem, j0, j1, j2, j3]) rfl HE.out

end Go.Proofs.Ytphmomlgmnllkaq
namespace Go.Proofs.Ytphmomlgmnllkaq
open Go.RowKit

/-- What a call that answers a pool leaves. -/
structure PoolOut (w : World) (lv fv : Value) (rs : List Ls) (fs : List Fx) (w' : World) : Prop where
  lo : ∃ f, layLeaseS.own w' w.heap.size f [lv] rs
  fo : ∃ f, layFixedS.own w' w.heap.size f [fv] fs
  below : Below w.heap.size w w'
theorem PoolOut.pool {w : World} {lv fv : Value} {rs : List Ls} {fs : List Fx} {w' : World} (h : PoolOut w lv fv rs fs w') : PoolR w' lv fv rs fs := by
  obtain ⟨f, hf⟩ := h.lo
  obtain ⟨k, hk⟩ := h.fo
  exact ⟨layLeaseS.read hf, layFixedS.read hk⟩

/-- A pool in its variable. -/
structure PoV (g : Nat) (pa pn : Int) (lv fv : Value) (ls : List Ls) (fs : List Fx) (X : World) : Prop where
  var : VarA g PoolT #[.int .i64 pa, .int .i64 pn, lv, fv] X
  pool : PoolR X lv fv ls fs
theorem PoV.next {g : Nat} {pa pn : Int} {lv fv : Value} {ls : List Ls} {fs : List Fx} {X Y : World} (h : PoV g pa pn lv fv ls fs X) (hb : Below X.heap.size X Y) : PoV g pa pn lv fv ls fs Y := ⟨h.var.next hb, h.pool.next hb⟩
theorem PoV.new {w X : World} {pa pn : Int} {lv fv : Value} {ls : List Ls} {fs : List Fx} (h : PoolOut w lv fv ls fs X) : PoV X.heap.size pa pn lv fv ls fs (X.alloc (.cells #[.int .i64 pa, .int .i64 pn, lv, fv] PoolT)) :=
  ⟨VarA.new X PoolT _, h.pool.next ((Below.refl _ _).alloc (Nat.le_refl _) _)⟩

end Go.Proofs.Ytphmomlgmnllkaq
