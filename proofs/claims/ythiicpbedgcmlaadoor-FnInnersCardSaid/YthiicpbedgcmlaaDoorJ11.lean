/-
  Inner packets that are drawn, and bytes that may be one.
-/
import Derived.Test.YthiicpbedgcmlaaDoorJ04
import Derived.Test.YthiicpbedgcmlaaDoorJ10
import Derived.Test.YthiicpbedgcmlaaDoorJ09
import Derived.Deep.DeepCutAuto
namespace Go.Proofs.YthiicpbedgcmlaaDoor
open Go.RowKit

/-- The cursor, the result's variable and another one. -/
structure IN3 (c : Nat) (a : Option Addr) (len cap : Nat) (w : World) (q : Nat) (x y : Int) (t : ByteArray) (X : World) : Prop where
  cur : Cur c a len cap X
  only : Only c w X
  res : VarA w.heap.size InnerT #[.int .i64 0, .int .i64 0, .string ⟨#[]⟩] X
  var : VarA q InnerT #[.int .i64 x, .int .i64 y, .string t] X
  lt : w.heap.size < q
  cl : c < w.heap.size
section
variable {c : Nat} {a : Option Addr} {len cap : Nat} {w : World} {q : Nat} {x y : Int} {t : ByteArray} {X Y : World}
theorem IN3.step (h : IN3 c a len cap w q x y t X) (hc : Cur c a len cap Y) (ho : Only c X Y) : IN3 c a len cap w q x y t Y :=
  ⟨hc, h.only.trans ho, h.res.only ho (by have := h.cl; omega), h.var.only ho (by have := h.cl; have := h.lt; omega), h.lt, h.cl⟩
theorem IN3.next (h : IN3 c a len cap w q x y t X) (hb : Below X.heap.size X Y) : IN3 c a len cap w q x y t Y :=
  ⟨h.cur.below hb, h.only.trans (.of_below hb), h.res.next hb, h.var.next hb, h.lt, h.cl⟩
theorem IN3.set2 (h : IN3 c a len cap w q x y t X) (s : ByteArray) : IN3 c a len cap w q x y s (X.setCell ⟨q, 2, none⟩ (.string s)) := by
  have hq : w.heap.size ≤ q := Nat.le_of_lt h.lt
  have hb : Below w.heap.size X (X.setCell ⟨q, 2, none⟩ (.string s)) := (Below.refl _ X).setCell (p := ⟨q, 2, none⟩) hq _
  exact ⟨h.cur.kept hb h.cl, h.only.behind hb, h.res.only (Only.setCell 2 _) (by have := h.lt; omega), h.var.set 2 (.string s), h.lt, h.cl⟩
theorem IN3.store (h : IN3 c a len cap w q x y t X) : (Cur c a len cap (((X.setCell ⟨w.heap.size, 0, none⟩ (.int .i64 x)).setCell ⟨w.heap.size, 1, none⟩ (.int .i64 y)).setCell ⟨w.heap.size, 2, none⟩ (.string t)) ∧ Only c w (((X.setCell ⟨w.heap.size, 0, none⟩ (.int .i64 x)).setCell ⟨w.heap.size, 1, none⟩ (.int .i64 y)).setCell ⟨w.heap.size, 2, none⟩ (.string t))) ∧ VarA w.heap.size InnerT #[.int .i64 x, .int .i64 y, .string t] (((X.setCell ⟨w.heap.size, 0, none⟩ (.int .i64 x)).setCell ⟨w.heap.size, 1, none⟩ (.int .i64 y)).setCell ⟨w.heap.size, 2, none⟩ (.string t)) := by
  have hb : Below w.heap.size X (((X.setCell ⟨w.heap.size, 0, none⟩ (.int .i64 x)).setCell ⟨w.heap.size, 1, none⟩ (.int .i64 y)).setCell ⟨w.heap.size, 2, none⟩ (.string t)) := (((Below.refl _ X).setCell (p := ⟨w.heap.size, 0, none⟩) (Nat.le_refl _) _).setCell (p := ⟨w.heap.size, 1, none⟩) (Nat.le_refl _) _).setCell (p := ⟨w.heap.size, 2, none⟩) (Nat.le_refl _) _
  exact ⟨⟨h.cur.kept hb h.cl, h.only.behind hb⟩, ((h.res.set 0 (.int .i64 x)).set 1 (.int .i64 y)).set 2 (.string t)⟩
end
def textLens : List Int := [60, 99, 100, 101]
/-- An inner packet is drawn. -/
def DrewIn (c : Nat) (a : Option Addr) (len cap : Nat) (w : World) (e : Ending) (w' : World) : Prop := ∃ (x y : Int) (t : ByteArray), ((-1 ≤ x ∧ x ≤ 4294967296) ∧ (-1 ≤ y ∧ y ≤ 4294967296) ∧ t.size ≤ 101) ∧ e = .returned (.agg #[.int .i64 x, .int .i64 y, .string t]) ∧ Cur c a len cap w' ∧ Only c w w'

set_option maxRecDepth 100000 in
set_option maxHeartbeats 1600000 in
theorem l21Inner_any {c : Nat} {a : Option Addr} {len cap : Nat} (w : World) (H : Cur c a len cap w) :
    Calls Tryd.prog 19 #[.pointer (some ⟨c, 0, none⟩)] w (DrewIn c a len cap w) := by
  have hcs : c < w.heap.size := cell_size (p := ⟨c, 0, none⟩) H.c0
  have R0 := Lib.hid (VarA.new w InnerT #[.int .i64 0, .int .i64 0, .string ⟨#[]⟩])
  have B0 := Lib.hid ((Below.refl w.heap.size w).alloc (Nat.le_refl _) (.cells #[.int .i64 0, .int .i64 0, .string ⟨#[]⟩] InnerT))
  have HC := Lib.hid (H.below B0.out)
  have HO : Hid (Only c w (w.alloc (.cells #[.int .i64 0, .int .i64 0, .string ⟨#[]⟩] InnerT))) := Lib.hid (Only.of_below B0.out)
  obtain ⟨Q, HQ⟩ : ∃ Q : Ending → World → Prop, Hid (Q = DrewIn c a len cap w) := ⟨_, Lib.hid rfl⟩
  rw [← HQ.out]
  clear H B0
  go_enter Tryd.func19, Tryd.ntmps19
  go_upto_region 1 with fail
  generalize w.alloc (.cells #[.int .i64 0, .int .i64 0, .string ⟨#[]⟩] InnerT) = Y0 at *
  go_wp2_with fail
  refine (addr_any _ HC.out).mono ?_
  rintro e w1 ⟨x, hx, rfl, hc, ho⟩
  replace HC := Lib.hid hc
  replace HO := Lib.hid (HO.out.trans ho)
  replace R0 := Lib.hid (R0.out.only ho (by omega))
  clear hc ho
  go_wp2_with fail
  refine (addr_any _ HC.out).mono ?_
  rintro e w2 ⟨y, hy, rfl, hc, ho⟩
  replace HC := Lib.hid hc
  replace HO := Lib.hid (HO.out.trans ho)
  replace R0 := Lib.hid (R0.out.only ho (by omega))
  clear hc ho
  go_wp2_with fail
  refine (below_any 9 (by omega) (by omega) _ HC.out).mono ?_
  rintro e w3 ⟨z, z0, z1, rfl, hc, ho⟩
  replace HC := Lib.hid hc
  replace HO := Lib.hid (HO.out.trans ho)
  replace R0 := Lib.hid (R0.out.only ho (by omega))
  clear hc ho
  obtain ⟨nt, rfl⟩ := Int.eq_ofNat_of_zero_le z0
  go_wp2_with fail
  refine (text_any nt (by omega) _ HC.out).mono ?_
  rintro e w4 ⟨l, hl2, rfl, hc, ho⟩
  obtain ⟨t, ht⟩ : ∃ t : ByteArray, t = ⟨l.toArray⟩ := ⟨_, rfl⟩
  have hts : t.size ≤ 101 := by rw [ht]; show l.toArray.size ≤ 101; simp; omega
  rw [← ht]
  have hal : Below w4.heap.size w4 (w4.alloc (.cells #[.int .i64 x, .int .i64 y, .string t] InnerT)) := (Below.refl _ _).alloc (Nat.le_refl _) _
  have hr := R0.out.only ho (by omega)
  have V : Hid (IN3 c a len cap w w4.heap.size x y t (w4.alloc (.cells #[.int .i64 x, .int .i64 y, .string t] InnerT))) := Lib.hid ⟨hc.below hal, (HO.out.trans ho).trans (.of_below hal), hr.next hal, VarA.new _ _ _, hr.lt, hcs⟩
  clear hc ho hal hr ht hl2 HC HO R0 z0 z1
  go_upto_region 2 with fail
  generalize w4.alloc (.cells #[.int .i64 x, .int .i64 y, .string t] InnerT) = w5 at *
  generalize w4.heap.size = q at *
  go_wp2_with fail
  refine (once_any 4 (by omega) (by omega) _ V.out.cur).mono ?_
  rintro e w6 ⟨b, rfl, hc, ho⟩
  replace V := Lib.hid (V.out.step hc ho)
  clear hc ho
  cases b with
  | false =>
    have c0 : w6.cell? ⟨q, 0, none⟩ = some (.int .i64 x) := V.out.var.cell 0
    have c1 : w6.cell? ⟨q, 1, none⟩ = some (.int .i64 y) := V.out.var.cell 1
    have c2 : w6.cell? ⟨q, 2, none⟩ = some (.string t) := V.out.var.cell 2
    have d0 : w6.cell? ⟨w.heap.size, 0, none⟩ = some (.int .i64 0) := V.out.res.cell 0
    have d1 : w6.cell? ⟨w.heap.size, 1, none⟩ = some (.int .i64 0) := V.out.res.cell 1
    have d2 : w6.cell? ⟨w.heap.size, 2, none⟩ = some (.string ⟨#[]⟩) := V.out.res.cell 2
    have f0 := V.out.res.free 0
    have f1 := V.out.res.free 1
    have f2 := V.out.res.free 2
    have ST := Lib.hid (V.out.store)
    have r0 := ST.out.2.cell 0
    have r1 := ST.out.2.cell 1
    have r2 := ST.out.2.cell 2
    have E : Hid (Q (.returned (.agg #[.int .i64 x, .int .i64 y, .string t])) (((w6.setCell ⟨w.heap.size, 0, none⟩ (.int .i64 x)).setCell ⟨w.heap.size, 1, none⟩ (.int .i64 y)).setCell ⟨w.heap.size, 2, none⟩ (.string t))) := Lib.hid (by
      rw [HQ.out]
      exact ⟨x, y, t, ⟨hx, hy, hts⟩, rfl, ST.out.1.1, ST.out.1.2⟩)
    clear V ST
    go_wp2_with fail
    exact bodyPost_ret (v := .agg #[.int .i64 x, .int .i64 y, .string t]) (by simp [results, Tryd.results19, go_sem, r0, r1, r2]) rfl E.out
  | true =>
    go_wp2_with fail
    have hql : q < w6.heap.size := V.out.var.lt
    have hlt := V.out.lt
    have hal : Below w6.heap.size w6 (w6.alloc (.cells #[.int .i64 60, .int .i64 99, .int .i64 100, .int .i64 101] 3)) := (Below.refl _ _).alloc (Nat.le_refl _) _
    replace V := Lib.hid (V.out.next hal)
    refine (pickInt_any w6.heap.size 4 textLens rfl (by omega) (by omega) (by omega) _ V.out.cur ?_).mono ?_
    · intro j hj
      have h4 : j = 0 ∨ j = 1 ∨ j = 2 ∨ j = 3 := by omega
      rcases h4 with rfl | rfl | rfl | rfl <;> simp [textLens]
    rintro e w7 ⟨m, hm, rfl, hc, ho⟩
    replace V := Lib.hid (V.out.step hc ho)
    have hm2 : 60 ≤ m ∧ m ≤ 101 := by
      simp only [textLens, List.mem_cons, List.not_mem_nil, or_false] at hm
      omega
    obtain ⟨k, rfl⟩ := Int.eq_ofNat_of_zero_le (show 0 ≤ m by omega)
    clear hc ho hal hm
    have K := Lib.hid (long_any k (by omega) 66 w7)
    go_wp2_with fail
    refine (K.out).mono ?_
    rintro e w8 ⟨l, hl, rfl, hb⟩
    obtain ⟨s, hs⟩ : ∃ s : ByteArray, s = ⟨l.toArray⟩ := ⟨_, rfl⟩
    have hss : s.size ≤ 101 := by rw [hs]; show l.toArray.size ≤ 101; simp; omega
    rw [← hs]
    replace V := Lib.hid (V.out.next hb)
    have e2 : w8.cell? ⟨q, 2, none⟩ = some (.string t) := V.out.var.cell 2
    have g2 := V.out.var.free 2
    have W := Lib.hid (V.out.set2 s)
    clear hb hs hl K V
    go_upto_region 4 with fail
    generalize w8.setCell ⟨q, 2, none⟩ (.string s) = w9 at *
    clear e2 g2
    have c0 : w9.cell? ⟨q, 0, none⟩ = some (.int .i64 x) := W.out.var.cell 0
    have c1 : w9.cell? ⟨q, 1, none⟩ = some (.int .i64 y) := W.out.var.cell 1
    have c2 : w9.cell? ⟨q, 2, none⟩ = some (.string s) := W.out.var.cell 2
    have d0 : w9.cell? ⟨w.heap.size, 0, none⟩ = some (.int .i64 0) := W.out.res.cell 0
    have d1 : w9.cell? ⟨w.heap.size, 1, none⟩ = some (.int .i64 0) := W.out.res.cell 1
    have d2 : w9.cell? ⟨w.heap.size, 2, none⟩ = some (.string ⟨#[]⟩) := W.out.res.cell 2
    have f0 := W.out.res.free 0
    have f1 := W.out.res.free 1
    have f2 := W.out.res.free 2
    have ST := Lib.hid (W.out.store)
    have r0 := ST.out.2.cell 0
    have r1 := ST.out.2.cell 1
    have r2 := ST.out.2.cell 2
    have E : Hid (Q (.returned (.agg #[.int .i64 x, .int .i64 y, .string s])) (((w9.setCell ⟨w.heap.size, 0, none⟩ (.int .i64 x)).setCell ⟨w.heap.size, 1, none⟩ (.int .i64 y)).setCell ⟨w.heap.size, 2, none⟩ (.string s))) := Lib.hid (by
      rw [HQ.out]
      exact ⟨x, y, s, ⟨hx, hy, hss⟩, rfl, ST.out.1.1, ST.out.1.2⟩)
    clear W ST
    go_wp2_with fail
    exact bodyPost_ret (v := .agg #[.int .i64 x, .int .i64 y, .string s]) (by simp [results, Tryd.results19, go_sem, r0, r1, r2]) rfl E.out

set_option maxRecDepth 100000 in
set_option maxHeartbeats 800000 in
theorem drawInnerText_any (a : Option Addr) (len cap : Nat) (w : World) (H : Src a len w) :
    Calls Tryd.prog 8 #[.slice a len cap] w fun e w' => ∃ (x y : Int) (t : ByteArray), ((-1 ≤ x ∧ x ≤ 4294967296) ∧ (-1 ≤ y ∧ y ≤ 4294967296) ∧ t.size ≤ 101) ∧ e = .returned (.agg #[.int .i64 x, .int .i64 y, .string t]) ∧ Below w.heap.size w w' := by
  obtain ⟨Q, HQ⟩ : ∃ Q : Ending → World → Prop, Hid (Q = fun e w' => ∃ (x y : Int) (t : ByteArray), ((-1 ≤ x ∧ x ≤ 4294967296) ∧ (-1 ≤ y ∧ y ≤ 4294967296) ∧ t.size ≤ 101) ∧ e = .returned (.agg #[.int .i64 x, .int .i64 y, .string t]) ∧ Below w.heap.size w w') := ⟨_, Lib.hid rfl⟩
  rw [← HQ.out]
  have R0 := Lib.hid (VarA.new w InnerT #[.int .i64 0, .int .i64 0, .string ⟨#[]⟩])
  have B0 := Lib.hid ((Below.refl w.heap.size w).alloc (Nat.le_refl _) (.cells #[.int .i64 0, .int .i64 0, .string ⟨#[]⟩] InnerT))
  have HS := Lib.hid (H.below B0.out)
  clear H
  go_enter Tryd.func8, Tryd.ntmps8
  go_upto_region 1 with fail
  generalize w.alloc (.cells #[.int .i64 0, .int .i64 0, .string ⟨#[]⟩] InnerT) = Y0 at *
  go_wp2_with fail
  refine (new_any a len cap _ HS.out).mono ?_
  rintro e w1 ⟨c, rfl, hc, hcur, hb⟩
  have HC := Lib.hid hcur
  have hcw : w.heap.size < c := by have := R0.out.lt; omega
  replace R0 := Lib.hid (R0.out.next hb)
  replace B0 := Lib.hid (B0.out.trans (hb.mono B0.out.size))
  clear hcur hb
  go_wp2_with fail
  refine (l21Inner_any _ HC.out).mono ?_
  rintro e w2 ⟨x, y, t, ht, rfl, hcur, ho⟩
  replace R0 := Lib.hid (R0.out.only ho (by omega))
  replace B0 := Lib.hid (B0.out.trans (ho.below (by omega) B0.out.size))
  clear hcur ho HC HS
  have d0 : w2.cell? ⟨w.heap.size, 0, none⟩ = some (.int .i64 0) := R0.out.cell 0
  have d1 : w2.cell? ⟨w.heap.size, 1, none⟩ = some (.int .i64 0) := R0.out.cell 1
  have d2 : w2.cell? ⟨w.heap.size, 2, none⟩ = some (.string ⟨#[]⟩) := R0.out.cell 2
  have f0 := R0.out.free 0
  have f1 := R0.out.free 1
  have f2 := R0.out.free 2
  have r0 := (((R0.out.set 0 (.int .i64 x)).set 1 (.int .i64 y)).set 2 (.string t)).cell 0
  have r1 := (((R0.out.set 0 (.int .i64 x)).set 1 (.int .i64 y)).set 2 (.string t)).cell 1
  have r2 := (((R0.out.set 0 (.int .i64 x)).set 1 (.int .i64 y)).set 2 (.string t)).cell 2
  have E : Hid (Q (.returned (.agg #[.int .i64 x, .int .i64 y, .string t])) (((w2.setCell ⟨w.heap.size, 0, none⟩ (.int .i64 x)).setCell ⟨w.heap.size, 1, none⟩ (.int .i64 y)).setCell ⟨w.heap.size, 2, none⟩ (.string t))) := Lib.hid (by
    rw [HQ.out]
    exact ⟨x, y, t, ht, rfl, ((B0.out.setCell (p := ⟨w.heap.size, 0, none⟩) (Nat.le_refl _) _).setCell (p := ⟨w.heap.size, 1, none⟩) (Nat.le_refl _) _).setCell (p := ⟨w.heap.size, 2, none⟩) (Nat.le_refl _) _⟩)
  clear R0 B0
  go_wp2_with fail
  exact bodyPost_ret (v := .agg #[.int .i64 x, .int .i64 y, .string t]) (by simp [results, Tryd.results8, go_sem, r0, r1, r2]) rfl E.out

set_option maxRecDepth 100000 in
set_option maxHeartbeats 800000 in
theorem drawReadInner_any (a : Option Addr) (len cap : Nat) (w : World) (H : Src a len w) :
    Calls Tryd.prog 11 #[.slice a len cap] w fun e w' => ∃ s : ByteArray, s.size ≤ 108 ∧ e = .returned (.string s) ∧ Below w.heap.size w w' := by
  obtain ⟨Q, HQ⟩ : ∃ Q : Ending → World → Prop, Hid (Q = fun e w' => ∃ s : ByteArray, s.size ≤ 108 ∧ e = .returned (.string s) ∧ Below w.heap.size w w') := ⟨_, Lib.hid rfl⟩
  rw [← HQ.out]
  have HS := Lib.hid H
  clear H
  go_enter Tryd.func11, Tryd.ntmps11
  go_wp2_with fail
  refine (new_any a len cap _ HS.out).mono ?_
  rintro e w1 ⟨c, rfl, hc, hcur, hb⟩
  have HC := Lib.hid hcur
  have B0 := Lib.hid hb
  clear hcur hb
  go_wp2_with fail
  refine (l21Inner_any _ HC.out).mono ?_
  rintro e w2 ⟨x, y, t, ht, rfl, hcur, ho⟩
  replace HC := Lib.hid hcur
  replace B0 := Lib.hid (B0.out.trans (ho.below (by omega) B0.out.size))
  clear hcur ho
  obtain ⟨s, ok, hs⟩ := innerText_is x y t
  have hsz := innerT_size hs
  have K := Lib.hid (specInnerText_any x y t s ok hs w2)
  clear hs
  go_wp2_with fail
  refine (K.out).mono ?_
  rintro e w3 ⟨rfl, hb⟩
  replace HC := Lib.hid (HC.out.below hb)
  replace B0 := Lib.hid (B0.out.trans (hb.mono B0.out.size))
  clear hb K
  go_wp2_with fail
  refine (once_any 4 (by omega) (by omega) _ HC.out).mono ?_
  rintro e w4 ⟨b, rfl, hcur, ho⟩
  replace HC := Lib.hid hcur
  replace B0 := Lib.hid (B0.out.trans (ho.below (by omega) B0.out.size))
  clear hcur ho
  cases b with
  | false =>
    have E : Hid (Q (.returned (.string s)) w4) := Lib.hid (by
      rw [HQ.out]
      exact ⟨s, hsz, rfl, B0.out⟩)
    clear HC B0
    go_wp2_with fail
    exact E.out
  | true =>
    go_wp2_with fail
    refine (below_any 12 (by omega) (by omega) _ HC.out).mono ?_
    rintro e w5 ⟨z, z0, z1, rfl, hcur, ho⟩
    replace HC := Lib.hid hcur
    replace B0 := Lib.hid (B0.out.trans (ho.below (by omega) B0.out.size))
    clear hcur ho
    obtain ⟨nt, rfl⟩ := Int.eq_ofNat_of_zero_le z0
    go_wp2_with fail
    refine (text_any nt (by omega) _ HC.out).mono ?_
    rintro e w6 ⟨l, hl2, rfl, hcur, ho⟩
    have E : Hid (Q (.returned (.string ⟨l.toArray⟩)) w6) := Lib.hid (by
      rw [HQ.out]
      exact ⟨_, by show l.toArray.size ≤ 108; simp; omega, rfl, B0.out.trans (ho.below (by omega) B0.out.size)⟩)
    clear HC B0 hcur ho
    go_wp2_with fail
    exact E.out

end Go.Proofs.YthiicpbedgcmlaaDoor
