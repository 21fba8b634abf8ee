/-
  Options that are drawn: what is held of memory meanwhile.
  Right options, drawn.
  'out = append(out, x)' as a step of a region that draws its order; no program is spoken of here.
-/
import Derived.Test.YtmgdhlodifkemadDoorJ05
import Derived.Test.YtmgdhlodifkemadDoorJ12
import Derived.Test.YtmgdhlodifkemadDoorJ11
namespace Go.Proofs.YtmgdhlodifkemadDoor
open Go.RowKit

theorem Only.chg1 {c : Nat} {X Y : World} (h : Only c X Y) : Chg [c] X Y := ⟨h.os, h.tape, h.output, h.size, fun g hg hn => h.block g hg (fun e => hn (List.mem_singleton.2 e))⟩
theorem texts_only {X Y : World} {b c : Nat} {f : List Nat} {v : Value} {ws : List ByteArray} (h : layStringS.own X b f [v] ws) (ho : Only c X Y) (hc : c < b) : layStringS.own Y b f [v] ws :=
  layStringS.chg h ho.chg1 (fun g hg hg2 => by rw [List.mem_singleton] at hg2; have := (layStringS.blocks h g hg).1; omega)
/-- The cursor, the result, the options in their variable. -/
structure DO (c : Nat) (a : Option Addr) (len cap : Nat) (w : World) (q : Nat) (z : Int) (v : Value) (ws : List ByteArray) (p : Bool) (X : World) : Prop where
  cur : Cur c a len cap X
  only : Only c w X
  res : VarA w.heap.size OptionsT #[.int .i64 0, .slice none 0 0, .bool false] X
  var : VarA q OptionsT #[.int .i64 z, v, .bool p] X
  own : ∃ f, f.Nodup ∧ layStringS.own X w.heap.size f [v] ws
  lt : w.heap.size < q
  cl : c < w.heap.size
section
variable {c : Nat} {a : Option Addr} {len cap : Nat} {w : World} {q : Nat} {z : Int} {v : Value} {ws : List ByteArray} {p : Bool} {X Y : World}
theorem DO.next (h : DO c a len cap w q z v ws p X) (hb : Below X.heap.size X Y) : DO c a len cap w q z v ws p Y := by
  obtain ⟨f, h0, hf⟩ := h.own
  exact ⟨h.cur.below hb, h.only.trans (.of_below hb), h.res.next hb, h.var.next hb, ⟨f, h0, layStringS.next hf hb⟩, h.lt, h.cl⟩
theorem DO.drew (h : DO c a len cap w q z v ws p X) : DO c a len cap w q z v ws p X.drew := h.next ((Below.refl _ X).drew)
theorem DO.step (h : DO c a len cap w q z v ws p X) (hc : Cur c a len cap Y) (ho : Only c X Y) : DO c a len cap w q z v ws p Y := by
  obtain ⟨f, h0, hf⟩ := h.own
  have h1 := h.cl
  have h2 := h.lt
  exact ⟨hc, h.only.trans ho, h.res.only ho (by omega), h.var.only ho (by omega), ⟨f, h0, texts_only hf ho h1⟩, h.lt, h.cl⟩
/-- The size alone is put anew. -/
theorem DO.size (h : DO c a len cap w q z v ws p X) (y : Int) : DO c a len cap w q y v ws p (X.setCell ⟨q, 0, none⟩ (.int .i64 y)) := by
  obtain ⟨f, h0, hf⟩ := h.own
  have h1 := h.cl
  have h2 := h.lt
  have hc := Chg.cell X q 0 (.int .i64 y)
  have hb : Below q X (X.setCell ⟨q, 0, none⟩ (.int .i64 y)) := hc.below (fun g hg => by rw [List.mem_singleton] at hg; omega) (Nat.le_of_lt h.var.lt)
  have k1 := row_off flatString hf h.var (by decide)
  exact ⟨h.cur.kept hb (by omega), h.only.behind (hb.mono (by omega)), h.res.next' hb (by omega), h.var.set 0 _, ⟨f, h0, layStringS.chg hf hc (fun g hg hg2 => by rw [List.mem_singleton] at hg2; subst hg2; exact k1 hg)⟩, h.lt, h.cl⟩
/-- The ways alone are put anew. -/
theorem DO.ways (h : DO c a len cap w q z v ws p X) {u : Value} {us : List ByteArray} (hu : ∃ f, f.Nodup ∧ layStringS.own X w.heap.size f [u] us) : DO c a len cap w q z u us p (X.setCell ⟨q, 1, none⟩ u) := by
  obtain ⟨f, h0, hf⟩ := hu
  have h1 := h.cl
  have h2 := h.lt
  have hc := Chg.cell X q 1 u
  have hb : Below q X (X.setCell ⟨q, 1, none⟩ u) := hc.below (fun g hg => by rw [List.mem_singleton] at hg; omega) (Nat.le_of_lt h.var.lt)
  have k1 := row_off flatString hf h.var (by decide)
  exact ⟨h.cur.kept hb (by omega), h.only.behind (hb.mono (by omega)), h.res.next' hb (by omega), h.var.set 1 u, ⟨f, h0, layStringS.chg hf hc (fun g hg hg2 => by rw [List.mem_singleton] at hg2; subst hg2; exact k1 hg)⟩, h.lt, h.cl⟩
theorem own_form {b : Nat} {f : List Nat} (h : layStringS.own X b f [v] ws) : ∀ k, v.ownBlock = some k → b ≤ k ∧ k ∈ f := by
  obtain ⟨us, ho, _, rfl⟩ := flat_inv flatString h
  exact fun k hk => ⟨(World.ownsRow.lt ho k hk).1, by unfold blk; rw [hk]; simp⟩
/-- Behind an append onto the ways, ahead of their store. -/
theorem DO.grown (h : DO c a len cap w q z v ws p X) (hg : X.grownBy Y v.ownBlock) (hb : Below w.heap.size X Y) : Cur c a len cap Y ∧ Only c w Y ∧ VarA w.heap.size OptionsT #[.int .i64 0, .slice none 0 0, .bool false] Y ∧ VarA q OptionsT #[.int .i64 z, v, .bool p] Y := by
  obtain ⟨f, h0, hf⟩ := h.own
  have k1 := row_off flatString hf h.var (by decide)
  have k2 := row_off flatString hf h.res (by decide)
  have hne : ∀ r, r ∉ f → some r ≠ v.ownBlock := fun r hr e => hr (own_form hf r e.symm).2
  exact ⟨h.cur.kept hb h.cl, h.only.behind hb, ⟨(hg.block _ h.res.lt (hne _ k2)).trans h.res.row⟩, ⟨(hg.block _ h.var.lt (hne _ k1)).trans h.var.row⟩⟩
theorem DO.pushed (h : DO c a len cap w q z v ws p X) {u : Value} {us : List ByteArray} {f : List Nat} (hd : f.Nodup) (hu : layStringS.own Y w.heap.size f [u] us) (hg : X.grownBy Y v.ownBlock) (hb : Below w.heap.size X Y) : DO c a len cap w q z u us p (Y.setCell ⟨q, 1, none⟩ u) := by
  obtain ⟨g1, g2, g3, g4⟩ := h.grown hg hb
  have h1 := h.cl
  have h2 := h.lt
  have hc := Chg.cell Y q 1 u
  have hbb : Below q Y (Y.setCell ⟨q, 1, none⟩ u) := hc.below (fun g hg => by rw [List.mem_singleton] at hg; omega) (Nat.le_of_lt g4.lt)
  have k1 := row_off flatString hu g4 (by decide)
  exact ⟨g1.kept hbb (by omega), g2.behind (hbb.mono (by omega)), g3.next' hbb (by omega), g4.set 1 u, ⟨f, hd, layStringS.chg hu hc (fun g hg hg2 => by rw [List.mem_singleton] at hg2; subst hg2; exact k1 hg)⟩, h.lt, h.cl⟩
end
/-- How a draw of options ends. -/
def DrewOpt (P : Int → List ByteArray → Prop) (c : Nat) (a : Option Addr) (len cap : Nat) (w : World) (e : Ending) (w' : World) : Prop :=
  ∃ (z : Int) (b : Option Addr) (d : Nat) (ws : List ByteArray) (p : Bool) (f : List Nat), P z ws ∧ e = .returned (.agg #[.int .i64 z, .slice b ws.length d, .bool p]) ∧ f.Nodup ∧ layStringS.own w' w.heap.size f [.slice b ws.length d] ws ∧ Cur c a len cap w' ∧ Only c w w'

/-- The options are handed back. -/
theorem DO.done {P : Int → List ByteArray → Prop} {c : Nat} {a : Option Addr} {len cap : Nat} {w : World} {q : Nat} {z : Int} {b : Option Addr} {d : Nat} {ws : List ByteArray} {p : Bool} {X : World} (hP : P z ws) (h : DO c a len cap w q z (.slice b ws.length d) ws p X) :
    DrewOpt P c a len cap w (.returned (.agg #[.int .i64 z, .slice b ws.length d, .bool p])) (((X.setCell ⟨w.heap.size, 0, none⟩ (.int .i64 z)).setCell ⟨w.heap.size, 1, none⟩ (.slice b ws.length d)).setCell ⟨w.heap.size, 2, none⟩ (.bool p)) := by
  obtain ⟨f, h0, hf⟩ := h.own
  have h1 := h.cl
  have k1 := row_off flatString hf h.res (by decide)
  have ho : Only w.heap.size X (((X.setCell ⟨w.heap.size, 0, none⟩ (.int .i64 z)).setCell ⟨w.heap.size, 1, none⟩ (.slice b ws.length d)).setCell ⟨w.heap.size, 2, none⟩ (.bool p)) := ((Only.setCell 0 _).trans (Only.setCell 1 _)).trans (Only.setCell 2 _)
  have hb : Below w.heap.size X (((X.setCell ⟨w.heap.size, 0, none⟩ (.int .i64 z)).setCell ⟨w.heap.size, 1, none⟩ (.slice b ws.length d)).setCell ⟨w.heap.size, 2, none⟩ (.bool p)) := ho.below (Nat.le_refl _) h.only.size
  exact ⟨z, b, d, ws, p, f, hP, rfl, h0, layStringS.chg hf ho.chg1 (fun g hg hg2 => by rw [List.mem_singleton] at hg2; subst hg2; exact k1 hg), h.cur.kept hb h1, h.only.behind hb⟩
/-- The ways that are drawn. -/
def drawWays : List ByteArray := [⟨#[97, 49]⟩, ⟨#[98, 50]⟩, ⟨#[99, 51]⟩, ⟨#[100, 100]⟩]
theorem drawWays_way : ∀ x ∈ drawWays, WayP x := by
  intro x hx
  simp only [drawWays, List.mem_cons, List.not_mem_nil, or_false] at hx
  rcases hx with rfl | rfl | rfl | rfl
  all_goals
    refine ⟨fun y hy => ?_, by decide, by decide⟩
    simp only [List.mem_cons, List.not_mem_nil, or_false] at hy
    rcases hy with rfl | rfl <;> (unfold SignW; decide)

end Go.Proofs.YtmgdhlodifkemadDoor
namespace Go.Proofs.YtmgdhlodifkemadDoor
open Go.RowKit

set_option maxRecDepth 100000 in
set_option maxHeartbeats 3200000 in
theorem options_any {c : Nat} {a : Option Addr} {len cap : Nat} (w : World) (H : Cur c a len cap w) :
    Calls Tryd.prog 45 #[.pointer (some ⟨c, 0, none⟩)] w (DrewOpt OptP c a len cap w) := by
  have hcs : c < w.heap.size := cell_size (p := ⟨c, 0, none⟩) H.c0
  have hB0 : Below w.heap.size w (w.alloc (.cells #[.int .i64 0, .slice none 0 0, .bool false] OptionsT)) := (Below.refl _ _).alloc (Nat.le_refl _) _
  have R0 := Lib.hid (VarA.new w OptionsT #[.int .i64 0, .slice none 0 0, .bool false])
  have HC := Lib.hid (H.below hB0)
  have HO := Lib.hid (show Only c w _ from .of_below hB0)
  clear H hB0
  obtain ⟨Q, HQ⟩ : ∃ Q : Ending → World → Prop, Hid (Q = DrewOpt OptP c a len cap w) := ⟨_, Lib.hid rfl⟩
  rw [← HQ.out]
  go_enter Tryd.func45, Tryd.ntmps45
  go_upto_region 1 with fail
  generalize w.alloc (.cells #[.int .i64 0, .slice none 0 0, .bool false] OptionsT) = Y0 at *
  go_wp2_with fail
  refine (below_any 41 (by omega) (by omega) _ HC.out).mono ?_
  rintro e Y1 ⟨x, x0, x1, rfl, hc1, ho1⟩
  have C1 := Lib.hid hc1
  have O1 := Lib.hid (HO.out.trans ho1)
  have R1 := Lib.hid (R0.out.only ho1 (by omega))
  clear hc1 ho1 HC HO R0
  go_wp2_with fail
  refine (once_any 2 (by omega) (by omega) _ C1.out).mono ?_
  rintro e Y2 ⟨p, rfl, hc1, ho1⟩
  obtain ⟨z, hz, hz0, hz1⟩ : ∃ z : Int, 20 + x = z ∧ 20 ≤ z ∧ z ≤ 60 := ⟨_, rfl, by omega, by omega⟩
  have hal : Below Y2.heap.size Y2 (Y2.alloc (.cells #[.int .i64 z, .slice none 0 0, .bool p] OptionsT)) := (Below.refl _ _).alloc (Nat.le_refl _) _
  have R2 := R1.out.only ho1 (show w.heap.size ≠ c by omega)
  have D0 : Hid (DO c a len cap w Y2.heap.size z (.slice none 0 0) [] p (Y2.alloc (.cells #[.int .i64 z, .slice none 0 0, .bool p] OptionsT))) := Lib.hid ⟨hc1.below hal, (O1.out.trans ho1).trans (.of_below hal), R2.next hal, VarA.new Y2 OptionsT _, ⟨[], by simp, ⟨_, rfl, .inl ⟨rfl, rfl, rfl⟩⟩⟩, R2.lt, hcs⟩
  clear hc1 ho1 hal R2 C1 O1 R1
  go_upto_region 2 with fail
  clear hz
  generalize Y2.alloc (.cells #[.int .i64 z, .slice none 0 0, .bool p] OptionsT) = Y3 at *
  generalize Y2.heap.size = q at *
  clear Y0 Y1 Y2
  go_wp2_with fail
  go_loopw [4] (fun i wr => ∃ (k : Nat) (b : Option Addr) (d : Nat) (ws : List ByteArray), k ≤ 4 ∧ i = .int .i64 k ∧ Hid (ws.length ≤ k ∧ (0 < k → 1 ≤ ws.length) ∧ (∀ x ∈ ws, x ∈ drawWays) ∧ ws.Nodup) ∧ DO c a len cap w q z (.slice b ws.length d) ws p wr) (fun i _ => 5 - (intOf i).toNat)
  case atStart => exact ⟨0, _, _, [], by omega, rfl, Lib.hid ⟨by simp, fun h => absurd h (by omega), by simp, by simp⟩, D0.out⟩
  case round =>
    clear D0
    obtain ⟨k, b, d, ws, hk, rfl, HW, hd⟩ := hrel
    have D1 := Lib.hid hd
    have hwl := HW.out.1
    clear hd
    go_wp2_with fail
    refine (below_any 4 (by omega) (by omega) _ D1.out.cur).mono ?_
    rintro e w2 ⟨y, y0, y1, rfl, hc1, ho1⟩
    have D2 := Lib.hid (D1.out.step hc1 ho1)
    clear D1 hc1 ho1
    by_cases hlt : (k : Int) < 1 + y
    · have hal : Below w2.heap.size w2 (w2.alloc (.cells #[.string ⟨#[97, 49]⟩, .string ⟨#[98, 50]⟩, .string ⟨#[99, 51]⟩, .string ⟨#[100, 100]⟩] StringT)) := (Below.refl _ _).alloc (Nat.le_refl _) _
      have D3 := Lib.hid (D2.out.next hal)
      have hcw : c < w2.heap.size := Nat.lt_of_lt_of_le hcs D2.out.only.size
      clear hal
      go_wp2_with fail
      refine (pickText_any w2.heap.size 4 drawWays rfl (by omega) (by omega) (by omega) _ D3.out.cur ?_).mono ?_
      · intro j hj
        have h4 : j = 0 ∨ j = 1 ∨ j = 2 ∨ j = 3 := by omega
        rcases h4 with rfl | rfl | rfl | rfl <;> simp [drawWays]
      rintro e w4 ⟨t, ht, rfl, hc1, ho1⟩
      have D4 := Lib.hid (D3.out.step hc1 ho1)
      clear D2 D3 hc1 ho1
      have c1 : w4.cell? ⟨q, 1, none⟩ = some (.slice b ws.length d) := D4.out.var.cell 1
      have hrd : layStringS.rd w4 [.slice b ws.length d] ws := by
        obtain ⟨f, _, hf⟩ := D4.out.own
        exact layStringS.read hf
      by_cases hin : t ∈ ws
      · have K := Lib.hid (specHas_any ws t _ true ⟨fun _ => hin, fun _ => rfl⟩ (by omega) w4 hrd)
        have HN : Hid (ws.length ≤ k + 1 ∧ (0 < k + 1 → 1 ≤ ws.length) ∧ (∀ x ∈ ws, x ∈ drawWays) ∧ ws.Nodup) := Lib.hid ⟨by omega, fun _ => List.length_pos_iff.2 (List.ne_nil_of_mem hin), HW.out.2.2.1, HW.out.2.2.2⟩
        clear hin hrd
        go_wp2_with fail
        refine (K.out).mono ?_
        rintro e Z9 ⟨rfl, hw⟩
        rw [hw]
        clear hw K Z9
        go_wp2_with fail
        go_roundw
        case rel => exact ⟨k + 1, _, _, ws, by omega, by go_num, HN, D4.out⟩
        case measure => simp [intOf]; omega
      · have K := Lib.hid (specHas_any ws t _ false ⟨fun e => (by cases e), fun e => absurd e hin⟩ (by omega) w4 hrd)
        have HN : Hid ((ws ++ [t]).length ≤ k + 1 ∧ (0 < k + 1 → 1 ≤ (ws ++ [t]).length) ∧ (∀ x ∈ ws ++ [t], x ∈ drawWays) ∧ (ws ++ [t]).Nodup) := Lib.hid ⟨by simp; omega, fun _ => by simp, fun x hx => (List.mem_append.1 hx).elim (HW.out.2.2.1 x) (fun h => by rw [List.mem_singleton] at h; subst h; exact ht), List.nodup_append.2 ⟨HW.out.2.2.2, by simp, fun x hx y hy e => by rw [List.mem_singleton] at hy; subst hy; subst e; exact hin hx⟩⟩
        clear hin hrd
        go_wp2_with fail
        refine (K.out).mono ?_
        rintro e Z9 ⟨rfl, hw⟩
        rw [hw]
        clear hw K Z9
        obtain ⟨i0, hi, hz0', hsz0, hby0⟩ := info_of infoString
        obtain ⟨f0, hn0, hf0⟩ := D4.out.own
        have hws := D4.out.only.size
        have hl1 : ws.length + 1 ≤ 1000000000 := by omega
        go_upto_region 7 with fail
        go_wp2_with (at_builtin; refine wpList_pushF w4 rfl _ _ 37 rfl w.heap.size StringT i0 _ 16 layString flatString Tryd.underlying37 hi hz0' hsz0 hby0 rfl (by omega) (.slice b ws.length d) f0 ws (by rfl) hf0 t #[.string t] (layString_rd.2 rfl) (by rfl) hl1 hws ?_; intro v' w5 hw1 hw2 hw3 hw4; obtain ⟨g5, c5, rfl, hbk, _, _⟩ := flat_some flatString hw1 hw2; have D6 := Lib.hid (D4.out.pushed (blk_dup _) hw1 hw3 hw4); have V6 := (D4.out.grown hw3 hw4).2.2.2; have s3 : w5.cell? ⟨q, 1, none⟩ = some (.slice b ws.length d) := V6.cell 1; have z3 : w5.frozen? ⟨q, 1, none⟩ = false := V6.free 1; clear hw1 hw2 hw3 hw4 hbk V6)
        go_roundw
        case rel => exact ⟨k + 1, _, _, ws ++ [t], by omega, by go_num, HN, by have h := D6.out; rw [show (ws ++ [t]).length = ws.length + 1 by simp] at h ⊢; exact h⟩
        case measure => simp [intOf]; omega
    · have HP : Hid (OptP z ws) := Lib.hid ⟨⟨hz0, hz1⟩, HW.out.2.1 (by omega), by omega, fun x hx => drawWays_way x (HW.out.2.2.1 x hx), HW.out.2.2.2⟩
      have e0 : w2.cell? ⟨q, 0, none⟩ = some (.int .i64 z) := D2.out.var.cell 0
      have e1 : w2.cell? ⟨q, 1, none⟩ = some (.slice b ws.length d) := D2.out.var.cell 1
      have e2 : w2.cell? ⟨q, 2, none⟩ = some (.bool p) := D2.out.var.cell 2
      have d0 : w2.cell? ⟨w.heap.size, 0, none⟩ = some (.int .i64 0) := D2.out.res.cell 0
      have d1 : w2.cell? ⟨w.heap.size, 1, none⟩ = some (.slice none 0 0) := D2.out.res.cell 1
      have d2 : w2.cell? ⟨w.heap.size, 2, none⟩ = some (.bool false) := D2.out.res.cell 2
      have f0 := D2.out.res.free 0
      have f1 := D2.out.res.free 1
      have f2 := D2.out.res.free 2
      have FIN := Lib.hid (DO.done HP.out D2.out)
      have R9 := (((D2.out.res.set 0 (.int .i64 z)).set 1 (.slice b ws.length d)).set 2 (.bool p))
      have j0 := R9.cell 0
      have j1 := R9.cell 1
      have j2 := R9.cell 2
      clear R9
      go_wp2_with fail
      try simp only [Exit.inBlock, Exit.then]
      exact bodyPost_ret (v := .agg #[.int .i64 z, .slice b ws.length d, .bool p]) (by simp [results, Tryd.results45, go_sem, j0, j1, j2]) rfl (by rw [HQ.out]; exact FIN.out)

end Go.Proofs.YtmgdhlodifkemadDoor
namespace Go.Proofs.YtmgdhlodifkemadDoor
open Go.RowKit

/-- 'out = append(out, x)' as a step of a region that draws its order, over flat rows. -/
theorem step_pushOne {α : Type} {P : Program} {ops : Array Oper} {o : Oper} {a : Act} {W : World} {K : Act → World → Prop} {Q : Exit → Act → World → Prop} {E : Prop}
    (hg : o.guard = none) (s x : Operand) (t : TypeId) (hop : o.op = Op.call { callee := Callee.builtin Builtin.append, args := #[s, x], argTypes := #[t, t] })
    (base : Nat) (e : TypeId) (i : TypeInfo) (z : Value) (bytes : Nat) (A : Lay α) (hf : Flat A) (ht : P.underlying t = some (.slice e)) (hi : P.info? e = some i) (hz : i.zero = some z)
    (hsize : i.size = A.k) (hby : i.bytes = bytes) (hzs : z.cells.size = A.k) (hb1 : bytes ≤ 1000) (v : Value) (f : List Nat) (xs : List α) (hs : a.eval s = v) (hown : (Lay.rows e A).own W base f [v] xs)
    (y : α) (cs : List Value) (hcs : A.rd W cs y) (ad : Addr) (hx : a.eval x = .slice (some ad) 1 1) (hc : ∀ j u, cs[j]? = some u → W.cell? (ad.add j) = some u)
    (hlen : xs.length + 1 ≤ 1000000000) (hbase : base ≤ W.heap.size)
    (hK : ∀ v' w', (Lay.rows e A).own w' base (blk v') [v'] (xs ++ [y]) → v' ≠ .slice none 0 0 → Below base W w' → W.grownBy w' v.ownBlock → K (a.put o.dst v') w') :
    if Region.wanted o (yielded ops a.tmps) = true then Oper.wp P o a W K Q else E := by
  have hw : Region.wanted o (yielded ops a.tmps) = true := by simp [Region.wanted, hg]
  rw [if_pos hw]
  obtain ⟨us, h1, h2, rfl⟩ := flat_inv hf hown
  have hlt : ∀ k, v.ownBlock = some k → base ≤ k := fun k hk => (World.ownsRow.lt h1 k hk).1
  obtain ⟨v', w', hrun, r1, r2, r3⟩ := run_append_own (P := P) W base t o.type e i z A.k bytes ht hi hz hsize hby hzs A.pos v xs.length us h1 ad 1 1 cs (by rw [A.len hcs, Nat.one_mul]) hc (A.one hcs) (by unfold maxLen; omega)
    (by have h1 : (xs.length + 1) * bytes ≤ 1000000000 * 1000 := Nat.mul_le_mul hlen hb1
        omega) hbase
  unfold Oper.wp
  simp [execOp, hop, resolve, invoke, builtin, hs, hx, hrun, Result.andThen]
  refine hK v' w' ?_ (fun e => by have := (r3.1 e).2; omega) (below_grown r2 hlt hbase) r2
  have h6 : w'.ownsRow base e A.k v' (xs ++ [y]).length (us ++ cs) := by rw [List.length_append]; exact r1
  exact flat_own hf h6 (rdAll_join A (hf.all h2) ⟨cs, [], by simp, hf.any _ _ _ _ hcs, rfl⟩)
theorem lit_cells_one (X : World) (cs : Array Value) (e : TypeId) (j : Nat) (u : Value) (h : cs.toList[j]? = some u) : (X.alloc (.cells cs e)).drew.cell? ((⟨X.heap.size, 0, none⟩ : Addr).add j) = some u := by
  have e1 : (⟨X.heap.size, 0, none⟩ : Addr).add j = ⟨X.heap.size, j, none⟩ := by unfold Addr.add; split <;> simp_all
  show (X.alloc (.cells cs e)).cell? _ = _
  rw [e1, cell_of_row (X.alloc (.cells cs e)) X.heap.size j cs e (0, 0) (heap_alloc_new X _)]
  simpa using h
theorem lit_cells_at (X : World) (cs : Array Value) (e : TypeId) (j : Nat) (u : Value) (h : cs.toList[j]? = some u) : (X.alloc (.cells cs e)).cell? ((⟨X.heap.size, 0, none⟩ : Addr).add j) = some u := lit_cells_one X cs e j u h

end Go.Proofs.YtmgdhlodifkemadDoor
