/-
  The given Agree.
-/
import Derived.Test.YtmgdhlodifkematJ16
namespace Go.Proofs.Ytmgdhlodifkemat
open Go.RowKit

theorem set_three {X : World} {G : Nat} {t : TypeId} {q0 q1 q2 p0 p1 p2 : Value} (h : VarA G t #[q0, q1, q2] X) : VarA G t #[p0, p1, p2] (((X.setCell ⟨G, 0, none⟩ p0).setCell ⟨G, 1, none⟩ p1).setCell ⟨G, 2, none⟩ p2) := ((h.set 0 p0).set 1 p1).set 2 p2
/-- A row of one text, written out. -/
theorem text_lit (V : World) (b : Nat) (x : ByteArray) (hb : b ≤ V.heap.size) : layStringS.own (V.alloc (.cells #[.string x] StringT)) b [V.heap.size] [.slice (some ⟨V.heap.size, 0, none⟩) 1 1] [x] :=
  ⟨_, rfl, .inr ⟨V.heap.size, 1, [.string x], [], rfl, rfl, World.ownsRow_lit V #[.string x] 1 hb (by decide) rfl, ⟨[], [], [.string x], [], rfl, rfl, ⟨rfl, rfl⟩, rfl, rfl⟩⟩⟩
/-- Options as an answer, of the call's own. -/
def OptRet (rz : Int) (rw : List ByteArray) (rp ok : Bool) (w : World) (e : Ending) (w' : World) : Prop :=
  ∃ v fp, e = .returned (.tuple #[.agg #[.int .i64 rz, v, .bool rp], .bool ok]) ∧ fp.Nodup ∧ layStringS.own w' w.heap.size fp [v] rw ∧ Below w.heap.size w w'
/-- The two arguments and the result in their variables. -/
structure AGS (w : World) (ca cb cr : Array Value) (X : World) : Prop where
  a : VarA w.heap.size OptionsT ca X
  b : VarA (w.heap.size + 1) OptionsT cb X
  r : VarA (w.heap.size + 2) OptionsT cr X
  below : Below w.heap.size w X
theorem AGS.next {w : World} {ca cb cr : Array Value} {X Y : World} (h : AGS w ca cb cr X) (hb : Below X.heap.size X Y) : AGS w ca cb cr Y := ⟨h.a.next hb, h.b.next hb, h.r.next hb, h.below.trans (hb.mono h.below.size)⟩
theorem AGS.next3 {w : World} {ca cb cr : Array Value} {X Y : World} (h : AGS w ca cb cr X) (hb : Below (w.heap.size + 3) X Y) : AGS w ca cb cr Y := ⟨⟨(hb.block _ (by omega)).trans h.a.row⟩, ⟨(hb.block _ (by omega)).trans h.b.row⟩, ⟨(hb.block _ (by omega)).trans h.r.row⟩, h.below.trans (hb.mono (by omega))⟩
theorem AGS.off {w : World} {ca cb cr : Array Value} {X : World} (h : AGS w ca cb cr X) (g j : Nat) (v : Value) (hg : w.heap.size + 3 ≤ g) : AGS w ca cb cr (X.setCell ⟨g, j, none⟩ v) := ⟨h.a.off j v (by omega), h.b.off j v (by omega), h.r.off j v (by omega), h.below.trans ((Below.refl _ _).setCell (p := ⟨g, j, none⟩) (show _ ≤ g by omega) v)⟩

set_option maxRecDepth 100000 in
set_option maxHeartbeats 6400000 in
theorem specAgree_any (za : Int) (va : Value) (wa : List ByteArray) (pa : Bool) (zb : Int) (vb : Value) (wb : List ByteArray) (pb : Bool) (rz : Int) (rw : List ByteArray) (rp ok : Bool) (hag : AgreeIs za wa pa zb wb pb rz rw rp ok)
    (la : wa.length ≤ 100000000) (xa : ∀ x ∈ wa, x.size ≤ 100000000) (lb : wb.length ≤ 100000000) (xb : ∀ x ∈ wb, x.size ≤ 100000000) (w : World) (ha : layStringS.rd w [va] wa) (hb : layStringS.rd w [vb] wb) :
    Calls Try.prog 5 #[.agg #[.int .i64 za, va, .bool pa], .agg #[.int .i64 zb, vb, .bool pb]] w (OptRet rz rw rp ok w) := by
  obtain ⟨aa, ca, rfl⟩ := rows_form ha
  obtain ⟨ab, cb, rfl⟩ := rows_form hb
  have e1 : (w.alloc (.cells #[.int .i64 za, .slice aa wa.length ca, .bool pa] OptionsT)).heap.size = w.heap.size + 1 := by simp
  have e2 : ((w.alloc (.cells #[.int .i64 za, .slice aa wa.length ca, .bool pa] OptionsT)).alloc (.cells #[.int .i64 zb, .slice ab wb.length cb, .bool pb] OptionsT)).heap.size = w.heap.size + 2 := by simp
  have h2 := VarA.new (w.alloc (.cells #[.int .i64 za, .slice aa wa.length ca, .bool pa] OptionsT)) OptionsT #[.int .i64 zb, .slice ab wb.length cb, .bool pb]
  have h3 := VarA.new ((w.alloc (.cells #[.int .i64 za, .slice aa wa.length ca, .bool pa] OptionsT)).alloc (.cells #[.int .i64 zb, .slice ab wb.length cb, .bool pb] OptionsT)) OptionsT #[.int .i64 0, .slice none 0 0, .bool false]
  rw [e1] at h2
  rw [e2] at h3
  have S0 : Hid (AGS w #[.int .i64 za, .slice aa wa.length ca, .bool pa] #[.int .i64 zb, .slice ab wb.length cb, .bool pb] #[.int .i64 0, .slice none 0 0, .bool false] (((w.alloc (.cells #[.int .i64 za, .slice aa wa.length ca, .bool pa] OptionsT)).alloc (.cells #[.int .i64 zb, .slice ab wb.length cb, .bool pb] OptionsT)).alloc (.cells #[.int .i64 0, .slice none 0 0, .bool false] OptionsT))) := Lib.hid ⟨((VarA.new w OptionsT _).alloc _).alloc _, h2.alloc _, h3, (((Below.refl w.heap.size w).alloc (Nat.le_refl _) _).alloc (by simp) _).alloc (by simp; omega) _⟩
  have HA := Lib.hid ha
  have HB := Lib.hid hb
  have AG := Lib.hid hag
  have XA := Lib.hid xa
  have XB := Lib.hid xb
  clear ha hb h2 h3 e1 e2 hag xa xb
  obtain ⟨Q, HQ⟩ : ∃ Q : Ending → World → Prop, Hid (Q = OptRet rz rw rp ok w) := ⟨_, Lib.hid rfl⟩
  rw [← HQ.out]
  go_enter Try.func5, Try.ntmps5
  go_upto_region 1 with fail
  generalize ((w.alloc (.cells #[.int .i64 za, .slice aa wa.length ca, .bool pa] OptionsT)).alloc (.cells #[.int .i64 zb, .slice ab wb.length cb, .bool pb] OptionsT)).alloc (.cells #[.int .i64 0, .slice none 0 0, .bool false] OptionsT) = Y at *
  have c0 : Y.cell? ⟨w.heap.size, 0, none⟩ = some (.int .i64 za) := S0.out.a.cell 0
  have c1 : Y.cell? ⟨w.heap.size, 1, none⟩ = some (.slice aa wa.length ca) := S0.out.a.cell 1
  have c2 : Y.cell? ⟨w.heap.size, 2, none⟩ = some (.bool pa) := S0.out.a.cell 2
  by_cases hoa : OptP za wa
  rotate_left
  · have K := Lib.hid (specOptionsOk_bool za _ wa pa false ⟨fun e => (by cases e), fun e => absurd e hoa⟩ la XA.out Y (layStringS.below HA.out S0.out.below))
    have hag := AG.out
    rcases hag with ⟨-, h, -⟩ | ⟨rfl, -, rfl, rfl, rfl⟩
    · exact absurd h hoa
    go_wp2_with fail
    refine (K.out).mono ?_
    rintro e Y1 ⟨rfl, hb1⟩
    have S1 := Lib.hid (S0.out.next hb1)
    clear hb1 K S0 c0 c1 c2
    go_upto_region 2 with fail
    have d0 : Y1.cell? ⟨w.heap.size + 2, 0, none⟩ = some (.int .i64 0) := S1.out.r.cell 0
    have d1 : Y1.cell? ⟨w.heap.size + 2, 1, none⟩ = some (.slice none 0 0) := S1.out.r.cell 1
    have d2 : Y1.cell? ⟨w.heap.size + 2, 2, none⟩ = some (.bool false) := S1.out.r.cell 2
    have f0 := S1.out.r.free 0
    have f1 := S1.out.r.free 1
    have f2 := S1.out.r.free 2
    have R9 := set_three (p0 := .int .i64 0) (p1 := .slice none 0 0) (p2 := .bool false) S1.out.r
    have j0 := R9.cell 0
    have j1 := R9.cell 1
    have j2 := R9.cell 2
    have BZ : Hid (Below w.heap.size w (((Y1.setCell ⟨w.heap.size + 2, 0, none⟩ (.int .i64 0)).setCell ⟨w.heap.size + 2, 1, none⟩ (.slice none 0 0)).setCell ⟨w.heap.size + 2, 2, none⟩ (.bool false))) := Lib.hid (((S1.out.below.setCell (p := ⟨w.heap.size + 2, 0, none⟩) (show _ ≤ w.heap.size + 2 by omega) _).setCell (p := ⟨w.heap.size + 2, 1, none⟩) (show _ ≤ w.heap.size + 2 by omega) _).setCell (p := ⟨w.heap.size + 2, 2, none⟩) (show _ ≤ w.heap.size + 2 by omega) _)
    clear R9
    go_wp2_with fail
    try simp only [Exit.inBlock, Exit.then]
    exact bodyPost_ret (v := .tuple #[.agg #[.int .i64 0, .slice none 0 0, .bool false], .bool false]) (by simp [results, Try.results5, go_sem, j0, j1, j2]) rfl (by rw [HQ.out]; exact ⟨_, [], rfl, by simp, ⟨_, rfl, .inl ⟨rfl, rfl, rfl⟩⟩, BZ.out⟩)
  have K := Lib.hid (specOptionsOk_bool za _ wa pa true ⟨fun _ => hoa, fun _ => rfl⟩ la XA.out Y (layStringS.below HA.out S0.out.below))
  go_wp2_with fail
  refine (K.out).mono ?_
  rintro e Y0 ⟨rfl, hb1⟩
  replace S0 := Lib.hid (S0.out.next hb1)
  clear hb1 K c0 c1 c2 Y
  generalize Y0 = Y at *
  have c0 : Y.cell? ⟨w.heap.size + 1, 0, none⟩ = some (.int .i64 zb) := S0.out.b.cell 0
  have c1 : Y.cell? ⟨w.heap.size + 1, 1, none⟩ = some (.slice ab wb.length cb) := S0.out.b.cell 1
  have c2 : Y.cell? ⟨w.heap.size + 1, 2, none⟩ = some (.bool pb) := S0.out.b.cell 2
  by_cases hob : OptP zb wb
  rotate_left
  · have K := Lib.hid (specOptionsOk_bool zb _ wb pb false ⟨fun e => (by cases e), fun e => absurd e hob⟩ lb XB.out Y (layStringS.below HB.out S0.out.below))
    have hag := AG.out
    rcases hag with ⟨-, -, h, -⟩ | ⟨rfl, -, rfl, rfl, rfl⟩
    · exact absurd h hob
    go_wp2_with fail
    refine (K.out).mono ?_
    rintro e Y1 ⟨rfl, hb1⟩
    have S1 := Lib.hid (S0.out.next hb1)
    clear hb1 K S0 c0 c1 c2
    go_upto_region 2 with fail
    have d0 : Y1.cell? ⟨w.heap.size + 2, 0, none⟩ = some (.int .i64 0) := S1.out.r.cell 0
    have d1 : Y1.cell? ⟨w.heap.size + 2, 1, none⟩ = some (.slice none 0 0) := S1.out.r.cell 1
    have d2 : Y1.cell? ⟨w.heap.size + 2, 2, none⟩ = some (.bool false) := S1.out.r.cell 2
    have f0 := S1.out.r.free 0
    have f1 := S1.out.r.free 1
    have f2 := S1.out.r.free 2
    have R9 := set_three (p0 := .int .i64 0) (p1 := .slice none 0 0) (p2 := .bool false) S1.out.r
    have j0 := R9.cell 0
    have j1 := R9.cell 1
    have j2 := R9.cell 2
    have BZ : Hid (Below w.heap.size w (((Y1.setCell ⟨w.heap.size + 2, 0, none⟩ (.int .i64 0)).setCell ⟨w.heap.size + 2, 1, none⟩ (.slice none 0 0)).setCell ⟨w.heap.size + 2, 2, none⟩ (.bool false))) := Lib.hid (((S1.out.below.setCell (p := ⟨w.heap.size + 2, 0, none⟩) (show _ ≤ w.heap.size + 2 by omega) _).setCell (p := ⟨w.heap.size + 2, 1, none⟩) (show _ ≤ w.heap.size + 2 by omega) _).setCell (p := ⟨w.heap.size + 2, 2, none⟩) (show _ ≤ w.heap.size + 2 by omega) _)
    clear R9
    go_wp2_with fail
    try simp only [Exit.inBlock, Exit.then]
    exact bodyPost_ret (v := .tuple #[.agg #[.int .i64 0, .slice none 0 0, .bool false], .bool false]) (by simp [results, Try.results5, go_sem, j0, j1, j2]) rfl (by rw [HQ.out]; exact ⟨_, [], rfl, by simp, ⟨_, rfl, .inl ⟨rfl, rfl, rfl⟩⟩, BZ.out⟩)
  have K := Lib.hid (specOptionsOk_bool zb _ wb pb true ⟨fun _ => hob, fun _ => rfl⟩ lb XB.out Y (layStringS.below HB.out S0.out.below))
  go_wp2_with fail
  refine (K.out).mono ?_
  rintro e Y0 ⟨rfl, hb1⟩
  replace S0 := Lib.hid (S0.out.next hb1)
  clear hb1 K c0 c1 c2 Y
  go_upto_region 3 with fail
  generalize Y0 = Y at *
  have c0 : Y.cell? ⟨w.heap.size, 0, none⟩ = some (.int .i64 za) := S0.out.a.cell 0
  have c1 : Y.cell? ⟨w.heap.size, 1, none⟩ = some (.slice aa wa.length ca) := S0.out.a.cell 1
  have c2 : Y.cell? ⟨w.heap.size, 2, none⟩ = some (.bool pa) := S0.out.a.cell 2
  have k0 : Y.cell? ⟨w.heap.size + 1, 0, none⟩ = some (.int .i64 zb) := S0.out.b.cell 0
  have k1 : Y.cell? ⟨w.heap.size + 1, 1, none⟩ = some (.slice ab wb.length cb) := S0.out.b.cell 1
  have k2 : Y.cell? ⟨w.heap.size + 1, 2, none⟩ = some (.bool pb) := S0.out.b.cell 2
  have hsz := S0.out.r.lt
  have AN := Lib.hid (S0.out.next ((Below.refl _ _).alloc (Nat.le_refl _) (.cells #[.int .i64 za, .slice none 0 0, .bool (pa && pb)] OptionsT)))
  have VN := Lib.hid (VarA.new Y OptionsT #[.int .i64 za, .slice none 0 0, .bool (pa && pb)])
  obtain ⟨pp, hpp⟩ : ∃ pp, pp = (pa && pb) := ⟨_, rfl⟩
  rw [← hpp] at AN VN
  go_cut [6] (fun v wx => v = .pointer (some ⟨Y.heap.size, 0, none⟩) ∧ wx = Y.alloc (.cells #[.int .i64 za, .slice none 0 0, .bool pp] OptionsT))
  case first =>
    cases pa <;> cases pb <;> subst hpp
    all_goals
      go_wp2_with fail
      go_meet
      exact ⟨rfl, rfl⟩
  case rest =>
    obtain ⟨rfl, rfl⟩ := hcut
    have HPP := Lib.hid hpp
    clear hpp
    generalize Y.alloc (.cells #[.int .i64 za, .slice none 0 0, .bool pp] OptionsT) = X at *
    generalize Y.heap.size = G at *
    clear S0 c0 c1 c2 k0 k1 k2
    have c0 : X.cell? ⟨w.heap.size, 0, none⟩ = some (.int .i64 za) := AN.out.a.cell 0
    have c1 : X.cell? ⟨w.heap.size, 1, none⟩ = some (.slice aa wa.length ca) := AN.out.a.cell 1
    have c2 : X.cell? ⟨w.heap.size, 2, none⟩ = some (.bool pa) := AN.out.a.cell 2
    have k0 : X.cell? ⟨w.heap.size + 1, 0, none⟩ = some (.int .i64 zb) := AN.out.b.cell 0
    have k1 : X.cell? ⟨w.heap.size + 1, 1, none⟩ = some (.slice ab wb.length cb) := AN.out.b.cell 1
    have k2 : X.cell? ⟨w.heap.size + 1, 2, none⟩ = some (.bool pb) := AN.out.b.cell 2
    have g0 : X.cell? ⟨G, 0, none⟩ = some (.int .i64 za) := VN.out.cell 0
    have z0 : X.frozen? ⟨G, 0, none⟩ = false := VN.out.free 0
    by_cases hlt : zb < za
    · have HMZ : Hid (zb = if zb < za then zb else za) := Lib.hid (if_pos hlt).symm
      have AN2 := Lib.hid (AN.out.off G 0 (.int .i64 zb) (by omega))
      have VN2 : Hid (VarA G OptionsT #[.int .i64 zb, .slice none 0 0, .bool pp] (X.setCell ⟨G, 0, none⟩ (.int .i64 zb))) := Lib.hid (VN.out.set 0 _)
      go_upto_region 6 with fail
      generalize X.setCell ⟨G, 0, none⟩ (.int .i64 zb) = V at *
      clear hlt AN VN c0 c1 c2 k0 k1 k2 g0 z0
      go_wp2_with fail
      go_loopw [7] (fun c wr => ∃ j : Nat, j ≤ wa.length ∧ c = .int .i64 j ∧ Hid (∀ k, (hk : k < wa.length) → k < j → wa[k] ∉ wb) ∧ AGS w #[.int .i64 za, .slice aa wa.length ca, .bool pa] #[.int .i64 zb, .slice ab wb.length cb, .bool pb] #[.int .i64 0, .slice none 0 0, .bool false] wr ∧ VarA G OptionsT #[.int .i64 zb, .slice none 0 0, .bool pp] wr) (fun c _ => wa.length - (intOf c).toNat)
      case atStart => exact ⟨0, Nat.zero_le _, rfl, fun k _ h => absurd h (by omega), AN2.out, VN2.out⟩
      case round =>
        clear AN2 VN2
        obtain ⟨j, hj, rfl, HN, h1, h2⟩ := hrel
        have S1 := Lib.hid h1
        have VN := Lib.hid h2
        clear h1 h2
        have c1 : wr.cell? ⟨w.heap.size, 1, none⟩ = some (.slice aa wa.length ca) := S1.out.a.cell 1
        have k1 : wr.cell? ⟨w.heap.size + 1, 1, none⟩ = some (.slice ab wb.length cb) := S1.out.b.cell 1
        by_cases hlt : j < wa.length
        · have hlt' : (j : Int) < (wa.length : Int) := by omega
          have HNX : Hid (wa[j] ∉ wb → ∀ k, (hk : k < wa.length) → k < j + 1 → wa[k] ∉ wb) := fun hx k hk h => by
            rcases Nat.lt_or_ge k j with h2 | h2
            · exact HN.out k hk h2
            · have : k = j := by omega
              subst this
              exact hx
          have HYS : Hid (wa[j] ∈ wb → ok = true ∧ zb = rz ∧ rw = [wa[j]] ∧ pp = rp) := fun hx => by
            rcases AG.out with ⟨h1, -, -, ⟨i, hi, h2, h3, h4⟩, h5, h6⟩ | ⟨-, h1, -⟩
            · obtain rfl : i = j := by
                rcases Nat.lt_trichotomy i j with h | h | h
                · exact absurd h2 (HN.out i hi h)
                · exact h
                · exact absurd hx (h3 j hlt h)
              exact ⟨h1, HMZ.out.trans h5.symm, h4, HPP.out.trans h6.symm⟩
            · exact absurd hx (h1 hoa hob _ (List.getElem_mem hlt))
          obtain ⟨g, off, cs, rfl, hg, hr, hc⟩ := rows_elem (layStringS.below HA.out S1.out.below) j _ (List.getElem?_eq_getElem hlt)
          generalize wa[j] = x at hr HNX HYS
          rw [layString_rd] at hr
          subst hr
          have c3 : wr.cell? ⟨g, off + j, none⟩ = some (.string x) := (by have h9 := hc 0 _ rfl; rw [str_k] at h9; exact h9)
          clear hc
          by_cases hin : x ∈ wb
          · obtain ⟨rfl, rfl, rfl, rfl⟩ := HYS.out hin
            have K2 : Hid (∀ n : Nat, Calls Try.prog 13 #[.slice ab wb.length cb, .string x] (wr.drewN n) fun e w' => e = .returned (.bool true) ∧ w' = wr.drewN n) := Lib.hid (fun n => specHas_any wb x _ true ⟨fun _ => hin, fun _ => rfl⟩ lb _ (layStringS.below HB.out (below_drewN S1.out.below n)))
            clear hin
            go_wp2_with fail
            go_quiet (first | (go_at_call 13; exact Calls.quiet_of_same (K2.out _)))
            go_upto_region 10 with fail
            have S2 := Lib.hid (S1.out.next (below_drewN (Below.refl _ _) nq))
            have VN2 := Lib.hid (VN.out.next (below_drewN (Below.refl _ _) nq))
            have c1 : (wr.drewN nq).cell? ⟨w.heap.size, 1, none⟩ = some (.slice (some ⟨g, off, none⟩) wa.length ca) := S2.out.a.cell 1
            have c3' : (wr.drewN nq).cell? ⟨g, off + j, none⟩ = some (.string x) := c3
            generalize wr.drewN nq = V at *
            have hGV := VN2.out.lt
            have v0 : V.cell? ⟨G, 0, none⟩ = some (.int .i64 zb) := VN2.out.cell 0
            have v1 : V.cell? ⟨G, 1, none⟩ = some (.slice none 0 0) := VN2.out.cell 1
            have v2 : V.cell? ⟨G, 2, none⟩ = some (.bool pp) := VN2.out.cell 2
            have f1 := VN2.out.free 1
            have hsv : (V.setCell ⟨G, 1, none⟩ (.slice (some ⟨V.heap.size, 0, none⟩) 1 1)).heap.size = V.heap.size := by simp [World.setCell]
            have S3 := Lib.hid ((S2.out.off G 1 (.slice (some ⟨V.heap.size, 0, none⟩) 1 1) (by omega)).next ((Below.refl _ _).alloc (Nat.le_refl _) (.cells #[.string x] StringT)))
            have VN3 : Hid (VarA G OptionsT #[.int .i64 zb, .slice (some ⟨V.heap.size, 0, none⟩) 1 1, .bool pp] ((V.setCell ⟨G, 1, none⟩ (.slice (some ⟨V.heap.size, 0, none⟩) 1 1)).alloc (.cells #[.string x] StringT))) := Lib.hid ((VN2.out.set 1 _).alloc _)
            have RW3 : Hid (layStringS.own ((V.setCell ⟨G, 1, none⟩ (.slice (some ⟨V.heap.size, 0, none⟩) 1 1)).alloc (.cells #[.string x] StringT)) w.heap.size [V.heap.size] [.slice (some ⟨V.heap.size, 0, none⟩) 1 1] [x]) := Lib.hid (by
              have h9 := text_lit (V.setCell ⟨G, 1, none⟩ (.slice (some ⟨V.heap.size, 0, none⟩) 1 1)) w.heap.size x (by rw [hsv]; exact S2.out.below.size)
              rw [hsv] at h9
              exact h9)
            have vg : V.heap.size ≠ w.heap.size + 2 := by have := S2.out.r.lt; omega
            clear S2 VN2 hsv
            go_upto_region 11 with fail
            generalize (V.setCell ⟨G, 1, none⟩ (.slice (some ⟨V.heap.size, 0, none⟩) 1 1)).alloc (.cells #[.string x] StringT) = U at *
            generalize V.heap.size = vv at *
            clear v0 v1 v2 f1 c1 c3 c3'
            have v0 : U.cell? ⟨G, 0, none⟩ = some (.int .i64 zb) := VN3.out.cell 0
            have v1 : U.cell? ⟨G, 1, none⟩ = some (.slice (some ⟨vv, 0, none⟩) 1 1) := VN3.out.cell 1
            have v2 : U.cell? ⟨G, 2, none⟩ = some (.bool pp) := VN3.out.cell 2
            have d0 : U.cell? ⟨w.heap.size + 2, 0, none⟩ = some (.int .i64 0) := S3.out.r.cell 0
            have d1 : U.cell? ⟨w.heap.size + 2, 1, none⟩ = some (.slice none 0 0) := S3.out.r.cell 1
            have d2 : U.cell? ⟨w.heap.size + 2, 2, none⟩ = some (.bool false) := S3.out.r.cell 2
            have f0 := S3.out.r.free 0
            have f1 := S3.out.r.free 1
            have f2 := S3.out.r.free 2
            have R9 := set_three (p0 := .int .i64 zb) (p1 := .slice (some ⟨vv, 0, none⟩) 1 1) (p2 := .bool pp) S3.out.r
            have j0 := R9.cell 0
            have j1 := R9.cell 1
            have j2 := R9.cell 2
            have BZ : Hid (Below w.heap.size w (((U.setCell ⟨w.heap.size + 2, 0, none⟩ (.int .i64 zb)).setCell ⟨w.heap.size + 2, 1, none⟩ (.slice (some ⟨vv, 0, none⟩) 1 1)).setCell ⟨w.heap.size + 2, 2, none⟩ (.bool pp))) := Lib.hid (((S3.out.below.setCell (p := ⟨w.heap.size + 2, 0, none⟩) (show _ ≤ w.heap.size + 2 by omega) _).setCell (p := ⟨w.heap.size + 2, 1, none⟩) (show _ ≤ w.heap.size + 2 by omega) _).setCell (p := ⟨w.heap.size + 2, 2, none⟩) (show _ ≤ w.heap.size + 2 by omega) _)
            have RW4 := Lib.hid (layStringS.keep (w' := ((U.setCell ⟨w.heap.size + 2, 0, none⟩ (.int .i64 zb)).setCell ⟨w.heap.size + 2, 1, none⟩ (.slice (some ⟨vv, 0, none⟩) 1 1)).setCell ⟨w.heap.size + 2, 2, none⟩ (.bool pp)) RW3.out (fun q hq => by
              simp only [List.mem_singleton] at hq
              subst hq
              exact (Below.heap_setCell _ _ _ _ vg).trans ((Below.heap_setCell _ _ _ _ vg).trans (Below.heap_setCell _ _ _ _ vg))))
            clear R9
            go_wp2_with fail
            try simp only [Exit.inBlock, Exit.then]
            exact bodyPost_ret (v := .tuple #[.agg #[.int .i64 zb, .slice (some ⟨vv, 0, none⟩) 1 1, .bool pp], .bool true]) (by simp [results, Try.results5, go_sem, j0, j1, j2]) rfl (by rw [HQ.out]; exact ⟨_, [vv], rfl, by simp, RW4.out, BZ.out⟩)
          · have K2 : Hid (∀ n : Nat, Calls Try.prog 13 #[.slice ab wb.length cb, .string x] (wr.drewN n) fun e w' => e = .returned (.bool false) ∧ w' = wr.drewN n) := Lib.hid (fun n => specHas_any wb x _ false ⟨fun e => (by cases e), fun e => absurd e hin⟩ lb _ (layStringS.below HB.out (below_drewN S1.out.below n)))
            have HJ := Lib.hid (HNX.out hin)
            clear hin
            go_wp2_with fail
            go_quiet (first | (go_at_call 13; exact Calls.quiet_of_same (K2.out _)))
            go_wp2_with fail
            go_roundw
            case rel => exact ⟨j + 1, by omega, by go_num, HJ, S1.out.next (below_drewN (Below.refl _ _) _), VN.out.next (below_drewN (Below.refl _ _) _)⟩
            case measure => simp [intOf]; omega
        · have hlt' : ¬ ((j : Int) < (wa.length : Int)) := by omega
          have hno : ok = false ∧ rz = 0 ∧ rw = [] ∧ rp = false := by
            rcases AG.out with ⟨-, -, -, ⟨i, hi, h2, -⟩, -⟩ | ⟨h1, -, h2, h3, h4⟩
            · exact absurd h2 (HN.out i hi (by omega))
            · exact ⟨h1, h2, h3, h4⟩
          obtain ⟨rfl, rfl, rfl, rfl⟩ := hno
          have d0 : wr.cell? ⟨w.heap.size + 2, 0, none⟩ = some (.int .i64 0) := S1.out.r.cell 0
          have d1 : wr.cell? ⟨w.heap.size + 2, 1, none⟩ = some (.slice none 0 0) := S1.out.r.cell 1
          have d2 : wr.cell? ⟨w.heap.size + 2, 2, none⟩ = some (.bool false) := S1.out.r.cell 2
          have f0 := S1.out.r.free 0
          have f1 := S1.out.r.free 1
          have f2 := S1.out.r.free 2
          have R9 := set_three (p0 := .int .i64 0) (p1 := .slice none 0 0) (p2 := .bool false) S1.out.r
          have j0 := R9.cell 0
          have j1 := R9.cell 1
          have j2 := R9.cell 2
          have BZ : Hid (Below w.heap.size w (((wr.setCell ⟨w.heap.size + 2, 0, none⟩ (.int .i64 0)).setCell ⟨w.heap.size + 2, 1, none⟩ (.slice none 0 0)).setCell ⟨w.heap.size + 2, 2, none⟩ (.bool false))) := Lib.hid (((S1.out.below.setCell (p := ⟨w.heap.size + 2, 0, none⟩) (show _ ≤ w.heap.size + 2 by omega) _).setCell (p := ⟨w.heap.size + 2, 1, none⟩) (show _ ≤ w.heap.size + 2 by omega) _).setCell (p := ⟨w.heap.size + 2, 2, none⟩) (show _ ≤ w.heap.size + 2 by omega) _)
          clear R9
          go_wp2_with fail
          try simp only [Exit.inBlock, Exit.then]
          exact bodyPost_ret (v := .tuple #[.agg #[.int .i64 0, .slice none 0 0, .bool false], .bool false]) (by simp [results, Try.results5, go_sem, j0, j1, j2]) rfl (by rw [HQ.out]; exact ⟨_, [], rfl, by simp, ⟨_, rfl, .inl ⟨rfl, rfl, rfl⟩⟩, BZ.out⟩)
    · have HMZ : Hid (za = if zb < za then zb else za) := Lib.hid (if_neg hlt).symm
      go_upto_region 6 with fail
      generalize X = V at *
      have AN2 := AN
      have VN2 := VN
      clear hlt AN VN c0 c1 c2 k0 k1 k2 g0 z0
      go_wp2_with fail
      go_loopw [7] (fun c wr => ∃ j : Nat, j ≤ wa.length ∧ c = .int .i64 j ∧ Hid (∀ k, (hk : k < wa.length) → k < j → wa[k] ∉ wb) ∧ AGS w #[.int .i64 za, .slice aa wa.length ca, .bool pa] #[.int .i64 zb, .slice ab wb.length cb, .bool pb] #[.int .i64 0, .slice none 0 0, .bool false] wr ∧ VarA G OptionsT #[.int .i64 za, .slice none 0 0, .bool pp] wr) (fun c _ => wa.length - (intOf c).toNat)
      case atStart => exact ⟨0, Nat.zero_le _, rfl, fun k _ h => absurd h (by omega), AN2.out, VN2.out⟩
      case round =>
        clear AN2 VN2
        obtain ⟨j, hj, rfl, HN, h1, h2⟩ := hrel
        have S1 := Lib.hid h1
        have VN := Lib.hid h2
        clear h1 h2
        have c1 : wr.cell? ⟨w.heap.size, 1, none⟩ = some (.slice aa wa.length ca) := S1.out.a.cell 1
        have k1 : wr.cell? ⟨w.heap.size + 1, 1, none⟩ = some (.slice ab wb.length cb) := S1.out.b.cell 1
        by_cases hlt : j < wa.length
        · have hlt' : (j : Int) < (wa.length : Int) := by omega
          have HNX : Hid (wa[j] ∉ wb → ∀ k, (hk : k < wa.length) → k < j + 1 → wa[k] ∉ wb) := fun hx k hk h => by
            rcases Nat.lt_or_ge k j with h2 | h2
            · exact HN.out k hk h2
            · have : k = j := by omega
              subst this
              exact hx
          have HYS : Hid (wa[j] ∈ wb → ok = true ∧ za = rz ∧ rw = [wa[j]] ∧ pp = rp) := fun hx => by
            rcases AG.out with ⟨h1, -, -, ⟨i, hi, h2, h3, h4⟩, h5, h6⟩ | ⟨-, h1, -⟩
            · obtain rfl : i = j := by
                rcases Nat.lt_trichotomy i j with h | h | h
                · exact absurd h2 (HN.out i hi h)
                · exact h
                · exact absurd hx (h3 j hlt h)
              exact ⟨h1, HMZ.out.trans h5.symm, h4, HPP.out.trans h6.symm⟩
            · exact absurd hx (h1 hoa hob _ (List.getElem_mem hlt))
          obtain ⟨g, off, cs, rfl, hg, hr, hc⟩ := rows_elem (layStringS.below HA.out S1.out.below) j _ (List.getElem?_eq_getElem hlt)
          generalize wa[j] = x at hr HNX HYS
          rw [layString_rd] at hr
          subst hr
          have c3 : wr.cell? ⟨g, off + j, none⟩ = some (.string x) := (by have h9 := hc 0 _ rfl; rw [str_k] at h9; exact h9)
          clear hc
          by_cases hin : x ∈ wb
          · obtain ⟨rfl, rfl, rfl, rfl⟩ := HYS.out hin
            have K2 : Hid (∀ n : Nat, Calls Try.prog 13 #[.slice ab wb.length cb, .string x] (wr.drewN n) fun e w' => e = .returned (.bool true) ∧ w' = wr.drewN n) := Lib.hid (fun n => specHas_any wb x _ true ⟨fun _ => hin, fun _ => rfl⟩ lb _ (layStringS.below HB.out (below_drewN S1.out.below n)))
            clear hin
            go_wp2_with fail
            go_quiet (first | (go_at_call 13; exact Calls.quiet_of_same (K2.out _)))
            go_upto_region 10 with fail
            have S2 := Lib.hid (S1.out.next (below_drewN (Below.refl _ _) nq))
            have VN2 := Lib.hid (VN.out.next (below_drewN (Below.refl _ _) nq))
            have c1 : (wr.drewN nq).cell? ⟨w.heap.size, 1, none⟩ = some (.slice (some ⟨g, off, none⟩) wa.length ca) := S2.out.a.cell 1
            have c3' : (wr.drewN nq).cell? ⟨g, off + j, none⟩ = some (.string x) := c3
            generalize wr.drewN nq = V at *
            have hGV := VN2.out.lt
            have v0 : V.cell? ⟨G, 0, none⟩ = some (.int .i64 za) := VN2.out.cell 0
            have v1 : V.cell? ⟨G, 1, none⟩ = some (.slice none 0 0) := VN2.out.cell 1
            have v2 : V.cell? ⟨G, 2, none⟩ = some (.bool pp) := VN2.out.cell 2
            have f1 := VN2.out.free 1
            have hsv : (V.setCell ⟨G, 1, none⟩ (.slice (some ⟨V.heap.size, 0, none⟩) 1 1)).heap.size = V.heap.size := by simp [World.setCell]
            have S3 := Lib.hid ((S2.out.off G 1 (.slice (some ⟨V.heap.size, 0, none⟩) 1 1) (by omega)).next ((Below.refl _ _).alloc (Nat.le_refl _) (.cells #[.string x] StringT)))
            have VN3 : Hid (VarA G OptionsT #[.int .i64 za, .slice (some ⟨V.heap.size, 0, none⟩) 1 1, .bool pp] ((V.setCell ⟨G, 1, none⟩ (.slice (some ⟨V.heap.size, 0, none⟩) 1 1)).alloc (.cells #[.string x] StringT))) := Lib.hid ((VN2.out.set 1 _).alloc _)
            have RW3 : Hid (layStringS.own ((V.setCell ⟨G, 1, none⟩ (.slice (some ⟨V.heap.size, 0, none⟩) 1 1)).alloc (.cells #[.string x] StringT)) w.heap.size [V.heap.size] [.slice (some ⟨V.heap.size, 0, none⟩) 1 1] [x]) := Lib.hid (by
              have h9 := text_lit (V.setCell ⟨G, 1, none⟩ (.slice (some ⟨V.heap.size, 0, none⟩) 1 1)) w.heap.size x (by rw [hsv]; exact S2.out.below.size)
              rw [hsv] at h9
              exact h9)
            have vg : V.heap.size ≠ w.heap.size + 2 := by have := S2.out.r.lt; omega
            clear S2 VN2 hsv
            go_upto_region 11 with fail
            generalize (V.setCell ⟨G, 1, none⟩ (.slice (some ⟨V.heap.size, 0, none⟩) 1 1)).alloc (.cells #[.string x] StringT) = U at *
            generalize V.heap.size = vv at *
            clear v0 v1 v2 f1 c1 c3 c3'
            have v0 : U.cell? ⟨G, 0, none⟩ = some (.int .i64 za) := VN3.out.cell 0
            have v1 : U.cell? ⟨G, 1, none⟩ = some (.slice (some ⟨vv, 0, none⟩) 1 1) := VN3.out.cell 1
            have v2 : U.cell? ⟨G, 2, none⟩ = some (.bool pp) := VN3.out.cell 2
            have d0 : U.cell? ⟨w.heap.size + 2, 0, none⟩ = some (.int .i64 0) := S3.out.r.cell 0
            have d1 : U.cell? ⟨w.heap.size + 2, 1, none⟩ = some (.slice none 0 0) := S3.out.r.cell 1
            have d2 : U.cell? ⟨w.heap.size + 2, 2, none⟩ = some (.bool false) := S3.out.r.cell 2
            have f0 := S3.out.r.free 0
            have f1 := S3.out.r.free 1
            have f2 := S3.out.r.free 2
            have R9 := set_three (p0 := .int .i64 za) (p1 := .slice (some ⟨vv, 0, none⟩) 1 1) (p2 := .bool pp) S3.out.r
            have j0 := R9.cell 0
            have j1 := R9.cell 1
            have j2 := R9.cell 2
            have BZ : Hid (Below w.heap.size w (((U.setCell ⟨w.heap.size + 2, 0, none⟩ (.int .i64 za)).setCell ⟨w.heap.size + 2, 1, none⟩ (.slice (some ⟨vv, 0, none⟩) 1 1)).setCell ⟨w.heap.size + 2, 2, none⟩ (.bool pp))) := Lib.hid (((S3.out.below.setCell (p := ⟨w.heap.size + 2, 0, none⟩) (show _ ≤ w.heap.size + 2 by omega) _).setCell (p := ⟨w.heap.size + 2, 1, none⟩) (show _ ≤ w.heap.size + 2 by omega) _).setCell (p := ⟨w.heap.size + 2, 2, none⟩) (show _ ≤ w.heap.size + 2 by omega) _)
            have RW4 := Lib.hid (layStringS.keep (w' := ((U.setCell ⟨w.heap.size + 2, 0, none⟩ (.int .i64 za)).setCell ⟨w.heap.size + 2, 1, none⟩ (.slice (some ⟨vv, 0, none⟩) 1 1)).setCell ⟨w.heap.size + 2, 2, none⟩ (.bool pp)) RW3.out (fun q hq => by
              simp only [List.mem_singleton] at hq
              subst hq
              exact (Below.heap_setCell _ _ _ _ vg).trans ((Below.heap_setCell _ _ _ _ vg).trans (Below.heap_setCell _ _ _ _ vg))))
            clear R9
            go_wp2_with fail
            try simp only [Exit.inBlock, Exit.then]
            exact bodyPost_ret (v := .tuple #[.agg #[.int .i64 za, .slice (some ⟨vv, 0, none⟩) 1 1, .bool pp], .bool true]) (by simp [results, Try.results5, go_sem, j0, j1, j2]) rfl (by rw [HQ.out]; exact ⟨_, [vv], rfl, by simp, RW4.out, BZ.out⟩)
          · have K2 : Hid (∀ n : Nat, Calls Try.prog 13 #[.slice ab wb.length cb, .string x] (wr.drewN n) fun e w' => e = .returned (.bool false) ∧ w' = wr.drewN n) := Lib.hid (fun n => specHas_any wb x _ false ⟨fun e => (by cases e), fun e => absurd e hin⟩ lb _ (layStringS.below HB.out (below_drewN S1.out.below n)))
            have HJ := Lib.hid (HNX.out hin)
            clear hin
            go_wp2_with fail
            go_quiet (first | (go_at_call 13; exact Calls.quiet_of_same (K2.out _)))
            go_wp2_with fail
            go_roundw
            case rel => exact ⟨j + 1, by omega, by go_num, HJ, S1.out.next (below_drewN (Below.refl _ _) _), VN.out.next (below_drewN (Below.refl _ _) _)⟩
            case measure => simp [intOf]; omega
        · have hlt' : ¬ ((j : Int) < (wa.length : Int)) := by omega
          have hno : ok = false ∧ rz = 0 ∧ rw = [] ∧ rp = false := by
            rcases AG.out with ⟨-, -, -, ⟨i, hi, h2, -⟩, -⟩ | ⟨h1, -, h2, h3, h4⟩
            · exact absurd h2 (HN.out i hi (by omega))
            · exact ⟨h1, h2, h3, h4⟩
          obtain ⟨rfl, rfl, rfl, rfl⟩ := hno
          have d0 : wr.cell? ⟨w.heap.size + 2, 0, none⟩ = some (.int .i64 0) := S1.out.r.cell 0
          have d1 : wr.cell? ⟨w.heap.size + 2, 1, none⟩ = some (.slice none 0 0) := S1.out.r.cell 1
          have d2 : wr.cell? ⟨w.heap.size + 2, 2, none⟩ = some (.bool false) := S1.out.r.cell 2
          have f0 := S1.out.r.free 0
          have f1 := S1.out.r.free 1
          have f2 := S1.out.r.free 2
          have R9 := set_three (p0 := .int .i64 0) (p1 := .slice none 0 0) (p2 := .bool false) S1.out.r
          have j0 := R9.cell 0
          have j1 := R9.cell 1
          have j2 := R9.cell 2
          have BZ : Hid (Below w.heap.size w (((wr.setCell ⟨w.heap.size + 2, 0, none⟩ (.int .i64 0)).setCell ⟨w.heap.size + 2, 1, none⟩ (.slice none 0 0)).setCell ⟨w.heap.size + 2, 2, none⟩ (.bool false))) := Lib.hid (((S1.out.below.setCell (p := ⟨w.heap.size + 2, 0, none⟩) (show _ ≤ w.heap.size + 2 by omega) _).setCell (p := ⟨w.heap.size + 2, 1, none⟩) (show _ ≤ w.heap.size + 2 by omega) _).setCell (p := ⟨w.heap.size + 2, 2, none⟩) (show _ ≤ w.heap.size + 2 by omega) _)
          clear R9
          go_wp2_with fail
          try simp only [Exit.inBlock, Exit.then]
          exact bodyPost_ret (v := .tuple #[.agg #[.int .i64 0, .slice none 0 0, .bool false], .bool false]) (by simp [results, Try.results5, go_sem, j0, j1, j2]) rfl (by rw [HQ.out]; exact ⟨_, [], rfl, by simp, ⟨_, rfl, .inl ⟨rfl, rfl, rfl⟩⟩, BZ.out⟩)

end Go.Proofs.Ytmgdhlodifkemat
