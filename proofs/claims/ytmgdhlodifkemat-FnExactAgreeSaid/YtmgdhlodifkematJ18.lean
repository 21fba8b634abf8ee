/-
  The program's Agree.
-/
import Derived.Test.YtmgdhlodifkematJ14
import Derived.Test.YtmgdhlodifkematJ16
import Derived.Test.YtmgdhlodifkematJ17
namespace Go.Proofs.Ytmgdhlodifkemat
open Go.RowKit

/-- Whether a way is one of the other one's. -/
theorem isHis_any (x : ByteArray) (q : Nat) (vb : Value) (wb : List ByteArray) (b : Bool) (hb : b = true ↔ x ∈ wb) (hl : wb.length ≤ 100000000) (w : World) (hq : w.cell? ⟨q, 1, none⟩ = some vb) (h : layStringS.rd w [vb] wb) :
    Calls Try.prog 17 #[.string x, .pointer (some ⟨q, 0, none⟩)] w fun e w' => e = .returned (.bool b) ∧ w' = w := by
  obtain ⟨a, c, rfl⟩ := rows_form h
  have K := Lib.hid (containsText_any wb x _ b hb hl w h)
  clear h
  go_enter Try.func17, Try.ntmps17
  go_wp2_with fail
  refine (K.out).mono ?_
  rintro e Z9 ⟨rfl, rfl⟩
  go_wp2_with fail
  go_ret
  exact ⟨rfl, rfl⟩

set_option maxRecDepth 100000 in
set_option maxHeartbeats 800000 in
theorem firstIn_any (wa wb : List ByteArray) (va vb : Value) (q : Nat) (hl : wa.length ≤ 100000000) (hl2 : wb.length ≤ 100000000) (w : World) (h : layStringS.rd w [va] wa) (hq : w.cell? ⟨q, 1, none⟩ = some vb) (hb : layStringS.rd w [vb] wb) :
    Calls Try.prog 16 #[va, .func (.func 17) #[] #[.pointer (some ⟨q, 0, none⟩)]] w fun e w' => ((∃ i : Nat, ∃ hi : i < wa.length, e = .returned (.int .i64 i) ∧ wa[i] ∈ wb ∧ ∀ k, (hk : k < wa.length) → k < i → wa[k] ∉ wb) ∨ (e = .returned (.int .i64 (-1)) ∧ ∀ x ∈ wa, x ∉ wb)) ∧ w' = w := by
  obtain ⟨ao, cp, rfl⟩ := rows_form h
  have HR := Lib.hid h
  have HS : Hid (∀ (x : ByteArray) (b : Bool), (b = true ↔ x ∈ wb) → Calls Try.prog 17 #[.string x, .pointer (some ⟨q, 0, none⟩)] w fun e w' => e = .returned (.bool b) ∧ w' = w) := Lib.hid (fun x b hbb => isHis_any x q vb wb b hbb hl2 w hq hb)
  clear h hq hb
  go_enter Try.func16, Try.ntmps16
  go_wp2_with fail
  go_loop [8] (fun c => ∃ j : Nat, j ≤ wa.length ∧ c = .int .i64 j ∧ Hid (∀ k, (hk : k < wa.length) → k < j → wa[k] ∉ wb)) (fun c => wa.length - (intOf c).toNat)
  case atStart => exact ⟨0, Nat.zero_le _, rfl, Lib.hid (fun i _ h => absurd h (by omega))⟩
  case round =>
    obtain ⟨j, hj, rfl, HA⟩ := hrel
    by_cases hlt : j < wa.length
    · have hlt' : (j : Int) < (wa.length : Int) := by omega
      have HE : Hid (wa[j] ∈ wb → (∃ i : Nat, ∃ hi : i < wa.length, Ending.returned (.int .i64 (j : Int)) = .returned (.int .i64 i) ∧ wa[i] ∈ wb ∧ ∀ k, (hk : k < wa.length) → k < i → wa[k] ∉ wb)) := Lib.hid (fun h => ⟨j, hlt, rfl, h, HA.out⟩)
      have HNX : Hid (wa[j] ∉ wb → ∀ i, (hi : i < wa.length) → i < j + 1 → wa[i] ∉ wb) := Lib.hid (fun hx i hi h => by
        rcases Nat.lt_or_ge i j with h2 | h2
        · exact HA.out i hi h2
        · have : i = j := by omega
          subst this
          exact hx)
      obtain ⟨g, off, cs, rfl, hg, hr, hc⟩ := rows_elem HR.out j _ (List.getElem?_eq_getElem hlt)
      generalize wa[j] = y at hr HE HNX
      rw [layString_rd] at hr
      subst hr
      have c0 : w.cell? ⟨g, off + j, none⟩ = some (.string y) := (by have h9 := hc 0 _ rfl; rw [str_k] at h9; exact h9)
      clear hc
      by_cases hx : y ∈ wb
      · have K := Lib.hid (HS.out y true ⟨fun _ => hx, fun _ => rfl⟩)
        have HE2 := Lib.hid (HE.out hx)
        clear hx HE HNX
        go_wp2_with fail
        refine (K.out).mono ?_
        rintro e Z9 ⟨rfl, rfl⟩
        go_wp2_with fail
        go_ret
        exact ⟨.inl HE2.out, rfl⟩
      · have K := Lib.hid (HS.out y false ⟨fun e => (by cases e), fun e => absurd e hx⟩)
        have HJ := Lib.hid (HNX.out hx)
        clear hx HE HNX
        go_wp2_with fail
        refine (K.out).mono ?_
        rintro e Z9 ⟨rfl, rfl⟩
        go_wp2_with fail
        go_round
        case rel => exact ⟨j + 1, by omega, by go_num, HJ⟩
        case measure => simp [intOf]; omega
    · have hlt' : ¬ ((j : Int) < (wa.length : Int)) := by omega
      have HE : Hid (∀ x ∈ wa, x ∉ wb) := Lib.hid (fun x hx => by
        obtain ⟨i, hi, rfl⟩ := List.getElem_of_mem hx
        exact HA.out i hi (by omega))
      go_wp2_with fail
      go_ret
      exact ⟨.inr ⟨rfl, HE.out⟩, rfl⟩

theorem raw_three (V : World) (a b c : Value) (ha : a.oneCell' = true) (hb : b.oneCell' = true) (hc : c.oneCell' = true) : layRawS.rd (V.alloc (.cells #[a, b, c] OptFT)) [.slice (some ⟨V.heap.size, 0, none⟩) 3 3] [a, b, c] :=
  layRawS.read (flat_own flatRaw (b := V.heap.size) (World.ownsRow_lit V #[a, b, c] 3 (Nat.le_refl _) (by decide) rfl) (us := [a, b, c]) (xs := [a, b, c]) ⟨[a], [b, c], rfl, ⟨rfl, ha⟩, [b], [c], rfl, ⟨rfl, hb⟩, [c], [], rfl, ⟨rfl, hc⟩, rfl⟩)
/-- Three options set one behind another. -/
theorem optionsOf_three (HG : CloneGives) (X : World) (v c1 c2 c3 : Value) (z : Int) (x : ByteArray) (p : Bool) (hz : 0 ≤ z ∧ z ≤ 1000000000) (hx : x.size ≤ 1048576) (h : layRawS.rd X [v] [c1, c2, c3]) (h1 : Clo X c1 (.size z)) (h2 : Clo X c2 (.ways [x])) (h3 : Clo X c3 (.pieces p)) :
    Calls Try.prog 19 #[v] X (OptOf (z, [x], p) X) := by
  refine optionsOf_any HG v [c1, c2, c3] [.size z, .ways [x], .pieces p] rfl (by simp) (fun st hst => ?_) X h (fun j c st k1 k2 => ?_)
  · rcases List.mem_cons.1 hst with rfl | hst
    · exact hz
    rcases List.mem_cons.1 hst with rfl | hst
    · exact ⟨by simp, fun y hy => by rw [List.mem_singleton] at hy; rw [hy]; exact hx⟩
    · rw [List.mem_singleton] at hst
      rw [hst]
      exact trivial
  · match j, k1, k2 with
    | 0, k1, k2 => cases k1; cases k2; exact h1
    | 1, k1, k2 => cases k1; cases k2; exact h2
    | 2, k1, k2 => cases k1; cases k2; exact h3
    | n + 3, k1, _ => cases k1

set_option maxRecDepth 100000 in
set_option maxHeartbeats 6400000 in
theorem implAgree_any (HG : CloneGives) (za : Int) (va : Value) (wa : List ByteArray) (pa : Bool) (zb : Int) (vb : Value) (wb : List ByteArray) (pb : Bool) (rz : Int) (rw : List ByteArray) (rp ok : Bool) (hag : AgreeIs za wa pa zb wb pb rz rw rp ok)
    (la : wa.length ≤ 100000000) (xa : ∀ x ∈ wa, x.size ≤ 100000000) (lb : wb.length ≤ 100000000) (xb : ∀ x ∈ wb, x.size ≤ 100000000) (w : World) (ha : layStringS.rd w [va] wa) (hb : layStringS.rd w [vb] wb) :
    Calls Try.prog 7 #[.agg #[.int .i64 za, va, .bool pa], .agg #[.int .i64 zb, vb, .bool pb]] w (OptRet rz rw rp ok w) := by
  obtain ⟨aa, ca, rfl⟩ := rows_form ha
  obtain ⟨ab, cb, rfl⟩ := rows_form hb
  have e1 : (w.alloc (.cells #[.int .i64 za, .slice aa wa.length ca, .bool pa] OptionsT)).heap.size = w.heap.size + 1 := by simp
  have e2 : ((w.alloc (.cells #[.int .i64 za, .slice aa wa.length ca, .bool pa] OptionsT)).alloc (.cells #[.int .i64 zb, .slice ab wb.length cb, .bool pb] OptionsT)).heap.size = w.heap.size + 2 := by simp
  have h2 := VarA.new (w.alloc (.cells #[.int .i64 za, .slice aa wa.length ca, .bool pa] OptionsT)) OptionsT #[.int .i64 zb, .slice ab wb.length cb, .bool pb]
  have h3 := VarA.new ((w.alloc (.cells #[.int .i64 za, .slice aa wa.length ca, .bool pa] OptionsT)).alloc (.cells #[.int .i64 zb, .slice ab wb.length cb, .bool pb] OptionsT)) OptionsT #[.int .i64 0, .slice none 0 0, .bool false]
  rw [e1] at h2
  rw [e2] at h3
  have S0 : Hid (AGS w #[.int .i64 za, .slice aa wa.length ca, .bool pa] #[.int .i64 zb, .slice ab wb.length cb, .bool pb] #[.int .i64 0, .slice none 0 0, .bool false] (((w.alloc (.cells #[.int .i64 za, .slice aa wa.length ca, .bool pa] OptionsT)).alloc (.cells #[.int .i64 zb, .slice ab wb.length cb, .bool pb] OptionsT)).alloc (.cells #[.int .i64 0, .slice none 0 0, .bool false] OptionsT))) := Lib.hid ⟨((VarA.new w OptionsT _).alloc _).alloc _, h2.alloc _, h3, (((Below.refl w.heap.size w).alloc (Nat.le_refl _) _).alloc (by simp) _).alloc (by simp; omega) _⟩
  have HA := Lib.hid ha
  have HB := Lib.hid hb
  have AG := Lib.hid hag
  have XA := Lib.hid xa
  have XB := Lib.hid xb
  have HGG := Lib.hid HG
  clear ha hb h2 h3 e1 e2 hag xa xb HG
  obtain ⟨Q, HQ⟩ : ∃ Q : Ending → World → Prop, Hid (Q = OptRet rz rw rp ok w) := ⟨_, Lib.hid rfl⟩
  rw [← HQ.out]
  go_enter Try.func7, Try.ntmps7
  go_upto_region 1 with fail
  generalize ((w.alloc (.cells #[.int .i64 za, .slice aa wa.length ca, .bool pa] OptionsT)).alloc (.cells #[.int .i64 zb, .slice ab wb.length cb, .bool pb] OptionsT)).alloc (.cells #[.int .i64 0, .slice none 0 0, .bool false] OptionsT) = Y at *
  have c0 : Y.cell? ⟨w.heap.size, 0, none⟩ = some (.int .i64 za) := S0.out.a.cell 0
  have c1 : Y.cell? ⟨w.heap.size, 1, none⟩ = some (.slice aa wa.length ca) := S0.out.a.cell 1
  have c2 : Y.cell? ⟨w.heap.size, 2, none⟩ = some (.bool pa) := S0.out.a.cell 2
  by_cases hoa : OptP za wa
  rotate_left
  · have K := Lib.hid (implOptionsOk_bool za _ wa pa false ⟨fun e => (by cases e), fun e => absurd e hoa⟩ la XA.out Y (layStringS.below HA.out S0.out.below))
    have hag := AG.out
    rcases hag with ⟨-, h, -⟩ | ⟨rfl, -, rfl, rfl, rfl⟩
    · exact absurd h hoa
    go_wp2_with fail
    refine (K.out).mono ?_
    rintro e Y1 ⟨rfl, hb1⟩
    have S1 := Lib.hid (S0.out.next hb1)
    clear hb1 K S0 c0 c1 c2
    go_upto_region 2 with fail
    have d0 : Y1.cell? ⟨w.heap.size + 2, 0, none⟩ = some (.int .i64 0) := S1.out.r.cell 0
    have d1 : Y1.cell? ⟨w.heap.size + 2, 1, none⟩ = some (.slice none 0 0) := S1.out.r.cell 1
    have d2 : Y1.cell? ⟨w.heap.size + 2, 2, none⟩ = some (.bool false) := S1.out.r.cell 2
    have f0 := S1.out.r.free 0
    have f1 := S1.out.r.free 1
    have f2 := S1.out.r.free 2
    have R9 := set_three (p0 := .int .i64 0) (p1 := .slice none 0 0) (p2 := .bool false) S1.out.r
    have j0 := R9.cell 0
    have j1 := R9.cell 1
    have j2 := R9.cell 2
    have BZ : Hid (Below w.heap.size w (((Y1.setCell ⟨w.heap.size + 2, 0, none⟩ (.int .i64 0)).setCell ⟨w.heap.size + 2, 1, none⟩ (.slice none 0 0)).setCell ⟨w.heap.size + 2, 2, none⟩ (.bool false))) := Lib.hid (((S1.out.below.setCell (p := ⟨w.heap.size + 2, 0, none⟩) (show _ ≤ w.heap.size + 2 by omega) _).setCell (p := ⟨w.heap.size + 2, 1, none⟩) (show _ ≤ w.heap.size + 2 by omega) _).setCell (p := ⟨w.heap.size + 2, 2, none⟩) (show _ ≤ w.heap.size + 2 by omega) _)
    clear R9
    go_wp2_with fail
    try simp only [Exit.inBlock, Exit.then]
    exact bodyPost_ret (v := .tuple #[.agg #[.int .i64 0, .slice none 0 0, .bool false], .bool false]) (by simp [results, Try.results7, go_sem, j0, j1, j2]) rfl (by rw [HQ.out]; exact ⟨_, [], rfl, by simp, ⟨_, rfl, .inl ⟨rfl, rfl, rfl⟩⟩, BZ.out⟩)
  have K := Lib.hid (implOptionsOk_bool za _ wa pa true ⟨fun _ => hoa, fun _ => rfl⟩ la XA.out Y (layStringS.below HA.out S0.out.below))
  go_wp2_with fail
  refine (K.out).mono ?_
  rintro e Y0 ⟨rfl, hb1⟩
  replace S0 := Lib.hid (S0.out.next hb1)
  clear hb1 K c0 c1 c2 Y
  generalize Y0 = Y at *
  have c0 : Y.cell? ⟨w.heap.size + 1, 0, none⟩ = some (.int .i64 zb) := S0.out.b.cell 0
  have c1 : Y.cell? ⟨w.heap.size + 1, 1, none⟩ = some (.slice ab wb.length cb) := S0.out.b.cell 1
  have c2 : Y.cell? ⟨w.heap.size + 1, 2, none⟩ = some (.bool pb) := S0.out.b.cell 2
  by_cases hob : OptP zb wb
  rotate_left
  · have K := Lib.hid (implOptionsOk_bool zb _ wb pb false ⟨fun e => (by cases e), fun e => absurd e hob⟩ lb XB.out Y (layStringS.below HB.out S0.out.below))
    have hag := AG.out
    rcases hag with ⟨-, -, h, -⟩ | ⟨rfl, -, rfl, rfl, rfl⟩
    · exact absurd h hob
    go_wp2_with fail
    refine (K.out).mono ?_
    rintro e Y1 ⟨rfl, hb1⟩
    have S1 := Lib.hid (S0.out.next hb1)
    clear hb1 K S0 c0 c1 c2
    go_upto_region 2 with fail
    have d0 : Y1.cell? ⟨w.heap.size + 2, 0, none⟩ = some (.int .i64 0) := S1.out.r.cell 0
    have d1 : Y1.cell? ⟨w.heap.size + 2, 1, none⟩ = some (.slice none 0 0) := S1.out.r.cell 1
    have d2 : Y1.cell? ⟨w.heap.size + 2, 2, none⟩ = some (.bool false) := S1.out.r.cell 2
    have f0 := S1.out.r.free 0
    have f1 := S1.out.r.free 1
    have f2 := S1.out.r.free 2
    have R9 := set_three (p0 := .int .i64 0) (p1 := .slice none 0 0) (p2 := .bool false) S1.out.r
    have j0 := R9.cell 0
    have j1 := R9.cell 1
    have j2 := R9.cell 2
    have BZ : Hid (Below w.heap.size w (((Y1.setCell ⟨w.heap.size + 2, 0, none⟩ (.int .i64 0)).setCell ⟨w.heap.size + 2, 1, none⟩ (.slice none 0 0)).setCell ⟨w.heap.size + 2, 2, none⟩ (.bool false))) := Lib.hid (((S1.out.below.setCell (p := ⟨w.heap.size + 2, 0, none⟩) (show _ ≤ w.heap.size + 2 by omega) _).setCell (p := ⟨w.heap.size + 2, 1, none⟩) (show _ ≤ w.heap.size + 2 by omega) _).setCell (p := ⟨w.heap.size + 2, 2, none⟩) (show _ ≤ w.heap.size + 2 by omega) _)
    clear R9
    go_wp2_with fail
    try simp only [Exit.inBlock, Exit.then]
    exact bodyPost_ret (v := .tuple #[.agg #[.int .i64 0, .slice none 0 0, .bool false], .bool false]) (by simp [results, Try.results7, go_sem, j0, j1, j2]) rfl (by rw [HQ.out]; exact ⟨_, [], rfl, by simp, ⟨_, rfl, .inl ⟨rfl, rfl, rfl⟩⟩, BZ.out⟩)
  have K := Lib.hid (implOptionsOk_bool zb _ wb pb true ⟨fun _ => hob, fun _ => rfl⟩ lb XB.out Y (layStringS.below HB.out S0.out.below))
  go_wp2_with fail
  refine (K.out).mono ?_
  rintro e Y0 ⟨rfl, hb1⟩
  replace S0 := Lib.hid (S0.out.next hb1)
  clear hb1 K c0 c1 c2 Y
  go_upto_region 3 with fail
  generalize Y0 = Y at *
  have c1 : Y.cell? ⟨w.heap.size, 1, none⟩ = some (.slice aa wa.length ca) := S0.out.a.cell 1
  have k1 : Y.cell? ⟨w.heap.size + 1, 1, none⟩ = some (.slice ab wb.length cb) := S0.out.b.cell 1
  have K := Lib.hid (firstIn_any wa wb _ _ (w.heap.size + 1) la lb Y (layStringS.below HA.out S0.out.below) k1 (layStringS.below HB.out S0.out.below))
  go_wp2_with fail
  refine (K.out).mono ?_
  rintro e Z9 ⟨hE, hw⟩
  rw [hw]
  clear hw K c1 k1 Z9
  rcases hE with ⟨i, hi, rfl, hm, hbef⟩ | ⟨rfl, hno⟩
  rotate_left
  · have hag := AG.out
    rcases hag with ⟨-, -, -, ⟨i, hi, h, -⟩, -⟩ | ⟨rfl, -, rfl, rfl, rfl⟩
    · exact absurd h (hno _ (List.getElem_mem hi))
    clear hno
    go_upto_region 5 with fail
    have d0 : Y.cell? ⟨w.heap.size + 2, 0, none⟩ = some (.int .i64 0) := S0.out.r.cell 0
    have d1 : Y.cell? ⟨w.heap.size + 2, 1, none⟩ = some (.slice none 0 0) := S0.out.r.cell 1
    have d2 : Y.cell? ⟨w.heap.size + 2, 2, none⟩ = some (.bool false) := S0.out.r.cell 2
    have f0 := S0.out.r.free 0
    have f1 := S0.out.r.free 1
    have f2 := S0.out.r.free 2
    have R9 := set_three (p0 := .int .i64 0) (p1 := .slice none 0 0) (p2 := .bool false) S0.out.r
    have j0 := R9.cell 0
    have j1 := R9.cell 1
    have j2 := R9.cell 2
    have BZ : Hid (Below w.heap.size w (((Y.setCell ⟨w.heap.size + 2, 0, none⟩ (.int .i64 0)).setCell ⟨w.heap.size + 2, 1, none⟩ (.slice none 0 0)).setCell ⟨w.heap.size + 2, 2, none⟩ (.bool false))) := Lib.hid (((S0.out.below.setCell (p := ⟨w.heap.size + 2, 0, none⟩) (show _ ≤ w.heap.size + 2 by omega) _).setCell (p := ⟨w.heap.size + 2, 1, none⟩) (show _ ≤ w.heap.size + 2 by omega) _).setCell (p := ⟨w.heap.size + 2, 2, none⟩) (show _ ≤ w.heap.size + 2 by omega) _)
    clear R9
    go_wp2_with fail
    try simp only [Exit.inBlock, Exit.then]
    exact bodyPost_ret (v := .tuple #[.agg #[.int .i64 0, .slice none 0 0, .bool false], .bool false]) (by simp [results, Try.results7, go_sem, j0, j1, j2]) rfl (by rw [HQ.out]; exact ⟨_, [], rfl, by simp, ⟨_, rfl, .inl ⟨rfl, rfl, rfl⟩⟩, BZ.out⟩)
  have hii : (i : Int) < (wa.length : Int) := by omega
  have hi0 : ¬ ((i : Int) < 0) := by omega
  have hsx : wa[i].size ≤ 1048576 := by
    have := (hoa.way _ (List.getElem_mem hi)).2.2
    omega
  have hzr := hoa.sizeR
  have hzs := hob.sizeR
  obtain ⟨rfl, hrw, hrz, hrp⟩ : ok = true ∧ rw = [wa[i]] ∧ rz = (if zb < za then zb else za) ∧ rp = (pa && pb) := by
    rcases AG.out with ⟨h0, _, _, ⟨i2, hi2, h1, h2, h3⟩, h4, h5⟩ | ⟨_, h, _⟩
    · refine ⟨h0, ?_, h4, h5⟩
      rcases Nat.lt_trichotomy i i2 with h | h | h
      · exact absurd hm (h2 i hi h)
      · subst h
        exact h3
      · exact absurd h1 (hbef i2 hi2 h)
    · exact absurd hm (h hoa hob _ (List.getElem_mem hi))
  have HRZ := Lib.hid hrz
  have HRM : Hid (rz = min za zb) := Lib.hid (by rw [hrz]; split <;> omega)
  have HRP := Lib.hid hrp
  have HRW := Lib.hid hrw
  clear hrz hrp hrw hbef hm AG
  obtain ⟨g, off, cs, rfl, hg, hr, hc⟩ := rows_elem HA.out i _ (List.getElem?_eq_getElem hi)
  generalize wa[i] = x at hr HRW hsx
  rw [layString_rd] at hr
  subst hr
  have cx : Hid (w.cell? ⟨g, off + i, none⟩ = some (.string x)) := Lib.hid (by have h9 := hc 0 _ rfl; rw [str_k] at h9; exact h9)
  have rr : Hid (VarA (w.heap.size + 2) OptionsT #[.int .i64 0, .slice none 0 0, .bool false] Y) := Lib.hid S0.out.r
  clear hc hoa hob XA XB HB
  cases pa with
  | true =>
    have qv : ∀ X Y, (Hid (VarA w.heap.size OptionsT #[.int .i64 za, .slice (some ⟨g, off, none⟩) wa.length ca, .bool true] X ∧ VarA (w.heap.size + 1) OptionsT #[.int .i64 zb, .slice ab wb.length cb, .bool pb] X ∧ Below w.heap.size w X)) → Below X.heap.size X Y → (Hid (VarA w.heap.size OptionsT #[.int .i64 za, .slice (some ⟨g, off, none⟩) wa.length ca, .bool true] Y ∧ VarA (w.heap.size + 1) OptionsT #[.int .i64 zb, .slice ab wb.length cb, .bool pb] Y ∧ Below w.heap.size w Y)) := fun X Y h hb => Lib.hid ⟨h.out.1.next hb, h.out.2.1.next hb, h.out.2.2.trans (hb.mono h.out.2.2.size)⟩
    have E0 : Hid (VarA w.heap.size OptionsT #[.int .i64 za, .slice (some ⟨g, off, none⟩) wa.length ca, .bool true] Y.drew ∧ VarA (w.heap.size + 1) OptionsT #[.int .i64 zb, .slice ab wb.length cb, .bool pb] Y.drew ∧ Below w.heap.size w Y.drew) := Lib.hid ⟨S0.out.a.drew, S0.out.b.drew, S0.out.below.drew⟩
    replace rr := Lib.hid rr.out.drew
    go_wp2_with fail
    clear S0
    refine wp_region_held_drew (S := fun X => Hid (VarA w.heap.size OptionsT #[.int .i64 za, .slice (some ⟨g, off, none⟩) wa.length ca, .bool true] X ∧ VarA (w.heap.size + 1) OptionsT #[.int .i64 zb, .slice ab wb.length cb, .bool pb] X ∧ Below w.heap.size w X)) (by kernel_rfl) E0 (fun hHeld => ?_)
    clear E0
    generalize Y.drew = X0 at *
    refine wpAnyH_take (i := 0) (v := ?_) rfl (by kernel_rfl) (by kernel_rfl) (by kernel_rfl) (fun _ _ _ h => h) (Or.inl ⟨by kernel_rfl, ?_⟩) hHeld ?_
    rotate_left
    · intro X hX
      first | (go_simp; done) | (go_simp; with_reducible rfl)
    try simp only [Act.put, List.getElem_toArray, List.getElem_cons_zero, List.setIfInBounds_toArray, List.set_cons_zero, List.set_cons_succ]
    refine wpAnyH_take (i := 1) (v := ?_) rfl (by kernel_rfl) (by kernel_rfl) (by kernel_rfl) (fun _ _ _ h => h) (Or.inl ⟨by kernel_rfl, ?_⟩) hHeld ?_
    rotate_left
    · intro X hX
      have y : X.cell? ⟨w.heap.size, 0, none⟩ = some (.int .i64 za) := hX.out.1.cell 0
      first | (go_simp; done) | (go_simp; with_reducible rfl)
    try simp only [Act.put, List.getElem_toArray, List.getElem_cons_succ, List.getElem_cons_zero, List.setIfInBounds_toArray, List.set_cons_zero, List.set_cons_succ]
    refine wpAnyH_take (i := 2) (v := ?_) rfl (by kernel_rfl) (by kernel_rfl) (by kernel_rfl) (fun _ _ _ h => h) (Or.inl ⟨by kernel_rfl, ?_⟩) hHeld ?_
    rotate_left
    · intro X hX
      first | (go_simp; done) | (go_simp; with_reducible rfl)
    try simp only [Act.put, List.getElem_toArray, List.getElem_cons_succ, List.getElem_cons_zero, List.setIfInBounds_toArray, List.set_cons_zero, List.set_cons_succ]
    refine wpAnyH_take (i := 3) (v := ?_) rfl (by kernel_rfl) (by kernel_rfl) (by kernel_rfl) (fun _ _ _ h => h) (Or.inl ⟨by kernel_rfl, ?_⟩) hHeld ?_
    rotate_left
    · intro X hX
      have y : X.cell? ⟨w.heap.size + 1, 0, none⟩ = some (.int .i64 zb) := hX.out.2.1.cell 0
      first | (go_simp; done) | (go_simp; with_reducible rfl)
    try simp only [Act.put, List.getElem_toArray, List.getElem_cons_succ, List.getElem_cons_zero, List.setIfInBounds_toArray, List.set_cons_zero, List.set_cons_succ]
    refine wpAnyH_take (i := 4) (v := ?_) rfl (by kernel_rfl) (by kernel_rfl) (by kernel_rfl) (fun _ _ _ h => h) (Or.inl ⟨by kernel_rfl, ?_⟩) hHeld ?_
    rotate_left
    · intro X hX
      first | (go_simp; done) | (go_simp; with_reducible rfl)
    try simp only [Act.put, List.getElem_toArray, List.getElem_cons_succ, List.getElem_cons_zero, List.setIfInBounds_toArray, List.set_cons_zero, List.set_cons_succ]
    refine wpAnyH_take (i := 6) (v := ?_) rfl (by kernel_rfl) (by kernel_rfl) (by kernel_rfl) (fun _ _ _ h => h) (Or.inl ⟨by kernel_rfl, ?_⟩) hHeld ?_
    rotate_left
    · intro X hX
      first | (go_simp; done) | (go_simp; with_reducible rfl)
    try simp only [Act.put, List.getElem_toArray, List.getElem_cons_succ, List.getElem_cons_zero, List.setIfInBounds_toArray, List.set_cons_zero, List.set_cons_succ]
    refine wpAnyH_take (i := 7) (v := ?_) rfl (by kernel_rfl) (by kernel_rfl) (by kernel_rfl) (fun _ _ _ h => h) (Or.inl ⟨by kernel_rfl, ?_⟩) hHeld ?_
    rotate_left
    · intro X hX
      have y : X.cell? ⟨w.heap.size, 1, none⟩ = some (.slice (some ⟨g, off, none⟩) wa.length ca) := hX.out.1.cell 1
      first | (go_simp; done) | (go_simp; with_reducible rfl)
    try simp only [Act.put, List.getElem_toArray, List.getElem_cons_succ, List.getElem_cons_zero, List.setIfInBounds_toArray, List.set_cons_zero, List.set_cons_succ]
    refine wpAnyH_take (i := 8) (v := ?_) rfl (by kernel_rfl) (by kernel_rfl) (by kernel_rfl) (fun _ _ _ h => h) (Or.inl ⟨by kernel_rfl, ?_⟩) hHeld ?_
    rotate_left
    · intro X hX
      first | (go_simp; done) | (go_simp; with_reducible rfl)
    try simp only [Act.put, List.getElem_toArray, List.getElem_cons_succ, List.getElem_cons_zero, List.setIfInBounds_toArray, List.set_cons_zero, List.set_cons_succ]
    refine wpAnyH_take (i := 9) (v := ?_) rfl (by kernel_rfl) (by kernel_rfl) (by kernel_rfl) (fun _ _ _ h => h) (Or.inl ⟨by kernel_rfl, ?_⟩) hHeld ?_
    rotate_left
    · intro X hX
      first | (go_simp; done) | (go_simp; with_reducible rfl)
    try simp only [Act.put, List.getElem_toArray, List.getElem_cons_succ, List.getElem_cons_zero, List.setIfInBounds_toArray, List.set_cons_zero, List.set_cons_succ]
    refine wpAnyH_take (i := 10) (v := ?_) rfl (by kernel_rfl) (by kernel_rfl) (by kernel_rfl) (fun _ _ _ h => h) (Or.inl ⟨by kernel_rfl, ?_⟩) hHeld ?_
    rotate_left
    · intro X hX
      have y : X.cell? ⟨g, off + i, none⟩ = some (.string x) := (hX.out.2.2.cell (p := ⟨g, off + i, none⟩) (cell_size cx.out)).trans cx.out
      first | (go_simp; done) | (go_simp; with_reducible rfl)
    try simp only [Act.put, List.getElem_toArray, List.getElem_cons_succ, List.getElem_cons_zero, List.setIfInBounds_toArray, List.set_cons_zero, List.set_cons_succ]
    refine wpAnyH_take (i := 13) (v := ?_) rfl (by kernel_rfl) (by kernel_rfl) (by kernel_rfl) (fun _ _ _ h => h) (Or.inl ⟨by kernel_rfl, ?_⟩) hHeld ?_
    rotate_left
    · intro X hX
      first | (go_simp; done) | (go_simp; with_reducible rfl)
    try simp only [Act.put, List.getElem_toArray, List.getElem_cons_succ, List.getElem_cons_zero, List.setIfInBounds_toArray, List.set_cons_zero, List.set_cons_succ]
    refine wpAnyH_take (i := 14) (v := ?_) rfl (by kernel_rfl) (by kernel_rfl) (by kernel_rfl) (fun _ _ _ h => h) (Or.inl ⟨by kernel_rfl, ?_⟩) hHeld ?_
    rotate_left
    · intro X hX
      have y : X.cell? ⟨w.heap.size, 2, none⟩ = some (.bool true) := hX.out.1.cell 2
      first | (go_simp; done) | (go_simp; with_reducible rfl)
    try simp only [Act.put, List.getElem_toArray, List.getElem_cons_succ, List.getElem_cons_zero, List.setIfInBounds_toArray, List.set_cons_zero, List.set_cons_succ]
    refine wpAnyH_ready (rs := [5, 11]) (by kernel_rfl) (by simp) ?_
    refine AllReadyH.cons rfl (fun K hK => ?_) (AllReadyH.cons rfl (fun K hK => ?_) AllReadyH.nil)
    · go_simp
      go_wp2_with (go_at_call 20; (first | rw [← HRZ.out] | rw [← HRM.out]); refine (withSize_any rz X0).mono ?_; rintro e X1 ⟨c, rfl, ⟨q5, rfl, hq⟩, hb0⟩; have hS := qv _ _ hHeld hb0; have hb := Lib.hid hb0; clear hb0)
      refine hK.out _ _ hS (fun hHeld => ?_)
      clear hK K hS
      replace rr := Lib.hid (rr.out.next hb.out)
      have C5 : Hid (Clo X1 (cloV 30 q5) (.size rz)) := Lib.hid ⟨q5, rfl, hq⟩
      clear hq
      clear hb
      try simp only [Act.put, List.getElem_toArray, List.getElem_cons_succ, List.getElem_cons_zero, List.setIfInBounds_toArray, List.set_cons_zero, List.set_cons_succ]
      refine wpAnyH_ready (rs := [11]) (by kernel_rfl) (by simp) ?_
      refine AllReadyH.cons rfl (fun K hK => ?_) AllReadyH.nil
      go_simp
      have hal : Below X1.heap.size X1 (X1.alloc (.cells #[.string x] StringT)) := (Below.refl _ _).alloc (Nat.le_refl _) _
      refine hK.out _ _ (qv _ _ hHeld hal) (fun hHeld => ?_)
      clear hK K
      have hb := Lib.hid hal
      clear hal
      replace rr := Lib.hid (rr.out.next hb.out)
      replace C5 := Lib.hid (C5.out.below hb.out)
      have L11 := Lib.hid (layStringS.read (text_lit X1 X1.heap.size x (Nat.le_refl _)))
      clear hb
      generalize X1.alloc (.cells #[.string x] StringT) = X2 at *
      generalize X1.heap.size = G1 at *
      try simp only [Act.put, List.getElem_toArray, List.getElem_cons_succ, List.getElem_cons_zero, List.setIfInBounds_toArray, List.set_cons_zero, List.set_cons_succ]
      refine wpAnyH_ready (rs := [12]) (by kernel_rfl) (by simp) ?_
      refine AllReadyH.cons rfl (fun K hK => ?_) AllReadyH.nil
      go_simp
      go_wp2_with (go_at_call 21; refine (withWays_any _ [x] X2 L11.out).mono ?_; rintro e X3 ⟨c, rfl, ⟨q12, v12, rfl, hq, hr⟩, hb0⟩; have hS := qv _ _ hHeld hb0; have hb := Lib.hid hb0; clear hb0)
      refine hK.out _ _ hS (fun hHeld => ?_)
      clear hK K hS
      replace rr := Lib.hid (rr.out.next hb.out)
      replace C5 := Lib.hid (C5.out.below hb.out)
      replace L11 := Lib.hid (layStringS.below L11.out hb.out)
      have C12 : Hid (Clo X3 (cloV 31 q12) (.ways [x])) := Lib.hid ⟨q12, v12, rfl, hq, hr⟩
      clear hq hr L11
      clear hb
      try simp only [Act.put, List.getElem_toArray, List.getElem_cons_succ, List.getElem_cons_zero, List.setIfInBounds_toArray, List.set_cons_zero, List.set_cons_succ]
      refine wpAnyH_take (i := 15) (v := ?_) rfl (by kernel_rfl) (by kernel_rfl) (by kernel_rfl) (fun _ _ _ h => h) (Or.inl ⟨by kernel_rfl, ?_⟩) hHeld ?_
      rotate_left
      · intro X hX
        first | (go_simp; done) | (go_simp; with_reducible rfl)
      try simp only [Act.put, List.getElem_toArray, List.getElem_cons_succ, List.getElem_cons_zero, List.setIfInBounds_toArray, List.set_cons_zero, List.set_cons_succ]
      refine wpAnyH_take (i := 16) (v := ?_) rfl (by kernel_rfl) (by kernel_rfl) (by kernel_rfl) (fun _ _ _ h => h) (Or.inl ⟨by kernel_rfl, ?_⟩) hHeld ?_
      rotate_left
      · intro X hX
        first | (go_simp; done) | (go_simp; with_reducible rfl)
      try simp only [Act.put, List.getElem_toArray, List.getElem_cons_succ, List.getElem_cons_zero, List.setIfInBounds_toArray, List.set_cons_zero, List.set_cons_succ]
      refine wpAnyH_take (i := 17) (v := ?_) rfl (by kernel_rfl) (by kernel_rfl) (by kernel_rfl) (fun _ _ _ h => h) (Or.inl ⟨by kernel_rfl, ?_⟩) hHeld ?_
      rotate_left
      · intro X hX
        have y : X.cell? ⟨w.heap.size + 1, 2, none⟩ = some (.bool pb) := hX.out.2.1.cell 2
        first | (go_simp; done) | (go_simp; with_reducible rfl)
      try simp only [Act.put, List.getElem_toArray, List.getElem_cons_succ, List.getElem_cons_zero, List.setIfInBounds_toArray, List.set_cons_zero, List.set_cons_succ]
      refine wpAnyH_take (i := 18) (v := ?_) rfl (by kernel_rfl) (by kernel_rfl) (by kernel_rfl) (fun _ _ _ h => h) (Or.inl ⟨by kernel_rfl, ?_⟩) hHeld ?_
      rotate_left
      · intro X hX
        first | (go_simp; done) | (go_simp; with_reducible rfl)
      try simp only [Act.put, List.getElem_toArray, List.getElem_cons_succ, List.getElem_cons_zero, List.setIfInBounds_toArray, List.set_cons_zero, List.set_cons_succ]
      refine wpAnyH_ready (rs := [19]) (by kernel_rfl) (by simp) ?_
      refine AllReadyH.cons rfl (fun K hK => ?_) AllReadyH.nil
      go_simp
      go_wp2_with (go_at_call 22; refine (withPieces_any pb X3).mono ?_; rintro e X4 ⟨c, rfl, ⟨q19, rfl, hq⟩, hb0⟩; have hS := qv _ _ hHeld hb0; have hb := Lib.hid hb0; clear hb0)
      refine hK.out _ _ hS (fun hHeld => ?_)
      clear hK K hS
      replace rr := Lib.hid (rr.out.next hb.out)
      replace C5 := Lib.hid (C5.out.below hb.out)
      replace C12 := Lib.hid (C12.out.below hb.out)
      have C19 : Hid (Clo X4 (cloV 33 q19) (.pieces pb)) := Lib.hid ⟨q19, rfl, hq⟩
      clear hq
      clear hb
      try simp only [Act.put, List.getElem_toArray, List.getElem_cons_succ, List.getElem_cons_zero, List.setIfInBounds_toArray, List.set_cons_zero, List.set_cons_succ]
      refine wpAnyH_ready (rs := [20]) (by kernel_rfl) (by simp) ?_
      refine AllReadyH.cons rfl (fun K hK => ?_) AllReadyH.nil
      go_simp
      have hal : Below X4.heap.size X4 (X4.alloc (.cells #[cloV 30 q5, cloV 31 q12, cloV 33 q19] OptFT)) := (Below.refl _ _).alloc (Nat.le_refl _) _
      refine hK.out _ _ (qv _ _ hHeld hal) (fun hHeld => ?_)
      clear hK K
      have hb := Lib.hid hal
      clear hal
      replace rr := Lib.hid (rr.out.next hb.out)
      replace C5 := Lib.hid (C5.out.below hb.out)
      replace C12 := Lib.hid (C12.out.below hb.out)
      replace C19 := Lib.hid (C19.out.below hb.out)
      have L20 := Lib.hid (raw_three X4 (cloV 30 q5) (cloV 31 q12) (cloV 33 q19) rfl rfl rfl)
      clear hb
      generalize X4.alloc (.cells #[cloV 30 q5, cloV 31 q12, cloV 33 q19] OptFT) = X5 at *
      generalize X4.heap.size = G2 at *
      try simp only [Act.put, List.getElem_toArray, List.getElem_cons_succ, List.getElem_cons_zero, List.setIfInBounds_toArray, List.set_cons_zero, List.set_cons_succ]
      refine wpAnyH_ready (rs := [21]) (by kernel_rfl) (by simp) ?_
      refine AllReadyH.cons rfl (fun K hK => ?_) AllReadyH.nil
      have KO := Lib.hid (optionsOf_three HGG.out X5 _ _ _ _ rz x pb (by have := HRZ.out; split at this <;> omega) hsx L20.out C5.out C12.out C19.out)
      have hlow := Lib.hid (show w.heap.size + 2 < X5.heap.size from rr.out.lt)
      go_simp
      go_wp2_with (go_at_call 19; refine (KO.out).mono ?_; rintro e X6 ⟨u, fpu, rfl, hdu, hou, hb0⟩; obtain ⟨ua, uk, rfl⟩ := rows_form (layStringS.read hou); have hS := qv _ _ hHeld hb0; have hb := Lib.hid hb0; have OO : Hid (layStringS.own X6 X5.heap.size fpu [.slice ua 1 uk] [x]) := Lib.hid hou; have HDU := Lib.hid hdu; clear hb0 hou hdu)
      refine hK.out _ _ hS (fun hHeld => ?_)
      clear hK K hS KO
      replace rr := Lib.hid (rr.out.next hb.out)
      clear hb C5 C12 C19 L20
      try simp only [Act.put, List.getElem_toArray, List.getElem_cons_succ, List.getElem_cons_zero, List.setIfInBounds_toArray, List.set_cons_zero, List.set_cons_succ]
      refine wpAnyH_ready (rs := [22]) (by kernel_rfl) (by simp) ?_
      refine AllReadyH.cons rfl (fun K hK => ?_) AllReadyH.nil
      have r0_ := rr.out.cell 0
      have r1_ := rr.out.cell 1
      have r2_ := rr.out.cell 2
      have g0_ := rr.out.free 0
      have g1_ := rr.out.free 1
      have g2_ := rr.out.free 2
      go_simp
      have hst : Below (w.heap.size + 2) X6 (((X6.setCell ⟨w.heap.size + 2, 0, none⟩ (.int .i64 rz)).setCell ⟨w.heap.size + 2, 1, none⟩ (.slice ua 1 uk)).setCell ⟨w.heap.size + 2, 2, none⟩ (.bool pb)) := (((Below.refl _ _).setCell (p := ⟨w.heap.size + 2, 0, none⟩) (Nat.le_refl (w.heap.size + 2)) _).setCell (p := ⟨w.heap.size + 2, 1, none⟩) (Nat.le_refl (w.heap.size + 2)) _).setCell (p := ⟨w.heap.size + 2, 2, none⟩) (Nat.le_refl (w.heap.size + 2)) _
      refine hK.out _ _ (Lib.hid ⟨⟨(hst.block _ (by omega)).trans hHeld.out.1.row⟩, ⟨(hst.block _ (by omega)).trans hHeld.out.2.1.row⟩, hHeld.out.2.2.trans (hst.mono (by omega))⟩) (fun hHeld => ?_)
      clear hK K r0_ r1_ r2_ g0_ g1_ g2_
      have RS := Lib.hid (set_three (p0 := .int .i64 rz) (p1 := .slice ua 1 uk) (p2 := .bool pb) rr.out)
      have OW : Hid (layStringS.own (((X6.setCell ⟨w.heap.size + 2, 0, none⟩ (.int .i64 rz)).setCell ⟨w.heap.size + 2, 1, none⟩ (.slice ua 1 uk)).setCell ⟨w.heap.size + 2, 2, none⟩ (.bool pb)) w.heap.size fpu [.slice ua 1 uk] [x]) := Lib.hid (layStringS.lower (own_off (own_off (own_off OO.out (by have := hlow.out; omega) 0 _) (by have := hlow.out; omega) 1 _) (by have := hlow.out; omega) 2 _) (by have := hlow.out; omega))
      clear hst OO
      generalize (((X6.setCell ⟨w.heap.size + 2, 0, none⟩ (.int .i64 rz)).setCell ⟨w.heap.size + 2, 1, none⟩ (.slice ua 1 uk)).setCell ⟨w.heap.size + 2, 2, none⟩ (.bool pb)) = X7 at *
      try simp only [Act.put, List.getElem_toArray, List.getElem_cons_succ, List.getElem_cons_zero, List.setIfInBounds_toArray, List.set_cons_zero, List.set_cons_succ]
      refine wpAnyH_take (i := 23) (v := ?_) rfl (by kernel_rfl) (by kernel_rfl) (by kernel_rfl) (fun _ _ _ h => h) (Or.inl ⟨by kernel_rfl, ?_⟩) hHeld ?_
      rotate_left
      · intro X hX
        first | (go_simp; done) | (go_simp; with_reducible rfl)
      try simp only [Act.put, List.getElem_toArray, List.getElem_cons_succ, List.getElem_cons_zero, List.setIfInBounds_toArray, List.set_cons_zero, List.set_cons_succ]
      refine wpAnyH_done (by kernel_rfl) ?_ _
      have j0 := RS.out.cell 0
      have j1 := RS.out.cell 1
      have j2 := RS.out.cell 2
      have hz := hHeld.out.2.2
      clear hHeld rr
      go_wp2_with fail
      try simp only [Exit.inBlock, Exit.then]
      exact bodyPost_ret (v := .tuple #[.agg #[.int .i64 rz, .slice ua 1 uk, .bool pb], .bool true]) (by simp [results, Try.results7, go_sem, j0, j1, j2]) rfl (by rw [HQ.out, HRW.out, HRP.out]; exact ⟨_, fpu, rfl, HDU.out, OW.out, hz⟩)
    · go_simp
      have hal : Below X0.heap.size X0 (X0.alloc (.cells #[.string x] StringT)) := (Below.refl _ _).alloc (Nat.le_refl _) _
      refine hK.out _ _ (qv _ _ hHeld hal) (fun hHeld => ?_)
      clear hK K
      have hb := Lib.hid hal
      clear hal
      replace rr := Lib.hid (rr.out.next hb.out)
      have L11 := Lib.hid (layStringS.read (text_lit X0 X0.heap.size x (Nat.le_refl _)))
      clear hb
      generalize X0.alloc (.cells #[.string x] StringT) = X1 at *
      generalize X0.heap.size = G1 at *
      try simp only [Act.put, List.getElem_toArray, List.getElem_cons_succ, List.getElem_cons_zero, List.setIfInBounds_toArray, List.set_cons_zero, List.set_cons_succ]
      refine wpAnyH_ready (rs := [5]) (by kernel_rfl) (by simp) ?_
      refine AllReadyH.cons rfl (fun K hK => ?_) AllReadyH.nil
      go_simp
      go_wp2_with (go_at_call 20; (first | rw [← HRZ.out] | rw [← HRM.out]); refine (withSize_any rz X1).mono ?_; rintro e X2 ⟨c, rfl, ⟨q5, rfl, hq⟩, hb0⟩; have hS := qv _ _ hHeld hb0; have hb := Lib.hid hb0; clear hb0)
      refine hK.out _ _ hS (fun hHeld => ?_)
      clear hK K hS
      replace rr := Lib.hid (rr.out.next hb.out)
      replace L11 := Lib.hid (layStringS.below L11.out hb.out)
      have C5 : Hid (Clo X2 (cloV 30 q5) (.size rz)) := Lib.hid ⟨q5, rfl, hq⟩
      clear hq
      clear hb
      try simp only [Act.put, List.getElem_toArray, List.getElem_cons_succ, List.getElem_cons_zero, List.setIfInBounds_toArray, List.set_cons_zero, List.set_cons_succ]
      refine wpAnyH_ready (rs := [12]) (by kernel_rfl) (by simp) ?_
      refine AllReadyH.cons rfl (fun K hK => ?_) AllReadyH.nil
      go_simp
      go_wp2_with (go_at_call 21; refine (withWays_any _ [x] X2 L11.out).mono ?_; rintro e X3 ⟨c, rfl, ⟨q12, v12, rfl, hq, hr⟩, hb0⟩; have hS := qv _ _ hHeld hb0; have hb := Lib.hid hb0; clear hb0)
      refine hK.out _ _ hS (fun hHeld => ?_)
      clear hK K hS
      replace rr := Lib.hid (rr.out.next hb.out)
      replace C5 := Lib.hid (C5.out.below hb.out)
      replace L11 := Lib.hid (layStringS.below L11.out hb.out)
      have C12 : Hid (Clo X3 (cloV 31 q12) (.ways [x])) := Lib.hid ⟨q12, v12, rfl, hq, hr⟩
      clear hq hr L11
      clear hb
      try simp only [Act.put, List.getElem_toArray, List.getElem_cons_succ, List.getElem_cons_zero, List.setIfInBounds_toArray, List.set_cons_zero, List.set_cons_succ]
      refine wpAnyH_take (i := 15) (v := ?_) rfl (by kernel_rfl) (by kernel_rfl) (by kernel_rfl) (fun _ _ _ h => h) (Or.inl ⟨by kernel_rfl, ?_⟩) hHeld ?_
      rotate_left
      · intro X hX
        first | (go_simp; done) | (go_simp; with_reducible rfl)
      try simp only [Act.put, List.getElem_toArray, List.getElem_cons_succ, List.getElem_cons_zero, List.setIfInBounds_toArray, List.set_cons_zero, List.set_cons_succ]
      refine wpAnyH_take (i := 16) (v := ?_) rfl (by kernel_rfl) (by kernel_rfl) (by kernel_rfl) (fun _ _ _ h => h) (Or.inl ⟨by kernel_rfl, ?_⟩) hHeld ?_
      rotate_left
      · intro X hX
        first | (go_simp; done) | (go_simp; with_reducible rfl)
      try simp only [Act.put, List.getElem_toArray, List.getElem_cons_succ, List.getElem_cons_zero, List.setIfInBounds_toArray, List.set_cons_zero, List.set_cons_succ]
      refine wpAnyH_take (i := 17) (v := ?_) rfl (by kernel_rfl) (by kernel_rfl) (by kernel_rfl) (fun _ _ _ h => h) (Or.inl ⟨by kernel_rfl, ?_⟩) hHeld ?_
      rotate_left
      · intro X hX
        have y : X.cell? ⟨w.heap.size + 1, 2, none⟩ = some (.bool pb) := hX.out.2.1.cell 2
        first | (go_simp; done) | (go_simp; with_reducible rfl)
      try simp only [Act.put, List.getElem_toArray, List.getElem_cons_succ, List.getElem_cons_zero, List.setIfInBounds_toArray, List.set_cons_zero, List.set_cons_succ]
      refine wpAnyH_take (i := 18) (v := ?_) rfl (by kernel_rfl) (by kernel_rfl) (by kernel_rfl) (fun _ _ _ h => h) (Or.inl ⟨by kernel_rfl, ?_⟩) hHeld ?_
      rotate_left
      · intro X hX
        first | (go_simp; done) | (go_simp; with_reducible rfl)
      try simp only [Act.put, List.getElem_toArray, List.getElem_cons_succ, List.getElem_cons_zero, List.setIfInBounds_toArray, List.set_cons_zero, List.set_cons_succ]
      refine wpAnyH_ready (rs := [19]) (by kernel_rfl) (by simp) ?_
      refine AllReadyH.cons rfl (fun K hK => ?_) AllReadyH.nil
      go_simp
      go_wp2_with (go_at_call 22; refine (withPieces_any pb X3).mono ?_; rintro e X4 ⟨c, rfl, ⟨q19, rfl, hq⟩, hb0⟩; have hS := qv _ _ hHeld hb0; have hb := Lib.hid hb0; clear hb0)
      refine hK.out _ _ hS (fun hHeld => ?_)
      clear hK K hS
      replace rr := Lib.hid (rr.out.next hb.out)
      replace C5 := Lib.hid (C5.out.below hb.out)
      replace C12 := Lib.hid (C12.out.below hb.out)
      have C19 : Hid (Clo X4 (cloV 33 q19) (.pieces pb)) := Lib.hid ⟨q19, rfl, hq⟩
      clear hq
      clear hb
      try simp only [Act.put, List.getElem_toArray, List.getElem_cons_succ, List.getElem_cons_zero, List.setIfInBounds_toArray, List.set_cons_zero, List.set_cons_succ]
      refine wpAnyH_ready (rs := [20]) (by kernel_rfl) (by simp) ?_
      refine AllReadyH.cons rfl (fun K hK => ?_) AllReadyH.nil
      go_simp
      have hal : Below X4.heap.size X4 (X4.alloc (.cells #[cloV 30 q5, cloV 31 q12, cloV 33 q19] OptFT)) := (Below.refl _ _).alloc (Nat.le_refl _) _
      refine hK.out _ _ (qv _ _ hHeld hal) (fun hHeld => ?_)
      clear hK K
      have hb := Lib.hid hal
      clear hal
      replace rr := Lib.hid (rr.out.next hb.out)
      replace C5 := Lib.hid (C5.out.below hb.out)
      replace C12 := Lib.hid (C12.out.below hb.out)
      replace C19 := Lib.hid (C19.out.below hb.out)
      have L20 := Lib.hid (raw_three X4 (cloV 30 q5) (cloV 31 q12) (cloV 33 q19) rfl rfl rfl)
      clear hb
      generalize X4.alloc (.cells #[cloV 30 q5, cloV 31 q12, cloV 33 q19] OptFT) = X5 at *
      generalize X4.heap.size = G2 at *
      try simp only [Act.put, List.getElem_toArray, List.getElem_cons_succ, List.getElem_cons_zero, List.setIfInBounds_toArray, List.set_cons_zero, List.set_cons_succ]
      refine wpAnyH_ready (rs := [21]) (by kernel_rfl) (by simp) ?_
      refine AllReadyH.cons rfl (fun K hK => ?_) AllReadyH.nil
      have KO := Lib.hid (optionsOf_three HGG.out X5 _ _ _ _ rz x pb (by have := HRZ.out; split at this <;> omega) hsx L20.out C5.out C12.out C19.out)
      have hlow := Lib.hid (show w.heap.size + 2 < X5.heap.size from rr.out.lt)
      go_simp
      go_wp2_with (go_at_call 19; refine (KO.out).mono ?_; rintro e X6 ⟨u, fpu, rfl, hdu, hou, hb0⟩; obtain ⟨ua, uk, rfl⟩ := rows_form (layStringS.read hou); have hS := qv _ _ hHeld hb0; have hb := Lib.hid hb0; have OO : Hid (layStringS.own X6 X5.heap.size fpu [.slice ua 1 uk] [x]) := Lib.hid hou; have HDU := Lib.hid hdu; clear hb0 hou hdu)
      refine hK.out _ _ hS (fun hHeld => ?_)
      clear hK K hS KO
      replace rr := Lib.hid (rr.out.next hb.out)
      clear hb C5 C12 C19 L20
      try simp only [Act.put, List.getElem_toArray, List.getElem_cons_succ, List.getElem_cons_zero, List.setIfInBounds_toArray, List.set_cons_zero, List.set_cons_succ]
      refine wpAnyH_ready (rs := [22]) (by kernel_rfl) (by simp) ?_
      refine AllReadyH.cons rfl (fun K hK => ?_) AllReadyH.nil
      have r0_ := rr.out.cell 0
      have r1_ := rr.out.cell 1
      have r2_ := rr.out.cell 2
      have g0_ := rr.out.free 0
      have g1_ := rr.out.free 1
      have g2_ := rr.out.free 2
      go_simp
      have hst : Below (w.heap.size + 2) X6 (((X6.setCell ⟨w.heap.size + 2, 0, none⟩ (.int .i64 rz)).setCell ⟨w.heap.size + 2, 1, none⟩ (.slice ua 1 uk)).setCell ⟨w.heap.size + 2, 2, none⟩ (.bool pb)) := (((Below.refl _ _).setCell (p := ⟨w.heap.size + 2, 0, none⟩) (Nat.le_refl (w.heap.size + 2)) _).setCell (p := ⟨w.heap.size + 2, 1, none⟩) (Nat.le_refl (w.heap.size + 2)) _).setCell (p := ⟨w.heap.size + 2, 2, none⟩) (Nat.le_refl (w.heap.size + 2)) _
      refine hK.out _ _ (Lib.hid ⟨⟨(hst.block _ (by omega)).trans hHeld.out.1.row⟩, ⟨(hst.block _ (by omega)).trans hHeld.out.2.1.row⟩, hHeld.out.2.2.trans (hst.mono (by omega))⟩) (fun hHeld => ?_)
      clear hK K r0_ r1_ r2_ g0_ g1_ g2_
      have RS := Lib.hid (set_three (p0 := .int .i64 rz) (p1 := .slice ua 1 uk) (p2 := .bool pb) rr.out)
      have OW : Hid (layStringS.own (((X6.setCell ⟨w.heap.size + 2, 0, none⟩ (.int .i64 rz)).setCell ⟨w.heap.size + 2, 1, none⟩ (.slice ua 1 uk)).setCell ⟨w.heap.size + 2, 2, none⟩ (.bool pb)) w.heap.size fpu [.slice ua 1 uk] [x]) := Lib.hid (layStringS.lower (own_off (own_off (own_off OO.out (by have := hlow.out; omega) 0 _) (by have := hlow.out; omega) 1 _) (by have := hlow.out; omega) 2 _) (by have := hlow.out; omega))
      clear hst OO
      generalize (((X6.setCell ⟨w.heap.size + 2, 0, none⟩ (.int .i64 rz)).setCell ⟨w.heap.size + 2, 1, none⟩ (.slice ua 1 uk)).setCell ⟨w.heap.size + 2, 2, none⟩ (.bool pb)) = X7 at *
      try simp only [Act.put, List.getElem_toArray, List.getElem_cons_succ, List.getElem_cons_zero, List.setIfInBounds_toArray, List.set_cons_zero, List.set_cons_succ]
      refine wpAnyH_take (i := 23) (v := ?_) rfl (by kernel_rfl) (by kernel_rfl) (by kernel_rfl) (fun _ _ _ h => h) (Or.inl ⟨by kernel_rfl, ?_⟩) hHeld ?_
      rotate_left
      · intro X hX
        first | (go_simp; done) | (go_simp; with_reducible rfl)
      try simp only [Act.put, List.getElem_toArray, List.getElem_cons_succ, List.getElem_cons_zero, List.setIfInBounds_toArray, List.set_cons_zero, List.set_cons_succ]
      refine wpAnyH_done (by kernel_rfl) ?_ _
      have j0 := RS.out.cell 0
      have j1 := RS.out.cell 1
      have j2 := RS.out.cell 2
      have hz := hHeld.out.2.2
      clear hHeld rr
      go_wp2_with fail
      try simp only [Exit.inBlock, Exit.then]
      exact bodyPost_ret (v := .tuple #[.agg #[.int .i64 rz, .slice ua 1 uk, .bool pb], .bool true]) (by simp [results, Try.results7, go_sem, j0, j1, j2]) rfl (by rw [HQ.out, HRW.out, HRP.out]; exact ⟨_, fpu, rfl, HDU.out, OW.out, hz⟩)
  | false =>
    have qv : ∀ X Y, (Hid (VarA w.heap.size OptionsT #[.int .i64 za, .slice (some ⟨g, off, none⟩) wa.length ca, .bool false] X ∧ VarA (w.heap.size + 1) OptionsT #[.int .i64 zb, .slice ab wb.length cb, .bool pb] X ∧ Below w.heap.size w X)) → Below X.heap.size X Y → (Hid (VarA w.heap.size OptionsT #[.int .i64 za, .slice (some ⟨g, off, none⟩) wa.length ca, .bool false] Y ∧ VarA (w.heap.size + 1) OptionsT #[.int .i64 zb, .slice ab wb.length cb, .bool pb] Y ∧ Below w.heap.size w Y)) := fun X Y h hb => Lib.hid ⟨h.out.1.next hb, h.out.2.1.next hb, h.out.2.2.trans (hb.mono h.out.2.2.size)⟩
    have E0 : Hid (VarA w.heap.size OptionsT #[.int .i64 za, .slice (some ⟨g, off, none⟩) wa.length ca, .bool false] Y.drew ∧ VarA (w.heap.size + 1) OptionsT #[.int .i64 zb, .slice ab wb.length cb, .bool pb] Y.drew ∧ Below w.heap.size w Y.drew) := Lib.hid ⟨S0.out.a.drew, S0.out.b.drew, S0.out.below.drew⟩
    replace rr := Lib.hid rr.out.drew
    go_wp2_with fail
    clear S0
    refine wp_region_held_drew (S := fun X => Hid (VarA w.heap.size OptionsT #[.int .i64 za, .slice (some ⟨g, off, none⟩) wa.length ca, .bool false] X ∧ VarA (w.heap.size + 1) OptionsT #[.int .i64 zb, .slice ab wb.length cb, .bool pb] X ∧ Below w.heap.size w X)) (by kernel_rfl) E0 (fun hHeld => ?_)
    clear E0
    generalize Y.drew = X0 at *
    refine wpAnyH_take (i := 0) (v := ?_) rfl (by kernel_rfl) (by kernel_rfl) (by kernel_rfl) (fun _ _ _ h => h) (Or.inl ⟨by kernel_rfl, ?_⟩) hHeld ?_
    rotate_left
    · intro X hX
      first | (go_simp; done) | (go_simp; with_reducible rfl)
    try simp only [Act.put, List.getElem_toArray, List.getElem_cons_zero, List.setIfInBounds_toArray, List.set_cons_zero, List.set_cons_succ]
    refine wpAnyH_take (i := 1) (v := ?_) rfl (by kernel_rfl) (by kernel_rfl) (by kernel_rfl) (fun _ _ _ h => h) (Or.inl ⟨by kernel_rfl, ?_⟩) hHeld ?_
    rotate_left
    · intro X hX
      have y : X.cell? ⟨w.heap.size, 0, none⟩ = some (.int .i64 za) := hX.out.1.cell 0
      first | (go_simp; done) | (go_simp; with_reducible rfl)
    try simp only [Act.put, List.getElem_toArray, List.getElem_cons_succ, List.getElem_cons_zero, List.setIfInBounds_toArray, List.set_cons_zero, List.set_cons_succ]
    refine wpAnyH_take (i := 2) (v := ?_) rfl (by kernel_rfl) (by kernel_rfl) (by kernel_rfl) (fun _ _ _ h => h) (Or.inl ⟨by kernel_rfl, ?_⟩) hHeld ?_
    rotate_left
    · intro X hX
      first | (go_simp; done) | (go_simp; with_reducible rfl)
    try simp only [Act.put, List.getElem_toArray, List.getElem_cons_succ, List.getElem_cons_zero, List.setIfInBounds_toArray, List.set_cons_zero, List.set_cons_succ]
    refine wpAnyH_take (i := 3) (v := ?_) rfl (by kernel_rfl) (by kernel_rfl) (by kernel_rfl) (fun _ _ _ h => h) (Or.inl ⟨by kernel_rfl, ?_⟩) hHeld ?_
    rotate_left
    · intro X hX
      have y : X.cell? ⟨w.heap.size + 1, 0, none⟩ = some (.int .i64 zb) := hX.out.2.1.cell 0
      first | (go_simp; done) | (go_simp; with_reducible rfl)
    try simp only [Act.put, List.getElem_toArray, List.getElem_cons_succ, List.getElem_cons_zero, List.setIfInBounds_toArray, List.set_cons_zero, List.set_cons_succ]
    refine wpAnyH_take (i := 4) (v := ?_) rfl (by kernel_rfl) (by kernel_rfl) (by kernel_rfl) (fun _ _ _ h => h) (Or.inl ⟨by kernel_rfl, ?_⟩) hHeld ?_
    rotate_left
    · intro X hX
      first | (go_simp; done) | (go_simp; with_reducible rfl)
    try simp only [Act.put, List.getElem_toArray, List.getElem_cons_succ, List.getElem_cons_zero, List.setIfInBounds_toArray, List.set_cons_zero, List.set_cons_succ]
    refine wpAnyH_take (i := 6) (v := ?_) rfl (by kernel_rfl) (by kernel_rfl) (by kernel_rfl) (fun _ _ _ h => h) (Or.inl ⟨by kernel_rfl, ?_⟩) hHeld ?_
    rotate_left
    · intro X hX
      first | (go_simp; done) | (go_simp; with_reducible rfl)
    try simp only [Act.put, List.getElem_toArray, List.getElem_cons_succ, List.getElem_cons_zero, List.setIfInBounds_toArray, List.set_cons_zero, List.set_cons_succ]
    refine wpAnyH_take (i := 7) (v := ?_) rfl (by kernel_rfl) (by kernel_rfl) (by kernel_rfl) (fun _ _ _ h => h) (Or.inl ⟨by kernel_rfl, ?_⟩) hHeld ?_
    rotate_left
    · intro X hX
      have y : X.cell? ⟨w.heap.size, 1, none⟩ = some (.slice (some ⟨g, off, none⟩) wa.length ca) := hX.out.1.cell 1
      first | (go_simp; done) | (go_simp; with_reducible rfl)
    try simp only [Act.put, List.getElem_toArray, List.getElem_cons_succ, List.getElem_cons_zero, List.setIfInBounds_toArray, List.set_cons_zero, List.set_cons_succ]
    refine wpAnyH_take (i := 8) (v := ?_) rfl (by kernel_rfl) (by kernel_rfl) (by kernel_rfl) (fun _ _ _ h => h) (Or.inl ⟨by kernel_rfl, ?_⟩) hHeld ?_
    rotate_left
    · intro X hX
      first | (go_simp; done) | (go_simp; with_reducible rfl)
    try simp only [Act.put, List.getElem_toArray, List.getElem_cons_succ, List.getElem_cons_zero, List.setIfInBounds_toArray, List.set_cons_zero, List.set_cons_succ]
    refine wpAnyH_take (i := 9) (v := ?_) rfl (by kernel_rfl) (by kernel_rfl) (by kernel_rfl) (fun _ _ _ h => h) (Or.inl ⟨by kernel_rfl, ?_⟩) hHeld ?_
    rotate_left
    · intro X hX
      first | (go_simp; done) | (go_simp; with_reducible rfl)
    try simp only [Act.put, List.getElem_toArray, List.getElem_cons_succ, List.getElem_cons_zero, List.setIfInBounds_toArray, List.set_cons_zero, List.set_cons_succ]
    refine wpAnyH_take (i := 10) (v := ?_) rfl (by kernel_rfl) (by kernel_rfl) (by kernel_rfl) (fun _ _ _ h => h) (Or.inl ⟨by kernel_rfl, ?_⟩) hHeld ?_
    rotate_left
    · intro X hX
      have y : X.cell? ⟨g, off + i, none⟩ = some (.string x) := (hX.out.2.2.cell (p := ⟨g, off + i, none⟩) (cell_size cx.out)).trans cx.out
      first | (go_simp; done) | (go_simp; with_reducible rfl)
    try simp only [Act.put, List.getElem_toArray, List.getElem_cons_succ, List.getElem_cons_zero, List.setIfInBounds_toArray, List.set_cons_zero, List.set_cons_succ]
    refine wpAnyH_take (i := 13) (v := ?_) rfl (by kernel_rfl) (by kernel_rfl) (by kernel_rfl) (fun _ _ _ h => h) (Or.inl ⟨by kernel_rfl, ?_⟩) hHeld ?_
    rotate_left
    · intro X hX
      first | (go_simp; done) | (go_simp; with_reducible rfl)
    try simp only [Act.put, List.getElem_toArray, List.getElem_cons_succ, List.getElem_cons_zero, List.setIfInBounds_toArray, List.set_cons_zero, List.set_cons_succ]
    refine wpAnyH_take (i := 14) (v := ?_) rfl (by kernel_rfl) (by kernel_rfl) (by kernel_rfl) (fun _ _ _ h => h) (Or.inl ⟨by kernel_rfl, ?_⟩) hHeld ?_
    rotate_left
    · intro X hX
      have y : X.cell? ⟨w.heap.size, 2, none⟩ = some (.bool false) := hX.out.1.cell 2
      first | (go_simp; done) | (go_simp; with_reducible rfl)
    try simp only [Act.put, List.getElem_toArray, List.getElem_cons_succ, List.getElem_cons_zero, List.setIfInBounds_toArray, List.set_cons_zero, List.set_cons_succ]
    refine wpAnyH_ready (rs := [5, 11]) (by kernel_rfl) (by simp) ?_
    refine AllReadyH.cons rfl (fun K hK => ?_) (AllReadyH.cons rfl (fun K hK => ?_) AllReadyH.nil)
    · go_simp
      go_wp2_with (go_at_call 20; (first | rw [← HRZ.out] | rw [← HRM.out]); refine (withSize_any rz X0).mono ?_; rintro e X1 ⟨c, rfl, ⟨q5, rfl, hq⟩, hb0⟩; have hS := qv _ _ hHeld hb0; have hb := Lib.hid hb0; clear hb0)
      refine hK.out _ _ hS (fun hHeld => ?_)
      clear hK K hS
      replace rr := Lib.hid (rr.out.next hb.out)
      have C5 : Hid (Clo X1 (cloV 30 q5) (.size rz)) := Lib.hid ⟨q5, rfl, hq⟩
      clear hq
      clear hb
      try simp only [Act.put, List.getElem_toArray, List.getElem_cons_succ, List.getElem_cons_zero, List.setIfInBounds_toArray, List.set_cons_zero, List.set_cons_succ]
      refine wpAnyH_ready (rs := [11]) (by kernel_rfl) (by simp) ?_
      refine AllReadyH.cons rfl (fun K hK => ?_) AllReadyH.nil
      go_simp
      have hal : Below X1.heap.size X1 (X1.alloc (.cells #[.string x] StringT)) := (Below.refl _ _).alloc (Nat.le_refl _) _
      refine hK.out _ _ (qv _ _ hHeld hal) (fun hHeld => ?_)
      clear hK K
      have hb := Lib.hid hal
      clear hal
      replace rr := Lib.hid (rr.out.next hb.out)
      replace C5 := Lib.hid (C5.out.below hb.out)
      have L11 := Lib.hid (layStringS.read (text_lit X1 X1.heap.size x (Nat.le_refl _)))
      clear hb
      generalize X1.alloc (.cells #[.string x] StringT) = X2 at *
      generalize X1.heap.size = G1 at *
      try simp only [Act.put, List.getElem_toArray, List.getElem_cons_succ, List.getElem_cons_zero, List.setIfInBounds_toArray, List.set_cons_zero, List.set_cons_succ]
      refine wpAnyH_ready (rs := [12]) (by kernel_rfl) (by simp) ?_
      refine AllReadyH.cons rfl (fun K hK => ?_) AllReadyH.nil
      go_simp
      go_wp2_with (go_at_call 21; refine (withWays_any _ [x] X2 L11.out).mono ?_; rintro e X3 ⟨c, rfl, ⟨q12, v12, rfl, hq, hr⟩, hb0⟩; have hS := qv _ _ hHeld hb0; have hb := Lib.hid hb0; clear hb0)
      refine hK.out _ _ hS (fun hHeld => ?_)
      clear hK K hS
      replace rr := Lib.hid (rr.out.next hb.out)
      replace C5 := Lib.hid (C5.out.below hb.out)
      replace L11 := Lib.hid (layStringS.below L11.out hb.out)
      have C12 : Hid (Clo X3 (cloV 31 q12) (.ways [x])) := Lib.hid ⟨q12, v12, rfl, hq, hr⟩
      clear hq hr L11
      clear hb
      try simp only [Act.put, List.getElem_toArray, List.getElem_cons_succ, List.getElem_cons_zero, List.setIfInBounds_toArray, List.set_cons_zero, List.set_cons_succ]
      refine wpAnyH_take (i := 15) (v := ?_) rfl (by kernel_rfl) (by kernel_rfl) (by kernel_rfl) (fun _ _ _ h => h) (Or.inl ⟨by kernel_rfl, ?_⟩) hHeld ?_
      rotate_left
      · intro X hX
        first | (go_simp; done) | (go_simp; with_reducible rfl)
      try simp only [Act.put, List.getElem_toArray, List.getElem_cons_succ, List.getElem_cons_zero, List.setIfInBounds_toArray, List.set_cons_zero, List.set_cons_succ]
      refine wpAnyH_take (i := 16) (v := undef) rfl (by kernel_rfl) (by kernel_rfl) (by kernel_rfl) (fun _ _ _ h => h) (Or.inr ⟨by kernel_rfl, rfl⟩) hHeld ?_
      try simp only [Act.put, List.getElem_toArray, List.getElem_cons_succ, List.getElem_cons_zero, List.setIfInBounds_toArray, List.set_cons_zero, List.set_cons_succ]
      refine wpAnyH_take (i := 17) (v := undef) rfl (by kernel_rfl) (by kernel_rfl) (by kernel_rfl) (fun _ _ _ h => h) (Or.inr ⟨by kernel_rfl, rfl⟩) hHeld ?_
      try simp only [Act.put, List.getElem_toArray, List.getElem_cons_succ, List.getElem_cons_zero, List.setIfInBounds_toArray, List.set_cons_zero, List.set_cons_succ]
      refine wpAnyH_take (i := 18) (v := ?_) rfl (by kernel_rfl) (by kernel_rfl) (by kernel_rfl) (fun _ _ _ h => h) (Or.inl ⟨by kernel_rfl, ?_⟩) hHeld ?_
      rotate_left
      · intro X hX
        first | (go_simp; done) | (go_simp; with_reducible rfl)
      try simp only [Act.put, List.getElem_toArray, List.getElem_cons_succ, List.getElem_cons_zero, List.setIfInBounds_toArray, List.set_cons_zero, List.set_cons_succ]
      refine wpAnyH_ready (rs := [19]) (by kernel_rfl) (by simp) ?_
      refine AllReadyH.cons rfl (fun K hK => ?_) AllReadyH.nil
      go_simp
      go_wp2_with (go_at_call 22; refine (withPieces_any false X3).mono ?_; rintro e X4 ⟨c, rfl, ⟨q19, rfl, hq⟩, hb0⟩; have hS := qv _ _ hHeld hb0; have hb := Lib.hid hb0; clear hb0)
      refine hK.out _ _ hS (fun hHeld => ?_)
      clear hK K hS
      replace rr := Lib.hid (rr.out.next hb.out)
      replace C5 := Lib.hid (C5.out.below hb.out)
      replace C12 := Lib.hid (C12.out.below hb.out)
      have C19 : Hid (Clo X4 (cloV 33 q19) (.pieces false)) := Lib.hid ⟨q19, rfl, hq⟩
      clear hq
      clear hb
      try simp only [Act.put, List.getElem_toArray, List.getElem_cons_succ, List.getElem_cons_zero, List.setIfInBounds_toArray, List.set_cons_zero, List.set_cons_succ]
      refine wpAnyH_ready (rs := [20]) (by kernel_rfl) (by simp) ?_
      refine AllReadyH.cons rfl (fun K hK => ?_) AllReadyH.nil
      go_simp
      have hal : Below X4.heap.size X4 (X4.alloc (.cells #[cloV 30 q5, cloV 31 q12, cloV 33 q19] OptFT)) := (Below.refl _ _).alloc (Nat.le_refl _) _
      refine hK.out _ _ (qv _ _ hHeld hal) (fun hHeld => ?_)
      clear hK K
      have hb := Lib.hid hal
      clear hal
      replace rr := Lib.hid (rr.out.next hb.out)
      replace C5 := Lib.hid (C5.out.below hb.out)
      replace C12 := Lib.hid (C12.out.below hb.out)
      replace C19 := Lib.hid (C19.out.below hb.out)
      have L20 := Lib.hid (raw_three X4 (cloV 30 q5) (cloV 31 q12) (cloV 33 q19) rfl rfl rfl)
      clear hb
      generalize X4.alloc (.cells #[cloV 30 q5, cloV 31 q12, cloV 33 q19] OptFT) = X5 at *
      generalize X4.heap.size = G2 at *
      try simp only [Act.put, List.getElem_toArray, List.getElem_cons_succ, List.getElem_cons_zero, List.setIfInBounds_toArray, List.set_cons_zero, List.set_cons_succ]
      refine wpAnyH_ready (rs := [21]) (by kernel_rfl) (by simp) ?_
      refine AllReadyH.cons rfl (fun K hK => ?_) AllReadyH.nil
      have KO := Lib.hid (optionsOf_three HGG.out X5 _ _ _ _ rz x false (by have := HRZ.out; split at this <;> omega) hsx L20.out C5.out C12.out C19.out)
      have hlow := Lib.hid (show w.heap.size + 2 < X5.heap.size from rr.out.lt)
      go_simp
      go_wp2_with (go_at_call 19; refine (KO.out).mono ?_; rintro e X6 ⟨u, fpu, rfl, hdu, hou, hb0⟩; obtain ⟨ua, uk, rfl⟩ := rows_form (layStringS.read hou); have hS := qv _ _ hHeld hb0; have hb := Lib.hid hb0; have OO : Hid (layStringS.own X6 X5.heap.size fpu [.slice ua 1 uk] [x]) := Lib.hid hou; have HDU := Lib.hid hdu; clear hb0 hou hdu)
      refine hK.out _ _ hS (fun hHeld => ?_)
      clear hK K hS KO
      replace rr := Lib.hid (rr.out.next hb.out)
      clear hb C5 C12 C19 L20
      try simp only [Act.put, List.getElem_toArray, List.getElem_cons_succ, List.getElem_cons_zero, List.setIfInBounds_toArray, List.set_cons_zero, List.set_cons_succ]
      refine wpAnyH_ready (rs := [22]) (by kernel_rfl) (by simp) ?_
      refine AllReadyH.cons rfl (fun K hK => ?_) AllReadyH.nil
      have r0_ := rr.out.cell 0
      have r1_ := rr.out.cell 1
      have r2_ := rr.out.cell 2
      have g0_ := rr.out.free 0
      have g1_ := rr.out.free 1
      have g2_ := rr.out.free 2
      go_simp
      have hst : Below (w.heap.size + 2) X6 (((X6.setCell ⟨w.heap.size + 2, 0, none⟩ (.int .i64 rz)).setCell ⟨w.heap.size + 2, 1, none⟩ (.slice ua 1 uk)).setCell ⟨w.heap.size + 2, 2, none⟩ (.bool false)) := (((Below.refl _ _).setCell (p := ⟨w.heap.size + 2, 0, none⟩) (Nat.le_refl (w.heap.size + 2)) _).setCell (p := ⟨w.heap.size + 2, 1, none⟩) (Nat.le_refl (w.heap.size + 2)) _).setCell (p := ⟨w.heap.size + 2, 2, none⟩) (Nat.le_refl (w.heap.size + 2)) _
      refine hK.out _ _ (Lib.hid ⟨⟨(hst.block _ (by omega)).trans hHeld.out.1.row⟩, ⟨(hst.block _ (by omega)).trans hHeld.out.2.1.row⟩, hHeld.out.2.2.trans (hst.mono (by omega))⟩) (fun hHeld => ?_)
      clear hK K r0_ r1_ r2_ g0_ g1_ g2_
      have RS := Lib.hid (set_three (p0 := .int .i64 rz) (p1 := .slice ua 1 uk) (p2 := .bool false) rr.out)
      have OW : Hid (layStringS.own (((X6.setCell ⟨w.heap.size + 2, 0, none⟩ (.int .i64 rz)).setCell ⟨w.heap.size + 2, 1, none⟩ (.slice ua 1 uk)).setCell ⟨w.heap.size + 2, 2, none⟩ (.bool false)) w.heap.size fpu [.slice ua 1 uk] [x]) := Lib.hid (layStringS.lower (own_off (own_off (own_off OO.out (by have := hlow.out; omega) 0 _) (by have := hlow.out; omega) 1 _) (by have := hlow.out; omega) 2 _) (by have := hlow.out; omega))
      clear hst OO
      generalize (((X6.setCell ⟨w.heap.size + 2, 0, none⟩ (.int .i64 rz)).setCell ⟨w.heap.size + 2, 1, none⟩ (.slice ua 1 uk)).setCell ⟨w.heap.size + 2, 2, none⟩ (.bool false)) = X7 at *
      try simp only [Act.put, List.getElem_toArray, List.getElem_cons_succ, List.getElem_cons_zero, List.setIfInBounds_toArray, List.set_cons_zero, List.set_cons_succ]
      refine wpAnyH_take (i := 23) (v := ?_) rfl (by kernel_rfl) (by kernel_rfl) (by kernel_rfl) (fun _ _ _ h => h) (Or.inl ⟨by kernel_rfl, ?_⟩) hHeld ?_
      rotate_left
      · intro X hX
        first | (go_simp; done) | (go_simp; with_reducible rfl)
      try simp only [Act.put, List.getElem_toArray, List.getElem_cons_succ, List.getElem_cons_zero, List.setIfInBounds_toArray, List.set_cons_zero, List.set_cons_succ]
      refine wpAnyH_done (by kernel_rfl) ?_ _
      have j0 := RS.out.cell 0
      have j1 := RS.out.cell 1
      have j2 := RS.out.cell 2
      have hz := hHeld.out.2.2
      clear hHeld rr
      go_wp2_with fail
      try simp only [Exit.inBlock, Exit.then]
      exact bodyPost_ret (v := .tuple #[.agg #[.int .i64 rz, .slice ua 1 uk, .bool false], .bool true]) (by simp [results, Try.results7, go_sem, j0, j1, j2]) rfl (by rw [HQ.out, HRW.out, HRP.out]; exact ⟨_, fpu, rfl, HDU.out, OW.out, hz⟩)
    · go_simp
      have hal : Below X0.heap.size X0 (X0.alloc (.cells #[.string x] StringT)) := (Below.refl _ _).alloc (Nat.le_refl _) _
      refine hK.out _ _ (qv _ _ hHeld hal) (fun hHeld => ?_)
      clear hK K
      have hb := Lib.hid hal
      clear hal
      replace rr := Lib.hid (rr.out.next hb.out)
      have L11 := Lib.hid (layStringS.read (text_lit X0 X0.heap.size x (Nat.le_refl _)))
      clear hb
      generalize X0.alloc (.cells #[.string x] StringT) = X1 at *
      generalize X0.heap.size = G1 at *
      try simp only [Act.put, List.getElem_toArray, List.getElem_cons_succ, List.getElem_cons_zero, List.setIfInBounds_toArray, List.set_cons_zero, List.set_cons_succ]
      refine wpAnyH_ready (rs := [5]) (by kernel_rfl) (by simp) ?_
      refine AllReadyH.cons rfl (fun K hK => ?_) AllReadyH.nil
      go_simp
      go_wp2_with (go_at_call 20; (first | rw [← HRZ.out] | rw [← HRM.out]); refine (withSize_any rz X1).mono ?_; rintro e X2 ⟨c, rfl, ⟨q5, rfl, hq⟩, hb0⟩; have hS := qv _ _ hHeld hb0; have hb := Lib.hid hb0; clear hb0)
      refine hK.out _ _ hS (fun hHeld => ?_)
      clear hK K hS
      replace rr := Lib.hid (rr.out.next hb.out)
      replace L11 := Lib.hid (layStringS.below L11.out hb.out)
      have C5 : Hid (Clo X2 (cloV 30 q5) (.size rz)) := Lib.hid ⟨q5, rfl, hq⟩
      clear hq
      clear hb
      try simp only [Act.put, List.getElem_toArray, List.getElem_cons_succ, List.getElem_cons_zero, List.setIfInBounds_toArray, List.set_cons_zero, List.set_cons_succ]
      refine wpAnyH_ready (rs := [12]) (by kernel_rfl) (by simp) ?_
      refine AllReadyH.cons rfl (fun K hK => ?_) AllReadyH.nil
      go_simp
      go_wp2_with (go_at_call 21; refine (withWays_any _ [x] X2 L11.out).mono ?_; rintro e X3 ⟨c, rfl, ⟨q12, v12, rfl, hq, hr⟩, hb0⟩; have hS := qv _ _ hHeld hb0; have hb := Lib.hid hb0; clear hb0)
      refine hK.out _ _ hS (fun hHeld => ?_)
      clear hK K hS
      replace rr := Lib.hid (rr.out.next hb.out)
      replace C5 := Lib.hid (C5.out.below hb.out)
      replace L11 := Lib.hid (layStringS.below L11.out hb.out)
      have C12 : Hid (Clo X3 (cloV 31 q12) (.ways [x])) := Lib.hid ⟨q12, v12, rfl, hq, hr⟩
      clear hq hr L11
      clear hb
      try simp only [Act.put, List.getElem_toArray, List.getElem_cons_succ, List.getElem_cons_zero, List.setIfInBounds_toArray, List.set_cons_zero, List.set_cons_succ]
      refine wpAnyH_take (i := 15) (v := ?_) rfl (by kernel_rfl) (by kernel_rfl) (by kernel_rfl) (fun _ _ _ h => h) (Or.inl ⟨by kernel_rfl, ?_⟩) hHeld ?_
      rotate_left
      · intro X hX
        first | (go_simp; done) | (go_simp; with_reducible rfl)
      try simp only [Act.put, List.getElem_toArray, List.getElem_cons_succ, List.getElem_cons_zero, List.setIfInBounds_toArray, List.set_cons_zero, List.set_cons_succ]
      refine wpAnyH_take (i := 16) (v := undef) rfl (by kernel_rfl) (by kernel_rfl) (by kernel_rfl) (fun _ _ _ h => h) (Or.inr ⟨by kernel_rfl, rfl⟩) hHeld ?_
      try simp only [Act.put, List.getElem_toArray, List.getElem_cons_succ, List.getElem_cons_zero, List.setIfInBounds_toArray, List.set_cons_zero, List.set_cons_succ]
      refine wpAnyH_take (i := 17) (v := undef) rfl (by kernel_rfl) (by kernel_rfl) (by kernel_rfl) (fun _ _ _ h => h) (Or.inr ⟨by kernel_rfl, rfl⟩) hHeld ?_
      try simp only [Act.put, List.getElem_toArray, List.getElem_cons_succ, List.getElem_cons_zero, List.setIfInBounds_toArray, List.set_cons_zero, List.set_cons_succ]
      refine wpAnyH_take (i := 18) (v := ?_) rfl (by kernel_rfl) (by kernel_rfl) (by kernel_rfl) (fun _ _ _ h => h) (Or.inl ⟨by kernel_rfl, ?_⟩) hHeld ?_
      rotate_left
      · intro X hX
        first | (go_simp; done) | (go_simp; with_reducible rfl)
      try simp only [Act.put, List.getElem_toArray, List.getElem_cons_succ, List.getElem_cons_zero, List.setIfInBounds_toArray, List.set_cons_zero, List.set_cons_succ]
      refine wpAnyH_ready (rs := [19]) (by kernel_rfl) (by simp) ?_
      refine AllReadyH.cons rfl (fun K hK => ?_) AllReadyH.nil
      go_simp
      go_wp2_with (go_at_call 22; refine (withPieces_any false X3).mono ?_; rintro e X4 ⟨c, rfl, ⟨q19, rfl, hq⟩, hb0⟩; have hS := qv _ _ hHeld hb0; have hb := Lib.hid hb0; clear hb0)
      refine hK.out _ _ hS (fun hHeld => ?_)
      clear hK K hS
      replace rr := Lib.hid (rr.out.next hb.out)
      replace C5 := Lib.hid (C5.out.below hb.out)
      replace C12 := Lib.hid (C12.out.below hb.out)
      have C19 : Hid (Clo X4 (cloV 33 q19) (.pieces false)) := Lib.hid ⟨q19, rfl, hq⟩
      clear hq
      clear hb
      try simp only [Act.put, List.getElem_toArray, List.getElem_cons_succ, List.getElem_cons_zero, List.setIfInBounds_toArray, List.set_cons_zero, List.set_cons_succ]
      refine wpAnyH_ready (rs := [20]) (by kernel_rfl) (by simp) ?_
      refine AllReadyH.cons rfl (fun K hK => ?_) AllReadyH.nil
      go_simp
      have hal : Below X4.heap.size X4 (X4.alloc (.cells #[cloV 30 q5, cloV 31 q12, cloV 33 q19] OptFT)) := (Below.refl _ _).alloc (Nat.le_refl _) _
      refine hK.out _ _ (qv _ _ hHeld hal) (fun hHeld => ?_)
      clear hK K
      have hb := Lib.hid hal
      clear hal
      replace rr := Lib.hid (rr.out.next hb.out)
      replace C5 := Lib.hid (C5.out.below hb.out)
      replace C12 := Lib.hid (C12.out.below hb.out)
      replace C19 := Lib.hid (C19.out.below hb.out)
      have L20 := Lib.hid (raw_three X4 (cloV 30 q5) (cloV 31 q12) (cloV 33 q19) rfl rfl rfl)
      clear hb
      generalize X4.alloc (.cells #[cloV 30 q5, cloV 31 q12, cloV 33 q19] OptFT) = X5 at *
      generalize X4.heap.size = G2 at *
      try simp only [Act.put, List.getElem_toArray, List.getElem_cons_succ, List.getElem_cons_zero, List.setIfInBounds_toArray, List.set_cons_zero, List.set_cons_succ]
      refine wpAnyH_ready (rs := [21]) (by kernel_rfl) (by simp) ?_
      refine AllReadyH.cons rfl (fun K hK => ?_) AllReadyH.nil
      have KO := Lib.hid (optionsOf_three HGG.out X5 _ _ _ _ rz x false (by have := HRZ.out; split at this <;> omega) hsx L20.out C5.out C12.out C19.out)
      have hlow := Lib.hid (show w.heap.size + 2 < X5.heap.size from rr.out.lt)
      go_simp
      go_wp2_with (go_at_call 19; refine (KO.out).mono ?_; rintro e X6 ⟨u, fpu, rfl, hdu, hou, hb0⟩; obtain ⟨ua, uk, rfl⟩ := rows_form (layStringS.read hou); have hS := qv _ _ hHeld hb0; have hb := Lib.hid hb0; have OO : Hid (layStringS.own X6 X5.heap.size fpu [.slice ua 1 uk] [x]) := Lib.hid hou; have HDU := Lib.hid hdu; clear hb0 hou hdu)
      refine hK.out _ _ hS (fun hHeld => ?_)
      clear hK K hS KO
      replace rr := Lib.hid (rr.out.next hb.out)
      clear hb C5 C12 C19 L20
      try simp only [Act.put, List.getElem_toArray, List.getElem_cons_succ, List.getElem_cons_zero, List.setIfInBounds_toArray, List.set_cons_zero, List.set_cons_succ]
      refine wpAnyH_ready (rs := [22]) (by kernel_rfl) (by simp) ?_
      refine AllReadyH.cons rfl (fun K hK => ?_) AllReadyH.nil
      have r0_ := rr.out.cell 0
      have r1_ := rr.out.cell 1
      have r2_ := rr.out.cell 2
      have g0_ := rr.out.free 0
      have g1_ := rr.out.free 1
      have g2_ := rr.out.free 2
      go_simp
      have hst : Below (w.heap.size + 2) X6 (((X6.setCell ⟨w.heap.size + 2, 0, none⟩ (.int .i64 rz)).setCell ⟨w.heap.size + 2, 1, none⟩ (.slice ua 1 uk)).setCell ⟨w.heap.size + 2, 2, none⟩ (.bool false)) := (((Below.refl _ _).setCell (p := ⟨w.heap.size + 2, 0, none⟩) (Nat.le_refl (w.heap.size + 2)) _).setCell (p := ⟨w.heap.size + 2, 1, none⟩) (Nat.le_refl (w.heap.size + 2)) _).setCell (p := ⟨w.heap.size + 2, 2, none⟩) (Nat.le_refl (w.heap.size + 2)) _
      refine hK.out _ _ (Lib.hid ⟨⟨(hst.block _ (by omega)).trans hHeld.out.1.row⟩, ⟨(hst.block _ (by omega)).trans hHeld.out.2.1.row⟩, hHeld.out.2.2.trans (hst.mono (by omega))⟩) (fun hHeld => ?_)
      clear hK K r0_ r1_ r2_ g0_ g1_ g2_
      have RS := Lib.hid (set_three (p0 := .int .i64 rz) (p1 := .slice ua 1 uk) (p2 := .bool false) rr.out)
      have OW : Hid (layStringS.own (((X6.setCell ⟨w.heap.size + 2, 0, none⟩ (.int .i64 rz)).setCell ⟨w.heap.size + 2, 1, none⟩ (.slice ua 1 uk)).setCell ⟨w.heap.size + 2, 2, none⟩ (.bool false)) w.heap.size fpu [.slice ua 1 uk] [x]) := Lib.hid (layStringS.lower (own_off (own_off (own_off OO.out (by have := hlow.out; omega) 0 _) (by have := hlow.out; omega) 1 _) (by have := hlow.out; omega) 2 _) (by have := hlow.out; omega))
      clear hst OO
      generalize (((X6.setCell ⟨w.heap.size + 2, 0, none⟩ (.int .i64 rz)).setCell ⟨w.heap.size + 2, 1, none⟩ (.slice ua 1 uk)).setCell ⟨w.heap.size + 2, 2, none⟩ (.bool false)) = X7 at *
      try simp only [Act.put, List.getElem_toArray, List.getElem_cons_succ, List.getElem_cons_zero, List.setIfInBounds_toArray, List.set_cons_zero, List.set_cons_succ]
      refine wpAnyH_take (i := 23) (v := ?_) rfl (by kernel_rfl) (by kernel_rfl) (by kernel_rfl) (fun _ _ _ h => h) (Or.inl ⟨by kernel_rfl, ?_⟩) hHeld ?_
      rotate_left
      · intro X hX
        first | (go_simp; done) | (go_simp; with_reducible rfl)
      try simp only [Act.put, List.getElem_toArray, List.getElem_cons_succ, List.getElem_cons_zero, List.setIfInBounds_toArray, List.set_cons_zero, List.set_cons_succ]
      refine wpAnyH_done (by kernel_rfl) ?_ _
      have j0 := RS.out.cell 0
      have j1 := RS.out.cell 1
      have j2 := RS.out.cell 2
      have hz := hHeld.out.2.2
      clear hHeld rr
      go_wp2_with fail
      try simp only [Exit.inBlock, Exit.then]
      exact bodyPost_ret (v := .tuple #[.agg #[.int .i64 rz, .slice ua 1 uk, .bool false], .bool true]) (by simp [results, Try.results7, go_sem, j0, j1, j2]) rfl (by rw [HQ.out, HRW.out, HRP.out]; exact ⟨_, fpu, rfl, HDU.out, OW.out, hz⟩)

end Go.Proofs.Ytmgdhlodifkemat
