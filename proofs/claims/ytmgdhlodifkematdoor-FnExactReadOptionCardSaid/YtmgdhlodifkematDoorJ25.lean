/-
  The given ReadOption.
-/
import Derived.Test.YtmgdhlodifkematDoorJ19
import Derived.Test.YtmgdhlodifkematDoorJ20
import Derived.Test.YtmgdhlodifkematDoorJ24
namespace Go.Proofs.YtmgdhlodifkematDoor
open Go.RowKit

theorem lit_ne {x : ByteArray} {l : List UInt8} (h : ¬ x = ⟨l.toArray⟩) : (x.toList == l) = false := by
  rw [beq_eq_false_iff_ne, ByteArray.toList_eq]
  exact fun e => h (bytes_eq e)
theorem lit_eq {x : ByteArray} {l : List UInt8} (h : x = ⟨l.toArray⟩) : (x.toList == l) = true := by
  rw [h, ByteArray.toList_eq]
  simp
/-- Rows of texts, in the other words. -/
theorem ownS_lay {w : World} {b : Nat} {v : Value} {ls : List (List UInt8)} (h : OwnS w b StringT v ls) : layStringS.own w b (blk v) [v] (textsW ls) := by
  have h' : w.ownsRow b StringT layString.k v (textsW ls).length (strs ls) := by
    rw [show (textsW ls).length = ls.length by unfold textsW; simp]
    exact h
  refine flat_own flatString h' ?_
  clear h h'
  induction ls with
  | nil => rfl
  | cons l ls ih => exact ⟨[.string ⟨l.toArray⟩], strs ls, rfl, rfl, ih⟩
theorem blk_low {w : World} {b : Nat} {v : Value} {ls : List (List UInt8)} (h : OwnS w b StringT v ls) : ∀ g ∈ blk v, b ≤ g ∧ g < w.heap.size := layStringS.blocks (ownS_lay h)
/-- The result in its variable. -/
structure ROS (w : World) (X : World) : Prop where
  r : VarA w.heap.size OptionsT #[.int .i64 0, .slice none 0 0, .bool false] X
  below : Below w.heap.size w X
theorem ROS.next {w X Y : World} (h : ROS w X) (hb : Below X.heap.size X Y) : ROS w Y := ⟨h.r.next hb, h.below.trans (hb.mono h.below.size)⟩
/-- Where the parts are not so there are no options. -/
theorem no_opt {s : ByteArray} {z : Int} {ws : List ByteArray} {p ok : Bool} {ps : List (List UInt8)} (hR : ReadIs s z ws p ok) (hc : cutAt 59 [] s.data.toList = ps) (h : ¬ (2 ≤ ps.length ∧ ps.length ≤ 3 ∧ 6 ≤ (ps.getD 0 []).length ∧ 6 ≤ (ps.getD 1 []).length ∧ (ps.getD 0 []).take 5 = [115, 105, 122, 101, 32] ∧ (ps.getD 1 []).take 5 = [119, 97, 121, 115, 32])) : ok = false := by
  cases ok with
  | false => rfl
  | true =>
    refine absurd ?_ h
    obtain ⟨a, b, h1, h2, h3, -⟩ := read_parts hR
    rw [hc] at h1
    have la := List.length_pos_iff.2 h2
    have lb := List.length_pos_iff.2 h3
    subst h1
    cases p <;> simp [optSize] <;> omega
theorem drop_text {l : List UInt8} {t : ByteArray} (ht : t = ⟨l.toArray⟩) : t.extract 5 t.size = ⟨(l.drop 5).toArray⟩ := by
  have hz : t.size = l.length := by rw [ht]; rfl
  refine bytes_eq ?_
  rw [hz, ht, Lib.extract_eq]
  show (l.drop 5).take (l.length - 5) = l.drop 5
  exact List.take_of_length_le (by rw [List.length_drop]; exact Nat.le_refl _)
theorem part_mem {ps : List (List UInt8)} {i : Nat} (h : i < ps.length) : ps.getD i [] ∈ ps := by
  rw [List.getD_eq_getElem?_getD, List.getElem?_eq_getElem h]
  exact List.getElem_mem h
theorem opt_part {s : ByteArray} {z : Int} {ws : List ByteArray} {p ok : Bool} {ps : List (List UInt8)} (hR : ReadIs s z ws p ok) (hc : cutAt 59 [] s.data.toList = ps) (h : ok = true) : (ps.getD 0 []).drop 5 = Lib.decDigits z.toNat ∧ cutAt 44 [] ((ps.getD 1 []).drop 5) = bytesW ws ∧ decide (ps.length = 3) = p ∧ OptP z ws ∧ s = optT z.toNat ws p := by
  subst h
  obtain ⟨a, b, e1, e2, e3, e4, e5, e6, e7⟩ := read_parts hR
  rw [hc] at e1
  subst e1
  refine ⟨?_, ?_, ?_, e6, e7⟩
  · rw [← e4]; rfl
  · rw [← e5]; rfl
  · cases p <;> rfl
theorem part_len {s : ByteArray} {ps : List (List UInt8)} (hc : cutAt 59 [] s.data.toList = ps) {i : Nat} (hi : i < ps.length) : (ps.getD i []).length ≤ s.size := by
  have h9 := cutAt_len 59 s.data.toList [] (ps.getD i []) (by rw [hc]; exact part_mem hi)
  have h8 : s.data.toList.length = s.size := by simp
  simp only [List.length_nil] at h9
  omega
theorem texts_few {l : List UInt8} {qs : List (List UInt8)} (hc : cutAt 44 [] l = qs) (hl : l.length ≤ 10000000) : (textsW qs).length ≤ 100000000 ∧ ∀ x ∈ textsW qs, x.size ≤ 100000000 := by
  have h1 := cutAt_count 44 l []
  have h2 := cutAt_len 44 l []
  rw [hc] at h1 h2
  refine ⟨by unfold textsW; rw [List.length_map]; omega, fun x hx => ?_⟩
  obtain ⟨q, hq, rfl⟩ := List.mem_map.1 hx
  have h3 := h2 q hq
  simp only [List.length_nil] at h3
  show q.length ≤ _
  omega
theorem take_text {l : List UInt8} {t : ByteArray} (ht : t = ⟨l.toArray⟩) : (t.extract 0 5).data.toList = l.take 5 := by
  rw [ht, Lib.extract_eq]
  simp

set_option maxRecDepth 100000 in
set_option maxHeartbeats 6400000 in
theorem specReadOption_any (s : ByteArray) (hs : s.size ≤ 10000000) (rz : Int) (rw : List ByteArray) (rp ok : Bool) (hR : ReadIs s rz rw rp ok) (w : World) :
    Calls Tryd.prog 4 #[.string s] w (OptRet rz rw rp ok w) := by
  have S0 : Hid (ROS w (w.alloc (.cells #[.int .i64 0, .slice none 0 0, .bool false] OptionsT))) := Lib.hid ⟨VarA.new w OptionsT _, (Below.refl _ _).alloc (Nat.le_refl _) _⟩
  have RI := Lib.hid hR
  have H1 := Lib.hid (specSplit_any s 59 (by omega))
  obtain ⟨ps, hps⟩ : ∃ ps, cutAt 59 [] s.data.toList = ps := ⟨_, rfl⟩
  have PS := Lib.hid hps
  rw [hps] at H1
  have e59 : ((59 : UInt8).toNat : Int) = 59 := rfl
  rw [e59] at H1
  have hpos : 0 < ps.length := List.length_pos_iff.2 (by rw [← hps]; exact cutAt_ne _ _ _)
  clear e59 hR hps
  obtain ⟨Q, HQ⟩ : ∃ Q : Ending → World → Prop, Hid (Q = OptRet rz rw rp ok w) := ⟨_, Lib.hid rfl⟩
  rw [← HQ.out]
  go_enter Tryd.func4, Tryd.ntmps4
  go_upto_region 1 with fail
  generalize w.alloc (.cells #[.int .i64 0, .slice none 0 0, .bool false] OptionsT) = Y at *
  go_wp2_with fail
  refine (H1.out _).mono ?_
  rintro e Y1 ⟨v, rfl, hown, hb1⟩
  obtain ⟨ao, cap, rfl, hf⟩ := hown.form
  obtain ⟨g, rfl, hg, hgs, hcell⟩ := hf hpos
  have S1 := Lib.hid (S0.out.next hb1)
  have CE := Lib.hid hcell
  clear hf hown hb1 hcell S0 H1 hg
  go_upto_region 2 with fail
  go_cut [47] (fun v wx => ∃ c : Bool, v = .bool c ∧ Hid (c = true → ok = false) ∧ Hid (c = false → 2 ≤ ps.length ∧ ps.length ≤ 3 ∧ 6 ≤ (ps.getD 0 []).length ∧ 6 ≤ (ps.getD 1 []).length) ∧ wx = Y1)
  case first =>
    by_cases h2 : ps.length < 2
    · have k2 : (ps.length : Int) < 2 := by omega
      have HN := Lib.hid (no_opt RI.out PS.out (by omega))
      go_wp2_with fail
      go_meet
      exact ⟨true, rfl, Lib.hid (fun _ => HN.out), Lib.hid (fun h => by cases h), rfl⟩
    have k2 : ¬ ((ps.length : Int) < 2) := by omega
    by_cases h3 : 3 < ps.length
    · have k3 : (3 : Int) < (ps.length : Int) := by omega
      have HN := Lib.hid (no_opt RI.out PS.out (by omega))
      go_wp2_with fail
      go_meet
      exact ⟨true, rfl, Lib.hid (fun _ => HN.out), Lib.hid (fun h => by cases h), rfl⟩
    have k3 : ¬ ((3 : Int) < (ps.length : Int)) := by omega
    have k0 : (0 : Int) < (ps.length : Int) := by omega
    have k1 : (1 : Int) < (ps.length : Int) := by omega
    have c0 := (CE.out 0 (by omega)).1
    have c1 := (CE.out 1 (by omega)).1
    obtain ⟨t0, hT0⟩ : ∃ t : ByteArray, t = ⟨(ps.getD 0 []).toArray⟩ := ⟨_, rfl⟩
    obtain ⟨t1, hT1⟩ : ∃ t : ByteArray, t = ⟨(ps.getD 1 []).toArray⟩ := ⟨_, rfl⟩
    have z0 : t0.size = (ps.getD 0 []).length := by rw [hT0]; rfl
    have z1 : t1.size = (ps.getD 1 []).length := by rw [hT1]; rfl
    rw [← hT0] at c0
    rw [← hT1] at c1
    have T0 := Lib.hid hT0
    have T1 := Lib.hid hT1
    have Z0 := Lib.hid z0
    have Z1 := Lib.hid z1
    clear hT0 hT1 z0 z1
    by_cases h4 : t0.size < 6
    · have k4 : (t0.size : Int) < 6 := by omega
      have HN := Lib.hid (no_opt RI.out PS.out (by rw [← Z0.out]; omega))
      go_wp2_with fail
      go_meet
      exact ⟨true, rfl, Lib.hid (fun _ => HN.out), Lib.hid (fun h => by cases h), rfl⟩
    have k4 : ¬ ((t0.size : Int) < 6) := by omega
    by_cases h5 : t1.size < 6
    · have k5 : (t1.size : Int) < 6 := by omega
      have HN := Lib.hid (no_opt RI.out PS.out (by rw [← Z1.out]; omega))
      go_wp2_with fail
      go_meet
      exact ⟨true, rfl, Lib.hid (fun _ => HN.out), Lib.hid (fun h => by cases h), rfl⟩
    have k5 : ¬ ((t1.size : Int) < 6) := by omega
    have k6 : (5 : Int) ≤ (t0.size : Int) := by omega
    have k7 : (5 : Int) ≤ (t1.size : Int) := by omega
    obtain ⟨x0, hx0⟩ : ∃ x, t0.extract 0 5 = x := ⟨_, rfl⟩
    obtain ⟨x1, hx1⟩ : ∃ x, t1.extract 0 5 = x := ⟨_, rfl⟩
    have X0 : Hid (x0.data.toList = (ps.getD 0 []).take 5) := Lib.hid (by rw [← hx0]; exact take_text T0.out)
    have X1 : Hid (x1.data.toList = (ps.getD 1 []).take 5) := Lib.hid (by rw [← hx1]; exact take_text T1.out)
    by_cases h6 : x0 = (⟨#[115, 105, 122, 101, 32]⟩ : ByteArray)
    rotate_left
    · have q6 : (x0.toList == ([115, 105, 122, 101, 32] : List UInt8)) = false := lit_ne h6
      have HN := Lib.hid (no_opt RI.out PS.out (by
        rw [← X0.out]
        rintro ⟨-, -, -, -, h, -⟩
        exact h6 (bytes_eq h)))
      clear h6
      go_wp2_with fail
      go_meet
      exact ⟨true, rfl, Lib.hid (fun _ => HN.out), Lib.hid (fun h => by cases h), rfl⟩
    have q6 : (x0.toList == ([115, 105, 122, 101, 32] : List UInt8)) = true := lit_eq h6
    clear h6
    by_cases h8 : x1 = (⟨#[119, 97, 121, 115, 32]⟩ : ByteArray)
    rotate_left
    · have q8 : (x1.toList == ([119, 97, 121, 115, 32] : List UInt8)) = false := lit_ne h8
      have HN := Lib.hid (no_opt RI.out PS.out (by
        rw [← X1.out]
        rintro ⟨-, -, -, -, -, h⟩
        exact h8 (bytes_eq h)))
      clear h8
      go_wp2_with fail
      go_meet
      exact ⟨true, rfl, Lib.hid (fun _ => HN.out), Lib.hid (fun h => by cases h), rfl⟩
    have q8 : (x1.toList == ([119, 97, 121, 115, 32] : List UInt8)) = true := lit_eq h8
    clear h8
    have HM := Lib.hid (show 2 ≤ ps.length ∧ ps.length ≤ 3 ∧ 6 ≤ (ps.getD 0 []).length ∧ 6 ≤ (ps.getD 1 []).length by rw [← Z0.out, ← Z1.out]; omega)
    go_wp2_with fail
    go_meet
    exact ⟨false, rfl, Lib.hid (fun h => by cases h), Lib.hid (fun _ => HM.out), rfl⟩
  case rest =>
    obtain ⟨c, rfl, HT, HF, rfl⟩ := hcut
    cases c with
    | true =>
      obtain rfl := HT.out rfl
      obtain ⟨rfl, rfl, rfl⟩ : rz = 0 ∧ rw = [] ∧ rp = false := by
        rcases RI.out with ⟨h, -⟩ | ⟨-, -, h⟩
        · cases h
        · exact h
      go_upto_region 3 with fail
      have d0 : wc.cell? ⟨w.heap.size, 0, none⟩ = some (.int .i64 0) := S1.out.r.cell 0
      have d1 : wc.cell? ⟨w.heap.size, 1, none⟩ = some (.slice none 0 0) := S1.out.r.cell 1
      have d2 : wc.cell? ⟨w.heap.size, 2, none⟩ = some (.bool false) := S1.out.r.cell 2
      have f0 := S1.out.r.free 0
      have f1 := S1.out.r.free 1
      have f2 := S1.out.r.free 2
      have R9 := set_three (p0 := .int .i64 0) (p1 := .slice none 0 0) (p2 := .bool false) S1.out.r
      have j0 := R9.cell 0
      have j1 := R9.cell 1
      have j2 := R9.cell 2
      have BZ : Hid (Below w.heap.size w (((wc.setCell ⟨w.heap.size, 0, none⟩ (.int .i64 0)).setCell ⟨w.heap.size, 1, none⟩ (.slice none 0 0)).setCell ⟨w.heap.size, 2, none⟩ (.bool false))) := Lib.hid (((S1.out.below.setCell (p := ⟨w.heap.size, 0, none⟩) (Nat.le_refl _) _).setCell (p := ⟨w.heap.size, 1, none⟩) (Nat.le_refl _) _).setCell (p := ⟨w.heap.size, 2, none⟩) (Nat.le_refl _) _)
      clear R9
      go_wp2_with fail
      exact bodyPost_ret (v := .tuple #[.agg #[.int .i64 0, .slice none 0 0, .bool false], .bool false]) (by simp [results, Tryd.results4, go_sem, j0, j1, j2]) rfl (by rw [HQ.out]; exact ⟨_, [], rfl, by simp, ⟨_, rfl, .inl ⟨rfl, rfl, rfl⟩⟩, BZ.out⟩)
    | false =>
      obtain ⟨h2, h3, h4, h5⟩ := HF.out rfl
      clear HT HF
      have c0 := (CE.out 0 (by omega)).1
      have c1 := (CE.out 1 (by omega)).1
      have l1 := part_len PS.out (show 1 < ps.length by omega)
      have k0 : (0 : Int) < (ps.length : Int) := by omega
      have k1 : (1 : Int) < (ps.length : Int) := by omega
      have PD := Lib.hid (opt_part RI.out PS.out)
      generalize ps.getD 0 [] = pa at c0 PD h4
      generalize ps.getD 1 [] = pb at c1 PD h5 l1
      obtain ⟨t0, hT0⟩ : ∃ t : ByteArray, t = ⟨pa.toArray⟩ := ⟨_, rfl⟩
      obtain ⟨t1, hT1⟩ : ∃ t : ByteArray, t = ⟨pb.toArray⟩ := ⟨_, rfl⟩
      have z0 : t0.size = pa.length := by rw [hT0]; rfl
      have z1 : t1.size = pb.length := by rw [hT1]; rfl
      rw [← hT0] at c0
      rw [← hT1] at c1
      have k6 : (5 : Int) ≤ (t0.size : Int) := by omega
      have k7 : (5 : Int) ≤ (t1.size : Int) := by omega
      have hx0 : t0.extract 5 t0.size = ⟨(pa.drop 5).toArray⟩ := drop_text hT0
      have hx1 : t1.extract 5 t1.size = ⟨(pb.drop 5).toArray⟩ := drop_text hT1
      obtain ⟨n, b, hn, hD, hcd⟩ := specReadDec_all (pa.drop 5)
      have KD := Lib.hid hD
      have CD := Lib.hid hcd
      have KS := Lib.hid (specSplit_any ⟨(pb.drop 5).toArray⟩ 44 (by show (pb.drop 5).length ≤ _; rw [List.length_drop]; omega))
      have e44 : ((44 : UInt8).toNat : Int) = 44 := rfl
      rw [e44] at KS
      obtain ⟨x0, hy0⟩ : ∃ x : ByteArray, x = ⟨(pa.drop 5).toArray⟩ := ⟨_, rfl⟩
      obtain ⟨x1, hy1⟩ : ∃ x : ByteArray, x = ⟨(pb.drop 5).toArray⟩ := ⟨_, rfl⟩
      rw [← hy0] at hx0 KD
      rw [← hy1] at hx1 KS
      have hcut : x1.data.toList = pb.drop 5 := by rw [hy1]
      rw [hcut] at KS
      obtain ⟨qs, hqs⟩ : ∃ qs, cutAt 44 [] (pb.drop 5) = qs := ⟨_, rfl⟩
      have TF := Lib.hid (texts_few hqs (by rw [List.length_drop]; omega))
      rw [hqs] at KS PD
      have QN := Lib.hid (show 0 < qs.length from List.length_pos_iff.2 (by rw [← hqs]; exact cutAt_ne _ _ _))
      obtain ⟨e3, he3⟩ : ∃ e : Bool, ((ps.length : Int) == 3) = e := ⟨_, rfl⟩
      have E3 : Hid (decide (ps.length = 3) = e3) := Lib.hid (by rw [← he3, Bool.eq_iff_iff]; simp; omega)
      clear z0 z1 hT0 hT1 hy0 hy1 hcut hqs e44 hD hcd h2 h3 h4 h5 l1 CE
      go_upto_region 4 with fail
      go_wp2_with fail
      refine (KD.out _).mono ?_
      rintro e Y2 ⟨rfl, hb2⟩
      have S2 := Lib.hid (S1.out.next hb2)
      rw [← hb2.cell (p := ⟨g, 1, none⟩) hgs] at c1
      clear hb2 c0 S1
      go_wp2_with fail
      refine (KS.out _).mono ?_
      rintro e Y3 ⟨v, rfl, hown, hb3⟩
      have S3 := Lib.hid (S2.out.next hb3)
      have hbl := blk_low hown
      have OL := Lib.hid (ownS_lay hown)
      obtain ⟨ao, cap2, rfl, hf⟩ := hown.form
      obtain ⟨g2, rfl, hg2, hgs2, -⟩ := hf QN.out
      have hYw : w.heap.size < Y2.heap.size := S2.out.r.lt
      clear hb3 hown hbl hf c1 S2
      obtain ⟨ws, hws⟩ : ∃ ws, textsW qs = ws := ⟨_, rfl⟩
      have hwl : ws.length = qs.length := by rw [← hws]; unfold textsW; simp
      rw [hws] at OL
      have hbk : blk (.slice (some ⟨g2, 0, none⟩) qs.length cap2) = [g2] := rfl
      rw [hbk] at OL
      rw [hws] at TF
      obtain ⟨t, ok2, hti⟩ := text_is (n : Int) ws e3
      have htf := text_few hti
      have hal : Below Y3.heap.size Y3 (Y3.alloc (.cells #[.int .i64 (n : Int), .slice (some ⟨g2, 0, none⟩) qs.length cap2, .bool e3] OptionsT)) := (Below.refl _ _).alloc (Nat.le_refl _) _
      have S4 := Lib.hid (S3.out.next hal)
      have V4 := Lib.hid (VarA.new Y3 OptionsT #[.int .i64 (n : Int), .slice (some ⟨g2, 0, none⟩) qs.length cap2, .bool e3])
      have O4 := Lib.hid (layStringS.next OL.out hal)
      have hG3 : w.heap.size < Y3.heap.size := S3.out.r.lt
      have TI := Lib.hid hti
      have HWS := Lib.hid hws
      have HWL := Lib.hid hwl
      clear hal S3 OL hti hws
      go_upto_region 6 with fail
      generalize Y3.alloc (.cells #[.int .i64 (n : Int), .slice (some ⟨g2, 0, none⟩) qs.length cap2, .bool e3] OptionsT) = Y4 at *
      generalize Y3.heap.size = G at *
      have v0 : Y4.cell? ⟨G, 0, none⟩ = some (.int .i64 (n : Int)) := V4.out.cell 0
      have v1 : Y4.cell? ⟨G, 1, none⟩ = some (.slice (some ⟨g2, 0, none⟩) qs.length cap2) := V4.out.cell 1
      have v2 : Y4.cell? ⟨G, 2, none⟩ = some (.bool e3) := V4.out.cell 2
      have KT := Lib.hid (specOptionText_any (n : Int) (.slice (some ⟨g2, 0, none⟩) qs.length cap2) ws e3 t ok2 TI.out TF.out.1 TF.out.2 Y4 (layStringS.read O4.out))
      go_wp2_with fail
      refine (KT.out).mono ?_
      rintro e Y5 ⟨rfl, hb5⟩
      have S5 := Lib.hid (S4.out.next hb5)
      have V5 := Lib.hid (V4.out.next hb5)
      have O5 := Lib.hid (layStringS.next O4.out hb5)
      clear hb5 S4 V4 O4 KT v0 v1 v2
      go_upto_region 7 with fail
      by_cases hall : b = true ∧ ok2 = true ∧ t = s
      · obtain ⟨rfl, rfl, rfl⟩ := hall
        have q1 : (t.toList == t.toList) = true := by simp
        have hfound : ok = true ∧ (n : Int) = rz ∧ ws = rw ∧ e3 = rp := by
          rcases TI.out with ⟨-, h1, h2⟩ | ⟨h, -⟩
          · exact read_found RI.out h1 h2
          · cases h
        obtain ⟨rfl, rfl, rfl, rfl⟩ := hfound
        have v0 : Y5.cell? ⟨G, 0, none⟩ = some (.int .i64 (n : Int)) := V5.out.cell 0
        have v1 : Y5.cell? ⟨G, 1, none⟩ = some (.slice (some ⟨g2, 0, none⟩) qs.length cap2) := V5.out.cell 1
        have v2 : Y5.cell? ⟨G, 2, none⟩ = some (.bool e3) := V5.out.cell 2
        have hg2w : g2 ≠ w.heap.size := by omega
        have d0 : Y5.cell? ⟨w.heap.size, 0, none⟩ = some (.int .i64 0) := S5.out.r.cell 0
        have d1 : Y5.cell? ⟨w.heap.size, 1, none⟩ = some (.slice none 0 0) := S5.out.r.cell 1
        have d2 : Y5.cell? ⟨w.heap.size, 2, none⟩ = some (.bool false) := S5.out.r.cell 2
        have f0 := S5.out.r.free 0
        have f1 := S5.out.r.free 1
        have f2 := S5.out.r.free 2
        have R9 := set_three (p0 := .int .i64 (n : Int)) (p1 := .slice (some ⟨g2, 0, none⟩) qs.length cap2) (p2 := .bool e3) S5.out.r
        have j0 := R9.cell 0
        have j1 := R9.cell 1
        have j2 := R9.cell 2
        have BZ : Hid (Below w.heap.size w (((Y5.setCell ⟨w.heap.size, 0, none⟩ (.int .i64 (n : Int))).setCell ⟨w.heap.size, 1, none⟩ (.slice (some ⟨g2, 0, none⟩) qs.length cap2)).setCell ⟨w.heap.size, 2, none⟩ (.bool e3))) := Lib.hid (((S5.out.below.setCell (p := ⟨w.heap.size, 0, none⟩) (Nat.le_refl _) _).setCell (p := ⟨w.heap.size, 1, none⟩) (Nat.le_refl _) _).setCell (p := ⟨w.heap.size, 2, none⟩) (Nat.le_refl _) _)
        have O6 := Lib.hid (layStringS.keep (w' := ((Y5.setCell ⟨w.heap.size, 0, none⟩ (.int .i64 (n : Int))).setCell ⟨w.heap.size, 1, none⟩ (.slice (some ⟨g2, 0, none⟩) qs.length cap2)).setCell ⟨w.heap.size, 2, none⟩ (.bool e3)) (layStringS.lower O5.out (Nat.le_of_lt hYw)) (fun q hq => by
          simp only [List.mem_singleton] at hq
          subst hq
          exact (Below.heap_setCell _ _ _ _ hg2w).trans ((Below.heap_setCell _ _ _ _ hg2w).trans (Below.heap_setCell _ _ _ _ hg2w))))
        clear R9
        go_wp2_with fail
        exact bodyPost_ret (v := .tuple #[.agg #[.int .i64 (n : Int), .slice (some ⟨g2, 0, none⟩) qs.length cap2, .bool e3], .bool true]) (by simp [results, Tryd.results4, go_sem, j0, j1, j2]) rfl (by rw [HQ.out]; exact ⟨_, [g2], rfl, by simp, O6.out, BZ.out⟩)
      · obtain rfl : ok = false := by
          cases ok with
          | false => rfl
          | true =>
            obtain ⟨d1, d2, d3, d4, d5⟩ := PD.out rfl
            refine absurd ?_ hall
            have hz := d4.sizeR
            rcases CD.out with ⟨h1, h2⟩ | ⟨-, -, h2⟩
            · have hnz : (n : Int) = rz := by
                have := dec_inj _ _ (h2.trans d1)
                omega
              have hwr : ws = rw := by rw [← HWS.out, d2, texts_bytes]
              have her : e3 = rp := E3.out.symm.trans d3
              rcases TI.out with ⟨h3, -, h4⟩ | ⟨-, h3, -⟩
              · exact ⟨h1, h3, by rw [h4, d5, hnz, hwr, her]⟩
              · exact absurd (by rw [hnz, hwr]; exact d4) h3
            · exact absurd d1.symm (h2 rz.toNat (by omega))
        obtain ⟨rfl, rfl, rfl⟩ : rz = 0 ∧ rw = [] ∧ rp = false := by
          rcases RI.out with ⟨h, -⟩ | ⟨-, -, h⟩
          · cases h
          · exact h
        cases b with
        | false =>
          go_upto_region 8 with fail
          have d0 : Y5.cell? ⟨w.heap.size, 0, none⟩ = some (.int .i64 0) := S5.out.r.cell 0
          have d1 : Y5.cell? ⟨w.heap.size, 1, none⟩ = some (.slice none 0 0) := S5.out.r.cell 1
          have d2 : Y5.cell? ⟨w.heap.size, 2, none⟩ = some (.bool false) := S5.out.r.cell 2
          have f0 := S5.out.r.free 0
          have f1 := S5.out.r.free 1
          have f2 := S5.out.r.free 2
          have R9 := set_three (p0 := .int .i64 0) (p1 := .slice none 0 0) (p2 := .bool false) S5.out.r
          have j0 := R9.cell 0
          have j1 := R9.cell 1
          have j2 := R9.cell 2
          have BZ : Hid (Below w.heap.size w (((Y5.setCell ⟨w.heap.size, 0, none⟩ (.int .i64 0)).setCell ⟨w.heap.size, 1, none⟩ (.slice none 0 0)).setCell ⟨w.heap.size, 2, none⟩ (.bool false))) := Lib.hid (((S5.out.below.setCell (p := ⟨w.heap.size, 0, none⟩) (Nat.le_refl _) _).setCell (p := ⟨w.heap.size, 1, none⟩) (Nat.le_refl _) _).setCell (p := ⟨w.heap.size, 2, none⟩) (Nat.le_refl _) _)
          clear R9
          go_wp2_with fail
          exact bodyPost_ret (v := .tuple #[.agg #[.int .i64 0, .slice none 0 0, .bool false], .bool false]) (by simp [results, Tryd.results4, go_sem, j0, j1, j2]) rfl (by rw [HQ.out]; exact ⟨_, [], rfl, by simp, ⟨_, rfl, .inl ⟨rfl, rfl, rfl⟩⟩, BZ.out⟩)
        | true =>
          cases ok2 with
          | false =>
            go_upto_region 8 with fail
            have d0 : Y5.cell? ⟨w.heap.size, 0, none⟩ = some (.int .i64 0) := S5.out.r.cell 0
            have d1 : Y5.cell? ⟨w.heap.size, 1, none⟩ = some (.slice none 0 0) := S5.out.r.cell 1
            have d2 : Y5.cell? ⟨w.heap.size, 2, none⟩ = some (.bool false) := S5.out.r.cell 2
            have f0 := S5.out.r.free 0
            have f1 := S5.out.r.free 1
            have f2 := S5.out.r.free 2
            have R9 := set_three (p0 := .int .i64 0) (p1 := .slice none 0 0) (p2 := .bool false) S5.out.r
            have j0 := R9.cell 0
            have j1 := R9.cell 1
            have j2 := R9.cell 2
            have BZ : Hid (Below w.heap.size w (((Y5.setCell ⟨w.heap.size, 0, none⟩ (.int .i64 0)).setCell ⟨w.heap.size, 1, none⟩ (.slice none 0 0)).setCell ⟨w.heap.size, 2, none⟩ (.bool false))) := Lib.hid (((S5.out.below.setCell (p := ⟨w.heap.size, 0, none⟩) (Nat.le_refl _) _).setCell (p := ⟨w.heap.size, 1, none⟩) (Nat.le_refl _) _).setCell (p := ⟨w.heap.size, 2, none⟩) (Nat.le_refl _) _)
            clear R9
            go_wp2_with fail
            exact bodyPost_ret (v := .tuple #[.agg #[.int .i64 0, .slice none 0 0, .bool false], .bool false]) (by simp [results, Tryd.results4, go_sem, j0, j1, j2]) rfl (by rw [HQ.out]; exact ⟨_, [], rfl, by simp, ⟨_, rfl, .inl ⟨rfl, rfl, rfl⟩⟩, BZ.out⟩)
          | true =>
            have q1 : (t.toList == s.toList) = false := text_ne (fun e => hall ⟨rfl, rfl, e⟩)
            go_upto_region 8 with fail
            have d0 : Y5.cell? ⟨w.heap.size, 0, none⟩ = some (.int .i64 0) := S5.out.r.cell 0
            have d1 : Y5.cell? ⟨w.heap.size, 1, none⟩ = some (.slice none 0 0) := S5.out.r.cell 1
            have d2 : Y5.cell? ⟨w.heap.size, 2, none⟩ = some (.bool false) := S5.out.r.cell 2
            have f0 := S5.out.r.free 0
            have f1 := S5.out.r.free 1
            have f2 := S5.out.r.free 2
            have R9 := set_three (p0 := .int .i64 0) (p1 := .slice none 0 0) (p2 := .bool false) S5.out.r
            have j0 := R9.cell 0
            have j1 := R9.cell 1
            have j2 := R9.cell 2
            have BZ : Hid (Below w.heap.size w (((Y5.setCell ⟨w.heap.size, 0, none⟩ (.int .i64 0)).setCell ⟨w.heap.size, 1, none⟩ (.slice none 0 0)).setCell ⟨w.heap.size, 2, none⟩ (.bool false))) := Lib.hid (((S5.out.below.setCell (p := ⟨w.heap.size, 0, none⟩) (Nat.le_refl _) _).setCell (p := ⟨w.heap.size, 1, none⟩) (Nat.le_refl _) _).setCell (p := ⟨w.heap.size, 2, none⟩) (Nat.le_refl _) _)
            clear R9
            go_wp2_with fail
            exact bodyPost_ret (v := .tuple #[.agg #[.int .i64 0, .slice none 0 0, .bool false], .bool false]) (by simp [results, Tryd.results4, go_sem, j0, j1, j2]) rfl (by rw [HQ.out]; exact ⟨_, [], rfl, by simp, ⟨_, rfl, .inl ⟨rfl, rfl, rfl⟩⟩, BZ.out⟩)

end Go.Proofs.YtmgdhlodifkematDoor
