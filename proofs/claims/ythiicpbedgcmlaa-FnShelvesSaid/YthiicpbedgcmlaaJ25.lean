/-
  The program's AddPart.
-/
import Derived.Test.YthiicpbedgcmlaaJ13
import Derived.Test.YthiicpbedgcmlaaJ15
import Derived.Test.YthiicpbedgcmlaaJ18
import Derived.Test.YthiicpbedgcmlaaJ22
import Derived.Test.YthiicpbedgcmlaaJ23
import Derived.Test.YthiicpbedgcmlaaJ24
namespace Go.Proofs.Ythiicpbedgcmlaa
open Go.RowKit

set_option maxRecDepth 100000 in
set_option maxHeartbeats 12800000 in
theorem addPart_any (HG : CloneGives) (v : Value) (xs : List HeldD) (fr : Int) (txt : ByteArray) (now : Int) (ys : List HeldD) (whole : ByteArray) (done : Bool) (h : AddIs xs fr txt now ys whole done) (hf : FitsHeldS xs) (hg : ∀ x ∈ xs, HdG x) (hz : txt.size ≤ 1048576) (w : World) (hr : layHeldS.rd w [v] xs) :
    Calls Try.prog 6 #[.agg #[v], .int .i64 fr, .string txt, .int .i64 now] w (AddMade w ys whole done) := by
  obtain ⟨a, p, rfl⟩ := rows_form hr
  have e1 : (w.alloc (.cells #[.slice a xs.length p] ShelfT)).heap.size = w.heap.size + 1 := by simp
  have h2 := VarA.new (w.alloc (.cells #[.slice a xs.length p] ShelfT)) ShelfT #[.slice none 0 0]
  rw [e1] at h2
  have A0 := Lib.hid ((VarA.new w ShelfT #[.slice a xs.length p]).alloc (.cells #[.slice none 0 0] ShelfT))
  have R0 := Lib.hid h2
  have B0 := Lib.hid (((Below.refl w.heap.size w).alloc (Nat.le_refl _) (.cells #[.slice a xs.length p] ShelfT)).alloc (by simp) (.cells #[.slice none 0 0] ShelfT))
  have hzz : Hid (((w.alloc (.cells #[.slice a xs.length p] ShelfT)).alloc (.cells #[.slice none 0 0] ShelfT)).heap.size = w.heap.size + 2) := Lib.hid (by simp)
  have HR := Lib.hid hr
  have HI := Lib.hid h
  obtain ⟨id, place, count, part, ok, hrp⟩ := readPart_is txt
  have KR := Lib.hid (fun X => implReadPart_of HG txt id place count part ok hz hrp X)
  have HRP := Lib.hid hrp
  have KH := Lib.hid (fun X hX => copyOfShelf_any HG (.slice a xs.length p) xs hf X hX)
  obtain ⟨bs, hbs⟩ : ∃ b : Bool, b = true ↔ ShelfP xs := by
    by_cases h : ShelfP xs
    · exact ⟨true, fun _ => h, fun _ => rfl⟩
    · exact ⟨false, fun e => (by cases e), fun e => absurd e h⟩
  have KS := Lib.hid (fun X hX => implShelfOk_any (.slice a xs.length p) xs bs hbs hf hg X hX)
  have HBS := Lib.hid hbs
  have HNO : Hid (¬ AddP xs fr txt now → ys = xs ∧ whole = ⟨#[]⟩ ∧ done = false) := Lib.hid (fun hn => by
    rcases h with ⟨h1, _⟩ | ⟨h1, _⟩ | ⟨_, h1, h2, h3⟩
    · exact absurd h1 hn
    · exact absurd h1 hn
    · exact ⟨h1, h2, h3⟩)
  obtain ⟨n2, hn2⟩ : ∃ n, xs.length = n := ⟨_, rfl⟩
  clear hr h2 e1 h hrp hf hg hbs
  rw [hn2] at A0 R0 B0 hzz HR KH KS ⊢
  have HN2 := Lib.hid hn2
  clear hn2
  obtain ⟨Q, HQ⟩ : ∃ Q : Ending → World → Prop, Hid (Q = AddMade w ys whole done) := ⟨_, Lib.hid rfl⟩
  rw [← HQ.out]
  go_enter Try.func6, Try.ntmps6
  go_upto_region 1 with fail
  generalize ((w.alloc (.cells #[.slice a n2 p] ShelfT)).alloc (.cells #[.slice none 0 0] ShelfT)) = Y at *
  have c0 : Y.cell? ⟨w.heap.size, 0, none⟩ = some (.slice a n2 p) := A0.out.cell 0
  go_wp2_with fail
  refine (KH.out Y (layHeldS.below HR.out B0.out)).mono ?_
  rintro e Y1 ⟨v2, f2, rfl, hd2, ho2, hb2⟩
  obtain ⟨a2, c2, hv2⟩ := rows_form (layHeldS.read ho2)
  rw [HN2.out] at hv2
  subst hv2
  have hal : Below Y1.heap.size Y1 (Y1.alloc (.cells #[.slice a2 n2 c2] ShelfT)) := (Below.refl _ _).alloc (Nat.le_refl _) _
  have hlow : w.heap.size + 2 ≤ Y1.heap.size := by have := hzz.out; have := hb2.size; omega
  have ho3 := layHeldS.lower (layHeldS.next ho2 hal) (b' := w.heap.size + 2) (by have := hzz.out; omega)
  have OS := Lib.hid ho3
  have D : Hid (APS w Y1.heap.size (.slice a n2 p) (.slice a2 n2 c2) f2 xs (Y1.alloc (.cells #[.slice a2 n2 c2] ShelfT))) := Lib.hid ⟨(A0.out.next hb2).next hal, (R0.out.next hb2).next hal, VarA.new _ _ _, hd2, room_of ho3, fun hm => by have := (layHeldS.blocks ho2 _ hm).2; omega, hlow, (B0.out.trans (hb2.mono B0.out.size)).trans (hal.mono (by omega))⟩
  clear hal hlow ho3 hd2 ho2 hb2 A0 R0 B0 KH c0
  go_upto_region 2 with fail
  generalize Y1.alloc (.cells #[.slice a2 n2 c2] ShelfT) = Y2 at *
  generalize Y1.heap.size = q at *
  go_wp2_with fail
  refine (KR.out Y2).mono ?_
  rintro e Y3 ⟨rfl, hb3⟩
  replace D := Lib.hid (D.out.next hb3)
  replace OS := Lib.hid (layHeldS.next OS.out hb3)
  clear hb3 KR hzz
  go_upto_region 3 with fail
  have s0 : Y3.cell? ⟨w.heap.size, 0, none⟩ = some (.slice a n2 p) := D.out.s.cell 0
  cases ok with
  | false =>
    obtain ⟨rfl, rfl, rfl⟩ := HNO.out (fun hp => by rcases HRP.out with ⟨h9, _⟩ | ⟨_, h9, _⟩; exact (by cases h9); exact h9 hp.2.2.1)
    have E : Hid (Q (.returned (.tuple #[.agg #[.slice a2 n2 c2], .string ⟨#[]⟩, .bool false])) (Y3.setCell ⟨w.heap.size + 1, 0, none⟩ (.slice a2 n2 c2))) := Lib.hid (by rw [HQ.out]; exact D.out.ends _ _)
    have n0 : Y3.cell? ⟨q, 0, none⟩ = some (.slice a2 n2 c2) := D.out.n.cell 0
    have r0 : Y3.cell? ⟨w.heap.size + 1, 0, none⟩ = some (.slice none 0 0) := D.out.r.cell 0
    have z0 := D.out.r.free 0
    have j0 : (Y3.setCell ⟨w.heap.size + 1, 0, none⟩ (.slice a2 n2 c2)).cell? ⟨w.heap.size + 1, 0, none⟩ = some (.slice a2 n2 c2) := (D.out.r.set 0 _).cell 0
    clear HNO HI HRP KS D OS
    go_wp2_with fail
    try simp only [Exit.inBlock, Exit.then]
    exact bodyPost_ret (v := .tuple #[.agg #[.slice a2 n2 c2], .string ⟨#[]⟩, .bool false]) (by simp [results, Try.results6, go_sem, j0]) rfl E.out
  | true =>
    obtain ⟨hpp, rfl, rfl, rfl, rfl⟩ : PieceP txt ∧ id = (byteAt txt 0 : Nat) ∧ place = (byteAt txt 1 : Nat) ∧ count = (byteAt txt 2 : Nat) ∧ part = txt.extract 3 txt.size := by
      rcases HRP.out with ⟨_, h9, h1, h2, h3, h4⟩ | ⟨h9, _⟩
      · exact ⟨h9, h1, h2, h3, h4⟩
      · cases h9
    clear HRP
    have hpsz : (txt.extract 3 txt.size).size = txt.size - 3 := by rw [ByteArray.size_extract, Nat.min_self]
    have HPP := Lib.hid hpp
    have HPS := Lib.hid hpsz
    have hid0 := byteAt_lt txt 0
    have hcn := hpp.2
    clear hpp hpsz
    obtain ⟨c, hc⟩ : ∃ c, byteAt txt 2 = c := ⟨_, rfl⟩
    obtain ⟨j, hj⟩ : ∃ j, byteAt txt 1 = j := ⟨_, rfl⟩
    obtain ⟨d, hd⟩ : ∃ d, byteAt txt 0 = d := ⟨_, rfl⟩
    have HC := Lib.hid hc
    have HJ := Lib.hid hj
    have HDD := Lib.hid hd
    rw [hc, hj] at hcn
    rw [hc, hj, hd]
    rw [hd] at hid0
    clear hc hj hd
    obtain ⟨part, hpart⟩ : ∃ part, txt.extract 3 txt.size = part := ⟨_, rfl⟩
    have HPT := Lib.hid hpart
    rw [hpart] at HPS ⊢
    clear hpart
    have K0 := Lib.hid (KS.out Y3 (layHeldS.below HR.out D.out.below))
    cases bs with
    | false =>
      go_wp2_with fail
      refine K0.out.mono ?_
      rintro e Y4 ⟨rfl, hb4⟩
      replace D := Lib.hid (D.out.next hb4)
      replace OS := Lib.hid (layHeldS.next OS.out hb4)
      clear hb4 K0 s0
      obtain ⟨rfl, rfl, rfl⟩ := HNO.out (fun hp => by cases HBS.out.2 hp.1)
      have E : Hid (Q (.returned (.tuple #[.agg #[.slice a2 n2 c2], .string ⟨#[]⟩, .bool false])) (Y4.setCell ⟨w.heap.size + 1, 0, none⟩ (.slice a2 n2 c2))) := Lib.hid (by rw [HQ.out]; exact D.out.ends _ _)
      have n0 : Y4.cell? ⟨q, 0, none⟩ = some (.slice a2 n2 c2) := D.out.n.cell 0
      have r0 : Y4.cell? ⟨w.heap.size + 1, 0, none⟩ = some (.slice none 0 0) := D.out.r.cell 0
      have z0 := D.out.r.free 0
      have j0 : (Y4.setCell ⟨w.heap.size + 1, 0, none⟩ (.slice a2 n2 c2)).cell? ⟨w.heap.size + 1, 0, none⟩ = some (.slice a2 n2 c2) := (D.out.r.set 0 _).cell 0
      clear HNO HI KS D OS
      go_wp2_with fail
      try simp only [Exit.inBlock, Exit.then]
      exact bodyPost_ret (v := .tuple #[.agg #[.slice a2 n2 c2], .string ⟨#[]⟩, .bool false]) (by simp [results, Try.results6, go_sem, j0]) rfl E.out
    | true =>
      have HSP := Lib.hid (HBS.out.1 rfl)
      go_wp2_with fail
      refine K0.out.mono ?_
      rintro e Y4 ⟨rfl, hb4⟩
      replace D := Lib.hid (D.out.next hb4)
      replace OS := Lib.hid (layHeldS.next OS.out hb4)
      clear hb4 K0 s0
      have n0 : Y4.cell? ⟨q, 0, none⟩ = some (.slice a2 n2 c2) := D.out.n.cell 0
      have r0 : Y4.cell? ⟨w.heap.size + 1, 0, none⟩ = some (.slice none 0 0) := D.out.r.cell 0
      have z0 := D.out.r.free 0
      have j0 : (Y4.setCell ⟨w.heap.size + 1, 0, none⟩ (.slice a2 n2 c2)).cell? ⟨w.heap.size + 1, 0, none⟩ = some (.slice a2 n2 c2) := (D.out.r.set 0 _).cell 0
      by_cases h1 : 1 ≤ fr ∧ fr ≤ 99
      rotate_left
      · have K1 := Lib.hid (isWho_no fr h1 Y4)
        obtain ⟨rfl, rfl, rfl⟩ := HNO.out (fun hp => h1 hp.2.1)
        have E : Hid (Q (.returned (.tuple #[.agg #[.slice a2 n2 c2], .string ⟨#[]⟩, .bool false])) (Y4.setCell ⟨w.heap.size + 1, 0, none⟩ (.slice a2 n2 c2))) := Lib.hid (by rw [HQ.out]; exact D.out.ends _ _)
        clear HNO HI KS D OS h1
        go_wp2_with fail
        refine K1.out.mono ?_
        rintro e Z9 ⟨rfl, hw9⟩
        rw [hw9]
        clear hw9 K1 Z9
        go_wp2_with fail
        try simp only [Exit.inBlock, Exit.then]
        exact bodyPost_ret (v := .tuple #[.agg #[.slice a2 n2 c2], .string ⟨#[]⟩, .bool false]) (by simp [results, Try.results6, go_sem, j0]) rfl E.out
      have K1 := Lib.hid (isWho_yes fr h1.1 h1.2 Y4)
      by_cases h2 : part.size ≤ 120
      rotate_left
      · have K2 := Lib.hid (isBody_bool part false ⟨fun e => (by cases e), fun e => absurd e h2⟩ Y4)
        obtain ⟨rfl, rfl, rfl⟩ := HNO.out (fun hp => h2 (by have := hp.2.2.2.1; have := HPS.out; omega))
        have E : Hid (Q (.returned (.tuple #[.agg #[.slice a2 n2 c2], .string ⟨#[]⟩, .bool false])) (Y4.setCell ⟨w.heap.size + 1, 0, none⟩ (.slice a2 n2 c2))) := Lib.hid (by rw [HQ.out]; exact D.out.ends _ _)
        clear HNO HI KS D OS h2
        go_wp2_with fail
        refine K1.out.mono ?_
        rintro e Z9 ⟨rfl, hw9⟩
        rw [hw9]
        clear hw9 K1 Z9
        go_wp2_with fail
        refine K2.out.mono ?_
        rintro e Z9 ⟨rfl, hw9⟩
        rw [hw9]
        clear hw9 K2 Z9
        go_wp2_with fail
        try simp only [Exit.inBlock, Exit.then]
        exact bodyPost_ret (v := .tuple #[.agg #[.slice a2 n2 c2], .string ⟨#[]⟩, .bool false]) (by simp [results, Try.results6, go_sem, j0]) rfl E.out
      have K2 := Lib.hid (isBody_bool part true ⟨fun _ => h2, fun _ => rfl⟩ Y4)
      by_cases h3 : 0 ≤ now
      rotate_left
      · have d3 : decide (now < 0) = true := decide_eq_true (by omega)
        obtain ⟨rfl, rfl, rfl⟩ := HNO.out (fun hp => h3 hp.2.2.2.2.1)
        have E : Hid (Q (.returned (.tuple #[.agg #[.slice a2 n2 c2], .string ⟨#[]⟩, .bool false])) (Y4.setCell ⟨w.heap.size + 1, 0, none⟩ (.slice a2 n2 c2))) := Lib.hid (by rw [HQ.out]; exact D.out.ends _ _)
        clear HNO HI KS D OS h3
        go_wp2_with fail
        refine K1.out.mono ?_
        rintro e Z9 ⟨rfl, hw9⟩
        rw [hw9]
        clear hw9 K1 Z9
        go_wp2_with fail
        refine K2.out.mono ?_
        rintro e Z9 ⟨rfl, hw9⟩
        rw [hw9]
        clear hw9 K2 Z9
        go_wp2_with fail
        try simp only [Exit.inBlock, Exit.then]
        exact bodyPost_ret (v := .tuple #[.agg #[.slice a2 n2 c2], .string ⟨#[]⟩, .bool false]) (by simp [results, Try.results6, go_sem, j0]) rfl E.out
      have d3 : decide (now < 0) = false := decide_eq_false (by omega)
      by_cases h4 : now ≤ 999999992
      rotate_left
      · have d4 : decide (999999992 < now) = true := decide_eq_true (by omega)
        obtain ⟨rfl, rfl, rfl⟩ := HNO.out (fun hp => h4 hp.2.2.2.2.2)
        have E : Hid (Q (.returned (.tuple #[.agg #[.slice a2 n2 c2], .string ⟨#[]⟩, .bool false])) (Y4.setCell ⟨w.heap.size + 1, 0, none⟩ (.slice a2 n2 c2))) := Lib.hid (by rw [HQ.out]; exact D.out.ends _ _)
        clear HNO HI KS D OS h4
        go_wp2_with fail
        refine K1.out.mono ?_
        rintro e Z9 ⟨rfl, hw9⟩
        rw [hw9]
        clear hw9 K1 Z9
        go_wp2_with fail
        refine K2.out.mono ?_
        rintro e Z9 ⟨rfl, hw9⟩
        rw [hw9]
        clear hw9 K2 Z9
        go_wp2_with fail
        try simp only [Exit.inBlock, Exit.then]
        exact bodyPost_ret (v := .tuple #[.agg #[.slice a2 n2 c2], .string ⟨#[]⟩, .bool false]) (by simp [results, Try.results6, go_sem, j0]) rfl E.out
      have d4 : decide (999999992 < now) = false := decide_eq_false (by omega)
      have HAP : Hid (AddP xs fr txt now) := Lib.hid ⟨HSP.out, h1, HPP.out, by have := HPS.out; have := HPP.out.1; omega, h3, h4⟩
      clear HNO
      by_cases h5 : c = 1
      · have d5 : ((c : Int) == 1) = true := by rw [beq_iff_eq]; omega
        obtain ⟨rfl, rfl, rfl⟩ : ys = xs ∧ whole = part ∧ done = true := by
          rcases HI.out with ⟨_, _, e1, e2, e3⟩ | ⟨_, e1, _⟩ | ⟨e1, _⟩
          · exact ⟨e1, by rw [e2, HPT.out], e3⟩
          · exact absurd (by rw [HC.out]; exact h5) e1
          · exact absurd HAP.out e1
        have E : Hid (Q (.returned (.tuple #[.agg #[.slice a2 n2 c2], .string whole, .bool true])) (Y4.setCell ⟨w.heap.size + 1, 0, none⟩ (.slice a2 n2 c2))) := Lib.hid (by rw [HQ.out]; exact D.out.ends _ _)
        clear HI KS D OS h5 HAP
        go_wp2_with fail
        refine K1.out.mono ?_
        rintro e Z9 ⟨rfl, hw9⟩
        rw [hw9]
        clear hw9 K1 Z9
        go_wp2_with fail
        refine K2.out.mono ?_
        rintro e Z9 ⟨rfl, hw9⟩
        rw [hw9]
        clear hw9 K2 Z9
        go_wp2_with fail
        try simp only [Exit.inBlock, Exit.then]
        exact bodyPost_ret (v := .tuple #[.agg #[.slice a2 n2 c2], .string whole, .bool true]) (by simp [results, Try.results6, go_sem, j0]) rfl E.out
      have d5 : ((c : Int) == 1) = false := by rw [beq_eq_false_iff_ne]; omega
      have HMO : Hid (AddMore xs fr (d : Nat) (c : Nat) now j part ys whole done) := Lib.hid (by
        rcases HI.out with ⟨_, e1, _⟩ | ⟨_, _, e1⟩ | ⟨e1, _⟩
        · rw [HC.out] at e1
          exact absurd e1 h5
        · rw [HC.out, HJ.out, HDD.out, HPT.out] at e1
          exact e1
        · exact absurd HAP.out e1)
      obtain ⟨r, hir⟩ := place_is xs fr (d : Nat)
      have hx3 := HSP.out.1
      have KP := Lib.hid (placeFor_any (w.heap.size + 2) (w.heap.size + 2) q f2 _ xs fr (d : Nat) c now r hir hx3 hcn.1.2 h3 h4 (Nat.le_refl _) D.out.low D.out.out Y4 (by have := D.out.n.lt; have := D.out.low; omega) D.out.n D.out.dup OS.out)
      have HIR := Lib.hid hir
      clear hir HI KS HAP n0 r0 z0 j0
      go_wp2_with fail
      refine K1.out.mono ?_
      rintro e Z9 ⟨rfl, hw9⟩
      rw [hw9]
      clear hw9 K1 Z9
      go_wp2_with fail
      refine K2.out.mono ?_
      rintro e Z9 ⟨rfl, hw9⟩
      rw [hw9]
      clear hw9 K2 Z9
      go_wp2_with fail
      refine KP.out.mono ?_
      rintro e Y5 ⟨i, zs, u5, f5, rfl, hpg, hv5, ho5, hd5, hq5, hb5⟩
      obtain ⟨X, x, Z, rfl, hXi, hxg, hmore⟩ := place_out HSP.out HIR.out (show 2 ≤ c by omega) hpg
      have hqx := got_q (l := xs) (a := fr) (b := (d : Nat)) (c := (c : Nat)) (now := now) HSP.out h1 ⟨by omega, by omega⟩ ⟨by omega, by omega⟩ ⟨h3, h4⟩
      have hgo := (got_of (l := xs) (a := fr) (b := (d : Nat)) (c := (c : Nat)) (now := now)).2
      rw [← hxg] at hqx hgo
      have hj3 : j < x.2.2.2.1.length := by have := hqx.2.2.2.1; omega
      have hj4 : j < x.2.2.2.2.1.length := by have := hqx.2.2.2.2.1; omega
      have hsetq := set_q (j := j) (p := part) hqx (by rw [hgo]; omega) h2
      obtain ⟨b5, c5, rfl⟩ := rows_form (layHeldS.read ho5)
      obtain ⟨g5, cap5, _, _, _, _, _, _, hv9, hfp9, Z9⟩ := rows_open ho5 hd5
      simp only [Value.slice.injEq, true_and] at hv9
      obtain ⟨rfl, rfl⟩ := hv9
      have hg5 : w.heap.size + 2 ≤ g5 := Z9.lt.1
      clear Z9 hfp9
      obtain ⟨m5, hm5⟩ : ∃ m, (X ++ x :: Z).length = m := ⟨_, rfl⟩
      have hmX : m5 = i + 1 + Z.length := by rw [← hm5, ← hXi]; simp; omega
      rw [hm5] at hv5 ho5
      have KU := Lib.hid (fun W hW => putHeld_any (w.heap.size + 2) f5 g5 m5 c5 X x Z j part hj3 hj4 (by omega) W hd5 hW)
      rw [hXi] at KU
      have S5 := Lib.hid (D.out.s.next' hb5 (by omega))
      have R5 := Lib.hid (D.out.r.next' hb5 (by omega))
      have N5 := Lib.hid hv5
      have O5 := Lib.hid ho5
      have BW5 : Hid (Below w.heap.size w Y5) := Lib.hid (D.out.below.trans (hb5.mono (by omega)))
      have LOW := Lib.hid D.out.low
      have HD5 := Lib.hid hd5
      have NQ5 := Lib.hid hq5
      have HXI := Lib.hid hXi
      have HMR := Lib.hid (hmore j part)
      have HSQ := Lib.hid hsetq
      have h5lt : Hid (m5 ≤ 1000) := Lib.hid (by
        have h9 := hm5
        rcases hpg with ⟨_, _, e⟩ | ⟨_, _, e⟩
        · rw [e] at h9
          omega
        · rw [e, List.length_append] at h9
          have hlr : (restG xs r).length ≤ xs.length := by unfold restG; split; exact List.length_eraseIdx_le _ _; split; exact List.length_eraseIdx_le _ _; exact Nat.le_refl _
          simp at h9
          omega)
      have HZ5 : Hid (w.heap.size + 2 ≤ Y5.heap.size) := Lib.hid (by have := hv5.lt; have := D.out.low; omega)
      have n0 : Y5.cell? ⟨q, 0, none⟩ = some (.slice (some ⟨g5, 0, none⟩) m5 c5) := hv5.cell 0
      have i0 : (i : Int) < (m5 : Int) := by omega
      have HMX := Lib.hid hmX
      clear hmX KP D OS hpg hv5 ho5 hd5 hq5 hb5 hmore hqx hgo hsetq hxg hm5 HIR d3 d4 d5 h1 h2 h3 h4 hXi HSP
      go_upto_region 9 with fail
      clear n0
      go_wp2_with fail
      refine (KU.out Y5 O5.out).mono ?_
      rintro e Y6 ⟨rfl, ho6, hch6⟩
      clear KU
      have hf5 := layHeldS.blocks O5.out
      have hN6 : VarA q ShelfT #[.slice (some ⟨g5, 0, none⟩) m5 c5] Y6 := ⟨(hch6.block q N5.out.lt NQ5.out).trans N5.out.row⟩
      have hb6 : Below (w.heap.size + 2) Y5 Y6 := hch6.below (fun g hg => (hf5 g hg).1) HZ5.out
      have S6 := Lib.hid (S5.out.next' hb6 (by omega))
      have R6 := Lib.hid (R5.out.next' hb6 (by omega))
      have N6 := Lib.hid hN6
      have O6 := Lib.hid ho6
      have BW6 : Hid (Below w.heap.size w Y6) := Lib.hid (BW5.out.trans (hb6.mono (by omega)))
      clear S5 R5 N5 O5 BW5 ho6 hch6 hf5 hN6 hb6
      have hlen6 : (X ++ setV j part x :: Z).length = m5 := by rw [HMX.out, ← HXI.out]; simp; omega
      have hget : (X ++ setV j part x :: Z)[i]? = some (setV j part x) := by rw [← HXI.out, List.getElem?_append_right (Nat.le_refl _), Nat.sub_self]; rfl
      have hr6 := layHeldS.read O6.out
      obtain ⟨g', og, cs, hga, hgl, hrd, hcl⟩ := rows_elem (by rw [← hlen6] at hr6; exact hr6) i _ hget
      simp only [Option.some.injEq, Addr.mk.injEq, and_true] at hga
      obtain ⟨rfl, rfl⟩ := hga
      obtain ⟨w3, w4, rfl, g3, g4⟩ := layHeld_rd.1 hrd
      have c3 : Y6.cell? ⟨g5, i * 6 + 3, none⟩ = some w3 := (by have h9 := hcl 3 _ rfl; rw [show (0 : Nat) + i * layHeld.k + 3 = i * 6 + 3 by show 0 + i * 6 + 3 = _; omega] at h9; exact h9)
      have c4 : Y6.cell? ⟨g5, i * 6 + 4, none⟩ = some w4 := (by have h9 := hcl 4 _ rfl; rw [show (0 : Nat) + i * layHeld.k + 4 = i * 6 + 4 by show 0 + i * 6 + 4 = _; omega] at h9; exact h9)
      have G3 := Lib.hid g3
      have G4 := Lib.hid g4
      have HQS := Lib.hid HSQ.out.1
      have hl4 : (setV j part x).2.2.2.2.1.length ≤ 15 := by have h9 := HQS.out.2.2.2.2.1; have h8 := HQS.out.2.2.1.2; omega
      have hl3 : (setV j part x).2.2.2.1.length ≤ 15 := by have h9 := HQS.out.2.2.2.1; have h8 := HQS.out.2.2.1.2; omega
      clear hr6 hrd hcl g3 g4 hget hgl HSQ
      by_cases h6 : false ∈ (setV j part x).2.2.2.2.1
      · have KW := Lib.hid (isWhole_any g5 (i * 6) w4 _ false ⟨fun e => (by cases e), fun e => absurd h6 e⟩ (by omega) Y6 c4 G4.out)
        obtain ⟨rfl, rfl, rfl⟩ := more_one HMO.out (HMR.out.2 h6)
        have D6 : Hid (APS w q (.slice a n2 p) (.slice (some ⟨g5, 0, none⟩) m5 c5) f5 (X ++ setV j part x :: Z) Y6) := Lib.hid ⟨S6.out, R6.out, N6.out, HD5.out, room_of O6.out, NQ5.out, LOW.out, BW6.out⟩
        have E : Hid (Q (.returned (.tuple #[.agg #[.slice (some ⟨g5, 0, none⟩) m5 c5], .string ⟨#[]⟩, .bool false])) (Y6.setCell ⟨w.heap.size + 1, 0, none⟩ (.slice (some ⟨g5, 0, none⟩) m5 c5))) := Lib.hid (by rw [HQ.out]; exact D6.out.ends _ _)
        have n0 : Y6.cell? ⟨q, 0, none⟩ = some (.slice (some ⟨g5, 0, none⟩) m5 c5) := D6.out.n.cell 0
        have r0 : Y6.cell? ⟨w.heap.size + 1, 0, none⟩ = some (.slice none 0 0) := D6.out.r.cell 0
        have z0 := D6.out.r.free 0
        have j0 : (Y6.setCell ⟨w.heap.size + 1, 0, none⟩ (.slice (some ⟨g5, 0, none⟩) m5 c5)).cell? ⟨w.heap.size + 1, 0, none⟩ = some (.slice (some ⟨g5, 0, none⟩) m5 c5) := (D6.out.r.set 0 _).cell 0
        clear D6 S6 R6 N6 O6 BW6 h6 HMO HMR c3 hl3 hl4
        generalize (X ++ setV j part x :: Z) = ys at *
        go_wp2_with fail
        refine KW.out.mono ?_
        rintro e Z9 ⟨rfl, hw9⟩
        rw [hw9]
        clear hw9 KW Z9
        go_wp2_with fail
        try simp only [Exit.inBlock, Exit.then]
        exact bodyPost_ret (v := .tuple #[.agg #[.slice (some ⟨g5, 0, none⟩) m5 c5], .string ⟨#[]⟩, .bool false]) (by simp [results, Try.results6, go_sem, j0]) rfl E.out
      have KW := Lib.hid (isWhole_any g5 (i * 6) w4 _ true ⟨fun _ => h6, fun _ => rfl⟩ (by omega) Y6 c4 G4.out)
      obtain ⟨rfl, hwh, rfl⟩ := more_one HMO.out (HMR.out.1 h6)
      have HWH := Lib.hid hwh
      have KJ := Lib.hid (joined_any w3 _ (by omega) (fun p hp => by
        obtain ⟨k, hk, rfl⟩ := List.mem_iff_getElem.1 hp
        have := (HQS.out.2.2.2.2.2.2 k _ (List.getElem?_eq_getElem hk)).1
        omega) Y6 G3.out)
      rw [← HWH.out] at KJ
      clear hwh HMO HMR h6
      go_wp2_with fail
      refine KW.out.mono ?_
      rintro e Z9 ⟨rfl, hw9⟩
      rw [hw9]
      clear hw9 KW Z9
      go_wp2_with fail
      refine KJ.out.mono ?_
      rintro e Y7 ⟨rfl, hb7⟩
      have S7 := Lib.hid (S6.out.next hb7)
      have R7 := Lib.hid (R6.out.next hb7)
      have N7 := Lib.hid (N6.out.next hb7)
      have O7 := Lib.hid (layHeldS.next O6.out hb7)
      have BW7 : Hid (Below w.heap.size w Y7) := Lib.hid (BW6.out.trans (hb7.mono BW6.out.size))
      clear hb7 KJ S6 R6 N6 O6 BW6 c3 c4 G3 G4
      have KD := Lib.hid (dropHeld_any (w.heap.size + 2) (w.heap.size + 2) q f5 _ X (setV j part x) Z (by rw [hlen6]; exact h5lt.out) (Nat.le_refl _) LOW.out NQ5.out Y7 N7.out HD5.out O7.out)
      rw [HXI.out] at KD
      go_wp2_with fail
      refine KD.out.mono ?_
      rintro e Y8 ⟨rfl, g8, cap8, f8, v8, o8, n8, s8, b8⟩
      obtain ⟨m8, hm8⟩ : ∃ m, (X ++ Z).length = m := ⟨_, rfl⟩
      have D8 : Hid (APS w q (.slice a n2 p) (.slice (some ⟨g8, 0, none⟩) m8 m8) f8 (X ++ Z) Y8) := Lib.hid ⟨S7.out.next' b8 (by omega), R7.out.next' b8 (by omega), by rw [← hm8]; exact v8, n8, ⟨some ⟨g8, 0, none⟩, m8, cap8, by rw [hm8], o8, by rw [hm8]; exact Nat.le_refl _, fun e => by cases e⟩, fun hm => NQ5.out (s8 q hm), LOW.out, BW7.out.trans (b8.mono (by omega))⟩
      have E : Hid (Q (.returned (.tuple #[.agg #[.slice (some ⟨g8, 0, none⟩) m8 m8], .string whole, .bool true])) (Y8.setCell ⟨w.heap.size + 1, 0, none⟩ (.slice (some ⟨g8, 0, none⟩) m8 m8))) := Lib.hid (by rw [HQ.out]; exact D8.out.ends _ _)
      have n0 : Y8.cell? ⟨q, 0, none⟩ = some (.slice (some ⟨g8, 0, none⟩) m8 m8) := D8.out.n.cell 0
      have r0 : Y8.cell? ⟨w.heap.size + 1, 0, none⟩ = some (.slice none 0 0) := D8.out.r.cell 0
      have z0 := D8.out.r.free 0
      have j0 : (Y8.setCell ⟨w.heap.size + 1, 0, none⟩ (.slice (some ⟨g8, 0, none⟩) m8 m8)).cell? ⟨w.heap.size + 1, 0, none⟩ = some (.slice (some ⟨g8, 0, none⟩) m8 m8) := (D8.out.r.set 0 _).cell 0
      clear D8 S7 R7 N7 O7 BW7 KD v8 o8 n8 s8 b8 hm8
      go_wp2_with fail
      try simp only [Exit.inBlock, Exit.then]
      exact bodyPost_ret (v := .tuple #[.agg #[.slice (some ⟨g8, 0, none⟩) m8 m8], .string whole, .bool true]) (by simp [results, Try.results6, go_sem, j0]) rfl E.out

end Go.Proofs.Ythiicpbedgcmlaa
