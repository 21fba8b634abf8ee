/-
  The given AddPart.
-/
import Derived.Test.YthiicpbedgcmlaaJ27
import Derived.Test.YthiicpbedgcmlaaJ28
import Derived.Test.YthiicpbedgcmlaaJ14
import Derived.Test.YthiicpbedgcmlaaJ11
import Derived.Test.YthiicpbedgcmlaaJ20
import Derived.Test.YthiicpbedgcmlaaJ23
import Derived.Test.YthiicpbedgcmlaaJ12
import Derived.Test.YthiicpbedgcmlaaJ24
import Derived.Deep.RegionHeld3
namespace Go.Proofs.Ythiicpbedgcmlaa
open Go.RowKit

set_option maxRecDepth 100000 in
set_option maxHeartbeats 25600000 in
theorem specAddPart_any (v : Value) (xs : List HeldD) (fr : Int) (txt : ByteArray) (now : Int) (ys : List HeldD) (whole : ByteArray) (done : Bool) (h : AddIs xs fr txt now ys whole done) (hl : xs.length ≤ 10000000) (hf : ∀ x ∈ xs, x.2.2.2.1.length ≤ 10000000 ∧ x.2.2.2.2.1.length ≤ 10000000) (hz : txt.size ≤ 1048576) (w : World) (hr : layHeldS.rd w [v] xs) :
    Calls Try.prog 7 #[.agg #[v], .int .i64 fr, .string txt, .int .i64 now] w (AddMade w ys whole done) := by
  obtain ⟨i3, hi3, hz3, hs3, hb3⟩ := info_of infoString
  obtain ⟨i4, hi4, hz4, hs4, hb4⟩ := info_of infoBool
  obtain ⟨i0, hi0, hz0, hs0, hb0⟩ := info_of infoHeld
  obtain ⟨a, p, rfl⟩ := rows_form hr
  have e1 : (w.alloc (.cells #[.slice a xs.length p] ShelfT)).heap.size = w.heap.size + 1 := by simp
  have h2 := VarA.new (w.alloc (.cells #[.slice a xs.length p] ShelfT)) ShelfT #[.slice none 0 0]
  rw [e1] at h2
  have A0 := Lib.hid ((VarA.new w ShelfT #[.slice a xs.length p]).alloc (.cells #[.slice none 0 0] ShelfT))
  have R0 := Lib.hid h2
  have B0 := Lib.hid (((Below.refl w.heap.size w).alloc (Nat.le_refl _) (.cells #[.slice a xs.length p] ShelfT)).alloc (by simp) (.cells #[.slice none 0 0] ShelfT))
  have hzz : Hid (((w.alloc (.cells #[.slice a xs.length p] ShelfT)).alloc (.cells #[.slice none 0 0] ShelfT)).heap.size = w.heap.size + 2) := Lib.hid (by simp)
  have HR := Lib.hid hr
  have HI := Lib.hid h
  obtain ⟨id, place, count, part, ok, hrp⟩ := readPart_is txt
  have KR := Lib.hid (fun X => specReadPart_any txt id place count part ok (by omega) hrp X)
  have HRP := Lib.hid hrp
  have KH := Lib.hid (fun X hX => specShelfCopy_any (.slice a xs.length p) xs hl hf X hX)
  obtain ⟨bs, hbs⟩ : ∃ b : Bool, b = true ↔ ShelfP xs := by
    by_cases h : ShelfP xs
    · exact ⟨true, fun _ => h, fun _ => rfl⟩
    · exact ⟨false, fun e => (by cases e), fun e => absurd e h⟩
  have KS := Lib.hid (fun X hX => specShelfOk_bool (.slice a xs.length p) xs bs hbs (by omega) X hX)
  have HBS := Lib.hid hbs
  have HNO : Hid (¬ AddP xs fr txt now → ys = xs ∧ whole = ⟨#[]⟩ ∧ done = false) := Lib.hid (fun hn => by
    rcases h with ⟨h1, _⟩ | ⟨h1, _⟩ | ⟨_, h1, h2, h3⟩
    · exact absurd h1 hn
    · exact absurd h1 hn
    · exact ⟨h1, h2, h3⟩)
  obtain ⟨n2, hn2⟩ : ∃ n, xs.length = n := ⟨_, rfl⟩
  clear hr h2 e1 h hrp hf hbs
  rw [hn2] at A0 R0 B0 hzz HR KH KS ⊢
  have HN2 := Lib.hid hn2
  clear hn2
  obtain ⟨Q, HQ⟩ : ∃ Q : Ending → World → Prop, Hid (Q = AddMade w ys whole done) := ⟨_, Lib.hid rfl⟩
  rw [← HQ.out]
  go_enter Try.func7, Try.ntmps7
  go_upto_region 1 with fail
  generalize ((w.alloc (.cells #[.slice a n2 p] ShelfT)).alloc (.cells #[.slice none 0 0] ShelfT)) = Y0 at *
  go_wp2_with fail
  refine (KR.out Y0).mono ?_
  rintro e Y ⟨rfl, hb1⟩
  replace A0 := Lib.hid (A0.out.next hb1)
  replace R0 := Lib.hid (R0.out.next hb1)
  replace B0 := Lib.hid (B0.out.trans (hb1.mono B0.out.size))
  have hz2 : w.heap.size + 2 ≤ Y.heap.size := by have := hzz.out; have := hb1.size; omega
  clear hb1 KR hzz
  go_upto_region 2 with fail
  have c0 : Y.cell? ⟨w.heap.size, 0, none⟩ = some (.slice a n2 p) := A0.out.cell 0
  go_wp2_with fail
  refine (KH.out Y (layHeldS.below HR.out B0.out)).mono ?_
  rintro e Y1 ⟨v2, f2, rfl, hd2, ho2, hb2⟩
  obtain ⟨a2, c2, hv2⟩ := rows_form (layHeldS.read ho2)
  rw [HN2.out] at hv2
  subst hv2
  have hal : Below Y1.heap.size Y1 (Y1.alloc (.cells #[.slice a2 n2 c2] ShelfT)) := (Below.refl _ _).alloc (Nat.le_refl _) _
  have hlow : w.heap.size + 2 ≤ Y1.heap.size := by have := hb2.size; omega
  have ho3 := layHeldS.lower (layHeldS.next ho2 hal) (b' := w.heap.size + 2) hz2
  have OS := Lib.hid ho3
  have D : Hid (APS w Y1.heap.size (.slice a n2 p) (.slice a2 n2 c2) f2 xs (Y1.alloc (.cells #[.slice a2 n2 c2] ShelfT))) := Lib.hid ⟨(A0.out.next hb2).next hal, (R0.out.next hb2).next hal, VarA.new _ _ _, hd2, room_of ho3, fun hm => by have := (layHeldS.blocks ho2 _ hm).2; omega, hlow, (B0.out.trans (hb2.mono B0.out.size)).trans (hal.mono (by omega))⟩
  clear hal hlow ho3 hd2 ho2 hb2 A0 R0 B0 KH c0 hz2
  go_upto_region 3 with fail
  generalize Y1.alloc (.cells #[.slice a2 n2 c2] ShelfT) = Y3 at *
  generalize Y1.heap.size = q at *
  have s0 : Y3.cell? ⟨w.heap.size, 0, none⟩ = some (.slice a n2 p) := D.out.s.cell 0
  have K0 := Lib.hid (KS.out Y3 (layHeldS.below HR.out D.out.below))
  cases bs with
  | false =>
    go_wp2_with fail
    refine K0.out.mono ?_
    rintro e Y4 ⟨rfl, hb4⟩
    replace D := Lib.hid (D.out.next hb4)
    replace OS := Lib.hid (layHeldS.next OS.out hb4)
    clear hb4 K0 s0
    obtain ⟨rfl, rfl, rfl⟩ := HNO.out (fun hp => by cases HBS.out.2 hp.1)
    have E : Hid (Q (.returned (.tuple #[.agg #[.slice a2 n2 c2], .string ⟨#[]⟩, .bool false])) (Y4.setCell ⟨w.heap.size + 1, 0, none⟩ (.slice a2 n2 c2))) := Lib.hid (by rw [HQ.out]; exact D.out.ends _ _)
    have n0 : Y4.cell? ⟨q, 0, none⟩ = some (.slice a2 n2 c2) := D.out.n.cell 0
    have r0 : Y4.cell? ⟨w.heap.size + 1, 0, none⟩ = some (.slice none 0 0) := D.out.r.cell 0
    have z0 := D.out.r.free 0
    have j0 : (Y4.setCell ⟨w.heap.size + 1, 0, none⟩ (.slice a2 n2 c2)).cell? ⟨w.heap.size + 1, 0, none⟩ = some (.slice a2 n2 c2) := (D.out.r.set 0 _).cell 0
    clear HNO HI KS D OS HRP
    go_wp2_with fail
    try simp only [Exit.inBlock, Exit.then]
    exact bodyPost_ret (v := .tuple #[.agg #[.slice a2 n2 c2], .string ⟨#[]⟩, .bool false]) (by simp [results, Try.results7, go_sem, j0]) rfl E.out
  | true =>
    have HSP := Lib.hid (HBS.out.1 rfl)
    go_wp2_with fail
    refine K0.out.mono ?_
    rintro e Y4 ⟨rfl, hb4⟩
    replace D := Lib.hid (D.out.next hb4)
    replace OS := Lib.hid (layHeldS.next OS.out hb4)
    clear hb4 K0 s0
    have n0 : Y4.cell? ⟨q, 0, none⟩ = some (.slice a2 n2 c2) := D.out.n.cell 0
    have r0 : Y4.cell? ⟨w.heap.size + 1, 0, none⟩ = some (.slice none 0 0) := D.out.r.cell 0
    have z0 := D.out.r.free 0
    have j0 : (Y4.setCell ⟨w.heap.size + 1, 0, none⟩ (.slice a2 n2 c2)).cell? ⟨w.heap.size + 1, 0, none⟩ = some (.slice a2 n2 c2) := (D.out.r.set 0 _).cell 0
    by_cases h1 : 1 ≤ fr ∧ fr ≤ 99
    rotate_left
    · have K1 := Lib.hid (inRange_no fr 1 99 (by omega) Y4)
      obtain ⟨rfl, rfl, rfl⟩ := HNO.out (fun hp => h1 hp.2.1)
      have E : Hid (Q (.returned (.tuple #[.agg #[.slice a2 n2 c2], .string ⟨#[]⟩, .bool false])) (Y4.setCell ⟨w.heap.size + 1, 0, none⟩ (.slice a2 n2 c2))) := Lib.hid (by rw [HQ.out]; exact D.out.ends _ _)
      clear HNO HI KS D OS h1 HRP
      go_wp2_with fail
      refine K1.out.mono ?_
      rintro e Z9 ⟨rfl, hw9⟩
      rw [hw9]
      clear hw9 K1 Z9
      go_wp2_with fail
      try simp only [Exit.inBlock, Exit.then]
      exact bodyPost_ret (v := .tuple #[.agg #[.slice a2 n2 c2], .string ⟨#[]⟩, .bool false]) (by simp [results, Try.results7, go_sem, j0]) rfl E.out
    have K1 := Lib.hid (inRange_yes fr 1 99 h1.1 h1.2 Y4)
    cases ok with
    | false =>
      obtain ⟨rfl, rfl, rfl⟩ := HNO.out (fun hp => by rcases HRP.out with ⟨h9, _⟩ | ⟨_, h9, _⟩; exact (by cases h9); exact h9 hp.2.2.1)
      have E : Hid (Q (.returned (.tuple #[.agg #[.slice a2 n2 c2], .string ⟨#[]⟩, .bool false])) (Y4.setCell ⟨w.heap.size + 1, 0, none⟩ (.slice a2 n2 c2))) := Lib.hid (by rw [HQ.out]; exact D.out.ends _ _)
      clear HNO HI KS D OS HRP
      go_wp2_with fail
      refine K1.out.mono ?_
      rintro e Z9 ⟨rfl, hw9⟩
      rw [hw9]
      clear hw9 K1 Z9
      go_wp2_with fail
      try simp only [Exit.inBlock, Exit.then]
      exact bodyPost_ret (v := .tuple #[.agg #[.slice a2 n2 c2], .string ⟨#[]⟩, .bool false]) (by simp [results, Try.results7, go_sem, j0]) rfl E.out
    | true =>
      obtain ⟨hpp, rfl, rfl, rfl, rfl⟩ : PieceP txt ∧ id = (byteAt txt 0 : Nat) ∧ place = (byteAt txt 1 : Nat) ∧ count = (byteAt txt 2 : Nat) ∧ part = txt.extract 3 txt.size := by
        rcases HRP.out with ⟨_, h9, h1, h2, h3, h4⟩ | ⟨h9, _⟩
        · exact ⟨h9, h1, h2, h3, h4⟩
        · cases h9
      clear HRP
      have hpsz : (txt.extract 3 txt.size).size = txt.size - 3 := by rw [ByteArray.size_extract, Nat.min_self]
      have HPP := Lib.hid hpp
      have HPS := Lib.hid hpsz
      have hid0 := byteAt_lt txt 0
      have hcn := hpp.2
      clear hpp hpsz
      obtain ⟨c, hc⟩ : ∃ c, byteAt txt 2 = c := ⟨_, rfl⟩
      obtain ⟨j, hj⟩ : ∃ j, byteAt txt 1 = j := ⟨_, rfl⟩
      obtain ⟨d, hd⟩ : ∃ d, byteAt txt 0 = d := ⟨_, rfl⟩
      have HC := Lib.hid hc
      have HJ := Lib.hid hj
      have HDD := Lib.hid hd
      rw [hc, hj] at hcn
      rw [hc, hj, hd]
      rw [hd] at hid0
      clear hc hj hd
      obtain ⟨part, hpart⟩ : ∃ part, txt.extract 3 txt.size = part := ⟨_, rfl⟩
      have HPT := Lib.hid hpart
      rw [hpart] at HPS ⊢
      clear hpart
      by_cases h2 : part.size ≤ 120
      rotate_left
      · have d2 : decide ((120 : Int) < (part.size : Int)) = true := decide_eq_true (by omega)
        obtain ⟨rfl, rfl, rfl⟩ := HNO.out (fun hp => h2 (by have := hp.2.2.2.1; have := HPS.out; omega))
        have E : Hid (Q (.returned (.tuple #[.agg #[.slice a2 n2 c2], .string ⟨#[]⟩, .bool false])) (Y4.setCell ⟨w.heap.size + 1, 0, none⟩ (.slice a2 n2 c2))) := Lib.hid (by rw [HQ.out]; exact D.out.ends _ _)
        clear HNO HI KS D OS h2
        go_wp2_with fail
        refine K1.out.mono ?_
        rintro e Z9 ⟨rfl, hw9⟩
        rw [hw9]
        clear hw9 K1 Z9
        go_wp2_with fail
        try simp only [Exit.inBlock, Exit.then]
        exact bodyPost_ret (v := .tuple #[.agg #[.slice a2 n2 c2], .string ⟨#[]⟩, .bool false]) (by simp [results, Try.results7, go_sem, j0]) rfl E.out
      have d2 : decide ((120 : Int) < (part.size : Int)) = false := decide_eq_false (by omega)
      by_cases h3 : 0 ≤ now ∧ now ≤ 999999992
      rotate_left
      · have K3 := Lib.hid (inRange_no now 0 999999992 (by omega) Y4)
        obtain ⟨rfl, rfl, rfl⟩ := HNO.out (fun hp => h3 hp.2.2.2.2)
        have E : Hid (Q (.returned (.tuple #[.agg #[.slice a2 n2 c2], .string ⟨#[]⟩, .bool false])) (Y4.setCell ⟨w.heap.size + 1, 0, none⟩ (.slice a2 n2 c2))) := Lib.hid (by rw [HQ.out]; exact D.out.ends _ _)
        clear HNO HI KS D OS h3
        go_wp2_with fail
        refine K1.out.mono ?_
        rintro e Z9 ⟨rfl, hw9⟩
        rw [hw9]
        clear hw9 K1 Z9
        go_wp2_with fail
        refine K3.out.mono ?_
        rintro e Z9 ⟨rfl, hw9⟩
        rw [hw9]
        clear hw9 K3 Z9
        go_wp2_with fail
        try simp only [Exit.inBlock, Exit.then]
        exact bodyPost_ret (v := .tuple #[.agg #[.slice a2 n2 c2], .string ⟨#[]⟩, .bool false]) (by simp [results, Try.results7, go_sem, j0]) rfl E.out
      have K3 := Lib.hid (inRange_yes now 0 999999992 h3.1 h3.2 Y4)
      have HAP : Hid (AddP xs fr txt now) := Lib.hid ⟨HSP.out, h1, HPP.out, by have := HPS.out; have := HPP.out.1; omega, h3⟩
      clear HNO
      by_cases h5 : c = 1
      · have d5 : ((c : Int) == 1) = true := by rw [beq_iff_eq]; omega
        obtain ⟨rfl, rfl, rfl⟩ : ys = xs ∧ whole = part ∧ done = true := by
          rcases HI.out with ⟨_, _, e1, e2, e3⟩ | ⟨_, e1, _⟩ | ⟨e1, _⟩
          · exact ⟨e1, by rw [e2, HPT.out], e3⟩
          · exact absurd (by rw [HC.out]; exact h5) e1
          · exact absurd HAP.out e1
        have E : Hid (Q (.returned (.tuple #[.agg #[.slice a2 n2 c2], .string whole, .bool true])) (Y4.setCell ⟨w.heap.size + 1, 0, none⟩ (.slice a2 n2 c2))) := Lib.hid (by rw [HQ.out]; exact D.out.ends _ _)
        clear HI KS D OS h5 HAP
        go_wp2_with fail
        refine K1.out.mono ?_
        rintro e Z9 ⟨rfl, hw9⟩
        rw [hw9]
        clear hw9 K1 Z9
        go_wp2_with fail
        refine K3.out.mono ?_
        rintro e Z9 ⟨rfl, hw9⟩
        rw [hw9]
        clear hw9 K3 Z9
        go_wp2_with fail
        try simp only [Exit.inBlock, Exit.then]
        exact bodyPost_ret (v := .tuple #[.agg #[.slice a2 n2 c2], .string whole, .bool true]) (by simp [results, Try.results7, go_sem, j0]) rfl E.out
      have d5 : ((c : Int) == 1) = false := by rw [beq_eq_false_iff_ne]; omega
      have HMO : Hid (AddMore xs fr (d : Nat) (c : Nat) now j part ys whole done) := Lib.hid (by
        rcases HI.out with ⟨_, e1, _⟩ | ⟨_, _, e1⟩ | ⟨e1, _⟩
        · rw [HC.out] at e1
          exact absurd e1 h5
        · rw [HC.out, HJ.out, HDD.out, HPT.out] at e1
          exact e1
        · exact absurd HAP.out e1)
      have hw8 : IntKind.i64.wrap (now + 8) = now + 8 := by rw [IntKind.wrap_i64]; omega
      clear KS HAP n0 r0 z0 j0
      go_wp2_with fail
      refine K1.out.mono ?_
      rintro e Z9 ⟨rfl, hw9⟩
      rw [hw9]
      clear hw9 K1 Z9
      go_wp2_with fail
      refine K3.out.mono ?_
      rintro e Z9 ⟨rfl, hw9⟩
      rw [hw9]
      clear hw9 K3 Z9
      go_upto_region 7 with fail
      clear d2 d5
      go_cut [17] (fun y wx => ∃ (gx g3 g4 : Nat), y = .pointer (some ⟨gx, 0, none⟩) ∧ Hid (GAS w q gx (.slice a n2 p) (.slice a2 n2 c2) f2 [g3, g4] xs [.int .i64 fr, .int .i64 (d : Nat), .int .i64 (c : Nat), .slice (some ⟨g3, 0, none⟩) c c, .slice (some ⟨g4, 0, none⟩) c c, .int .i64 (now + 8)] (newV fr (d : Nat) (c : Nat) now) wx ∧ VarA gx HeldT #[.int .i64 fr, .int .i64 (d : Nat), .int .i64 (c : Nat), .slice (some ⟨g3, 0, none⟩) c c, .slice (some ⟨g4, 0, none⟩) c c, .int .i64 (now + 8)] wx))
      case first =>
        have LOW := Lib.hid D.out.low
        have NQ := Lib.hid D.out.out
        have E0 : Hid (Below w.heap.size w Y4.drew) := Lib.hid D.out.below.drew
        have S8 := Lib.hid D.out.s.drew
        have R8 := Lib.hid D.out.r.drew
        have N8 := Lib.hid D.out.n.drew
        have O8 := Lib.hid (layHeldS.next OS.out (Below.refl Y4.heap.size Y4).drew)
        have HD8 := Lib.hid D.out.dup
        have HB : Hid (w.heap.size + 2 ≤ Y4.drew.heap.size) := Lib.hid (by have h9 := D.out.n.lt; have h8 := D.out.low; show w.heap.size + 2 ≤ Y4.heap.size; omega)
        clear D OS
        go_wp2_with fail
        refine wp_region_held_drew (S := fun X => Hid (Below w.heap.size w X)) (by kernel_rfl) E0 (fun hHeld => ?_)
        clear E0
        generalize Y4.drew = X0 at *
        refine wpAnyH_take (i := 0) (v := ?_) rfl (by kernel_rfl) (by kernel_rfl) (by kernel_rfl) (fun _ _ _ h => h) (Or.inl ⟨by kernel_rfl, ?_⟩) hHeld ?_
        rotate_left
        · intro X hX
          first | (go_simp; done) | (go_simp; with_reducible rfl)
        try simp only [Act.put, List.getElem_toArray, List.getElem_cons_zero, List.setIfInBounds_toArray, List.set_cons_zero, List.set_cons_succ]
        refine wpAnyH_take (i := 1) (v := ?_) rfl (by kernel_rfl) (by kernel_rfl) (by kernel_rfl) (fun _ _ _ h => h) (Or.inl ⟨by kernel_rfl, ?_⟩) hHeld ?_
        rotate_left
        · intro X hX
          first | (go_simp; done) | (go_simp; with_reducible rfl)
        try simp only [Act.put, List.getElem_toArray, List.getElem_cons_succ, List.getElem_cons_zero, List.setIfInBounds_toArray, List.set_cons_zero, List.set_cons_succ]
        refine wpAnyH_take (i := 2) (v := ?_) rfl (by kernel_rfl) (by kernel_rfl) (by kernel_rfl) (fun _ _ _ h => h) (Or.inl ⟨by kernel_rfl, ?_⟩) hHeld ?_
        rotate_left
        · intro X hX
          first | (go_simp; done) | (go_simp; with_reducible rfl)
        try simp only [Act.put, List.getElem_toArray, List.getElem_cons_succ, List.getElem_cons_zero, List.setIfInBounds_toArray, List.set_cons_zero, List.set_cons_succ]
        refine wpAnyH_take (i := 3) (v := ?_) rfl (by kernel_rfl) (by kernel_rfl) (by kernel_rfl) (fun _ _ _ h => h) (Or.inl ⟨by kernel_rfl, ?_⟩) hHeld ?_
        rotate_left
        · intro X hX
          first | (go_simp; done) | (go_simp; with_reducible rfl)
        try simp only [Act.put, List.getElem_toArray, List.getElem_cons_succ, List.getElem_cons_zero, List.setIfInBounds_toArray, List.set_cons_zero, List.set_cons_succ]
        refine wpAnyH_take (i := 5) (v := ?_) rfl (by kernel_rfl) (by kernel_rfl) (by kernel_rfl) (fun _ _ _ h => h) (Or.inl ⟨by kernel_rfl, ?_⟩) hHeld ?_
        rotate_left
        · intro X hX
          first | (go_simp; done) | (go_simp; with_reducible rfl)
        try simp only [Act.put, List.getElem_toArray, List.getElem_cons_succ, List.getElem_cons_zero, List.setIfInBounds_toArray, List.set_cons_zero, List.set_cons_succ]
        refine wpAnyH_take (i := 7) (v := ?_) rfl (by kernel_rfl) (by kernel_rfl) (by kernel_rfl) (fun _ _ _ h => h) (Or.inl ⟨by kernel_rfl, ?_⟩) hHeld ?_
        rotate_left
        · intro X hX
          first | (go_simp; done) | (go_simp; with_reducible rfl)
        try simp only [Act.put, List.getElem_toArray, List.getElem_cons_succ, List.getElem_cons_zero, List.setIfInBounds_toArray, List.set_cons_zero, List.set_cons_succ]
        refine wpAnyH_take (i := 8) (v := ?_) rfl (by kernel_rfl) (by kernel_rfl) (by kernel_rfl) (fun _ _ _ h => h) (Or.inl ⟨by kernel_rfl, ?_⟩) hHeld ?_
        rotate_left
        · intro X hX
          first | (go_simp; done) | (go_simp; with_reducible rfl)
        try simp only [Act.put, List.getElem_toArray, List.getElem_cons_succ, List.getElem_cons_zero, List.setIfInBounds_toArray, List.set_cons_zero, List.set_cons_succ]
        refine wpAnyH_ready (rs := [4, 6, 10]) (by kernel_rfl) (by simp) ?_
        refine AllReadyH.cons rfl (fun K hK => ?_) (AllReadyH.cons rfl (fun K hK => ?_) (AllReadyH.cons rfl (fun K hK => ?_) AllReadyH.nil))
        · have hxs : q < X0.heap.size := N8.out.lt
          refine step_make rfl (.tmp 65) (.tmp 65) 32 rfl (w.heap.size + 2) StringT i3 (.string ⟨#[]⟩) 1 Try.underlying32 hi3 hz3 hs3 .i64 .i64 c (by rfl) (by rfl) (by rw [hb3]; omega) (by unfold maxLen; omega) HB.out ?_
          intro X1 hown1 hg1
          have hb : Hid (Below X0.heap.size X0 X1) := Lib.hid (below_grown hg1 (fun k h => by cases h) (Nat.le_refl _))
          have O3 : Hid (layStringS.own X1 (w.heap.size + 2) [X0.heap.size] [.slice (some ⟨X0.heap.size, 0, none⟩) c c] (List.replicate c ⟨#[]⟩)) := Lib.hid (rows_made (A := layString) hown1 rfl (flatString.own _ _ _ _ (layString_rd.2 rfl)))
          have F3 : Hid (X0.heap.size ∉ f2 ∧ q ≠ X0.heap.size) := Lib.hid ⟨fun hm => by have := (layHeldS.blocks O8.out _ hm).2; omega, by omega⟩
          refine hK.out _ _ (Lib.hid (hHeld.out.trans (hb.out.mono (by have := LOW.out; omega)))) (fun hHeld => ?_)
          clear hK K hown1 hg1 hxs
          replace S8 := Lib.hid (S8.out.next hb.out)
          replace R8 := Lib.hid (R8.out.next hb.out)
          replace N8 := Lib.hid (N8.out.next hb.out)
          replace O8 := Lib.hid (layHeldS.next O8.out hb.out)
          replace HB := Lib.hid (Nat.le_trans HB.out hb.out.size)
          clear hb
          generalize X0.heap.size = g3 at *
          try simp only [Act.put, List.getElem_toArray, List.getElem_cons_succ, List.getElem_cons_zero, List.setIfInBounds_toArray, List.set_cons_zero, List.set_cons_succ]
          refine wpAnyH_ready (rs := [6, 10]) (by kernel_rfl) (by simp) ?_
          refine AllReadyH.cons rfl (fun K hK => ?_) (AllReadyH.cons rfl (fun K hK => ?_) AllReadyH.nil)
          · have hxs : q < X1.heap.size := N8.out.lt
            refine step_make rfl (.tmp 67) (.tmp 67) 33 rfl (w.heap.size + 2) 4 i4 (.bool false) 1 Try.underlying33 hi4 hz4 hs4 .i64 .i64 c (by rfl) (by rfl) (by rw [hb4]; omega) (by unfold maxLen; omega) HB.out ?_
            intro X2 hown1 hg1
            have hb : Hid (Below X1.heap.size X1 X2) := Lib.hid (below_grown hg1 (fun k h => by cases h) (Nat.le_refl _))
            have O4 : Hid (layBoolS.own X2 (w.heap.size + 2) [X1.heap.size] [.slice (some ⟨X1.heap.size, 0, none⟩) c c] (List.replicate c false)) := Lib.hid (rows_made (A := Lay.bool) hown1 rfl (bool_own.2 ⟨rfl, rfl⟩))
            have F4 : Hid (X1.heap.size ∉ f2 ∧ q ≠ X1.heap.size) := Lib.hid ⟨fun hm => by have := (layHeldS.blocks O8.out _ hm).2; omega, by omega⟩
            have A46 : Hid (g3 ≠ X1.heap.size) := Lib.hid (by have h9 := (layStringS.blocks O3.out g3 (by simp)).2; omega)
            refine hK.out _ _ (Lib.hid (hHeld.out.trans (hb.out.mono (by have := LOW.out; omega)))) (fun hHeld => ?_)
            clear hK K hown1 hg1 hxs
            replace S8 := Lib.hid (S8.out.next hb.out)
            replace R8 := Lib.hid (R8.out.next hb.out)
            replace N8 := Lib.hid (N8.out.next hb.out)
            replace O8 := Lib.hid (layHeldS.next O8.out hb.out)
            replace HB := Lib.hid (Nat.le_trans HB.out hb.out.size)
            replace O3 := Lib.hid (layStringS.next O3.out hb.out)
            clear hb
            generalize X1.heap.size = g4 at *
            try simp only [Act.put, List.getElem_toArray, List.getElem_cons_succ, List.getElem_cons_zero, List.setIfInBounds_toArray, List.set_cons_zero, List.set_cons_succ]
            refine wpAnyH_take (i := 9) (v := ?_) rfl (by kernel_rfl) (by kernel_rfl) (by kernel_rfl) (fun _ _ _ h => h) (Or.inl ⟨by kernel_rfl, ?_⟩) hHeld ?_
            rotate_left
            · intro X hX
              first | (go_simp; done) | (go_simp; with_reducible rfl)
            try simp only [Act.put, List.getElem_toArray, List.getElem_cons_succ, List.getElem_cons_zero, List.setIfInBounds_toArray, List.set_cons_zero, List.set_cons_succ]
            refine wpAnyH_ready (rs := [10]) (by kernel_rfl) (by simp) ?_
            refine AllReadyH.cons rfl (fun K hK => ?_) AllReadyH.nil
            go_simp
            have hxs : q < X2.heap.size := N8.out.lt
            have hal : Below X2.heap.size X2 (X2.alloc (.cells #[.int .i64 0, .int .i64 0, .int .i64 0, .slice none 0 0, .slice none 0 0, .int .i64 0] HeldT)) := (Below.refl _ _).alloc (Nat.le_refl _) _
            have XV := Lib.hid (VarA.new X2 HeldT #[.int .i64 0, .int .i64 0, .int .i64 0, .slice none 0 0, .slice none 0 0, .int .i64 0])
            have FX : Hid (X2.heap.size ∉ f2 ∧ q ≠ X2.heap.size ∧ w.heap.size + 2 ≤ X2.heap.size) := Lib.hid ⟨fun hm => by have := (layHeldS.blocks O8.out _ hm).2; omega, by omega, HB.out⟩
            have A410 : Hid (g3 ≠ X2.heap.size) := Lib.hid (by have h9 := (layStringS.blocks O3.out g3 (by simp)).2; omega)
            have A610 : Hid (g4 ≠ X2.heap.size) := Lib.hid (by have h9 := (layBoolS.blocks O4.out g4 (by simp)).2; omega)
            refine hK.out _ _ (Lib.hid (hHeld.out.trans (hal.mono (by have := LOW.out; omega)))) (fun hHeld => ?_)
            clear hK K hxs
            have hb := Lib.hid hal
            clear hal
            replace S8 := Lib.hid (S8.out.next hb.out)
            replace R8 := Lib.hid (R8.out.next hb.out)
            replace N8 := Lib.hid (N8.out.next hb.out)
            replace O8 := Lib.hid (layHeldS.next O8.out hb.out)
            replace HB := Lib.hid (Nat.le_trans HB.out hb.out.size)
            replace O3 := Lib.hid (layStringS.next O3.out hb.out)
            replace O4 := Lib.hid (layBoolS.next O4.out hb.out)
            clear hb
            generalize (X2.alloc (.cells #[.int .i64 0, .int .i64 0, .int .i64 0, .slice none 0 0, .slice none 0 0, .int .i64 0] HeldT)) = X3 at *
            generalize X2.heap.size = gx at *
            try simp only [Act.put, List.getElem_toArray, List.getElem_cons_succ, List.getElem_cons_zero, List.setIfInBounds_toArray, List.set_cons_zero, List.set_cons_succ]
            refine wpAnyH_ready (rs := [11]) (by kernel_rfl) (by simp) ?_
            refine AllReadyH.cons rfl (fun K hK => ?_) AllReadyH.nil
            have r0_ := XV.out.cell 0
            have r1_ := XV.out.cell 1
            have r2_ := XV.out.cell 2
            have r3_ := XV.out.cell 3
            have r4_ := XV.out.cell 4
            have r5_ := XV.out.cell 5
            have g0_ := XV.out.free 0
            have g1_ := XV.out.free 1
            have g2_ := XV.out.free 2
            have g3_ := XV.out.free 3
            have g4_ := XV.out.free 4
            have g5_ := XV.out.free 5
            go_simp
            have hc : Chg [gx] X3 ((((((X3.setCell ⟨gx, 0, none⟩ (.int .i64 fr)).setCell ⟨gx, 1, none⟩ (.int .i64 (d : Nat))).setCell ⟨gx, 2, none⟩ (.int .i64 (c : Nat))).setCell ⟨gx, 3, none⟩ (.slice (some ⟨g3, 0, none⟩) c c)).setCell ⟨gx, 4, none⟩ (.slice (some ⟨g4, 0, none⟩) c c)).setCell ⟨gx, 5, none⟩ (.int .i64 (now + 8))) := (Chg.cell _ _ _ _).trans2 ((Chg.cell _ _ _ _).trans2 ((Chg.cell _ _ _ _).trans2 ((Chg.cell _ _ _ _).trans2 ((Chg.cell _ _ _ _).trans2 (Chg.cell _ _ _ _)))))
            have hb9 := hHeld.out.trans (hc.below (b := w.heap.size) (by have := FX.out; simp; omega) (by have := HB.out; omega))
            have XV2 := XV.out.six (.int .i64 fr) (.int .i64 (d : Nat)) (.int .i64 (c : Nat)) (.slice (some ⟨g3, 0, none⟩) c c) (.slice (some ⟨g4, 0, none⟩) c c) (.int .i64 (now + 8))
            have h34 : g3 ≠ g4 := A46.out
            have h3x : g3 ≠ gx := A410.out
            have h4x : g4 ≠ gx := A610.out
            have E : Hid (GAS w q gx (.slice a n2 p) (.slice a2 n2 c2) f2 [g3, g4] xs [.int .i64 fr, .int .i64 (d : Nat), .int .i64 (c : Nat), .slice (some ⟨g3, 0, none⟩) c c, .slice (some ⟨g4, 0, none⟩) c c, .int .i64 (now + 8)] (newV fr (d : Nat) (c : Nat) now) ((((((X3.setCell ⟨gx, 0, none⟩ (.int .i64 fr)).setCell ⟨gx, 1, none⟩ (.int .i64 (d : Nat))).setCell ⟨gx, 2, none⟩ (.int .i64 (c : Nat))).setCell ⟨gx, 3, none⟩ (.slice (some ⟨g3, 0, none⟩) c c)).setCell ⟨gx, 4, none⟩ (.slice (some ⟨g4, 0, none⟩) c c)).setCell ⟨gx, 5, none⟩ (.int .i64 (now + 8))) ∧ VarA gx HeldT #[.int .i64 fr, .int .i64 (d : Nat), .int .i64 (c : Nat), .slice (some ⟨g3, 0, none⟩) c c, .slice (some ⟨g4, 0, none⟩) c c, .int .i64 (now + 8)] ((((((X3.setCell ⟨gx, 0, none⟩ (.int .i64 fr)).setCell ⟨gx, 1, none⟩ (.int .i64 (d : Nat))).setCell ⟨gx, 2, none⟩ (.int .i64 (c : Nat))).setCell ⟨gx, 3, none⟩ (.slice (some ⟨g3, 0, none⟩) c c)).setCell ⟨gx, 4, none⟩ (.slice (some ⟨g4, 0, none⟩) c c)).setCell ⟨gx, 5, none⟩ (.int .i64 (now + 8)))) := Lib.hid ⟨⟨⟨(hc.block _ S8.out.lt (by have := FX.out; simp; omega)).trans S8.out.row⟩, ⟨(hc.block _ R8.out.lt (by have := FX.out; simp; omega)).trans R8.out.row⟩, ⟨(hc.block _ N8.out.lt (by have := FX.out; simp; omega)).trans N8.out.row⟩, HD8.out, layHeldS.chg O8.out hc (fun k hk hm => FX.out.1 (by rw [List.mem_singleton] at hm; rw [← hm]; exact hk)), layHeld_own.2 ⟨_, _, [g3], [g4], rfl, rfl, layStringS.chg O3.out hc (by simp; exact h3x), layBoolS.chg O4.out hc (by simp; exact h4x)⟩, (by simp; exact h34), (fun k hk => by simp at hk; rcases hk with rfl | rfl; exact F3.out.1; exact F4.out.1), ⟨FX.out.1, (by simp; exact ⟨h3x.symm, h4x.symm⟩), FX.out.2.1.symm⟩, ⟨FX.out.2.2, LOW.out⟩, XV2.lt, hb9⟩, XV2⟩
            refine hK.out _ _ (Lib.hid hb9) (fun hHeld => ?_)
            clear hK K r0_ g0_ r1_ g1_ r2_ g2_ r3_ g3_ r4_ g4_ r5_ g5_
            generalize ((((((X3.setCell ⟨gx, 0, none⟩ (.int .i64 fr)).setCell ⟨gx, 1, none⟩ (.int .i64 (d : Nat))).setCell ⟨gx, 2, none⟩ (.int .i64 (c : Nat))).setCell ⟨gx, 3, none⟩ (.slice (some ⟨g3, 0, none⟩) c c)).setCell ⟨gx, 4, none⟩ (.slice (some ⟨g4, 0, none⟩) c c)).setCell ⟨gx, 5, none⟩ (.int .i64 (now + 8))) = X4 at *
            try simp only [Act.put, List.getElem_toArray, List.getElem_cons_succ, List.getElem_cons_zero, List.setIfInBounds_toArray, List.set_cons_zero, List.set_cons_succ]
            refine wpAnyH_done (by kernel_rfl) ?_ _
            clear hHeld
            go_wp2_with fail
            go_meet
            exact ⟨gx, g3, g4, rfl, E⟩
          · go_simp
            have hxs : q < X1.heap.size := N8.out.lt
            have hal : Below X1.heap.size X1 (X1.alloc (.cells #[.int .i64 0, .int .i64 0, .int .i64 0, .slice none 0 0, .slice none 0 0, .int .i64 0] HeldT)) := (Below.refl _ _).alloc (Nat.le_refl _) _
            have XV := Lib.hid (VarA.new X1 HeldT #[.int .i64 0, .int .i64 0, .int .i64 0, .slice none 0 0, .slice none 0 0, .int .i64 0])
            have FX : Hid (X1.heap.size ∉ f2 ∧ q ≠ X1.heap.size ∧ w.heap.size + 2 ≤ X1.heap.size) := Lib.hid ⟨fun hm => by have := (layHeldS.blocks O8.out _ hm).2; omega, by omega, HB.out⟩
            have A410 : Hid (g3 ≠ X1.heap.size) := Lib.hid (by have h9 := (layStringS.blocks O3.out g3 (by simp)).2; omega)
            refine hK.out _ _ (Lib.hid (hHeld.out.trans (hal.mono (by have := LOW.out; omega)))) (fun hHeld => ?_)
            clear hK K hxs
            have hb := Lib.hid hal
            clear hal
            replace S8 := Lib.hid (S8.out.next hb.out)
            replace R8 := Lib.hid (R8.out.next hb.out)
            replace N8 := Lib.hid (N8.out.next hb.out)
            replace O8 := Lib.hid (layHeldS.next O8.out hb.out)
            replace HB := Lib.hid (Nat.le_trans HB.out hb.out.size)
            replace O3 := Lib.hid (layStringS.next O3.out hb.out)
            clear hb
            generalize (X1.alloc (.cells #[.int .i64 0, .int .i64 0, .int .i64 0, .slice none 0 0, .slice none 0 0, .int .i64 0] HeldT)) = X2 at *
            generalize X1.heap.size = gx at *
            try simp only [Act.put, List.getElem_toArray, List.getElem_cons_succ, List.getElem_cons_zero, List.setIfInBounds_toArray, List.set_cons_zero, List.set_cons_succ]
            refine wpAnyH_ready (rs := [6]) (by kernel_rfl) (by simp) ?_
            refine AllReadyH.cons rfl (fun K hK => ?_) AllReadyH.nil
            have hxs : q < X2.heap.size := N8.out.lt
            refine step_make rfl (.tmp 67) (.tmp 67) 33 rfl (w.heap.size + 2) 4 i4 (.bool false) 1 Try.underlying33 hi4 hz4 hs4 .i64 .i64 c (by rfl) (by rfl) (by rw [hb4]; omega) (by unfold maxLen; omega) HB.out ?_
            intro X3 hown1 hg1
            have hb : Hid (Below X2.heap.size X2 X3) := Lib.hid (below_grown hg1 (fun k h => by cases h) (Nat.le_refl _))
            have O4 : Hid (layBoolS.own X3 (w.heap.size + 2) [X2.heap.size] [.slice (some ⟨X2.heap.size, 0, none⟩) c c] (List.replicate c false)) := Lib.hid (rows_made (A := Lay.bool) hown1 rfl (bool_own.2 ⟨rfl, rfl⟩))
            have F4 : Hid (X2.heap.size ∉ f2 ∧ q ≠ X2.heap.size) := Lib.hid ⟨fun hm => by have := (layHeldS.blocks O8.out _ hm).2; omega, by omega⟩
            have A46 : Hid (g3 ≠ X2.heap.size) := Lib.hid (by have h9 := (layStringS.blocks O3.out g3 (by simp)).2; omega)
            have A106 : Hid (gx ≠ X2.heap.size) := Lib.hid (by have h9 := XV.out.lt; omega)
            refine hK.out _ _ (Lib.hid (hHeld.out.trans (hb.out.mono (by have := LOW.out; omega)))) (fun hHeld => ?_)
            clear hK K hown1 hg1 hxs
            replace S8 := Lib.hid (S8.out.next hb.out)
            replace R8 := Lib.hid (R8.out.next hb.out)
            replace N8 := Lib.hid (N8.out.next hb.out)
            replace O8 := Lib.hid (layHeldS.next O8.out hb.out)
            replace HB := Lib.hid (Nat.le_trans HB.out hb.out.size)
            replace O3 := Lib.hid (layStringS.next O3.out hb.out)
            replace XV := Lib.hid (XV.out.next hb.out)
            clear hb
            generalize X2.heap.size = g4 at *
            try simp only [Act.put, List.getElem_toArray, List.getElem_cons_succ, List.getElem_cons_zero, List.setIfInBounds_toArray, List.set_cons_zero, List.set_cons_succ]
            refine wpAnyH_take (i := 9) (v := ?_) rfl (by kernel_rfl) (by kernel_rfl) (by kernel_rfl) (fun _ _ _ h => h) (Or.inl ⟨by kernel_rfl, ?_⟩) hHeld ?_
            rotate_left
            · intro X hX
              first | (go_simp; done) | (go_simp; with_reducible rfl)
            try simp only [Act.put, List.getElem_toArray, List.getElem_cons_succ, List.getElem_cons_zero, List.setIfInBounds_toArray, List.set_cons_zero, List.set_cons_succ]
            refine wpAnyH_ready (rs := [11]) (by kernel_rfl) (by simp) ?_
            refine AllReadyH.cons rfl (fun K hK => ?_) AllReadyH.nil
            have r0_ := XV.out.cell 0
            have r1_ := XV.out.cell 1
            have r2_ := XV.out.cell 2
            have r3_ := XV.out.cell 3
            have r4_ := XV.out.cell 4
            have r5_ := XV.out.cell 5
            have g0_ := XV.out.free 0
            have g1_ := XV.out.free 1
            have g2_ := XV.out.free 2
            have g3_ := XV.out.free 3
            have g4_ := XV.out.free 4
            have g5_ := XV.out.free 5
            go_simp
            have hc : Chg [gx] X3 ((((((X3.setCell ⟨gx, 0, none⟩ (.int .i64 fr)).setCell ⟨gx, 1, none⟩ (.int .i64 (d : Nat))).setCell ⟨gx, 2, none⟩ (.int .i64 (c : Nat))).setCell ⟨gx, 3, none⟩ (.slice (some ⟨g3, 0, none⟩) c c)).setCell ⟨gx, 4, none⟩ (.slice (some ⟨g4, 0, none⟩) c c)).setCell ⟨gx, 5, none⟩ (.int .i64 (now + 8))) := (Chg.cell _ _ _ _).trans2 ((Chg.cell _ _ _ _).trans2 ((Chg.cell _ _ _ _).trans2 ((Chg.cell _ _ _ _).trans2 ((Chg.cell _ _ _ _).trans2 (Chg.cell _ _ _ _)))))
            have hb9 := hHeld.out.trans (hc.below (b := w.heap.size) (by have := FX.out; simp; omega) (by have := HB.out; omega))
            have XV2 := XV.out.six (.int .i64 fr) (.int .i64 (d : Nat)) (.int .i64 (c : Nat)) (.slice (some ⟨g3, 0, none⟩) c c) (.slice (some ⟨g4, 0, none⟩) c c) (.int .i64 (now + 8))
            have h34 : g3 ≠ g4 := A46.out
            have h3x : g3 ≠ gx := A410.out
            have h4x : g4 ≠ gx := A106.out.symm
            have E : Hid (GAS w q gx (.slice a n2 p) (.slice a2 n2 c2) f2 [g3, g4] xs [.int .i64 fr, .int .i64 (d : Nat), .int .i64 (c : Nat), .slice (some ⟨g3, 0, none⟩) c c, .slice (some ⟨g4, 0, none⟩) c c, .int .i64 (now + 8)] (newV fr (d : Nat) (c : Nat) now) ((((((X3.setCell ⟨gx, 0, none⟩ (.int .i64 fr)).setCell ⟨gx, 1, none⟩ (.int .i64 (d : Nat))).setCell ⟨gx, 2, none⟩ (.int .i64 (c : Nat))).setCell ⟨gx, 3, none⟩ (.slice (some ⟨g3, 0, none⟩) c c)).setCell ⟨gx, 4, none⟩ (.slice (some ⟨g4, 0, none⟩) c c)).setCell ⟨gx, 5, none⟩ (.int .i64 (now + 8))) ∧ VarA gx HeldT #[.int .i64 fr, .int .i64 (d : Nat), .int .i64 (c : Nat), .slice (some ⟨g3, 0, none⟩) c c, .slice (some ⟨g4, 0, none⟩) c c, .int .i64 (now + 8)] ((((((X3.setCell ⟨gx, 0, none⟩ (.int .i64 fr)).setCell ⟨gx, 1, none⟩ (.int .i64 (d : Nat))).setCell ⟨gx, 2, none⟩ (.int .i64 (c : Nat))).setCell ⟨gx, 3, none⟩ (.slice (some ⟨g3, 0, none⟩) c c)).setCell ⟨gx, 4, none⟩ (.slice (some ⟨g4, 0, none⟩) c c)).setCell ⟨gx, 5, none⟩ (.int .i64 (now + 8)))) := Lib.hid ⟨⟨⟨(hc.block _ S8.out.lt (by have := FX.out; simp; omega)).trans S8.out.row⟩, ⟨(hc.block _ R8.out.lt (by have := FX.out; simp; omega)).trans R8.out.row⟩, ⟨(hc.block _ N8.out.lt (by have := FX.out; simp; omega)).trans N8.out.row⟩, HD8.out, layHeldS.chg O8.out hc (fun k hk hm => FX.out.1 (by rw [List.mem_singleton] at hm; rw [← hm]; exact hk)), layHeld_own.2 ⟨_, _, [g3], [g4], rfl, rfl, layStringS.chg O3.out hc (by simp; exact h3x), layBoolS.chg O4.out hc (by simp; exact h4x)⟩, (by simp; exact h34), (fun k hk => by simp at hk; rcases hk with rfl | rfl; exact F3.out.1; exact F4.out.1), ⟨FX.out.1, (by simp; exact ⟨h3x.symm, h4x.symm⟩), FX.out.2.1.symm⟩, ⟨FX.out.2.2, LOW.out⟩, XV2.lt, hb9⟩, XV2⟩
            refine hK.out _ _ (Lib.hid hb9) (fun hHeld => ?_)
            clear hK K r0_ g0_ r1_ g1_ r2_ g2_ r3_ g3_ r4_ g4_ r5_ g5_
            generalize ((((((X3.setCell ⟨gx, 0, none⟩ (.int .i64 fr)).setCell ⟨gx, 1, none⟩ (.int .i64 (d : Nat))).setCell ⟨gx, 2, none⟩ (.int .i64 (c : Nat))).setCell ⟨gx, 3, none⟩ (.slice (some ⟨g3, 0, none⟩) c c)).setCell ⟨gx, 4, none⟩ (.slice (some ⟨g4, 0, none⟩) c c)).setCell ⟨gx, 5, none⟩ (.int .i64 (now + 8))) = X4 at *
            try simp only [Act.put, List.getElem_toArray, List.getElem_cons_succ, List.getElem_cons_zero, List.setIfInBounds_toArray, List.set_cons_zero, List.set_cons_succ]
            refine wpAnyH_done (by kernel_rfl) ?_ _
            clear hHeld
            go_wp2_with fail
            go_meet
            exact ⟨gx, g3, g4, rfl, E⟩
        · have hxs : q < X0.heap.size := N8.out.lt
          refine step_make rfl (.tmp 67) (.tmp 67) 33 rfl (w.heap.size + 2) 4 i4 (.bool false) 1 Try.underlying33 hi4 hz4 hs4 .i64 .i64 c (by rfl) (by rfl) (by rw [hb4]; omega) (by unfold maxLen; omega) HB.out ?_
          intro X1 hown1 hg1
          have hb : Hid (Below X0.heap.size X0 X1) := Lib.hid (below_grown hg1 (fun k h => by cases h) (Nat.le_refl _))
          have O4 : Hid (layBoolS.own X1 (w.heap.size + 2) [X0.heap.size] [.slice (some ⟨X0.heap.size, 0, none⟩) c c] (List.replicate c false)) := Lib.hid (rows_made (A := Lay.bool) hown1 rfl (bool_own.2 ⟨rfl, rfl⟩))
          have F4 : Hid (X0.heap.size ∉ f2 ∧ q ≠ X0.heap.size) := Lib.hid ⟨fun hm => by have := (layHeldS.blocks O8.out _ hm).2; omega, by omega⟩
          refine hK.out _ _ (Lib.hid (hHeld.out.trans (hb.out.mono (by have := LOW.out; omega)))) (fun hHeld => ?_)
          clear hK K hown1 hg1 hxs
          replace S8 := Lib.hid (S8.out.next hb.out)
          replace R8 := Lib.hid (R8.out.next hb.out)
          replace N8 := Lib.hid (N8.out.next hb.out)
          replace O8 := Lib.hid (layHeldS.next O8.out hb.out)
          replace HB := Lib.hid (Nat.le_trans HB.out hb.out.size)
          clear hb
          generalize X0.heap.size = g4 at *
          try simp only [Act.put, List.getElem_toArray, List.getElem_cons_succ, List.getElem_cons_zero, List.setIfInBounds_toArray, List.set_cons_zero, List.set_cons_succ]
          refine wpAnyH_ready (rs := [4, 10]) (by kernel_rfl) (by simp) ?_
          refine AllReadyH.cons rfl (fun K hK => ?_) (AllReadyH.cons rfl (fun K hK => ?_) AllReadyH.nil)
          · have hxs : q < X1.heap.size := N8.out.lt
            refine step_make rfl (.tmp 65) (.tmp 65) 32 rfl (w.heap.size + 2) StringT i3 (.string ⟨#[]⟩) 1 Try.underlying32 hi3 hz3 hs3 .i64 .i64 c (by rfl) (by rfl) (by rw [hb3]; omega) (by unfold maxLen; omega) HB.out ?_
            intro X2 hown1 hg1
            have hb : Hid (Below X1.heap.size X1 X2) := Lib.hid (below_grown hg1 (fun k h => by cases h) (Nat.le_refl _))
            have O3 : Hid (layStringS.own X2 (w.heap.size + 2) [X1.heap.size] [.slice (some ⟨X1.heap.size, 0, none⟩) c c] (List.replicate c ⟨#[]⟩)) := Lib.hid (rows_made (A := layString) hown1 rfl (flatString.own _ _ _ _ (layString_rd.2 rfl)))
            have F3 : Hid (X1.heap.size ∉ f2 ∧ q ≠ X1.heap.size) := Lib.hid ⟨fun hm => by have := (layHeldS.blocks O8.out _ hm).2; omega, by omega⟩
            have A64 : Hid (g4 ≠ X1.heap.size) := Lib.hid (by have h9 := (layBoolS.blocks O4.out g4 (by simp)).2; omega)
            refine hK.out _ _ (Lib.hid (hHeld.out.trans (hb.out.mono (by have := LOW.out; omega)))) (fun hHeld => ?_)
            clear hK K hown1 hg1 hxs
            replace S8 := Lib.hid (S8.out.next hb.out)
            replace R8 := Lib.hid (R8.out.next hb.out)
            replace N8 := Lib.hid (N8.out.next hb.out)
            replace O8 := Lib.hid (layHeldS.next O8.out hb.out)
            replace HB := Lib.hid (Nat.le_trans HB.out hb.out.size)
            replace O4 := Lib.hid (layBoolS.next O4.out hb.out)
            clear hb
            generalize X1.heap.size = g3 at *
            try simp only [Act.put, List.getElem_toArray, List.getElem_cons_succ, List.getElem_cons_zero, List.setIfInBounds_toArray, List.set_cons_zero, List.set_cons_succ]
            refine wpAnyH_take (i := 9) (v := ?_) rfl (by kernel_rfl) (by kernel_rfl) (by kernel_rfl) (fun _ _ _ h => h) (Or.inl ⟨by kernel_rfl, ?_⟩) hHeld ?_
            rotate_left
            · intro X hX
              first | (go_simp; done) | (go_simp; with_reducible rfl)
            try simp only [Act.put, List.getElem_toArray, List.getElem_cons_succ, List.getElem_cons_zero, List.setIfInBounds_toArray, List.set_cons_zero, List.set_cons_succ]
            refine wpAnyH_ready (rs := [10]) (by kernel_rfl) (by simp) ?_
            refine AllReadyH.cons rfl (fun K hK => ?_) AllReadyH.nil
            go_simp
            have hxs : q < X2.heap.size := N8.out.lt
            have hal : Below X2.heap.size X2 (X2.alloc (.cells #[.int .i64 0, .int .i64 0, .int .i64 0, .slice none 0 0, .slice none 0 0, .int .i64 0] HeldT)) := (Below.refl _ _).alloc (Nat.le_refl _) _
            have XV := Lib.hid (VarA.new X2 HeldT #[.int .i64 0, .int .i64 0, .int .i64 0, .slice none 0 0, .slice none 0 0, .int .i64 0])
            have FX : Hid (X2.heap.size ∉ f2 ∧ q ≠ X2.heap.size ∧ w.heap.size + 2 ≤ X2.heap.size) := Lib.hid ⟨fun hm => by have := (layHeldS.blocks O8.out _ hm).2; omega, by omega, HB.out⟩
            have A410 : Hid (g3 ≠ X2.heap.size) := Lib.hid (by have h9 := (layStringS.blocks O3.out g3 (by simp)).2; omega)
            have A610 : Hid (g4 ≠ X2.heap.size) := Lib.hid (by have h9 := (layBoolS.blocks O4.out g4 (by simp)).2; omega)
            refine hK.out _ _ (Lib.hid (hHeld.out.trans (hal.mono (by have := LOW.out; omega)))) (fun hHeld => ?_)
            clear hK K hxs
            have hb := Lib.hid hal
            clear hal
            replace S8 := Lib.hid (S8.out.next hb.out)
            replace R8 := Lib.hid (R8.out.next hb.out)
            replace N8 := Lib.hid (N8.out.next hb.out)
            replace O8 := Lib.hid (layHeldS.next O8.out hb.out)
            replace HB := Lib.hid (Nat.le_trans HB.out hb.out.size)
            replace O3 := Lib.hid (layStringS.next O3.out hb.out)
            replace O4 := Lib.hid (layBoolS.next O4.out hb.out)
            clear hb
            generalize (X2.alloc (.cells #[.int .i64 0, .int .i64 0, .int .i64 0, .slice none 0 0, .slice none 0 0, .int .i64 0] HeldT)) = X3 at *
            generalize X2.heap.size = gx at *
            try simp only [Act.put, List.getElem_toArray, List.getElem_cons_succ, List.getElem_cons_zero, List.setIfInBounds_toArray, List.set_cons_zero, List.set_cons_succ]
            refine wpAnyH_ready (rs := [11]) (by kernel_rfl) (by simp) ?_
            refine AllReadyH.cons rfl (fun K hK => ?_) AllReadyH.nil
            have r0_ := XV.out.cell 0
            have r1_ := XV.out.cell 1
            have r2_ := XV.out.cell 2
            have r3_ := XV.out.cell 3
            have r4_ := XV.out.cell 4
            have r5_ := XV.out.cell 5
            have g0_ := XV.out.free 0
            have g1_ := XV.out.free 1
            have g2_ := XV.out.free 2
            have g3_ := XV.out.free 3
            have g4_ := XV.out.free 4
            have g5_ := XV.out.free 5
            go_simp
            have hc : Chg [gx] X3 ((((((X3.setCell ⟨gx, 0, none⟩ (.int .i64 fr)).setCell ⟨gx, 1, none⟩ (.int .i64 (d : Nat))).setCell ⟨gx, 2, none⟩ (.int .i64 (c : Nat))).setCell ⟨gx, 3, none⟩ (.slice (some ⟨g3, 0, none⟩) c c)).setCell ⟨gx, 4, none⟩ (.slice (some ⟨g4, 0, none⟩) c c)).setCell ⟨gx, 5, none⟩ (.int .i64 (now + 8))) := (Chg.cell _ _ _ _).trans2 ((Chg.cell _ _ _ _).trans2 ((Chg.cell _ _ _ _).trans2 ((Chg.cell _ _ _ _).trans2 ((Chg.cell _ _ _ _).trans2 (Chg.cell _ _ _ _)))))
            have hb9 := hHeld.out.trans (hc.below (b := w.heap.size) (by have := FX.out; simp; omega) (by have := HB.out; omega))
            have XV2 := XV.out.six (.int .i64 fr) (.int .i64 (d : Nat)) (.int .i64 (c : Nat)) (.slice (some ⟨g3, 0, none⟩) c c) (.slice (some ⟨g4, 0, none⟩) c c) (.int .i64 (now + 8))
            have h34 : g3 ≠ g4 := A64.out.symm
            have h3x : g3 ≠ gx := A410.out
            have h4x : g4 ≠ gx := A610.out
            have E : Hid (GAS w q gx (.slice a n2 p) (.slice a2 n2 c2) f2 [g3, g4] xs [.int .i64 fr, .int .i64 (d : Nat), .int .i64 (c : Nat), .slice (some ⟨g3, 0, none⟩) c c, .slice (some ⟨g4, 0, none⟩) c c, .int .i64 (now + 8)] (newV fr (d : Nat) (c : Nat) now) ((((((X3.setCell ⟨gx, 0, none⟩ (.int .i64 fr)).setCell ⟨gx, 1, none⟩ (.int .i64 (d : Nat))).setCell ⟨gx, 2, none⟩ (.int .i64 (c : Nat))).setCell ⟨gx, 3, none⟩ (.slice (some ⟨g3, 0, none⟩) c c)).setCell ⟨gx, 4, none⟩ (.slice (some ⟨g4, 0, none⟩) c c)).setCell ⟨gx, 5, none⟩ (.int .i64 (now + 8))) ∧ VarA gx HeldT #[.int .i64 fr, .int .i64 (d : Nat), .int .i64 (c : Nat), .slice (some ⟨g3, 0, none⟩) c c, .slice (some ⟨g4, 0, none⟩) c c, .int .i64 (now + 8)] ((((((X3.setCell ⟨gx, 0, none⟩ (.int .i64 fr)).setCell ⟨gx, 1, none⟩ (.int .i64 (d : Nat))).setCell ⟨gx, 2, none⟩ (.int .i64 (c : Nat))).setCell ⟨gx, 3, none⟩ (.slice (some ⟨g3, 0, none⟩) c c)).setCell ⟨gx, 4, none⟩ (.slice (some ⟨g4, 0, none⟩) c c)).setCell ⟨gx, 5, none⟩ (.int .i64 (now + 8)))) := Lib.hid ⟨⟨⟨(hc.block _ S8.out.lt (by have := FX.out; simp; omega)).trans S8.out.row⟩, ⟨(hc.block _ R8.out.lt (by have := FX.out; simp; omega)).trans R8.out.row⟩, ⟨(hc.block _ N8.out.lt (by have := FX.out; simp; omega)).trans N8.out.row⟩, HD8.out, layHeldS.chg O8.out hc (fun k hk hm => FX.out.1 (by rw [List.mem_singleton] at hm; rw [← hm]; exact hk)), layHeld_own.2 ⟨_, _, [g3], [g4], rfl, rfl, layStringS.chg O3.out hc (by simp; exact h3x), layBoolS.chg O4.out hc (by simp; exact h4x)⟩, (by simp; exact h34), (fun k hk => by simp at hk; rcases hk with rfl | rfl; exact F3.out.1; exact F4.out.1), ⟨FX.out.1, (by simp; exact ⟨h3x.symm, h4x.symm⟩), FX.out.2.1.symm⟩, ⟨FX.out.2.2, LOW.out⟩, XV2.lt, hb9⟩, XV2⟩
            refine hK.out _ _ (Lib.hid hb9) (fun hHeld => ?_)
            clear hK K r0_ g0_ r1_ g1_ r2_ g2_ r3_ g3_ r4_ g4_ r5_ g5_
            generalize ((((((X3.setCell ⟨gx, 0, none⟩ (.int .i64 fr)).setCell ⟨gx, 1, none⟩ (.int .i64 (d : Nat))).setCell ⟨gx, 2, none⟩ (.int .i64 (c : Nat))).setCell ⟨gx, 3, none⟩ (.slice (some ⟨g3, 0, none⟩) c c)).setCell ⟨gx, 4, none⟩ (.slice (some ⟨g4, 0, none⟩) c c)).setCell ⟨gx, 5, none⟩ (.int .i64 (now + 8))) = X4 at *
            try simp only [Act.put, List.getElem_toArray, List.getElem_cons_succ, List.getElem_cons_zero, List.setIfInBounds_toArray, List.set_cons_zero, List.set_cons_succ]
            refine wpAnyH_done (by kernel_rfl) ?_ _
            clear hHeld
            go_wp2_with fail
            go_meet
            exact ⟨gx, g3, g4, rfl, E⟩
          · go_simp
            have hxs : q < X1.heap.size := N8.out.lt
            have hal : Below X1.heap.size X1 (X1.alloc (.cells #[.int .i64 0, .int .i64 0, .int .i64 0, .slice none 0 0, .slice none 0 0, .int .i64 0] HeldT)) := (Below.refl _ _).alloc (Nat.le_refl _) _
            have XV := Lib.hid (VarA.new X1 HeldT #[.int .i64 0, .int .i64 0, .int .i64 0, .slice none 0 0, .slice none 0 0, .int .i64 0])
            have FX : Hid (X1.heap.size ∉ f2 ∧ q ≠ X1.heap.size ∧ w.heap.size + 2 ≤ X1.heap.size) := Lib.hid ⟨fun hm => by have := (layHeldS.blocks O8.out _ hm).2; omega, by omega, HB.out⟩
            have A610 : Hid (g4 ≠ X1.heap.size) := Lib.hid (by have h9 := (layBoolS.blocks O4.out g4 (by simp)).2; omega)
            refine hK.out _ _ (Lib.hid (hHeld.out.trans (hal.mono (by have := LOW.out; omega)))) (fun hHeld => ?_)
            clear hK K hxs
            have hb := Lib.hid hal
            clear hal
            replace S8 := Lib.hid (S8.out.next hb.out)
            replace R8 := Lib.hid (R8.out.next hb.out)
            replace N8 := Lib.hid (N8.out.next hb.out)
            replace O8 := Lib.hid (layHeldS.next O8.out hb.out)
            replace HB := Lib.hid (Nat.le_trans HB.out hb.out.size)
            replace O4 := Lib.hid (layBoolS.next O4.out hb.out)
            clear hb
            generalize (X1.alloc (.cells #[.int .i64 0, .int .i64 0, .int .i64 0, .slice none 0 0, .slice none 0 0, .int .i64 0] HeldT)) = X2 at *
            generalize X1.heap.size = gx at *
            try simp only [Act.put, List.getElem_toArray, List.getElem_cons_succ, List.getElem_cons_zero, List.setIfInBounds_toArray, List.set_cons_zero, List.set_cons_succ]
            refine wpAnyH_ready (rs := [4]) (by kernel_rfl) (by simp) ?_
            refine AllReadyH.cons rfl (fun K hK => ?_) AllReadyH.nil
            have hxs : q < X2.heap.size := N8.out.lt
            refine step_make rfl (.tmp 65) (.tmp 65) 32 rfl (w.heap.size + 2) StringT i3 (.string ⟨#[]⟩) 1 Try.underlying32 hi3 hz3 hs3 .i64 .i64 c (by rfl) (by rfl) (by rw [hb3]; omega) (by unfold maxLen; omega) HB.out ?_
            intro X3 hown1 hg1
            have hb : Hid (Below X2.heap.size X2 X3) := Lib.hid (below_grown hg1 (fun k h => by cases h) (Nat.le_refl _))
            have O3 : Hid (layStringS.own X3 (w.heap.size + 2) [X2.heap.size] [.slice (some ⟨X2.heap.size, 0, none⟩) c c] (List.replicate c ⟨#[]⟩)) := Lib.hid (rows_made (A := layString) hown1 rfl (flatString.own _ _ _ _ (layString_rd.2 rfl)))
            have F3 : Hid (X2.heap.size ∉ f2 ∧ q ≠ X2.heap.size) := Lib.hid ⟨fun hm => by have := (layHeldS.blocks O8.out _ hm).2; omega, by omega⟩
            have A64 : Hid (g4 ≠ X2.heap.size) := Lib.hid (by have h9 := (layBoolS.blocks O4.out g4 (by simp)).2; omega)
            have A104 : Hid (gx ≠ X2.heap.size) := Lib.hid (by have h9 := XV.out.lt; omega)
            refine hK.out _ _ (Lib.hid (hHeld.out.trans (hb.out.mono (by have := LOW.out; omega)))) (fun hHeld => ?_)
            clear hK K hown1 hg1 hxs
            replace S8 := Lib.hid (S8.out.next hb.out)
            replace R8 := Lib.hid (R8.out.next hb.out)
            replace N8 := Lib.hid (N8.out.next hb.out)
            replace O8 := Lib.hid (layHeldS.next O8.out hb.out)
            replace HB := Lib.hid (Nat.le_trans HB.out hb.out.size)
            replace O4 := Lib.hid (layBoolS.next O4.out hb.out)
            replace XV := Lib.hid (XV.out.next hb.out)
            clear hb
            generalize X2.heap.size = g3 at *
            try simp only [Act.put, List.getElem_toArray, List.getElem_cons_succ, List.getElem_cons_zero, List.setIfInBounds_toArray, List.set_cons_zero, List.set_cons_succ]
            refine wpAnyH_take (i := 9) (v := ?_) rfl (by kernel_rfl) (by kernel_rfl) (by kernel_rfl) (fun _ _ _ h => h) (Or.inl ⟨by kernel_rfl, ?_⟩) hHeld ?_
            rotate_left
            · intro X hX
              first | (go_simp; done) | (go_simp; with_reducible rfl)
            try simp only [Act.put, List.getElem_toArray, List.getElem_cons_succ, List.getElem_cons_zero, List.setIfInBounds_toArray, List.set_cons_zero, List.set_cons_succ]
            refine wpAnyH_ready (rs := [11]) (by kernel_rfl) (by simp) ?_
            refine AllReadyH.cons rfl (fun K hK => ?_) AllReadyH.nil
            have r0_ := XV.out.cell 0
            have r1_ := XV.out.cell 1
            have r2_ := XV.out.cell 2
            have r3_ := XV.out.cell 3
            have r4_ := XV.out.cell 4
            have r5_ := XV.out.cell 5
            have g0_ := XV.out.free 0
            have g1_ := XV.out.free 1
            have g2_ := XV.out.free 2
            have g3_ := XV.out.free 3
            have g4_ := XV.out.free 4
            have g5_ := XV.out.free 5
            go_simp
            have hc : Chg [gx] X3 ((((((X3.setCell ⟨gx, 0, none⟩ (.int .i64 fr)).setCell ⟨gx, 1, none⟩ (.int .i64 (d : Nat))).setCell ⟨gx, 2, none⟩ (.int .i64 (c : Nat))).setCell ⟨gx, 3, none⟩ (.slice (some ⟨g3, 0, none⟩) c c)).setCell ⟨gx, 4, none⟩ (.slice (some ⟨g4, 0, none⟩) c c)).setCell ⟨gx, 5, none⟩ (.int .i64 (now + 8))) := (Chg.cell _ _ _ _).trans2 ((Chg.cell _ _ _ _).trans2 ((Chg.cell _ _ _ _).trans2 ((Chg.cell _ _ _ _).trans2 ((Chg.cell _ _ _ _).trans2 (Chg.cell _ _ _ _)))))
            have hb9 := hHeld.out.trans (hc.below (b := w.heap.size) (by have := FX.out; simp; omega) (by have := HB.out; omega))
            have XV2 := XV.out.six (.int .i64 fr) (.int .i64 (d : Nat)) (.int .i64 (c : Nat)) (.slice (some ⟨g3, 0, none⟩) c c) (.slice (some ⟨g4, 0, none⟩) c c) (.int .i64 (now + 8))
            have h34 : g3 ≠ g4 := A64.out.symm
            have h3x : g3 ≠ gx := A104.out.symm
            have h4x : g4 ≠ gx := A610.out
            have E : Hid (GAS w q gx (.slice a n2 p) (.slice a2 n2 c2) f2 [g3, g4] xs [.int .i64 fr, .int .i64 (d : Nat), .int .i64 (c : Nat), .slice (some ⟨g3, 0, none⟩) c c, .slice (some ⟨g4, 0, none⟩) c c, .int .i64 (now + 8)] (newV fr (d : Nat) (c : Nat) now) ((((((X3.setCell ⟨gx, 0, none⟩ (.int .i64 fr)).setCell ⟨gx, 1, none⟩ (.int .i64 (d : Nat))).setCell ⟨gx, 2, none⟩ (.int .i64 (c : Nat))).setCell ⟨gx, 3, none⟩ (.slice (some ⟨g3, 0, none⟩) c c)).setCell ⟨gx, 4, none⟩ (.slice (some ⟨g4, 0, none⟩) c c)).setCell ⟨gx, 5, none⟩ (.int .i64 (now + 8))) ∧ VarA gx HeldT #[.int .i64 fr, .int .i64 (d : Nat), .int .i64 (c : Nat), .slice (some ⟨g3, 0, none⟩) c c, .slice (some ⟨g4, 0, none⟩) c c, .int .i64 (now + 8)] ((((((X3.setCell ⟨gx, 0, none⟩ (.int .i64 fr)).setCell ⟨gx, 1, none⟩ (.int .i64 (d : Nat))).setCell ⟨gx, 2, none⟩ (.int .i64 (c : Nat))).setCell ⟨gx, 3, none⟩ (.slice (some ⟨g3, 0, none⟩) c c)).setCell ⟨gx, 4, none⟩ (.slice (some ⟨g4, 0, none⟩) c c)).setCell ⟨gx, 5, none⟩ (.int .i64 (now + 8)))) := Lib.hid ⟨⟨⟨(hc.block _ S8.out.lt (by have := FX.out; simp; omega)).trans S8.out.row⟩, ⟨(hc.block _ R8.out.lt (by have := FX.out; simp; omega)).trans R8.out.row⟩, ⟨(hc.block _ N8.out.lt (by have := FX.out; simp; omega)).trans N8.out.row⟩, HD8.out, layHeldS.chg O8.out hc (fun k hk hm => FX.out.1 (by rw [List.mem_singleton] at hm; rw [← hm]; exact hk)), layHeld_own.2 ⟨_, _, [g3], [g4], rfl, rfl, layStringS.chg O3.out hc (by simp; exact h3x), layBoolS.chg O4.out hc (by simp; exact h4x)⟩, (by simp; exact h34), (fun k hk => by simp at hk; rcases hk with rfl | rfl; exact F3.out.1; exact F4.out.1), ⟨FX.out.1, (by simp; exact ⟨h3x.symm, h4x.symm⟩), FX.out.2.1.symm⟩, ⟨FX.out.2.2, LOW.out⟩, XV2.lt, hb9⟩, XV2⟩
            refine hK.out _ _ (Lib.hid hb9) (fun hHeld => ?_)
            clear hK K r0_ g0_ r1_ g1_ r2_ g2_ r3_ g3_ r4_ g4_ r5_ g5_
            generalize ((((((X3.setCell ⟨gx, 0, none⟩ (.int .i64 fr)).setCell ⟨gx, 1, none⟩ (.int .i64 (d : Nat))).setCell ⟨gx, 2, none⟩ (.int .i64 (c : Nat))).setCell ⟨gx, 3, none⟩ (.slice (some ⟨g3, 0, none⟩) c c)).setCell ⟨gx, 4, none⟩ (.slice (some ⟨g4, 0, none⟩) c c)).setCell ⟨gx, 5, none⟩ (.int .i64 (now + 8))) = X4 at *
            try simp only [Act.put, List.getElem_toArray, List.getElem_cons_succ, List.getElem_cons_zero, List.setIfInBounds_toArray, List.set_cons_zero, List.set_cons_succ]
            refine wpAnyH_done (by kernel_rfl) ?_ _
            clear hHeld
            go_wp2_with fail
            go_meet
            exact ⟨gx, g3, g4, rfl, E⟩
        · go_simp
          have hxs : q < X0.heap.size := N8.out.lt
          have hal : Below X0.heap.size X0 (X0.alloc (.cells #[.int .i64 0, .int .i64 0, .int .i64 0, .slice none 0 0, .slice none 0 0, .int .i64 0] HeldT)) := (Below.refl _ _).alloc (Nat.le_refl _) _
          have XV := Lib.hid (VarA.new X0 HeldT #[.int .i64 0, .int .i64 0, .int .i64 0, .slice none 0 0, .slice none 0 0, .int .i64 0])
          have FX : Hid (X0.heap.size ∉ f2 ∧ q ≠ X0.heap.size ∧ w.heap.size + 2 ≤ X0.heap.size) := Lib.hid ⟨fun hm => by have := (layHeldS.blocks O8.out _ hm).2; omega, by omega, HB.out⟩
          refine hK.out _ _ (Lib.hid (hHeld.out.trans (hal.mono (by have := LOW.out; omega)))) (fun hHeld => ?_)
          clear hK K hxs
          have hb := Lib.hid hal
          clear hal
          replace S8 := Lib.hid (S8.out.next hb.out)
          replace R8 := Lib.hid (R8.out.next hb.out)
          replace N8 := Lib.hid (N8.out.next hb.out)
          replace O8 := Lib.hid (layHeldS.next O8.out hb.out)
          replace HB := Lib.hid (Nat.le_trans HB.out hb.out.size)
          clear hb
          generalize (X0.alloc (.cells #[.int .i64 0, .int .i64 0, .int .i64 0, .slice none 0 0, .slice none 0 0, .int .i64 0] HeldT)) = X1 at *
          generalize X0.heap.size = gx at *
          try simp only [Act.put, List.getElem_toArray, List.getElem_cons_succ, List.getElem_cons_zero, List.setIfInBounds_toArray, List.set_cons_zero, List.set_cons_succ]
          refine wpAnyH_ready (rs := [4, 6]) (by kernel_rfl) (by simp) ?_
          refine AllReadyH.cons rfl (fun K hK => ?_) (AllReadyH.cons rfl (fun K hK => ?_) AllReadyH.nil)
          · have hxs : q < X1.heap.size := N8.out.lt
            refine step_make rfl (.tmp 65) (.tmp 65) 32 rfl (w.heap.size + 2) StringT i3 (.string ⟨#[]⟩) 1 Try.underlying32 hi3 hz3 hs3 .i64 .i64 c (by rfl) (by rfl) (by rw [hb3]; omega) (by unfold maxLen; omega) HB.out ?_
            intro X2 hown1 hg1
            have hb : Hid (Below X1.heap.size X1 X2) := Lib.hid (below_grown hg1 (fun k h => by cases h) (Nat.le_refl _))
            have O3 : Hid (layStringS.own X2 (w.heap.size + 2) [X1.heap.size] [.slice (some ⟨X1.heap.size, 0, none⟩) c c] (List.replicate c ⟨#[]⟩)) := Lib.hid (rows_made (A := layString) hown1 rfl (flatString.own _ _ _ _ (layString_rd.2 rfl)))
            have F3 : Hid (X1.heap.size ∉ f2 ∧ q ≠ X1.heap.size) := Lib.hid ⟨fun hm => by have := (layHeldS.blocks O8.out _ hm).2; omega, by omega⟩
            have A104 : Hid (gx ≠ X1.heap.size) := Lib.hid (by have h9 := XV.out.lt; omega)
            refine hK.out _ _ (Lib.hid (hHeld.out.trans (hb.out.mono (by have := LOW.out; omega)))) (fun hHeld => ?_)
            clear hK K hown1 hg1 hxs
            replace S8 := Lib.hid (S8.out.next hb.out)
            replace R8 := Lib.hid (R8.out.next hb.out)
            replace N8 := Lib.hid (N8.out.next hb.out)
            replace O8 := Lib.hid (layHeldS.next O8.out hb.out)
            replace HB := Lib.hid (Nat.le_trans HB.out hb.out.size)
            replace XV := Lib.hid (XV.out.next hb.out)
            clear hb
            generalize X1.heap.size = g3 at *
            try simp only [Act.put, List.getElem_toArray, List.getElem_cons_succ, List.getElem_cons_zero, List.setIfInBounds_toArray, List.set_cons_zero, List.set_cons_succ]
            refine wpAnyH_ready (rs := [6]) (by kernel_rfl) (by simp) ?_
            refine AllReadyH.cons rfl (fun K hK => ?_) AllReadyH.nil
            have hxs : q < X2.heap.size := N8.out.lt
            refine step_make rfl (.tmp 67) (.tmp 67) 33 rfl (w.heap.size + 2) 4 i4 (.bool false) 1 Try.underlying33 hi4 hz4 hs4 .i64 .i64 c (by rfl) (by rfl) (by rw [hb4]; omega) (by unfold maxLen; omega) HB.out ?_
            intro X3 hown1 hg1
            have hb : Hid (Below X2.heap.size X2 X3) := Lib.hid (below_grown hg1 (fun k h => by cases h) (Nat.le_refl _))
            have O4 : Hid (layBoolS.own X3 (w.heap.size + 2) [X2.heap.size] [.slice (some ⟨X2.heap.size, 0, none⟩) c c] (List.replicate c false)) := Lib.hid (rows_made (A := Lay.bool) hown1 rfl (bool_own.2 ⟨rfl, rfl⟩))
            have F4 : Hid (X2.heap.size ∉ f2 ∧ q ≠ X2.heap.size) := Lib.hid ⟨fun hm => by have := (layHeldS.blocks O8.out _ hm).2; omega, by omega⟩
            have A46 : Hid (g3 ≠ X2.heap.size) := Lib.hid (by have h9 := (layStringS.blocks O3.out g3 (by simp)).2; omega)
            have A106 : Hid (gx ≠ X2.heap.size) := Lib.hid (by have h9 := XV.out.lt; omega)
            refine hK.out _ _ (Lib.hid (hHeld.out.trans (hb.out.mono (by have := LOW.out; omega)))) (fun hHeld => ?_)
            clear hK K hown1 hg1 hxs
            replace S8 := Lib.hid (S8.out.next hb.out)
            replace R8 := Lib.hid (R8.out.next hb.out)
            replace N8 := Lib.hid (N8.out.next hb.out)
            replace O8 := Lib.hid (layHeldS.next O8.out hb.out)
            replace HB := Lib.hid (Nat.le_trans HB.out hb.out.size)
            replace O3 := Lib.hid (layStringS.next O3.out hb.out)
            replace XV := Lib.hid (XV.out.next hb.out)
            clear hb
            generalize X2.heap.size = g4 at *
            try simp only [Act.put, List.getElem_toArray, List.getElem_cons_succ, List.getElem_cons_zero, List.setIfInBounds_toArray, List.set_cons_zero, List.set_cons_succ]
            refine wpAnyH_take (i := 9) (v := ?_) rfl (by kernel_rfl) (by kernel_rfl) (by kernel_rfl) (fun _ _ _ h => h) (Or.inl ⟨by kernel_rfl, ?_⟩) hHeld ?_
            rotate_left
            · intro X hX
              first | (go_simp; done) | (go_simp; with_reducible rfl)
            try simp only [Act.put, List.getElem_toArray, List.getElem_cons_succ, List.getElem_cons_zero, List.setIfInBounds_toArray, List.set_cons_zero, List.set_cons_succ]
            refine wpAnyH_ready (rs := [11]) (by kernel_rfl) (by simp) ?_
            refine AllReadyH.cons rfl (fun K hK => ?_) AllReadyH.nil
            have r0_ := XV.out.cell 0
            have r1_ := XV.out.cell 1
            have r2_ := XV.out.cell 2
            have r3_ := XV.out.cell 3
            have r4_ := XV.out.cell 4
            have r5_ := XV.out.cell 5
            have g0_ := XV.out.free 0
            have g1_ := XV.out.free 1
            have g2_ := XV.out.free 2
            have g3_ := XV.out.free 3
            have g4_ := XV.out.free 4
            have g5_ := XV.out.free 5
            go_simp
            have hc : Chg [gx] X3 ((((((X3.setCell ⟨gx, 0, none⟩ (.int .i64 fr)).setCell ⟨gx, 1, none⟩ (.int .i64 (d : Nat))).setCell ⟨gx, 2, none⟩ (.int .i64 (c : Nat))).setCell ⟨gx, 3, none⟩ (.slice (some ⟨g3, 0, none⟩) c c)).setCell ⟨gx, 4, none⟩ (.slice (some ⟨g4, 0, none⟩) c c)).setCell ⟨gx, 5, none⟩ (.int .i64 (now + 8))) := (Chg.cell _ _ _ _).trans2 ((Chg.cell _ _ _ _).trans2 ((Chg.cell _ _ _ _).trans2 ((Chg.cell _ _ _ _).trans2 ((Chg.cell _ _ _ _).trans2 (Chg.cell _ _ _ _)))))
            have hb9 := hHeld.out.trans (hc.below (b := w.heap.size) (by have := FX.out; simp; omega) (by have := HB.out; omega))
            have XV2 := XV.out.six (.int .i64 fr) (.int .i64 (d : Nat)) (.int .i64 (c : Nat)) (.slice (some ⟨g3, 0, none⟩) c c) (.slice (some ⟨g4, 0, none⟩) c c) (.int .i64 (now + 8))
            have h34 : g3 ≠ g4 := A46.out
            have h3x : g3 ≠ gx := A104.out.symm
            have h4x : g4 ≠ gx := A106.out.symm
            have E : Hid (GAS w q gx (.slice a n2 p) (.slice a2 n2 c2) f2 [g3, g4] xs [.int .i64 fr, .int .i64 (d : Nat), .int .i64 (c : Nat), .slice (some ⟨g3, 0, none⟩) c c, .slice (some ⟨g4, 0, none⟩) c c, .int .i64 (now + 8)] (newV fr (d : Nat) (c : Nat) now) ((((((X3.setCell ⟨gx, 0, none⟩ (.int .i64 fr)).setCell ⟨gx, 1, none⟩ (.int .i64 (d : Nat))).setCell ⟨gx, 2, none⟩ (.int .i64 (c : Nat))).setCell ⟨gx, 3, none⟩ (.slice (some ⟨g3, 0, none⟩) c c)).setCell ⟨gx, 4, none⟩ (.slice (some ⟨g4, 0, none⟩) c c)).setCell ⟨gx, 5, none⟩ (.int .i64 (now + 8))) ∧ VarA gx HeldT #[.int .i64 fr, .int .i64 (d : Nat), .int .i64 (c : Nat), .slice (some ⟨g3, 0, none⟩) c c, .slice (some ⟨g4, 0, none⟩) c c, .int .i64 (now + 8)] ((((((X3.setCell ⟨gx, 0, none⟩ (.int .i64 fr)).setCell ⟨gx, 1, none⟩ (.int .i64 (d : Nat))).setCell ⟨gx, 2, none⟩ (.int .i64 (c : Nat))).setCell ⟨gx, 3, none⟩ (.slice (some ⟨g3, 0, none⟩) c c)).setCell ⟨gx, 4, none⟩ (.slice (some ⟨g4, 0, none⟩) c c)).setCell ⟨gx, 5, none⟩ (.int .i64 (now + 8)))) := Lib.hid ⟨⟨⟨(hc.block _ S8.out.lt (by have := FX.out; simp; omega)).trans S8.out.row⟩, ⟨(hc.block _ R8.out.lt (by have := FX.out; simp; omega)).trans R8.out.row⟩, ⟨(hc.block _ N8.out.lt (by have := FX.out; simp; omega)).trans N8.out.row⟩, HD8.out, layHeldS.chg O8.out hc (fun k hk hm => FX.out.1 (by rw [List.mem_singleton] at hm; rw [← hm]; exact hk)), layHeld_own.2 ⟨_, _, [g3], [g4], rfl, rfl, layStringS.chg O3.out hc (by simp; exact h3x), layBoolS.chg O4.out hc (by simp; exact h4x)⟩, (by simp; exact h34), (fun k hk => by simp at hk; rcases hk with rfl | rfl; exact F3.out.1; exact F4.out.1), ⟨FX.out.1, (by simp; exact ⟨h3x.symm, h4x.symm⟩), FX.out.2.1.symm⟩, ⟨FX.out.2.2, LOW.out⟩, XV2.lt, hb9⟩, XV2⟩
            refine hK.out _ _ (Lib.hid hb9) (fun hHeld => ?_)
            clear hK K r0_ g0_ r1_ g1_ r2_ g2_ r3_ g3_ r4_ g4_ r5_ g5_
            generalize ((((((X3.setCell ⟨gx, 0, none⟩ (.int .i64 fr)).setCell ⟨gx, 1, none⟩ (.int .i64 (d : Nat))).setCell ⟨gx, 2, none⟩ (.int .i64 (c : Nat))).setCell ⟨gx, 3, none⟩ (.slice (some ⟨g3, 0, none⟩) c c)).setCell ⟨gx, 4, none⟩ (.slice (some ⟨g4, 0, none⟩) c c)).setCell ⟨gx, 5, none⟩ (.int .i64 (now + 8))) = X4 at *
            try simp only [Act.put, List.getElem_toArray, List.getElem_cons_succ, List.getElem_cons_zero, List.setIfInBounds_toArray, List.set_cons_zero, List.set_cons_succ]
            refine wpAnyH_done (by kernel_rfl) ?_ _
            clear hHeld
            go_wp2_with fail
            go_meet
            exact ⟨gx, g3, g4, rfl, E⟩
          · have hxs : q < X1.heap.size := N8.out.lt
            refine step_make rfl (.tmp 67) (.tmp 67) 33 rfl (w.heap.size + 2) 4 i4 (.bool false) 1 Try.underlying33 hi4 hz4 hs4 .i64 .i64 c (by rfl) (by rfl) (by rw [hb4]; omega) (by unfold maxLen; omega) HB.out ?_
            intro X2 hown1 hg1
            have hb : Hid (Below X1.heap.size X1 X2) := Lib.hid (below_grown hg1 (fun k h => by cases h) (Nat.le_refl _))
            have O4 : Hid (layBoolS.own X2 (w.heap.size + 2) [X1.heap.size] [.slice (some ⟨X1.heap.size, 0, none⟩) c c] (List.replicate c false)) := Lib.hid (rows_made (A := Lay.bool) hown1 rfl (bool_own.2 ⟨rfl, rfl⟩))
            have F4 : Hid (X1.heap.size ∉ f2 ∧ q ≠ X1.heap.size) := Lib.hid ⟨fun hm => by have := (layHeldS.blocks O8.out _ hm).2; omega, by omega⟩
            have A106 : Hid (gx ≠ X1.heap.size) := Lib.hid (by have h9 := XV.out.lt; omega)
            refine hK.out _ _ (Lib.hid (hHeld.out.trans (hb.out.mono (by have := LOW.out; omega)))) (fun hHeld => ?_)
            clear hK K hown1 hg1 hxs
            replace S8 := Lib.hid (S8.out.next hb.out)
            replace R8 := Lib.hid (R8.out.next hb.out)
            replace N8 := Lib.hid (N8.out.next hb.out)
            replace O8 := Lib.hid (layHeldS.next O8.out hb.out)
            replace HB := Lib.hid (Nat.le_trans HB.out hb.out.size)
            replace XV := Lib.hid (XV.out.next hb.out)
            clear hb
            generalize X1.heap.size = g4 at *
            try simp only [Act.put, List.getElem_toArray, List.getElem_cons_succ, List.getElem_cons_zero, List.setIfInBounds_toArray, List.set_cons_zero, List.set_cons_succ]
            refine wpAnyH_ready (rs := [4]) (by kernel_rfl) (by simp) ?_
            refine AllReadyH.cons rfl (fun K hK => ?_) AllReadyH.nil
            have hxs : q < X2.heap.size := N8.out.lt
            refine step_make rfl (.tmp 65) (.tmp 65) 32 rfl (w.heap.size + 2) StringT i3 (.string ⟨#[]⟩) 1 Try.underlying32 hi3 hz3 hs3 .i64 .i64 c (by rfl) (by rfl) (by rw [hb3]; omega) (by unfold maxLen; omega) HB.out ?_
            intro X3 hown1 hg1
            have hb : Hid (Below X2.heap.size X2 X3) := Lib.hid (below_grown hg1 (fun k h => by cases h) (Nat.le_refl _))
            have O3 : Hid (layStringS.own X3 (w.heap.size + 2) [X2.heap.size] [.slice (some ⟨X2.heap.size, 0, none⟩) c c] (List.replicate c ⟨#[]⟩)) := Lib.hid (rows_made (A := layString) hown1 rfl (flatString.own _ _ _ _ (layString_rd.2 rfl)))
            have F3 : Hid (X2.heap.size ∉ f2 ∧ q ≠ X2.heap.size) := Lib.hid ⟨fun hm => by have := (layHeldS.blocks O8.out _ hm).2; omega, by omega⟩
            have A64 : Hid (g4 ≠ X2.heap.size) := Lib.hid (by have h9 := (layBoolS.blocks O4.out g4 (by simp)).2; omega)
            have A104 : Hid (gx ≠ X2.heap.size) := Lib.hid (by have h9 := XV.out.lt; omega)
            refine hK.out _ _ (Lib.hid (hHeld.out.trans (hb.out.mono (by have := LOW.out; omega)))) (fun hHeld => ?_)
            clear hK K hown1 hg1 hxs
            replace S8 := Lib.hid (S8.out.next hb.out)
            replace R8 := Lib.hid (R8.out.next hb.out)
            replace N8 := Lib.hid (N8.out.next hb.out)
            replace O8 := Lib.hid (layHeldS.next O8.out hb.out)
            replace HB := Lib.hid (Nat.le_trans HB.out hb.out.size)
            replace O4 := Lib.hid (layBoolS.next O4.out hb.out)
            replace XV := Lib.hid (XV.out.next hb.out)
            clear hb
            generalize X2.heap.size = g3 at *
            try simp only [Act.put, List.getElem_toArray, List.getElem_cons_succ, List.getElem_cons_zero, List.setIfInBounds_toArray, List.set_cons_zero, List.set_cons_succ]
            refine wpAnyH_take (i := 9) (v := ?_) rfl (by kernel_rfl) (by kernel_rfl) (by kernel_rfl) (fun _ _ _ h => h) (Or.inl ⟨by kernel_rfl, ?_⟩) hHeld ?_
            rotate_left
            · intro X hX
              first | (go_simp; done) | (go_simp; with_reducible rfl)
            try simp only [Act.put, List.getElem_toArray, List.getElem_cons_succ, List.getElem_cons_zero, List.setIfInBounds_toArray, List.set_cons_zero, List.set_cons_succ]
            refine wpAnyH_ready (rs := [11]) (by kernel_rfl) (by simp) ?_
            refine AllReadyH.cons rfl (fun K hK => ?_) AllReadyH.nil
            have r0_ := XV.out.cell 0
            have r1_ := XV.out.cell 1
            have r2_ := XV.out.cell 2
            have r3_ := XV.out.cell 3
            have r4_ := XV.out.cell 4
            have r5_ := XV.out.cell 5
            have g0_ := XV.out.free 0
            have g1_ := XV.out.free 1
            have g2_ := XV.out.free 2
            have g3_ := XV.out.free 3
            have g4_ := XV.out.free 4
            have g5_ := XV.out.free 5
            go_simp
            have hc : Chg [gx] X3 ((((((X3.setCell ⟨gx, 0, none⟩ (.int .i64 fr)).setCell ⟨gx, 1, none⟩ (.int .i64 (d : Nat))).setCell ⟨gx, 2, none⟩ (.int .i64 (c : Nat))).setCell ⟨gx, 3, none⟩ (.slice (some ⟨g3, 0, none⟩) c c)).setCell ⟨gx, 4, none⟩ (.slice (some ⟨g4, 0, none⟩) c c)).setCell ⟨gx, 5, none⟩ (.int .i64 (now + 8))) := (Chg.cell _ _ _ _).trans2 ((Chg.cell _ _ _ _).trans2 ((Chg.cell _ _ _ _).trans2 ((Chg.cell _ _ _ _).trans2 ((Chg.cell _ _ _ _).trans2 (Chg.cell _ _ _ _)))))
            have hb9 := hHeld.out.trans (hc.below (b := w.heap.size) (by have := FX.out; simp; omega) (by have := HB.out; omega))
            have XV2 := XV.out.six (.int .i64 fr) (.int .i64 (d : Nat)) (.int .i64 (c : Nat)) (.slice (some ⟨g3, 0, none⟩) c c) (.slice (some ⟨g4, 0, none⟩) c c) (.int .i64 (now + 8))
            have h34 : g3 ≠ g4 := A64.out.symm
            have h3x : g3 ≠ gx := A104.out.symm
            have h4x : g4 ≠ gx := A106.out.symm
            have E : Hid (GAS w q gx (.slice a n2 p) (.slice a2 n2 c2) f2 [g3, g4] xs [.int .i64 fr, .int .i64 (d : Nat), .int .i64 (c : Nat), .slice (some ⟨g3, 0, none⟩) c c, .slice (some ⟨g4, 0, none⟩) c c, .int .i64 (now + 8)] (newV fr (d : Nat) (c : Nat) now) ((((((X3.setCell ⟨gx, 0, none⟩ (.int .i64 fr)).setCell ⟨gx, 1, none⟩ (.int .i64 (d : Nat))).setCell ⟨gx, 2, none⟩ (.int .i64 (c : Nat))).setCell ⟨gx, 3, none⟩ (.slice (some ⟨g3, 0, none⟩) c c)).setCell ⟨gx, 4, none⟩ (.slice (some ⟨g4, 0, none⟩) c c)).setCell ⟨gx, 5, none⟩ (.int .i64 (now + 8))) ∧ VarA gx HeldT #[.int .i64 fr, .int .i64 (d : Nat), .int .i64 (c : Nat), .slice (some ⟨g3, 0, none⟩) c c, .slice (some ⟨g4, 0, none⟩) c c, .int .i64 (now + 8)] ((((((X3.setCell ⟨gx, 0, none⟩ (.int .i64 fr)).setCell ⟨gx, 1, none⟩ (.int .i64 (d : Nat))).setCell ⟨gx, 2, none⟩ (.int .i64 (c : Nat))).setCell ⟨gx, 3, none⟩ (.slice (some ⟨g3, 0, none⟩) c c)).setCell ⟨gx, 4, none⟩ (.slice (some ⟨g4, 0, none⟩) c c)).setCell ⟨gx, 5, none⟩ (.int .i64 (now + 8)))) := Lib.hid ⟨⟨⟨(hc.block _ S8.out.lt (by have := FX.out; simp; omega)).trans S8.out.row⟩, ⟨(hc.block _ R8.out.lt (by have := FX.out; simp; omega)).trans R8.out.row⟩, ⟨(hc.block _ N8.out.lt (by have := FX.out; simp; omega)).trans N8.out.row⟩, HD8.out, layHeldS.chg O8.out hc (fun k hk hm => FX.out.1 (by rw [List.mem_singleton] at hm; rw [← hm]; exact hk)), layHeld_own.2 ⟨_, _, [g3], [g4], rfl, rfl, layStringS.chg O3.out hc (by simp; exact h3x), layBoolS.chg O4.out hc (by simp; exact h4x)⟩, (by simp; exact h34), (fun k hk => by simp at hk; rcases hk with rfl | rfl; exact F3.out.1; exact F4.out.1), ⟨FX.out.1, (by simp; exact ⟨h3x.symm, h4x.symm⟩), FX.out.2.1.symm⟩, ⟨FX.out.2.2, LOW.out⟩, XV2.lt, hb9⟩, XV2⟩
            refine hK.out _ _ (Lib.hid hb9) (fun hHeld => ?_)
            clear hK K r0_ g0_ r1_ g1_ r2_ g2_ r3_ g3_ r4_ g4_ r5_ g5_
            generalize ((((((X3.setCell ⟨gx, 0, none⟩ (.int .i64 fr)).setCell ⟨gx, 1, none⟩ (.int .i64 (d : Nat))).setCell ⟨gx, 2, none⟩ (.int .i64 (c : Nat))).setCell ⟨gx, 3, none⟩ (.slice (some ⟨g3, 0, none⟩) c c)).setCell ⟨gx, 4, none⟩ (.slice (some ⟨g4, 0, none⟩) c c)).setCell ⟨gx, 5, none⟩ (.int .i64 (now + 8))) = X4 at *
            try simp only [Act.put, List.getElem_toArray, List.getElem_cons_succ, List.getElem_cons_zero, List.setIfInBounds_toArray, List.set_cons_zero, List.set_cons_succ]
            refine wpAnyH_done (by kernel_rfl) ?_ _
            clear hHeld
            go_wp2_with fail
            go_meet
            exact ⟨gx, g3, g4, rfl, E⟩
      case rest =>
        obtain ⟨gx, g3, g4, rfl, hcc⟩ := hcut
        have HG := Lib.hid hcc.out.1
        have XV := Lib.hid hcc.out.2
        clear hcc D OS
        obtain ⟨zs, hzx, hzraw, hzown, hzp⟩ := own_raw HG.out.own HG.out.dup
        have hzl : zs.length = n2 := by rw [← HN2.out, hzx, List.length_map]
        have HZX := Lib.hid hzx
        have HRAW := Lib.hid hzraw
        have HOWN := Lib.hid hzown
        have HZP := Lib.hid hzp
        have HZL := Lib.hid hzl
        have HSZ : Hid (ShelfP (zs.map (fun z => z.2.1))) := Lib.hid (by rw [← hzx]; exact HSP.out)
        have hn3 : n2 ≤ 3 := by have := HSP.out.1; have := HN2.out; omega
        clear hzx hzraw hzown hzp hzl
        generalize wc = Z at *
        have hal : Below Z.heap.size Z (Z.alloc (.cells #[] HeldT)) := (Below.refl _ _).alloc (Nat.le_refl _) _
        have RO0 : Hid (rawHeld.own (Z.alloc (.cells #[] HeldT)) Z.heap.size [Z.heap.size] [.slice (some ⟨Z.heap.size, 0, none⟩) 0 0] []) := Lib.hid (flat_lit Z _ (Nat.le_refl _))
        have XV0 := Lib.hid (XV.out.next hal)
        have CH0 : Hid (Chg [gx] Z (Z.alloc (.cells #[] HeldT))) := Lib.hid (Below.chg hal _)
        clear hal XV
        go_upto_region 9 with fail
        generalize Z.alloc (.cells #[] HeldT) = Z1 at *
        go_wp2_with fail
        go_loopw [18, 19, 20] (fun t at_ i wr => ∃ (k : Nat) (fq : List Nat) (A : Int) (cs : List Value), k ≤ n2 ∧ i = .int .i64 k ∧ at_ = .int .i64 A ∧ Hid (AtZ zs fr (d : Nat) (c : Nat) [.int .i64 fr, .int .i64 (d : Nat), .int .i64 (c : Nat), .slice (some ⟨g3, 0, none⟩) c c, .slice (some ⟨g4, 0, none⟩) c c, .int .i64 (now + 8)] k A cs) ∧ Hid (VarA gx HeldT cs.toArray wr) ∧ Hid (rawHeld.own wr Z.heap.size fq [t] ((restZ fr (d : Nat) (zs.take k)).map (·.1))) ∧ Hid fq.Nodup ∧ Hid (Chg [gx] Z wr) ∧ Hid (t ≠ .slice none 0 0)) (fun _ _ i _ => n2 - (intOf i).toNat)
        case atStart => exact ⟨0, [Z.heap.size], -1, [.int .i64 fr, .int .i64 (d : Nat), .int .i64 (c : Nat), .slice (some ⟨g3, 0, none⟩) c c, .slice (some ⟨g4, 0, none⟩) c c, .int .i64 (now + 8)], Nat.zero_le _, rfl, rfl, Lib.hid (.inr ⟨fun i _ h => absurd h (by omega), rfl, rfl⟩), XV0, RO0, Lib.hid (by simp), CH0, Lib.hid (by simp)⟩
        case round =>
          obtain ⟨k, fq, A, cs, hk, rfl, rfl, HA, XV, RO, ND, CH, NN⟩ := hrel
          clear XV0 RO0 CH0
          have n0 : wr.cell? ⟨q, 0, none⟩ = some (.slice a2 n2 c2) := VarA.cell ⟨(CH.out.block q HG.out.n.lt (by have := HG.out.gf.2.2; simp; omega)).trans HG.out.n.row⟩ 0
          by_cases hlt : k < n2
          rotate_left
          · have hlt' : ¬ ((k : Int) < (n2 : Int)) := by omega
            obtain rfl : k = n2 := by omega
            have htk : zs.take k = zs := List.take_of_length_le (by rw [HZL.out]; exact Nat.le_refl _)
            rw [htk] at RO
            have hwgx : w.heap.size + 2 ≤ gx := HG.out.lo.1
            have hS : VarA w.heap.size ShelfT #[.slice a k p] wr := ⟨(CH.out.block _ HG.out.s.lt (by simp; omega)).trans HG.out.s.row⟩
            have hR : VarA (w.heap.size + 1) ShelfT #[.slice none 0 0] wr := ⟨(CH.out.block _ HG.out.r.lt (by simp; omega)).trans HG.out.r.row⟩
            have hBW : Below w.heap.size w wr := HG.out.below.trans (CH.out.below (b := w.heap.size) (by simp; omega) HG.out.below.size)
            have hkeep : ∀ z ∈ zs, layHeld.own wr (w.heap.size + 2) z.2.2 z.1 z.2.1 := fun z hz => layHeld.chg (HOWN.out z hz).1 CH.out (fun g hg hm => HG.out.gf.1 (by rw [List.mem_singleton] at hm; rw [← hm]; exact (HOWN.out z hz).2.2 g hg))
            have hlow : ∀ z ∈ zs, ∀ g ∈ z.2.2, g < Z.heap.size := fun z hz g hg => (layHeld.blocks (HOWN.out z hz).1 g hg).2
            obtain ⟨x, fx, hGP, hxg, hAt⟩ : ∃ (x : HeldD) (fx : List Nat), GPS w gx Z.heap.size (.slice a k p) fx cs x fq u18 (restZ fr (d : Nat) zs) wr ∧ x = gotV xs fr (d : Nat) (c : Nat) now ∧ ((∃ (i : Nat) (X Zl : List HeldD), A = (i : Int) ∧ xs = X ++ x :: Zl ∧ X.length = i ∧ restV xs fr (d : Nat) = X ++ Zl ∧ HasV xs fr (d : Nat) (c : Nat) ∧ ∀ y, placeV xs fr (d : Nat) (c : Nat) y = X ++ y :: Zl) ∨ (A = -1 ∧ ¬ HasV xs fr (d : Nat) (c : Nat))) := by
              rcases HA.out with ⟨i, hi, _, hs1, hs2, rfl, rfl⟩ | ⟨hno, rfl, rfl⟩
              · have hmem := List.getElem_mem hi
                have hxl : i < xs.length := by rw [HZX.out, List.length_map]; exact hi
                obtain ⟨X, x, Zl, hX, hXi, hXx, _⟩ := split_at hxl
                have hzx : zs[i].2.1 = x := by
                  rw [← hXx]
                  have h9 : xs[i]? = some zs[i].2.1 := by rw [HZX.out, List.getElem?_map, List.getElem?_eq_getElem hi]; rfl
                  rw [List.getElem?_eq_getElem hxl] at h9
                  exact (Option.some.inj h9).symm
                have hsp := HSP.out
                rw [hX] at hsp
                have hs1' := hs1
                have hs2' := hs2
                rw [hzx] at hs1' hs2'
                obtain ⟨n1, n2'⟩ := shelf_split hsp hs1'
                refine ⟨zs[i].2.1, zs[i].2.2, ⟨hS, hR, XV.out, hkeep _ hmem, (HOWN.out _ hmem).2.1, RO.out, ND.out, fun z hz => ?_, fun z hz => hlow z (List.mem_filter.1 hz).1, hwgx, fun hm => HG.out.gf.1 ((HOWN.out _ hmem).2.2 _ hm), hlow _ hmem, HG.out.gl, hBW⟩, ?_, .inl ⟨i, X, Zl, rfl, by rw [hzx]; exact hX, hXi, ?_, ?_, fun y => ?_⟩⟩
                · obtain ⟨hz1, hz2⟩ := List.mem_filter.1 hz
                  refine ⟨hkeep z hz1, fun g hg hm => ?_⟩
                  obtain ⟨m, hm9, rfl⟩ := List.getElem_of_mem hz1
                  have hne : m ≠ i := fun e => of_decide_eq_true hz2 (by subst e; exact hs1)
                  rcases Nat.lt_or_ge m i with h9 | h9
                  · exact (List.pairwise_iff_getElem.1 HZP.out) m i hm9 hi h9 g hg hm
                  · exact (List.pairwise_iff_getElem.1 HZP.out) i m hi hm9 (by omega) g hm hg
                · rw [hzx, hX, got_split hs1' hs2' n1]
                · rw [hX, rest_split hs1' n1 n2']
                · rw [hX]; exact has_split hs1' hs2'
                · rw [hX, place_split hs1' hs2' n1 n2']
              · have hno2 : ∀ z ∈ xs, ¬ (SameV fr (d : Nat) z ∧ z.2.2.1 = ((c : Nat) : Int)) := fun z hz => by
                  rw [HZX.out] at hz
                  obtain ⟨q9, hq9, rfl⟩ := List.mem_map.1 hz
                  obtain ⟨m, hm9, rfl⟩ := List.getElem_of_mem hq9
                  exact hno m hm9 (by rw [← HZL.out]; exact hm9)
                obtain ⟨hg9, hnh⟩ := got_other (now := now) hno2
                refine ⟨newV fr (d : Nat) (c : Nat) now, [g3, g4], ⟨hS, hR, XV.out, layHeld.chg HG.out.xo CH.out (fun g hg hm => HG.out.gf.2.1 (by rw [List.mem_singleton] at hm; rw [← hm]; exact hg)), HG.out.xd, RO.out, ND.out, fun z hz => ⟨hkeep z (List.mem_filter.1 hz).1, fun g hg hm => HG.out.dis g hm ((HOWN.out z (List.mem_filter.1 hz).1).2.2 g hg)⟩, fun z hz => hlow z (List.mem_filter.1 hz).1, hwgx, HG.out.gf.2.1, fun g hg => (layHeld.blocks HG.out.xo g hg).2, HG.out.gl, hBW⟩, hg9.symm, .inr ⟨rfl, hnh⟩⟩
            have HP := Lib.hid hGP
            have HAT := Lib.hid hAt
            have hqx := got_q (l := xs) (a := fr) (b := (d : Nat)) (c := (c : Nat)) (now := now) HSP.out h1 ⟨by omega, by omega⟩ ⟨by omega, by omega⟩ h3
            have hgo := (got_of (l := xs) (a := fr) (b := (d : Nat)) (c := (c : Nat)) (now := now)).2
            rw [← hxg] at hqx hgo
            have hsetq := set_q (j := j) (p := part) hqx (by rw [hgo]; omega) h2
            have hsc := (set_of (j := j) (p := part) (x := x)).2.2.1
            rw [hgo] at hsc
            have hj3 : j < x.2.2.2.1.length := by have := hqx.2.2.2.1; omega
            have hj4 : j < x.2.2.2.2.1.length := by have := hqx.2.2.2.2.1; omega
            have hmo := HMO.out
            unfold AddMore at hmo
            rw [← hxg] at hmo
            have hrv : (restZ fr (d : Nat) zs).map (fun z => z.2.1) = restV xs fr (d : Nat) := by rw [restZ_snd, ← HZX.out]
            have hys := add_right HSP.out HI.out
            have HLN : Hid (∀ x ∈ ys, x.2.2.2.1.length ≤ 10000000 ∧ x.2.2.2.2.1.length ≤ 10000000) := Lib.hid (fun z hz => by
              obtain ⟨⟨_, _, b2, b3, b4, _⟩, _⟩ := hys.2.1 z hz
              exact ⟨by omega, by omega⟩)
            have HYL : Hid (ys.length ≤ 3) := Lib.hid hys.1
            have HRV := Lib.hid hrv
            have HZB : Hid (Z.heap.size ≤ wr.heap.size) := Lib.hid CH.out.size
            have hzw : w.heap.size + 2 ≤ Z.heap.size := by have := HG.out.gl; omega
            have HZW := Lib.hid hzw
            clear hGP hAt hqx hgo hrv hys hzw htk hwgx hS hR hBW hkeep hlow HA XV RO ND CH HG HZX HRAW HOWN HZP HSZ HMO HI hlt
            obtain ⟨y, hy⟩ : ∃ y, setV j part x = y := ⟨_, rfl⟩
            rw [hy] at hmo hsetq hsc
            have HMO2 := Lib.hid hmo
            have HSQ := Lib.hid hsetq
            have HSC := Lib.hid hsc
            have HY := Lib.hid hy
            clear hmo hsetq hsc hy hxg
            obtain ⟨x0, x1, x2, r3, r4, x5⟩ := x
            simp only at hj3 hj4
            obtain ⟨v3, v4, fa, fb, hcs, hfx, o3, o4⟩ := layHeld_own.1 HP.out.xo
            simp only at o3 o4 hcs
            subst hcs
            have hdd := List.nodup_append.1 (show (fa ++ fb).Nodup by rw [← hfx]; exact HP.out.xd)
            obtain ⟨gb, cb, rfl, hgb1, hgb2, hgbm, hcb, hfb, ho4, hc4⟩ := bools_put o4 hdd.2.1 j hj4 true
            obtain ⟨ga, ca, rfl, hga1, hga2, hgam, hca, hfa, ho3, hc3⟩ := texts_put (layStringS.chg o3 hc4 (fun g hg hm => hdd.2.2 g hg g hm rfl)) hdd.1 j hj3 part
            have hxa : gx ≠ ga := fun e => HP.out.gxx (by rw [hfx, e]; simp [hgam])
            have hxb : gx ≠ gb := fun e => HP.out.gxx (by rw [hfx, e]; simp [hgbm])
            obtain ⟨q9, hq9⟩ : ∃ q9, r4[j] = q9 := ⟨_, rfl⟩
            rw [hq9] at hcb
            have hq4 : r4[j]? = some q9 := by rw [List.getElem?_eq_getElem hj4, hq9]
            obtain ⟨pp, hpp⟩ : ∃ pp, r3[j] = pp := ⟨_, rfl⟩
            rw [hpp] at hca
            have c3 : wr.cell? ⟨gx, 3, none⟩ = some (.slice (some ⟨ga, 0, none⟩) r3.length ca) := HP.out.xv.cell 3
            have c4 : wr.cell? ⟨gx, 4, none⟩ = some (.slice (some ⟨gb, 0, none⟩) r4.length cb) := HP.out.xv.cell 4
            have e3 : (wr.setCell ⟨gb, j, none⟩ (.bool true)).cell? ⟨gx, 3, none⟩ = some (.slice (some ⟨ga, 0, none⟩) r3.length ca) := (World.cell?_of_block (Below.heap_setCell _ _ _ _ (by exact hxb))).trans c3
            have j0' : (j : Int) < (r4.length : Int) := by omega
            have j1' : (j : Int) < (r3.length : Int) := by omega
            have HTR : Hid (q9 = true → (x0, x1, x2, r3, r4, x5) = y) := Lib.hid (fun e => by
              rw [← HY.out]
              unfold setV
              rw [if_pos (show r4[j]? = some true by rw [hq4, e])])
            have HFA : Hid (q9 = false → GPS w gx Z.heap.size (.slice a k p) fx [.int .i64 x0, .int .i64 x1, .int .i64 x2, .slice (some ⟨ga, 0, none⟩) r3.length ca, .slice (some ⟨gb, 0, none⟩) r4.length cb, .int .i64 x5] y fq u18 (restZ fr (d : Nat) zs) ((wr.setCell ⟨gb, j, none⟩ (.bool true)).setCell ⟨ga, j, none⟩ (.string part))) := Lib.hid (fun e => by
              have hset : (x0, x1, x2, r3.set j part, r4.set j true, x5) = y := by
                rw [← HY.out]
                unfold setV
                rw [if_neg (show ¬ (r4[j]? = some true) by rw [hq4, e]; simp)]
              rw [← hset]
              refine HP.out.put ((hc4.sub (fun g hg => by rw [hfx]; simp [hg])).trans2 (hc3.sub (fun g hg => by rw [hfx]; simp [hg]))) (layHeld_own.2 ⟨_, _, fa, fb, rfl, hfx, ho3, layBoolS.chg ho4 hc3 (fun g hg hm => hdd.2.2 g hm g hg rfl)⟩))
            clear o3 o4 hdd hgb1 hgb2 hgbm ho4 hc4 hga1 hga2 hgam ho3 hc3 hxa hxb hq9 hq4 hpp hj3 hj4 hfx HY
            go_upto_if 111 with fail
            go_cut [17] (fun pz wx => pz = .pointer (some ⟨gx, 0, none⟩) ∧ Hid (GPS w gx Z.heap.size (.slice a k p) fx [.int .i64 x0, .int .i64 x1, .int .i64 x2, .slice (some ⟨ga, 0, none⟩) r3.length ca, .slice (some ⟨gb, 0, none⟩) r4.length cb, .int .i64 x5] y fq u18 (restZ fr (d : Nat) zs) wx ∧ wr.heap.size ≤ wx.heap.size))
            case first =>
              cases q9 with
              | true =>
                have E : Hid (GPS w gx Z.heap.size (.slice a k p) fx [.int .i64 x0, .int .i64 x1, .int .i64 x2, .slice (some ⟨ga, 0, none⟩) r3.length ca, .slice (some ⟨gb, 0, none⟩) r4.length cb, .int .i64 x5] y fq u18 (restZ fr (d : Nat) zs) wr ∧ wr.heap.size ≤ wr.heap.size) := Lib.hid ⟨by rw [← HTR.out rfl]; exact HP.out, Nat.le_refl _⟩
                clear HFA HTR HP
                go_wp2_with fail
                go_meet
                exact ⟨rfl, E⟩
              | false =>
                have E : Hid (GPS w gx Z.heap.size (.slice a k p) fx [.int .i64 x0, .int .i64 x1, .int .i64 x2, .slice (some ⟨ga, 0, none⟩) r3.length ca, .slice (some ⟨gb, 0, none⟩) r4.length cb, .int .i64 x5] y fq u18 (restZ fr (d : Nat) zs) ((wr.setCell ⟨gb, j, none⟩ (.bool true)).setCell ⟨ga, j, none⟩ (.string part)) ∧ wr.heap.size ≤ ((wr.setCell ⟨gb, j, none⟩ (.bool true)).setCell ⟨ga, j, none⟩ (.string part)).heap.size) := Lib.hid ⟨HFA.out rfl, by simp [World.setCell]⟩
                clear HFA HTR HP
                go_wp2_with fail
                go_meet
                exact ⟨rfl, E⟩
            case rest =>
              obtain ⟨rfl, hcc⟩ := hcut
              have HP2 := Lib.hid hcc.out.1
              have HZ2 : Hid (Z.heap.size ≤ wc.heap.size) := Lib.hid (Nat.le_trans HZB.out hcc.out.2)
              clear hcc HP HFA HTR hcb hfb hca hfa c3 c4 e3 j0' j1' HZB n0 hlt'
              generalize wc = W3 at *
              obtain ⟨gr, cr, hu9, hcr⟩ := own_form HP2.out.ro NN.out
              rw [List.length_map] at hu9 hcr
              obtain ⟨m9, hm9⟩ : ∃ m9, (restZ fr (d : Nat) zs).length = m9 := ⟨_, rfl⟩
              rw [hm9] at hu9 hcr
              have HM9 := Lib.hid hm9
              subst hu9
              clear hm9
              obtain ⟨y0, y1, y2, s3, s4, y5⟩ := y
              obtain ⟨w3, w4, fa2, fb2, hcs2, hfx2, o3, o4⟩ := layHeld_own.1 HP2.out.xo
              simp only [List.cons.injEq, Value.int.injEq, true_and, and_true] at hcs2 o3 o4
              obtain ⟨-, -, -, hw3, hw4, -⟩ := hcs2
              subst hw3 hw4
              have hsq := HSQ.out.1
              have hsc := HSC.out
              have hl3 : s3.length = c := by have h9 := hsq.2.2.2.1; simp only at h9 hsc; omega
              have hl4 : s4.length = c := by have h9 := hsq.2.2.2.2.1; simp only at h9 hsc; omega
              have hl4b : s4.length ≤ 100000000 := by rw [hl4]; omega
              have HPZ : Hid (∀ q ∈ s3, q.size ≤ 1000) := Lib.hid (fun q hq => by
                obtain ⟨m, hm, rfl⟩ := List.mem_iff_getElem.1 hq
                have := (hsq.2.2.2.2.2.2 m _ (List.getElem?_eq_getElem hm)).1
                omega)
              have O3 := Lib.hid (layStringS.read o3)
              have O4 := Lib.hid (layBoolS.read o4)
              have HL3 := Lib.hid hl3
              have HMO3 := HMO2.out
              simp only at HMO3
              have HM := Lib.hid HMO3
              clear o3 o4 hsq hsc hl3 hl4 hfx2 HMO2 HMO3 HSQ HSC
              have c0' : W3.cell? ⟨gx, 0, none⟩ = some (.int .i64 x0) := HP2.out.xv.cell 0
              have c1' : W3.cell? ⟨gx, 1, none⟩ = some (.int .i64 x1) := HP2.out.xv.cell 1
              have c2' : W3.cell? ⟨gx, 2, none⟩ = some (.int .i64 x2) := HP2.out.xv.cell 2
              have c3' : W3.cell? ⟨gx, 3, none⟩ = some (.slice (some ⟨ga, 0, none⟩) r3.length ca) := HP2.out.xv.cell 3
              have c4' : W3.cell? ⟨gx, 4, none⟩ = some (.slice (some ⟨gb, 0, none⟩) r4.length cb) := HP2.out.xv.cell 4
              have c5' : W3.cell? ⟨gx, 5, none⟩ = some (.int .i64 x5) := HP2.out.xv.cell 5
              by_cases h6 : false ∈ s4
              rotate_left
              · have KA := Lib.hid (specAll_bool x0 x1 x2 (.slice (some ⟨ga, 0, none⟩) r3.length ca) (.slice (some ⟨gb, 0, none⟩) r4.length cb) s4 x5 true ⟨fun _ => h6, fun _ => rfl⟩ hl4b W3 O4.out)
                obtain ⟨hys, hwh, rfl⟩ : ys = restV xs fr (d : Nat) ∧ whole = wholeV s3 ∧ done = true := by
                  rcases HM.out with ⟨_, e1, e2, e3⟩ | ⟨e1, _⟩ | ⟨e1, _⟩
                  · exact ⟨e1, e2, e3⟩
                  · exact absurd e1 h6
                  · exact absurd e1 h6
                have HYS := Lib.hid hys
                have HWH := Lib.hid hwh
                clear hys hwh h6 HM HAT
                go_wp2_with fail
                refine KA.out.mono ?_
                rintro e W4 ⟨rfl, hb4⟩
                have HP3 := Lib.hid (HP2.out.next hb4)
                have O3' := Lib.hid (layStringS.below O3.out hb4)
                have HZ4 : Hid (Z.heap.size ≤ W4.heap.size) := Lib.hid (Nat.le_trans HZ2.out hb4.size)
                clear hb4 KA HP2 O3 O4 HZ2 c0' c1' c2' c3' c4' c5'
                have c0' : W4.cell? ⟨gx, 0, none⟩ = some (.int .i64 x0) := HP3.out.xv.cell 0
                have c1' : W4.cell? ⟨gx, 1, none⟩ = some (.int .i64 x1) := HP3.out.xv.cell 1
                have c2' : W4.cell? ⟨gx, 2, none⟩ = some (.int .i64 x2) := HP3.out.xv.cell 2
                have c3' : W4.cell? ⟨gx, 3, none⟩ = some (.slice (some ⟨ga, 0, none⟩) r3.length ca) := HP3.out.xv.cell 3
                have c4' : W4.cell? ⟨gx, 4, none⟩ = some (.slice (some ⟨gb, 0, none⟩) r4.length cb) := HP3.out.xv.cell 4
                have c5' : W4.cell? ⟨gx, 5, none⟩ = some (.int .i64 x5) := HP3.out.xv.cell 5
                clear c0' c1' c2' c4' c5'
                go_wp2_with fail
                go_loop [22, 23] (fun t i => ∃ (m : Nat) (tx : ByteArray), m ≤ c ∧ i = .int .i64 m ∧ t = .string tx ∧ Hid (tx = wholeV (s3.take m))) (fun _ i => c - (intOf i).toNat)
                case atStart => exact ⟨0, ⟨#[]⟩, Nat.zero_le _, rfl, rfl, Lib.hid rfl⟩
                case round =>
                  obtain ⟨m, tx, hm, rfl, rfl, HTX⟩ := hrel
                  by_cases hmc : m < c
                  · have hmc' : (m : Int) < (c : Int) := by omega
                    have hml : m < s3.length := by rw [HL3.out]; exact hmc
                    obtain ⟨gt, ot, hga9, hgt, hct⟩ := text_at O3'.out m hml
                    simp only [Option.some.injEq, Addr.mk.injEq, and_true] at hga9
                    obtain ⟨rfl, rfl⟩ := hga9
                    rw [Nat.zero_add] at hct
                    have HWN := Lib.hid (whole_next hml)
                    have hz1 := sumZ_le HPZ.out m (by omega)
                    unfold sumZ at hz1
                    rw [← HTX.out] at hz1
                    have hz2 := HPZ.out _ (List.getElem_mem hml)
                    generalize s3[m] = pq at *
                    have hcat : ¬ (9223372036854775807 < tx.size + pq.size) := by omega
                    have HT2 : Hid (tx ++ pq = wholeV (s3.take (m + 1))) := Lib.hid (by rw [HWN.out, HTX.out])
                    have hr3 : (m : Int) < (r3.length : Int) := by
                      obtain ⟨_, _, hv9⟩ := rows_form O3'.out
                      simp only [Value.slice.injEq] at hv9
                      omega
                    clear HWN HTX
                    go_wp2_with fail
                    go_round
                    case rel => exact ⟨m + 1, tx ++ pq, by omega, by go_num, rfl, HT2⟩
                    case measure => simp [intOf]; omega
                  · have hmc' : ¬ ((m : Int) < (c : Int)) := by omega
                    obtain rfl : m = c := by omega
                    have htx : tx = whole := by rw [HTX.out, HWH.out, ← HL3.out, List.take_length]
                    subst htx
                    have hrd : layHeldS.rd W4 [.slice (some ⟨gr, 0, none⟩) m9 cr] ys := by
                      have h9 := raw_rows (zs := (restZ fr (d : Nat) zs).map (fun z => (z.1, z.2.1))) (by rw [← map_fst]; exact rawHeld.read HP3.out.ro) (HP3.out.others (Below.refl _ _))
                      rw [← map_snd, HRV.out, ← HYS.out] at h9
                      exact h9
                    have KC := Lib.hid (specShelfCopy_any (.slice (some ⟨gr, 0, none⟩) m9 cr) ys (by have := HYL.out; omega) HLN.out W4 hrd)
                    have R4 := Lib.hid HP3.out.r
                    have BW4 := Lib.hid HP3.out.below
                    have hzw4 : w.heap.size + 2 ≤ W4.heap.size := by have := HZ4.out; have := HZW.out; omega
                    clear hrd HTX HWH HYS HP3 c3' O3'
                    go_wp2_with fail
                    refine KC.out.mono ?_
                    rintro e W5 ⟨v9, f9, rfl, hd9, ho9, hb9⟩
                    obtain ⟨qa, qc, hv9⟩ := rows_form (layHeldS.read ho9)
                    obtain ⟨n9, hn9⟩ : ∃ n9, ys.length = n9 := ⟨_, rfl⟩
                    rw [hn9] at hv9
                    have hr5 := R4.out.next hb9
                    have E : Hid (Q (.returned (.tuple #[.agg #[v9], .string tx, .bool true])) (W5.setCell ⟨w.heap.size + 1, 0, none⟩ v9)) := Lib.hid (by rw [HQ.out]; exact made_ends hzw4 BW4.out hd9 ho9 hb9 _ _)
                    subst hv9
                    have r0' := hr5.cell 0
                    have z0' := hr5.free 0
                    have j9 := (hr5.set 0 (.slice qa n9 qc)).cell 0
                    clear hd9 ho9 hb9 KC R4 BW4 hr5 hn9
                    go_wp2_with fail
                    try simp only [Exit.inBlock, Exit.then]
                    exact bodyPost_ret (v := .tuple #[.agg #[.slice qa n9 qc], .string tx, .bool true]) (by simp [results, Try.results7, go_sem, j9]) rfl E.out
              have KA := Lib.hid (specAll_bool x0 x1 x2 (.slice (some ⟨ga, 0, none⟩) r3.length ca) (.slice (some ⟨gb, 0, none⟩) r4.length cb) s4 x5 false ⟨fun e => (by cases e), fun e => absurd h6 e⟩ hl4b W3 O4.out)
              go_wp2_with fail
              refine KA.out.mono ?_
              rintro e W4 ⟨rfl, hb4⟩
              have HP3 := Lib.hid (HP2.out.next hb4)
              have HZ4 : Hid (Z.heap.size ≤ W4.heap.size) := Lib.hid (Nat.le_trans HZ2.out hb4.size)
              have NN4 := NN
              clear hb4 KA HP2 O3 O4 HZ2 NN c0' c1' c2' c3' c4' c5'
              have hrvl : (restV xs fr (d : Nat)).length = m9 := by rw [← HRV.out, List.length_map, HM9.out]
              have HRL := Lib.hid hrvl
              clear hrvl
              have hm3 : m9 ≤ 3 := by
                have h9 : (restV xs fr (d : Nat)).length ≤ xs.length := List.length_filter_le _ _
                have h8 := HSP.out.1
                have h7 := HRL.out
                omega
              rcases HAT.out with ⟨i, X, Zl, rfl, hX, hXi, hrest, hhas, hplace⟩ | ⟨rfl, hnh⟩
              rotate_left
              · obtain ⟨hys, rfl, rfl⟩ : ys = (if (restV xs fr (d : Nat)).length = 3 then (restV xs fr (d : Nat)).drop 1 else restV xs fr (d : Nat)) ++ [(y0, y1, y2, s3, s4, y5)] ∧ whole = ⟨#[]⟩ ∧ done = false := by
                  rcases HM.out with ⟨e1, _⟩ | ⟨_, e1, _⟩ | ⟨_, _, e1, e2, e3⟩
                  · exact absurd h6 e1
                  · exact absurd e1 hnh
                  · exact ⟨e1, e2, e3⟩
                rw [HRL.out] at hys
                by_cases h7 : m9 = 3
                · rw [if_pos h7] at hys
                  have hc1 : ¬ (cr = 1) := by omega
                  have hc2 : ¬ (cr - 1 = 0) := by omega
                  have hcz : (3 : Int) ≤ (cr : Int) := by omega
                  subst h7
                  have hal : Below W4.heap.size W4 (W4.alloc (.cells #[.int .i64 x0, .int .i64 x1, .int .i64 x2, .slice (some ⟨ga, 0, none⟩) r3.length ca, .slice (some ⟨gb, 0, none⟩) r4.length cb, .int .i64 x5] HeldT)) := (Below.refl _ _).alloc (Nat.le_refl _) _
                  have hro := rawHeld.next HP3.out.ro hal
                  have hlm : ((restZ fr (d : Nat) zs).map (·.1)).length = 3 := by rw [List.length_map, HM9.out]
                  have hxo := layHeld.read HP3.out.xo
                  obtain ⟨v8, W6, hrun, hrd, hbe⟩ := run_pushTail (P := Try.prog) (W4.alloc (.cells #[.int .i64 x0, .int .i64 x1, .int .i64 x2, .slice (some ⟨ga, 0, none⟩) r3.length ca, .slice (some ⟨gb, 0, none⟩) r4.length cb, .int .i64 x5] HeldT)) Z.heap.size 24 24 HeldT i0 _ 80 (layCells layHeld.k layHeld.pos) (flatCells _ _) Try.underlying24 hi0 hz0 hs0 hb0 rfl (by omega) gr cr fq ((restZ fr (d : Nat) zs).map (·.1)) (by rw [hlm]; exact hro) 1 (by rw [hlm]; omega) [.int .i64 x0, .int .i64 x1, .int .i64 x2, .slice (some ⟨ga, 0, none⟩) r3.length ca, .slice (some ⟨gb, 0, none⟩) r4.length cb, .int .i64 x5] [.int .i64 x0, .int .i64 x1, .int .i64 x2, .slice (some ⟨ga, 0, none⟩) r3.length ca, .slice (some ⟨gb, 0, none⟩) r4.length cb, .int .i64 x5] ⟨rfl, layHeld.len hxo, layHeld.one hxo⟩ ⟨W4.heap.size, 0, none⟩ (fun j u hj => lit_held W4 #[.int .i64 x0, .int .i64 x1, .int .i64 x2, .slice (some ⟨ga, 0, none⟩) r3.length ca, .slice (some ⟨gb, 0, none⟩) r4.length cb, .int .i64 x5] HeldT j u hj) (by rw [hlm]; omega) (by have h9 := hal.size; have := HZ4.out; omega)
                  have BZ : Hid (Below Z.heap.size W4 W6) := Lib.hid ((hal.mono HZ4.out).trans hbe)
                  have hpair : layHeldS.rd W6 [v8] ys := by
                    obtain ⟨hr1, hr2⟩ := HP3.out.reads BZ.out
                    have h9 := raw_rows (A := layHeld) (zs := ((restZ fr (d : Nat) zs).map (fun z => (z.1, z.2.1))).drop 1 ++ [([.int .i64 x0, .int .i64 x1, .int .i64 x2, .slice (some ⟨ga, 0, none⟩) r3.length ca, .slice (some ⟨gb, 0, none⟩) r4.length cb, .int .i64 x5], (y0, y1, y2, s3, s4, y5))]) (w := W6) (v := v8) (e := HeldT) (by rw [List.map_append, List.map_drop, ← map_fst]; exact hrd) (fun z hz => by
                      rcases List.mem_append.1 hz with hz | hz
                      · exact hr1 z (List.mem_of_mem_drop hz)
                      · rw [List.mem_singleton.1 hz]; exact hr2)
                    rw [List.map_append, List.map_drop, ← map_snd, HRV.out] at h9
                    rw [hys]
                    exact h9
                  obtain ⟨qa, qc, hv8⟩ := rows_form hpair
                  obtain ⟨n8, hn8⟩ : ∃ n8, ys.length = n8 := ⟨_, rfl⟩
                  rw [hn8] at hv8
                  subst hv8
                  have HRD := Lib.hid hpair
                  rw [hlm] at hrun
                  have KC := Lib.hid (specShelfCopy_any (.slice qa n8 qc) ys (by have := HYL.out; omega) HLN.out W6 HRD.out)
                  have R6 : Hid (VarA (w.heap.size + 1) ShelfT #[.slice none 0 0] W6) := Lib.hid (HP3.out.r.next' BZ.out (by have := HZW.out; omega))
                  have BW6 : Hid (Below w.heap.size w W6) := Lib.hid (HP3.out.below.trans (BZ.out.mono (by have := HZW.out; omega)))
                  have hzw6 : w.heap.size + 2 ≤ W6.heap.size := by have := HZ4.out; have := HZW.out; have := BZ.out.size; omega
                  have c0' : W4.cell? ⟨gx, 0, none⟩ = some (.int .i64 x0) := HP3.out.xv.cell 0
                  have c1' : W4.cell? ⟨gx, 1, none⟩ = some (.int .i64 x1) := HP3.out.xv.cell 1
                  have c2' : W4.cell? ⟨gx, 2, none⟩ = some (.int .i64 x2) := HP3.out.xv.cell 2
                  have c3' : W4.cell? ⟨gx, 3, none⟩ = some (.slice (some ⟨ga, 0, none⟩) r3.length ca) := HP3.out.xv.cell 3
                  have c4' : W4.cell? ⟨gx, 4, none⟩ = some (.slice (some ⟨gb, 0, none⟩) r4.length cb) := HP3.out.xv.cell 4
                  have c5' : W4.cell? ⟨gx, 5, none⟩ = some (.int .i64 x5) := HP3.out.xv.cell 5
                  clear hal hro hlm hxo hrd hbe hpair hn8 hys HP3 BZ HRD HAT HM hnh
                  go_wp2_with (at_builtin; refine wpList_pushTail _ rfl _ _ _ rfl _ _ rfl rfl hrun ?_)
                  refine KC.out.mono ?_
                  rintro e W7 ⟨v9, f9, rfl, hd9, ho9, hb9⟩
                  obtain ⟨qa9, qc9, hv9⟩ := rows_form (layHeldS.read ho9)
                  obtain ⟨n9, hn9⟩ : ∃ n9, ys.length = n9 := ⟨_, rfl⟩
                  rw [hn9] at hv9
                  have hr5 := R6.out.next hb9
                  have E : Hid (Q (.returned (.tuple #[.agg #[v9], .string ⟨#[]⟩, .bool false])) (W7.setCell ⟨w.heap.size + 1, 0, none⟩ v9)) := Lib.hid (by rw [HQ.out]; exact made_ends hzw6 BW6.out hd9 ho9 hb9 _ _)
                  subst hv9
                  have r0' := hr5.cell 0
                  have z0' := hr5.free 0
                  have j9 := (hr5.set 0 (.slice qa9 n9 qc9)).cell 0
                  clear hd9 ho9 hb9 KC R6 BW6 hr5 hn9
                  go_wp2_with fail
                  try simp only [Exit.inBlock, Exit.then]
                  exact bodyPost_ret (v := .tuple #[.agg #[.slice qa9 n9 qc9], .string ⟨#[]⟩, .bool false]) (by simp [results, Try.results7, go_sem, j9]) rfl E.out
                rw [if_neg h7] at hys
                have h7' : ((m9 : Int) == 3) = false := by rw [beq_eq_false_iff_ne]; omega
                have hal : Below W4.heap.size W4 (W4.alloc (.cells #[.int .i64 x0, .int .i64 x1, .int .i64 x2, .slice (some ⟨ga, 0, none⟩) r3.length ca, .slice (some ⟨gb, 0, none⟩) r4.length cb, .int .i64 x5] HeldT)) := (Below.refl _ _).alloc (Nat.le_refl _) _
                have hro := rawHeld.next HP3.out.ro hal
                have hlm : ((restZ fr (d : Nat) zs).map (·.1)).length = m9 := by rw [List.length_map, HM9.out]
                have hxo := layHeld.read HP3.out.xo
                obtain ⟨v8, W6, hrun, hrd, hbe⟩ := run_pushTail (P := Try.prog) (W4.alloc (.cells #[.int .i64 x0, .int .i64 x1, .int .i64 x2, .slice (some ⟨ga, 0, none⟩) r3.length ca, .slice (some ⟨gb, 0, none⟩) r4.length cb, .int .i64 x5] HeldT)) Z.heap.size 24 24 HeldT i0 _ 80 (layCells layHeld.k layHeld.pos) (flatCells _ _) Try.underlying24 hi0 hz0 hs0 hb0 rfl (by omega) gr cr fq ((restZ fr (d : Nat) zs).map (·.1)) (by rw [hlm]; exact hro) 0 (by rw [hlm]; omega) [.int .i64 x0, .int .i64 x1, .int .i64 x2, .slice (some ⟨ga, 0, none⟩) r3.length ca, .slice (some ⟨gb, 0, none⟩) r4.length cb, .int .i64 x5] [.int .i64 x0, .int .i64 x1, .int .i64 x2, .slice (some ⟨ga, 0, none⟩) r3.length ca, .slice (some ⟨gb, 0, none⟩) r4.length cb, .int .i64 x5] ⟨rfl, layHeld.len hxo, layHeld.one hxo⟩ ⟨W4.heap.size, 0, none⟩ (fun j u hj => lit_held W4 #[.int .i64 x0, .int .i64 x1, .int .i64 x2, .slice (some ⟨ga, 0, none⟩) r3.length ca, .slice (some ⟨gb, 0, none⟩) r4.length cb, .int .i64 x5] HeldT j u hj) (by rw [hlm]; omega) (by have h9 := hal.size; have := HZ4.out; omega)
                have BZ : Hid (Below Z.heap.size W4 W6) := Lib.hid ((hal.mono HZ4.out).trans hbe)
                have hpair : layHeldS.rd W6 [v8] ys := by
                  obtain ⟨hr1, hr2⟩ := HP3.out.reads BZ.out
                  have h9 := raw_rows (A := layHeld) (zs := ((restZ fr (d : Nat) zs).map (fun z => (z.1, z.2.1))).drop 0 ++ [([.int .i64 x0, .int .i64 x1, .int .i64 x2, .slice (some ⟨ga, 0, none⟩) r3.length ca, .slice (some ⟨gb, 0, none⟩) r4.length cb, .int .i64 x5], (y0, y1, y2, s3, s4, y5))]) (w := W6) (v := v8) (e := HeldT) (by rw [List.map_append, List.map_drop, ← map_fst]; exact hrd) (fun z hz => by
                    rcases List.mem_append.1 hz with hz | hz
                    · exact hr1 z (List.mem_of_mem_drop hz)
                    · rw [List.mem_singleton.1 hz]; exact hr2)
                  rw [List.map_append, List.map_drop, ← map_snd, HRV.out] at h9
                  rw [hys]
                  exact h9
                obtain ⟨qa, qc, hv8⟩ := rows_form hpair
                obtain ⟨n8, hn8⟩ : ∃ n8, ys.length = n8 := ⟨_, rfl⟩
                rw [hn8] at hv8
                subst hv8
                have HRD := Lib.hid hpair
                rw [hlm] at hrun
                have KC := Lib.hid (specShelfCopy_any (.slice qa n8 qc) ys (by have := HYL.out; omega) HLN.out W6 HRD.out)
                have R6 : Hid (VarA (w.heap.size + 1) ShelfT #[.slice none 0 0] W6) := Lib.hid (HP3.out.r.next' BZ.out (by have := HZW.out; omega))
                have BW6 : Hid (Below w.heap.size w W6) := Lib.hid (HP3.out.below.trans (BZ.out.mono (by have := HZW.out; omega)))
                have hzw6 : w.heap.size + 2 ≤ W6.heap.size := by have := HZ4.out; have := HZW.out; have := BZ.out.size; omega
                have c0' : W4.cell? ⟨gx, 0, none⟩ = some (.int .i64 x0) := HP3.out.xv.cell 0
                have c1' : W4.cell? ⟨gx, 1, none⟩ = some (.int .i64 x1) := HP3.out.xv.cell 1
                have c2' : W4.cell? ⟨gx, 2, none⟩ = some (.int .i64 x2) := HP3.out.xv.cell 2
                have c3' : W4.cell? ⟨gx, 3, none⟩ = some (.slice (some ⟨ga, 0, none⟩) r3.length ca) := HP3.out.xv.cell 3
                have c4' : W4.cell? ⟨gx, 4, none⟩ = some (.slice (some ⟨gb, 0, none⟩) r4.length cb) := HP3.out.xv.cell 4
                have c5' : W4.cell? ⟨gx, 5, none⟩ = some (.int .i64 x5) := HP3.out.xv.cell 5
                clear hal hro hlm hxo hrd hbe hpair hn8 hys HP3 BZ HRD HAT HM hnh
                go_wp2_with (at_builtin; refine wpList_pushTail _ rfl _ _ _ rfl _ _ rfl rfl hrun ?_)
                refine KC.out.mono ?_
                rintro e W7 ⟨v9, f9, rfl, hd9, ho9, hb9⟩
                obtain ⟨qa9, qc9, hv9⟩ := rows_form (layHeldS.read ho9)
                obtain ⟨n9, hn9⟩ : ∃ n9, ys.length = n9 := ⟨_, rfl⟩
                rw [hn9] at hv9
                have hr5 := R6.out.next hb9
                have E : Hid (Q (.returned (.tuple #[.agg #[v9], .string ⟨#[]⟩, .bool false])) (W7.setCell ⟨w.heap.size + 1, 0, none⟩ v9)) := Lib.hid (by rw [HQ.out]; exact made_ends hzw6 BW6.out hd9 ho9 hb9 _ _)
                subst hv9
                have r0' := hr5.cell 0
                have z0' := hr5.free 0
                have j9 := (hr5.set 0 (.slice qa9 n9 qc9)).cell 0
                clear hd9 ho9 hb9 KC R6 BW6 hr5 hn9
                go_wp2_with fail
                try simp only [Exit.inBlock, Exit.then]
                exact bodyPost_ret (v := .tuple #[.agg #[.slice qa9 n9 qc9], .string ⟨#[]⟩, .bool false]) (by simp [results, Try.results7, go_sem, j9]) rfl E.out
              obtain ⟨hys, rfl, rfl⟩ : ys = X ++ (y0, y1, y2, s3, s4, y5) :: Zl ∧ whole = ⟨#[]⟩ ∧ done = false := by
                rcases HM.out with ⟨e1, _⟩ | ⟨_, _, e1, e2, e3⟩ | ⟨_, e1, _⟩
                · exact absurd h6 e1
                · exact ⟨by rw [e1, hplace], e2, e3⟩
                · exact absurd hhas e1
              have hd9 : decide (0 ≤ (i : Int)) = true := decide_eq_true (by omega)
              have htd : (restZ fr (d : Nat) zs).map (fun z => z.2.1) = X ++ Zl := HRV.out.trans hrest
              have hil : i ≤ m9 := by
                have h9 := congrArg List.length htd
                rw [List.length_map, HM9.out, List.length_append, hXi] at h9
                omega
              have HTK : Hid ((((restZ fr (d : Nat) zs).map (fun z => (z.1, z.2.1))).take i).map (·.2) = X) := Lib.hid (by rw [List.map_take, ← map_snd, htd, ← hXi, List.take_left])
              have HDR : Hid ((((restZ fr (d : Nat) zs).map (fun z => (z.1, z.2.1))).drop i).map (·.2) = Zl) := Lib.hid (by rw [List.map_drop, ← map_snd, htd, ← hXi, List.drop_left])
              have HYS := Lib.hid hys
              have HLM : Hid (((restZ fr (d : Nat) zs).map (·.1)).length = m9) := Lib.hid (by rw [List.length_map, HM9.out])
              have hic : (i : Int) ≤ (cr : Int) := by omega
              have him : (i : Int) ≤ (m9 : Int) := by omega
              have hmc9 : (m9 : Int) ≤ (cr : Int) := by omega
              clear hys htd hX hXi hrest hhas hplace HAT HM
              go_upto_region 30 with fail
              go_cut [24] (fun zv wx => ∃ (zl : Value) (fl : List Nat), zv = zl ∧ Hid (rawHeld.own wx W4.heap.size fl [zl] (((restZ fr (d : Nat) zs).map (·.1)).take i ++ [[.int .i64 x0, .int .i64 x1, .int .i64 x2, .slice (some ⟨ga, 0, none⟩) r3.length ca, .slice (some ⟨gb, 0, none⟩) r4.length cb, .int .i64 x5]]) ∧ fl.Nodup ∧ Below W4.heap.size W4 wx ∧ zl ≠ .slice none 0 0))
              case first =>
                have E0 : Hid (Below W4.heap.size W4 W4.drew) := Lib.hid (Below.refl W4.heap.size W4).drew
                go_wp2_with fail
                refine wp_region_held_drew (S := fun X => Hid (Below W4.heap.size W4 X)) (by kernel_rfl) E0 (fun hHeld => ?_)
                clear E0
                generalize W4.drew = X0 at *
                refine wpAnyH_take (i := 1) (v := ?_) rfl (by kernel_rfl) (by kernel_rfl) (by kernel_rfl) (fun _ _ _ h => h) (Or.inl ⟨by kernel_rfl, ?_⟩) hHeld ?_
                rotate_left
                · intro X hX
                  first | (go_simp; done) | (go_simp; with_reducible rfl)
                try simp only [Act.put, List.getElem_toArray, List.getElem_cons_succ, List.getElem_cons_zero, List.setIfInBounds_toArray, List.set_cons_zero, List.set_cons_succ]
                refine wpAnyH_take (i := 2) (v := ?_) rfl (by kernel_rfl) (by kernel_rfl) (by kernel_rfl) (fun _ _ _ h => h) (Or.inl ⟨by kernel_rfl, ?_⟩) hHeld ?_
                rotate_left
                · intro X hX
                  first | (go_simp; done) | (go_simp; with_reducible rfl)
                try simp only [Act.put, List.getElem_toArray, List.getElem_cons_succ, List.getElem_cons_zero, List.setIfInBounds_toArray, List.set_cons_zero, List.set_cons_succ]
                refine wpAnyH_take (i := 3) (v := ?_) rfl (by kernel_rfl) (by kernel_rfl) (by kernel_rfl) (fun _ _ _ h => h) (Or.inl ⟨by kernel_rfl, ?_⟩) hHeld ?_
                rotate_left
                · intro X hX
                  first | (go_simp; done) | (go_simp; with_reducible rfl)
                try simp only [Act.put, List.getElem_toArray, List.getElem_cons_succ, List.getElem_cons_zero, List.setIfInBounds_toArray, List.set_cons_zero, List.set_cons_succ]
                refine wpAnyH_take (i := 5) (v := ?_) rfl (by kernel_rfl) (by kernel_rfl) (by kernel_rfl) (fun _ _ _ h => h) (Or.inl ⟨by kernel_rfl, ?_⟩) hHeld ?_
                rotate_left
                · intro X hX
                  have q0 : X.cell? ⟨gx, 0, none⟩ = some (.int .i64 x0) := (HP3.out.xv.next hX.out).cell 0
                  have q1 : X.cell? ⟨gx, 1, none⟩ = some (.int .i64 x1) := (HP3.out.xv.next hX.out).cell 1
                  have q2 : X.cell? ⟨gx, 2, none⟩ = some (.int .i64 x2) := (HP3.out.xv.next hX.out).cell 2
                  have q3 : X.cell? ⟨gx, 3, none⟩ = some (.slice (some ⟨ga, 0, none⟩) r3.length ca) := (HP3.out.xv.next hX.out).cell 3
                  have q4 : X.cell? ⟨gx, 4, none⟩ = some (.slice (some ⟨gb, 0, none⟩) r4.length cb) := (HP3.out.xv.next hX.out).cell 4
                  have q5 : X.cell? ⟨gx, 5, none⟩ = some (.int .i64 x5) := (HP3.out.xv.next hX.out).cell 5
                  first | (go_simp; done) | (go_simp; with_reducible rfl)
                try simp only [Act.put, List.getElem_toArray, List.getElem_cons_succ, List.getElem_cons_zero, List.setIfInBounds_toArray, List.set_cons_zero, List.set_cons_succ]
                refine wpAnyH_ready (rs := [0, 6]) (by kernel_rfl) (by simp) ?_
                refine AllReadyH.cons rfl (fun K hK => ?_) (AllReadyH.cons rfl (fun K hK => ?_) AllReadyH.nil)
                · go_simp
                  have hal : Below X0.heap.size X0 (X0.alloc (.cells #[] HeldT)) := (Below.refl _ _).alloc (Nat.le_refl _) _
                  have hsz : W4.heap.size ≤ X0.heap.size := hHeld.out.size
                  have OE : Hid (rawHeld.own (X0.alloc (.cells #[] HeldT)) W4.heap.size [X0.heap.size] [.slice (some ⟨X0.heap.size, 0, none⟩) 0 0] []) := Lib.hid (flat_lit X0 _ hsz)
                  refine hK.out _ _ (Lib.hid (hHeld.out.trans (hal.mono hsz))) (fun hHeld => ?_)
                  clear hK K hal hsz
                  generalize (X0.alloc (.cells #[] HeldT)) = X1 at *
                  generalize X0.heap.size = ge at *
                  try simp only [Act.put, List.getElem_toArray, List.getElem_cons_succ, List.getElem_cons_zero, List.setIfInBounds_toArray, List.set_cons_zero, List.set_cons_succ]
                  refine wpAnyH_ready (rs := [4, 6]) (by kernel_rfl) (by simp) ?_
                  refine AllReadyH.cons rfl (fun K hK => ?_) (AllReadyH.cons rfl (fun K hK => ?_) AllReadyH.nil)
                  · have hsz : W4.heap.size ≤ X1.heap.size := hHeld.out.size
                    have hrt : rawHeld.rd X1 [.slice (some ⟨gr, 0, none⟩) i cr] (((restZ fr (d : Nat) zs).map (·.1)).take i) := rd_take (by rw [HLM.out]; exact rawHeld.read (rawHeld.next HP3.out.ro hHeld.out)) i (by rw [HLM.out]; exact hil)
                    refine step_copyF rfl (.tmp 141) (.tmp 144) 24 rfl W4.heap.size HeldT i0 _ 80 (layCells layHeld.k layHeld.pos) (flatCells _ _) Try.underlying24 hi0 hz0 hs0 hb0 rfl (by omega) (.slice (some ⟨ge, 0, none⟩) 0 0) [ge] [] (by rfl) OE.out (fun e => by cases e) (.slice (some ⟨gr, 0, none⟩) i cr) (((restZ fr (d : Nat) zs).map (·.1)).take i) (by rfl) hrt (by rw [List.length_take, HLM.out]; simp; omega) hsz ?_
                    intro v7 X2 hown7 hnn7 hgr7 hbe7
                    have OL : Hid (rawHeld.own X2 W4.heap.size (blk v7) [v7] (((restZ fr (d : Nat) zs).map (·.1)).take i)) := Lib.hid hown7
                    refine hK.out _ _ (Lib.hid (hHeld.out.trans hbe7)) (fun hHeld => ?_)
                    clear hK K hown7 hnn7 hgr7 hbe7 hrt hsz OE
                    try simp only [Act.put, List.getElem_toArray, List.getElem_cons_succ, List.getElem_cons_zero, List.setIfInBounds_toArray, List.set_cons_zero, List.set_cons_succ]
                    refine wpAnyH_ready (rs := [6]) (by kernel_rfl) (by simp) ?_
                    refine AllReadyH.cons rfl (fun K hK => ?_) AllReadyH.nil
                    go_simp
                    have hal : Below X2.heap.size X2 (X2.alloc (.cells #[.int .i64 x0, .int .i64 x1, .int .i64 x2, .slice (some ⟨ga, 0, none⟩) r3.length ca, .slice (some ⟨gb, 0, none⟩) r4.length cb, .int .i64 x5] HeldT)) := (Below.refl _ _).alloc (Nat.le_refl _) _
                    have hsz : W4.heap.size ≤ X2.heap.size := hHeld.out.size
                    have VL : Hid (VarA X2.heap.size HeldT #[.int .i64 x0, .int .i64 x1, .int .i64 x2, .slice (some ⟨ga, 0, none⟩) r3.length ca, .slice (some ⟨gb, 0, none⟩) r4.length cb, .int .i64 x5] (X2.alloc (.cells #[.int .i64 x0, .int .i64 x1, .int .i64 x2, .slice (some ⟨ga, 0, none⟩) r3.length ca, .slice (some ⟨gb, 0, none⟩) r4.length cb, .int .i64 x5] HeldT))) := Lib.hid (VarA.new X2 HeldT #[.int .i64 x0, .int .i64 x1, .int .i64 x2, .slice (some ⟨ga, 0, none⟩) r3.length ca, .slice (some ⟨gb, 0, none⟩) r4.length cb, .int .i64 x5])
                    replace OL := Lib.hid (rawHeld.next OL.out hal)
                    refine hK.out _ _ (Lib.hid (hHeld.out.trans (hal.mono hsz))) (fun hHeld => ?_)
                    clear hK K hal hsz
                    generalize (X2.alloc (.cells #[.int .i64 x0, .int .i64 x1, .int .i64 x2, .slice (some ⟨ga, 0, none⟩) r3.length ca, .slice (some ⟨gb, 0, none⟩) r4.length cb, .int .i64 x5] HeldT)) = X3 at *
                    generalize X2.heap.size = gl at *
                    try simp only [Act.put, List.getElem_toArray, List.getElem_cons_succ, List.getElem_cons_zero, List.setIfInBounds_toArray, List.set_cons_zero, List.set_cons_succ]
                    refine wpAnyH_ready (rs := [7]) (by kernel_rfl) (by simp) ?_
                    refine AllReadyH.cons rfl (fun K hK => ?_) AllReadyH.nil
                    have hsz : W4.heap.size ≤ X3.heap.size := hHeld.out.size
                    have hxo := layHeld.read HP3.out.xo
                    refine step_pushL rfl (.tmp 145) (.tmp 147) 24 rfl W4.heap.size HeldT i0 _ 80 (layCells layHeld.k layHeld.pos) Try.underlying24 hi0 hz0 hs0 hb0 rfl (by omega) v7 (blk v7) (((restZ fr (d : Nat) zs).map (·.1)).take i) (by rfl) OL.out (blk_dup _) [.int .i64 x0, .int .i64 x1, .int .i64 x2, .slice (some ⟨ga, 0, none⟩) r3.length ca, .slice (some ⟨gb, 0, none⟩) r4.length cb, .int .i64 x5] [.int .i64 x0, .int .i64 x1, .int .i64 x2, .slice (some ⟨ga, 0, none⟩) r3.length ca, .slice (some ⟨gb, 0, none⟩) r4.length cb, .int .i64 x5] [] ⟨rfl, rfl, layHeld.len hxo, layHeld.one hxo⟩ List.nodup_nil (fun k hk => by cases hk) ⟨gl, 0, none⟩ (by rfl) (var_cells VL.out) (by rw [List.length_take, HLM.out]; omega) hsz ?_
                    intro v10 X4 hp
                    obtain ⟨f10, o10, d10, -⟩ := hp.own
                    have E9 : Hid (rawHeld.own X4 W4.heap.size f10 [v10] (((restZ fr (d : Nat) zs).map (·.1)).take i ++ [[.int .i64 x0, .int .i64 x1, .int .i64 x2, .slice (some ⟨ga, 0, none⟩) r3.length ca, .slice (some ⟨gb, 0, none⟩) r4.length cb, .int .i64 x5]]) ∧ f10.Nodup ∧ Below W4.heap.size W4 X4 ∧ v10 ≠ .slice none 0 0) := Lib.hid ⟨o10, d10, hHeld.out.trans hp.below, hp.some⟩
                    refine hK.out _ _ (Lib.hid (hHeld.out.trans hp.below)) (fun hHeld => ?_)
                    clear hK K hp o10 d10 OL VL hsz hxo
                    try simp only [Act.put, List.getElem_toArray, List.getElem_cons_succ, List.getElem_cons_zero, List.setIfInBounds_toArray, List.set_cons_zero, List.set_cons_succ]
                    refine wpAnyH_take (i := 8) (v := ?_) rfl (by kernel_rfl) (by kernel_rfl) (by kernel_rfl) (fun _ _ _ h => h) (Or.inl ⟨by kernel_rfl, ?_⟩) hHeld ?_
                    rotate_left
                    · intro X hX
                      first | (go_simp; done) | (go_simp; with_reducible rfl)
                    try simp only [Act.put, List.getElem_toArray, List.getElem_cons_succ, List.getElem_cons_zero, List.setIfInBounds_toArray, List.set_cons_zero, List.set_cons_succ]
                    refine wpAnyH_done (by kernel_rfl) ?_ _
                    clear hHeld
                    go_wp2_with fail
                    go_meet
                    exact ⟨v10, f10, rfl, E9⟩
                  · go_simp
                    have hal : Below X1.heap.size X1 (X1.alloc (.cells #[.int .i64 x0, .int .i64 x1, .int .i64 x2, .slice (some ⟨ga, 0, none⟩) r3.length ca, .slice (some ⟨gb, 0, none⟩) r4.length cb, .int .i64 x5] HeldT)) := (Below.refl _ _).alloc (Nat.le_refl _) _
                    have hsz : W4.heap.size ≤ X1.heap.size := hHeld.out.size
                    have VL : Hid (VarA X1.heap.size HeldT #[.int .i64 x0, .int .i64 x1, .int .i64 x2, .slice (some ⟨ga, 0, none⟩) r3.length ca, .slice (some ⟨gb, 0, none⟩) r4.length cb, .int .i64 x5] (X1.alloc (.cells #[.int .i64 x0, .int .i64 x1, .int .i64 x2, .slice (some ⟨ga, 0, none⟩) r3.length ca, .slice (some ⟨gb, 0, none⟩) r4.length cb, .int .i64 x5] HeldT))) := Lib.hid (VarA.new X1 HeldT #[.int .i64 x0, .int .i64 x1, .int .i64 x2, .slice (some ⟨ga, 0, none⟩) r3.length ca, .slice (some ⟨gb, 0, none⟩) r4.length cb, .int .i64 x5])
                    have AGL : Hid (X1.heap.size ≠ ge) := Lib.hid (by have h9 := (rawHeld.blocks OE.out ge (by simp)).2; omega)
                    replace OE := Lib.hid (rawHeld.next OE.out hal)
                    refine hK.out _ _ (Lib.hid (hHeld.out.trans (hal.mono hsz))) (fun hHeld => ?_)
                    clear hK K hal hsz
                    generalize (X1.alloc (.cells #[.int .i64 x0, .int .i64 x1, .int .i64 x2, .slice (some ⟨ga, 0, none⟩) r3.length ca, .slice (some ⟨gb, 0, none⟩) r4.length cb, .int .i64 x5] HeldT)) = X2 at *
                    generalize X1.heap.size = gl at *
                    try simp only [Act.put, List.getElem_toArray, List.getElem_cons_succ, List.getElem_cons_zero, List.setIfInBounds_toArray, List.set_cons_zero, List.set_cons_succ]
                    refine wpAnyH_ready (rs := [4]) (by kernel_rfl) (by simp) ?_
                    refine AllReadyH.cons rfl (fun K hK => ?_) AllReadyH.nil
                    have hsz : W4.heap.size ≤ X2.heap.size := hHeld.out.size
                    have hrt : rawHeld.rd X2 [.slice (some ⟨gr, 0, none⟩) i cr] (((restZ fr (d : Nat) zs).map (·.1)).take i) := rd_take (by rw [HLM.out]; exact rawHeld.read (rawHeld.next HP3.out.ro hHeld.out)) i (by rw [HLM.out]; exact hil)
                    refine step_copyF rfl (.tmp 141) (.tmp 144) 24 rfl W4.heap.size HeldT i0 _ 80 (layCells layHeld.k layHeld.pos) (flatCells _ _) Try.underlying24 hi0 hz0 hs0 hb0 rfl (by omega) (.slice (some ⟨ge, 0, none⟩) 0 0) [ge] [] (by rfl) OE.out (fun e => by cases e) (.slice (some ⟨gr, 0, none⟩) i cr) (((restZ fr (d : Nat) zs).map (·.1)).take i) (by rfl) hrt (by rw [List.length_take, HLM.out]; simp; omega) hsz ?_
                    intro v7 X3 hown7 hnn7 hgr7 hbe7
                    have OL : Hid (rawHeld.own X3 W4.heap.size (blk v7) [v7] (((restZ fr (d : Nat) zs).map (·.1)).take i)) := Lib.hid hown7
                    replace VL : Hid (VarA gl HeldT #[.int .i64 x0, .int .i64 x1, .int .i64 x2, .slice (some ⟨ga, 0, none⟩) r3.length ca, .slice (some ⟨gb, 0, none⟩) r4.length cb, .int .i64 x5] X3) := Lib.hid ⟨(hgr7.block gl VL.out.lt (fun e => AGL.out (by simpa [Value.ownBlock] using e))).trans VL.out.row⟩
                    refine hK.out _ _ (Lib.hid (hHeld.out.trans hbe7)) (fun hHeld => ?_)
                    clear hK K hown7 hnn7 hgr7 hbe7 hrt hsz OE
                    try simp only [Act.put, List.getElem_toArray, List.getElem_cons_succ, List.getElem_cons_zero, List.setIfInBounds_toArray, List.set_cons_zero, List.set_cons_succ]
                    refine wpAnyH_ready (rs := [7]) (by kernel_rfl) (by simp) ?_
                    refine AllReadyH.cons rfl (fun K hK => ?_) AllReadyH.nil
                    have hsz : W4.heap.size ≤ X3.heap.size := hHeld.out.size
                    have hxo := layHeld.read HP3.out.xo
                    refine step_pushL rfl (.tmp 145) (.tmp 147) 24 rfl W4.heap.size HeldT i0 _ 80 (layCells layHeld.k layHeld.pos) Try.underlying24 hi0 hz0 hs0 hb0 rfl (by omega) v7 (blk v7) (((restZ fr (d : Nat) zs).map (·.1)).take i) (by rfl) OL.out (blk_dup _) [.int .i64 x0, .int .i64 x1, .int .i64 x2, .slice (some ⟨ga, 0, none⟩) r3.length ca, .slice (some ⟨gb, 0, none⟩) r4.length cb, .int .i64 x5] [.int .i64 x0, .int .i64 x1, .int .i64 x2, .slice (some ⟨ga, 0, none⟩) r3.length ca, .slice (some ⟨gb, 0, none⟩) r4.length cb, .int .i64 x5] [] ⟨rfl, rfl, layHeld.len hxo, layHeld.one hxo⟩ List.nodup_nil (fun k hk => by cases hk) ⟨gl, 0, none⟩ (by rfl) (var_cells VL.out) (by rw [List.length_take, HLM.out]; omega) hsz ?_
                    intro v10 X4 hp
                    obtain ⟨f10, o10, d10, -⟩ := hp.own
                    have E9 : Hid (rawHeld.own X4 W4.heap.size f10 [v10] (((restZ fr (d : Nat) zs).map (·.1)).take i ++ [[.int .i64 x0, .int .i64 x1, .int .i64 x2, .slice (some ⟨ga, 0, none⟩) r3.length ca, .slice (some ⟨gb, 0, none⟩) r4.length cb, .int .i64 x5]]) ∧ f10.Nodup ∧ Below W4.heap.size W4 X4 ∧ v10 ≠ .slice none 0 0) := Lib.hid ⟨o10, d10, hHeld.out.trans hp.below, hp.some⟩
                    refine hK.out _ _ (Lib.hid (hHeld.out.trans hp.below)) (fun hHeld => ?_)
                    clear hK K hp o10 d10 OL VL hsz hxo
                    try simp only [Act.put, List.getElem_toArray, List.getElem_cons_succ, List.getElem_cons_zero, List.setIfInBounds_toArray, List.set_cons_zero, List.set_cons_succ]
                    refine wpAnyH_take (i := 8) (v := ?_) rfl (by kernel_rfl) (by kernel_rfl) (by kernel_rfl) (fun _ _ _ h => h) (Or.inl ⟨by kernel_rfl, ?_⟩) hHeld ?_
                    rotate_left
                    · intro X hX
                      first | (go_simp; done) | (go_simp; with_reducible rfl)
                    try simp only [Act.put, List.getElem_toArray, List.getElem_cons_succ, List.getElem_cons_zero, List.setIfInBounds_toArray, List.set_cons_zero, List.set_cons_succ]
                    refine wpAnyH_done (by kernel_rfl) ?_ _
                    clear hHeld
                    go_wp2_with fail
                    go_meet
                    exact ⟨v10, f10, rfl, E9⟩
                · go_simp
                  have hal : Below X0.heap.size X0 (X0.alloc (.cells #[.int .i64 x0, .int .i64 x1, .int .i64 x2, .slice (some ⟨ga, 0, none⟩) r3.length ca, .slice (some ⟨gb, 0, none⟩) r4.length cb, .int .i64 x5] HeldT)) := (Below.refl _ _).alloc (Nat.le_refl _) _
                  have hsz : W4.heap.size ≤ X0.heap.size := hHeld.out.size
                  have VL : Hid (VarA X0.heap.size HeldT #[.int .i64 x0, .int .i64 x1, .int .i64 x2, .slice (some ⟨ga, 0, none⟩) r3.length ca, .slice (some ⟨gb, 0, none⟩) r4.length cb, .int .i64 x5] (X0.alloc (.cells #[.int .i64 x0, .int .i64 x1, .int .i64 x2, .slice (some ⟨ga, 0, none⟩) r3.length ca, .slice (some ⟨gb, 0, none⟩) r4.length cb, .int .i64 x5] HeldT))) := Lib.hid (VarA.new X0 HeldT #[.int .i64 x0, .int .i64 x1, .int .i64 x2, .slice (some ⟨ga, 0, none⟩) r3.length ca, .slice (some ⟨gb, 0, none⟩) r4.length cb, .int .i64 x5])
                  refine hK.out _ _ (Lib.hid (hHeld.out.trans (hal.mono hsz))) (fun hHeld => ?_)
                  clear hK K hal hsz
                  generalize (X0.alloc (.cells #[.int .i64 x0, .int .i64 x1, .int .i64 x2, .slice (some ⟨ga, 0, none⟩) r3.length ca, .slice (some ⟨gb, 0, none⟩) r4.length cb, .int .i64 x5] HeldT)) = X1 at *
                  generalize X0.heap.size = gl at *
                  try simp only [Act.put, List.getElem_toArray, List.getElem_cons_succ, List.getElem_cons_zero, List.setIfInBounds_toArray, List.set_cons_zero, List.set_cons_succ]
                  refine wpAnyH_ready (rs := [0]) (by kernel_rfl) (by simp) ?_
                  refine AllReadyH.cons rfl (fun K hK => ?_) AllReadyH.nil
                  go_simp
                  have hal : Below X1.heap.size X1 (X1.alloc (.cells #[] HeldT)) := (Below.refl _ _).alloc (Nat.le_refl _) _
                  have hsz : W4.heap.size ≤ X1.heap.size := hHeld.out.size
                  have OE : Hid (rawHeld.own (X1.alloc (.cells #[] HeldT)) W4.heap.size [X1.heap.size] [.slice (some ⟨X1.heap.size, 0, none⟩) 0 0] []) := Lib.hid (flat_lit X1 _ hsz)
                  have AGL : Hid (gl ≠ X1.heap.size) := Lib.hid (by have := VL.out.lt; omega)
                  replace VL := Lib.hid (VL.out.next hal)
                  refine hK.out _ _ (Lib.hid (hHeld.out.trans (hal.mono hsz))) (fun hHeld => ?_)
                  clear hK K hal hsz
                  generalize (X1.alloc (.cells #[] HeldT)) = X2 at *
                  generalize X1.heap.size = ge at *
                  try simp only [Act.put, List.getElem_toArray, List.getElem_cons_succ, List.getElem_cons_zero, List.setIfInBounds_toArray, List.set_cons_zero, List.set_cons_succ]
                  refine wpAnyH_ready (rs := [4]) (by kernel_rfl) (by simp) ?_
                  refine AllReadyH.cons rfl (fun K hK => ?_) AllReadyH.nil
                  have hsz : W4.heap.size ≤ X2.heap.size := hHeld.out.size
                  have hrt : rawHeld.rd X2 [.slice (some ⟨gr, 0, none⟩) i cr] (((restZ fr (d : Nat) zs).map (·.1)).take i) := rd_take (by rw [HLM.out]; exact rawHeld.read (rawHeld.next HP3.out.ro hHeld.out)) i (by rw [HLM.out]; exact hil)
                  refine step_copyF rfl (.tmp 141) (.tmp 144) 24 rfl W4.heap.size HeldT i0 _ 80 (layCells layHeld.k layHeld.pos) (flatCells _ _) Try.underlying24 hi0 hz0 hs0 hb0 rfl (by omega) (.slice (some ⟨ge, 0, none⟩) 0 0) [ge] [] (by rfl) OE.out (fun e => by cases e) (.slice (some ⟨gr, 0, none⟩) i cr) (((restZ fr (d : Nat) zs).map (·.1)).take i) (by rfl) hrt (by rw [List.length_take, HLM.out]; simp; omega) hsz ?_
                  intro v7 X3 hown7 hnn7 hgr7 hbe7
                  have OL : Hid (rawHeld.own X3 W4.heap.size (blk v7) [v7] (((restZ fr (d : Nat) zs).map (·.1)).take i)) := Lib.hid hown7
                  replace VL : Hid (VarA gl HeldT #[.int .i64 x0, .int .i64 x1, .int .i64 x2, .slice (some ⟨ga, 0, none⟩) r3.length ca, .slice (some ⟨gb, 0, none⟩) r4.length cb, .int .i64 x5] X3) := Lib.hid ⟨(hgr7.block gl VL.out.lt (fun e => AGL.out (by simpa [Value.ownBlock] using e))).trans VL.out.row⟩
                  refine hK.out _ _ (Lib.hid (hHeld.out.trans hbe7)) (fun hHeld => ?_)
                  clear hK K hown7 hnn7 hgr7 hbe7 hrt hsz OE
                  try simp only [Act.put, List.getElem_toArray, List.getElem_cons_succ, List.getElem_cons_zero, List.setIfInBounds_toArray, List.set_cons_zero, List.set_cons_succ]
                  refine wpAnyH_ready (rs := [7]) (by kernel_rfl) (by simp) ?_
                  refine AllReadyH.cons rfl (fun K hK => ?_) AllReadyH.nil
                  have hsz : W4.heap.size ≤ X3.heap.size := hHeld.out.size
                  have hxo := layHeld.read HP3.out.xo
                  refine step_pushL rfl (.tmp 145) (.tmp 147) 24 rfl W4.heap.size HeldT i0 _ 80 (layCells layHeld.k layHeld.pos) Try.underlying24 hi0 hz0 hs0 hb0 rfl (by omega) v7 (blk v7) (((restZ fr (d : Nat) zs).map (·.1)).take i) (by rfl) OL.out (blk_dup _) [.int .i64 x0, .int .i64 x1, .int .i64 x2, .slice (some ⟨ga, 0, none⟩) r3.length ca, .slice (some ⟨gb, 0, none⟩) r4.length cb, .int .i64 x5] [.int .i64 x0, .int .i64 x1, .int .i64 x2, .slice (some ⟨ga, 0, none⟩) r3.length ca, .slice (some ⟨gb, 0, none⟩) r4.length cb, .int .i64 x5] [] ⟨rfl, rfl, layHeld.len hxo, layHeld.one hxo⟩ List.nodup_nil (fun k hk => by cases hk) ⟨gl, 0, none⟩ (by rfl) (var_cells VL.out) (by rw [List.length_take, HLM.out]; omega) hsz ?_
                  intro v10 X4 hp
                  obtain ⟨f10, o10, d10, -⟩ := hp.own
                  have E9 : Hid (rawHeld.own X4 W4.heap.size f10 [v10] (((restZ fr (d : Nat) zs).map (·.1)).take i ++ [[.int .i64 x0, .int .i64 x1, .int .i64 x2, .slice (some ⟨ga, 0, none⟩) r3.length ca, .slice (some ⟨gb, 0, none⟩) r4.length cb, .int .i64 x5]]) ∧ f10.Nodup ∧ Below W4.heap.size W4 X4 ∧ v10 ≠ .slice none 0 0) := Lib.hid ⟨o10, d10, hHeld.out.trans hp.below, hp.some⟩
                  refine hK.out _ _ (Lib.hid (hHeld.out.trans hp.below)) (fun hHeld => ?_)
                  clear hK K hp o10 d10 OL VL hsz hxo
                  try simp only [Act.put, List.getElem_toArray, List.getElem_cons_succ, List.getElem_cons_zero, List.setIfInBounds_toArray, List.set_cons_zero, List.set_cons_succ]
                  refine wpAnyH_take (i := 8) (v := ?_) rfl (by kernel_rfl) (by kernel_rfl) (by kernel_rfl) (fun _ _ _ h => h) (Or.inl ⟨by kernel_rfl, ?_⟩) hHeld ?_
                  rotate_left
                  · intro X hX
                    first | (go_simp; done) | (go_simp; with_reducible rfl)
                  try simp only [Act.put, List.getElem_toArray, List.getElem_cons_succ, List.getElem_cons_zero, List.setIfInBounds_toArray, List.set_cons_zero, List.set_cons_succ]
                  refine wpAnyH_done (by kernel_rfl) ?_ _
                  clear hHeld
                  go_wp2_with fail
                  go_meet
                  exact ⟨v10, f10, rfl, E9⟩
              case rest =>
                obtain ⟨zl, fl, hzl, hcc⟩ := hcut
                have hzl2 := hzl.symm
                subst hzl2
                have HL := Lib.hid hcc.out
                clear hcc
                generalize wc = W5 at *
                by_cases hci : cr = i
                · have hmi : m9 = i := by omega
                  have hci2 : i = cr := hci.symm
                  subst hci2
                  have hdr9 : rawHeld.rd W5 [.slice (some ⟨gr, 0, none⟩) 0 0] (((restZ fr (d : Nat) zs).map (·.1)).drop i) := by
                    rw [List.drop_eq_nil_of_le (by rw [HLM.out]; omega)]
                    exact rd_none
                  have hsz5 : W4.heap.size ≤ W5.heap.size := HL.out.2.2.1.size
                  go_wp2_with (at_builtin; refine wpList_copyF W5 rfl _ _ 24 rfl W4.heap.size HeldT i0 _ 80 (layCells layHeld.k layHeld.pos) (flatCells _ _) Try.underlying24 hi0 hz0 hs0 hb0 rfl (by omega) zl fl (((restZ fr (d : Nat) zs).map (·.1)).take i ++ [[.int .i64 x0, .int .i64 x1, .int .i64 x2, .slice (some ⟨ga, 0, none⟩) r3.length ca, .slice (some ⟨gb, 0, none⟩) r4.length cb, .int .i64 x5]]) (by rfl) HL.out.1 HL.out.2.2.2 (.slice (some ⟨gr, 0, none⟩) 0 0) (((restZ fr (d : Nat) zs).map (·.1)).drop i) (by rfl) hdr9 (by rw [List.length_append, List.length_take, List.length_drop, HLM.out]; simp; omega) hsz5 ?_; intro v8 W6 hown8 hnn8 hgr8 hbe8; have BZ : Hid (Below Z.heap.size W4 W6) := Lib.hid ((HL.out.2.2.1.mono HZ4.out).trans (hbe8.mono HZ4.out)); have hpair : layHeldS.rd W6 [v8] ys := (by
                    obtain ⟨hr1, hr2⟩ := HP3.out.reads BZ.out
                    have h9 := raw_rows (A := layHeld) (zs := ((restZ fr (d : Nat) zs).map (fun z => (z.1, z.2.1))).take i ++ [([.int .i64 x0, .int .i64 x1, .int .i64 x2, .slice (some ⟨ga, 0, none⟩) r3.length ca, .slice (some ⟨gb, 0, none⟩) r4.length cb, .int .i64 x5], (y0, y1, y2, s3, s4, y5))] ++ ((restZ fr (d : Nat) zs).map (fun z => (z.1, z.2.1))).drop i) (w := W6) (v := v8) (e := HeldT) (by rw [List.map_append, List.map_append, List.map_take, List.map_drop, ← map_fst]; exact rawHeld.read hown8) (fun z hz => by
                      rcases List.mem_append.1 hz with hz | hz
                      · rcases List.mem_append.1 hz with hz | hz
                        · exact hr1 z (List.mem_of_mem_take hz)
                        · rw [List.mem_singleton.1 hz]; exact hr2
                      · exact hr1 z (List.mem_of_mem_drop hz))
                    rw [List.map_append, List.map_append, HTK.out, HDR.out] at h9
                    have h8 : X ++ [(y0, y1, y2, s3, s4, y5)] ++ Zl = X ++ (y0, y1, y2, s3, s4, y5) :: Zl := by simp
                    rw [HYS.out, ← h8]
                    exact h9); obtain ⟨qa, qc, hv8⟩ := rows_form hpair; obtain ⟨n8, hn8⟩ : ∃ n8, ys.length = n8 := ⟨_, rfl⟩; rw [hn8] at hv8; subst hv8; have HRD := Lib.hid hpair; clear hown8 hnn8 hgr8 hbe8 hpair hn8)
                  have KC := Lib.hid (specShelfCopy_any (.slice qa n8 qc) ys (by have := HYL.out; omega) HLN.out W6 HRD.out)
                  have R6 : Hid (VarA (w.heap.size + 1) ShelfT #[.slice none 0 0] W6) := Lib.hid (HP3.out.r.next' BZ.out (by have := HZW.out; omega))
                  have BW6 : Hid (Below w.heap.size w W6) := Lib.hid (HP3.out.below.trans (BZ.out.mono (by have := HZW.out; omega)))
                  have hzw6 : w.heap.size + 2 ≤ W6.heap.size := by have := HZ4.out; have := HZW.out; have := BZ.out.size; omega
                  clear HP3 BZ HRD HL HTK HDR HYS
                  refine KC.out.mono ?_
                  rintro e W7 ⟨v9, f9, rfl, hd9, ho9, hb9⟩
                  obtain ⟨qa9, qc9, hv9⟩ := rows_form (layHeldS.read ho9)
                  obtain ⟨n9, hn9⟩ : ∃ n9, ys.length = n9 := ⟨_, rfl⟩
                  rw [hn9] at hv9
                  have hr5 := R6.out.next hb9
                  have E : Hid (Q (.returned (.tuple #[.agg #[v9], .string ⟨#[]⟩, .bool false])) (W7.setCell ⟨w.heap.size + 1, 0, none⟩ v9)) := Lib.hid (by rw [HQ.out]; exact made_ends hzw6 BW6.out hd9 ho9 hb9 _ _)
                  subst hv9
                  have r0' := hr5.cell 0
                  have z0' := hr5.free 0
                  have j9 := (hr5.set 0 (.slice qa9 n9 qc9)).cell 0
                  clear hd9 ho9 hb9 KC R6 BW6 hr5 hn9
                  go_wp2_with fail
                  try simp only [Exit.inBlock, Exit.then]
                  exact bodyPost_ret (v := .tuple #[.agg #[.slice qa9 n9 qc9], .string ⟨#[]⟩, .bool false]) (by simp [results, Try.results7, go_sem, j9]) rfl E.out
                have hci2 : ¬ (cr - i = 0) := by omega
                have hdr9 : rawHeld.rd W5 [.slice (some ⟨gr, i * 6, none⟩) (m9 - i) (cr - i)] (((restZ fr (d : Nat) zs).map (·.1)).drop i) := by
                  have h9 := rd_drop (by rw [HLM.out]; exact rawHeld.read (rawHeld.next HP3.out.ro HL.out.2.2.1)) (xs := (restZ fr (d : Nat) zs).map (·.1)) i (by rw [HLM.out]; exact hil)
                  rw [HLM.out] at h9
                  exact h9
                have hsz5 : W4.heap.size ≤ W5.heap.size := HL.out.2.2.1.size
                go_wp2_with (at_builtin; refine wpList_copyF W5 rfl _ _ 24 rfl W4.heap.size HeldT i0 _ 80 (layCells layHeld.k layHeld.pos) (flatCells _ _) Try.underlying24 hi0 hz0 hs0 hb0 rfl (by omega) zl fl (((restZ fr (d : Nat) zs).map (·.1)).take i ++ [[.int .i64 x0, .int .i64 x1, .int .i64 x2, .slice (some ⟨ga, 0, none⟩) r3.length ca, .slice (some ⟨gb, 0, none⟩) r4.length cb, .int .i64 x5]]) (by rfl) HL.out.1 HL.out.2.2.2 (.slice (some ⟨gr, i * 6, none⟩) (m9 - i) (cr - i)) (((restZ fr (d : Nat) zs).map (·.1)).drop i) (by rfl) hdr9 (by rw [List.length_append, List.length_take, List.length_drop, HLM.out]; simp; omega) hsz5 ?_; intro v8 W6 hown8 hnn8 hgr8 hbe8; have BZ : Hid (Below Z.heap.size W4 W6) := Lib.hid ((HL.out.2.2.1.mono HZ4.out).trans (hbe8.mono HZ4.out)); have hpair : layHeldS.rd W6 [v8] ys := (by
                  obtain ⟨hr1, hr2⟩ := HP3.out.reads BZ.out
                  have h9 := raw_rows (A := layHeld) (zs := ((restZ fr (d : Nat) zs).map (fun z => (z.1, z.2.1))).take i ++ [([.int .i64 x0, .int .i64 x1, .int .i64 x2, .slice (some ⟨ga, 0, none⟩) r3.length ca, .slice (some ⟨gb, 0, none⟩) r4.length cb, .int .i64 x5], (y0, y1, y2, s3, s4, y5))] ++ ((restZ fr (d : Nat) zs).map (fun z => (z.1, z.2.1))).drop i) (w := W6) (v := v8) (e := HeldT) (by rw [List.map_append, List.map_append, List.map_take, List.map_drop, ← map_fst]; exact rawHeld.read hown8) (fun z hz => by
                    rcases List.mem_append.1 hz with hz | hz
                    · rcases List.mem_append.1 hz with hz | hz
                      · exact hr1 z (List.mem_of_mem_take hz)
                      · rw [List.mem_singleton.1 hz]; exact hr2
                    · exact hr1 z (List.mem_of_mem_drop hz))
                  rw [List.map_append, List.map_append, HTK.out, HDR.out] at h9
                  have h8 : X ++ [(y0, y1, y2, s3, s4, y5)] ++ Zl = X ++ (y0, y1, y2, s3, s4, y5) :: Zl := by simp
                  rw [HYS.out, ← h8]
                  exact h9); obtain ⟨qa, qc, hv8⟩ := rows_form hpair; obtain ⟨n8, hn8⟩ : ∃ n8, ys.length = n8 := ⟨_, rfl⟩; rw [hn8] at hv8; subst hv8; have HRD := Lib.hid hpair; clear hown8 hnn8 hgr8 hbe8 hpair hn8)
                have KC := Lib.hid (specShelfCopy_any (.slice qa n8 qc) ys (by have := HYL.out; omega) HLN.out W6 HRD.out)
                have R6 : Hid (VarA (w.heap.size + 1) ShelfT #[.slice none 0 0] W6) := Lib.hid (HP3.out.r.next' BZ.out (by have := HZW.out; omega))
                have BW6 : Hid (Below w.heap.size w W6) := Lib.hid (HP3.out.below.trans (BZ.out.mono (by have := HZW.out; omega)))
                have hzw6 : w.heap.size + 2 ≤ W6.heap.size := by have := HZ4.out; have := HZW.out; have := BZ.out.size; omega
                clear HP3 BZ HRD HL HTK HDR HYS
                refine KC.out.mono ?_
                rintro e W7 ⟨v9, f9, rfl, hd9, ho9, hb9⟩
                obtain ⟨qa9, qc9, hv9⟩ := rows_form (layHeldS.read ho9)
                obtain ⟨n9, hn9⟩ : ∃ n9, ys.length = n9 := ⟨_, rfl⟩
                rw [hn9] at hv9
                have hr5 := R6.out.next hb9
                have E : Hid (Q (.returned (.tuple #[.agg #[v9], .string ⟨#[]⟩, .bool false])) (W7.setCell ⟨w.heap.size + 1, 0, none⟩ v9)) := Lib.hid (by rw [HQ.out]; exact made_ends hzw6 BW6.out hd9 ho9 hb9 _ _)
                subst hv9
                have r0' := hr5.cell 0
                have z0' := hr5.free 0
                have j9 := (hr5.set 0 (.slice qa9 n9 qc9)).cell 0
                clear hd9 ho9 hb9 KC R6 BW6 hr5 hn9
                go_wp2_with fail
                try simp only [Exit.inBlock, Exit.then]
                exact bodyPost_ret (v := .tuple #[.agg #[.slice qa9 n9 qc9], .string ⟨#[]⟩, .bool false]) (by simp [results, Try.results7, go_sem, j9]) rfl E.out
          have hlt' : (k : Int) < (n2 : Int) := by omega
          have hkz : k < zs.length := by rw [HZL.out]; exact hlt
          have hnx := restZ_next (a := fr) (d := (d : Nat)) hkz
          have hskip := fun hn => HA.out.skip hkz hn
          have hmark : SameV fr (d : Nat) zs[k].2.1 → zs[k].2.1.2.2.1 = (c : Nat) → AtZ zs fr (d : Nat) (c : Nat) [.int .i64 fr, .int .i64 (d : Nat), .int .i64 (c : Nat), .slice (some ⟨g3, 0, none⟩) c c, .slice (some ⟨g4, 0, none⟩) c c, .int .i64 (now + 8)] (k + 1) (k : Int) zs[k].1 ∧ restZ fr (d : Nat) (zs.take k) = zs.take k ∧ A = -1 ∧ cs = [.int .i64 fr, .int .i64 (d : Nat), .int .i64 (c : Nat), .slice (some ⟨g3, 0, none⟩) c c, .slice (some ⟨g4, 0, none⟩) c c, .int .i64 (now + 8)] := fun hs1 hs2 => by
            refine ⟨.inl ⟨k, hkz, by omega, hs1, hs2, rfl, rfl⟩, restZ_at HSZ.out hkz hs1, ?_⟩
            rcases HA.out with ⟨i, hi, h9, h8, _⟩ | ⟨_, h9⟩
            · have := one_same HSZ.out hi hkz h8 hs1
              omega
            · exact h9
          have hraw := HRAW.out wr (fun g hg => CH.out.block g (layHeldS.blocks HG.out.own g hg).2 (fun hm => HG.out.gf.1 (by rw [List.mem_singleton] at hm; rw [← hm]; exact hg)))
          obtain ⟨g, og, cz', hga, hg, hr, hcl⟩ := rows_elem hraw k zs[k].1 (by rw [List.getElem?_map, List.getElem?_eq_getElem hkz]; rfl)
          obtain ⟨hcz, hk6, hone⟩ := hr
          rw [hcz] at hcl
          have hel := layHeld.read (HOWN.out _ (List.getElem_mem hkz)).1
          generalize zs[k] = z at hnx hskip hmark hcl hk6 hone hel
          obtain ⟨czz, x, fz⟩ := z
          obtain ⟨v3, v4, hcz2, hv3, hv4⟩ := layHeld_rd.1 hel
          simp only at hcz2
          subst hcz2
          obtain ⟨x0, x1, x2, r3, r4, x5⟩ := x
          simp only at hnx hskip hmark hcl hone hv3 hv4
          obtain ⟨pa, pc, rfl⟩ := rows_form hv3
          obtain ⟨pb, pd, rfl⟩ := rows_form hv4
          subst hga
          have d0 : wr.cell? ⟨g, og + k * 6, none⟩ = some (.int .i64 x0) := hcl 0 _ rfl
          have d1 : wr.cell? ⟨g, og + k * 6 + 1, none⟩ = some (.int .i64 x1) := hcl 1 _ rfl
          have d2 : wr.cell? ⟨g, og + k * 6 + 2, none⟩ = some (.int .i64 x2) := hcl 2 _ rfl
          have d3 : wr.cell? ⟨g, og + k * 6 + 3, none⟩ = some (.slice pa r3.length pc) := hcl 3 _ rfl
          have d4 : wr.cell? ⟨g, og + k * 6 + 4, none⟩ = some (.slice pb r4.length pd) := hcl 4 _ rfl
          have d5 : wr.cell? ⟨g, og + k * 6 + 5, none⟩ = some (.int .i64 x5) := hcl 5 _ rfl
          have hal : Below wr.heap.size wr (wr.alloc (.cells #[.int .i64 x0, .int .i64 x1, .int .i64 x2, .slice pa r3.length pc, .slice pb r4.length pd, .int .i64 x5] HeldT)) := (Below.refl _ _).alloc (Nat.le_refl _) _
          have XH := Lib.hid (VarA.new wr HeldT #[.int .i64 x0, .int .i64 x1, .int .i64 x2, .slice pa r3.length pc, .slice pb r4.length pd, .int .i64 x5])
          have XV2 := Lib.hid (XV.out.next hal)
          have RO2 := Lib.hid (rawHeld.next RO.out hal)
          have CH2 : Hid (Chg [gx] Z (wr.alloc (.cells #[.int .i64 x0, .int .i64 x1, .int .i64 x2, .slice pa r3.length pc, .slice pb r4.length pd, .int .i64 x5] HeldT))) := Lib.hid (CH.out.trans2 (Below.chg hal _))
          have HNX := Lib.hid hnx
          have HSK := Lib.hid hskip
          have HMK := Lib.hid hmark
          have HON := Lib.hid hone
          have HZW : Hid (Z.heap.size ≤ wr.heap.size) := Lib.hid CH.out.size
          clear hal hraw hcl hk6 hone hel hnx hskip hmark XV RO CH hv3 hv4
          go_upto_region 14 with fail
          clear d0 d1 d2 d3 d4 d5 n0
          generalize wr.alloc (.cells #[.int .i64 x0, .int .i64 x1, .int .i64 x2, .slice pa r3.length pc, .slice pb r4.length pd, .int .i64 x5] HeldT) = Y2 at *
          generalize wr.heap.size = gv at *
          have c0 : Y2.cell? ⟨gv, 0, none⟩ = some (.int .i64 x0) := XH.out.cell 0
          have c1 : Y2.cell? ⟨gv, 1, none⟩ = some (.int .i64 x1) := XH.out.cell 1
          have c2_ : Y2.cell? ⟨gv, 2, none⟩ = some (.int .i64 x2) := XH.out.cell 2
          have c3 : Y2.cell? ⟨gv, 3, none⟩ = some (.slice pa r3.length pc) := XH.out.cell 3
          have c4 : Y2.cell? ⟨gv, 4, none⟩ = some (.slice pb r4.length pd) := XH.out.cell 4
          have c5 : Y2.cell? ⟨gv, 5, none⟩ = some (.int .i64 x5) := XH.out.cell 5
          by_cases h0 : x0 = fr
          rotate_left
          · have k0 : (x0 == fr) = false := by rw [beq_eq_false_iff_ne]; exact h0
            have hnt : ¬ SameV fr (d : Nat) (x0, x1, x2, r3, r4, x5) := fun h => h0 h.1
            have hns : ¬ (SameV fr (d : Nat) (x0, x1, x2, r3, r4, x5) ∧ x2 = (c : Nat)) := fun h => hnt h.1
            clear h0
            have HN1 := Lib.hid (HSK.out hns)
            have HRN : Hid ((restZ fr (d : Nat) (zs.take (k + 1))).map (·.1) = (restZ fr (d : Nat) (zs.take k)).map (·.1) ++ [[.int .i64 x0, .int .i64 x1, .int .i64 x2, .slice pa r3.length pc, .slice pb r4.length pd, .int .i64 x5]]) := Lib.hid (by rw [HNX.out, if_neg hnt, List.map_append]; rfl)
            have hal3 : Below Y2.heap.size Y2 (Y2.alloc (.cells #[.int .i64 x0, .int .i64 x1, .int .i64 x2, .slice pa r3.length pc, .slice pb r4.length pd, .int .i64 x5] HeldT)) := (Below.refl _ _).alloc (Nat.le_refl _) _
            have RO3 := Lib.hid (rawHeld.next RO2.out hal3)
            have XV3 := Lib.hid (XV2.out.next hal3)
            have CH3 : Hid (Chg [gx] Z (Y2.alloc (.cells #[.int .i64 x0, .int .i64 x1, .int .i64 x2, .slice pa r3.length pc, .slice pb r4.length pd, .int .i64 x5] HeldT))) := Lib.hid (CH2.out.trans2 (Below.chg hal3 _))
            have HZ3 : Hid (Z.heap.size ≤ (Y2.alloc (.cells #[.int .i64 x0, .int .i64 x1, .int .i64 x2, .slice pa r3.length pc, .slice pb r4.length pd, .int .i64 x5] HeldT)).heap.size) := Lib.hid CH3.out.size
            have GXZ : Hid (gx < Z.heap.size) := Lib.hid HG.out.gl
            have hlen : ((restZ fr (d : Nat) (zs.take k)).map (·.1)).length + 1 ≤ 1000000000 := by
              have h9 : (restZ fr (d : Nat) (zs.take k)).length ≤ (zs.take k).length := List.length_filter_le _ _
              rw [List.length_take] at h9
              rw [List.length_map]
              omega
            clear hal3 HNX HSK HMK hns hnt XV2 RO2 CH2
            go_wp2_with (at_builtin; refine wpList_pushL (Y2.alloc (.cells #[.int .i64 x0, .int .i64 x1, .int .i64 x2, .slice pa r3.length pc, .slice pb r4.length pd, .int .i64 x5] HeldT)) rfl _ _ 24 rfl Z.heap.size HeldT i0 _ 80 (layCells layHeld.k layHeld.pos) Try.underlying24 hi0 hz0 hs0 hb0 rfl (by omega) u18 fq ((restZ fr (d : Nat) (zs.take k)).map (·.1)) (by rfl) RO3.out ND.out [.int .i64 x0, .int .i64 x1, .int .i64 x2, .slice pa r3.length pc, .slice pb r4.length pd, .int .i64 x5] [.int .i64 x0, .int .i64 x1, .int .i64 x2, .slice pa r3.length pc, .slice pb r4.length pd, .int .i64 x5] [] ⟨rfl, rfl, rfl, HON.out⟩ List.nodup_nil (fun k hk => by cases hk) ⟨Y2.heap.size, 0, none⟩ (by rfl) (fun j u hj => lit_held Y2 #[.int .i64 x0, .int .i64 x1, .int .i64 x2, .slice pa r3.length pc, .slice pb r4.length pd, .int .i64 x5] HeldT j u hj) hlen HZ3.out ?_; intro v' w' hp; obtain ⟨fq', hof, hdf, -⟩ := hp.own; have NN4 := Lib.hid hp.some; have RO4 := Lib.hid hof; have ND4 := Lib.hid hdf; have XV4 : Hid (VarA gx HeldT cs.toArray w') := Lib.hid (XV3.out.next' hp.below GXZ.out); have CH4 : Hid (Chg [gx] Z w') := Lib.hid (chg_below CH3.out hp.below); clear hp hof hdf)
            rw [← HRN.out] at RO4
            go_wp2_with fail
            go_roundw
            case rel => exact ⟨k + 1, fq', A, cs, by omega, by go_num, rfl, HN1, XV4, RO4, ND4, CH4, NN4⟩
            case measure => simp [intOf]; omega
          have k0 : (x0 == fr) = true := by rw [beq_iff_eq]; exact h0
          by_cases h1' : x1 = (d : Int)
          rotate_left
          · have k1 : (x1 == (d : Int)) = false := by rw [beq_eq_false_iff_ne]; exact h1'
            have hnt : ¬ SameV fr (d : Nat) (x0, x1, x2, r3, r4, x5) := fun h => h1' h.2
            have hns : ¬ (SameV fr (d : Nat) (x0, x1, x2, r3, r4, x5) ∧ x2 = (c : Nat)) := fun h => hnt h.1
            clear h0 h1'
            have HN1 := Lib.hid (HSK.out hns)
            have HRN : Hid ((restZ fr (d : Nat) (zs.take (k + 1))).map (·.1) = (restZ fr (d : Nat) (zs.take k)).map (·.1) ++ [[.int .i64 x0, .int .i64 x1, .int .i64 x2, .slice pa r3.length pc, .slice pb r4.length pd, .int .i64 x5]]) := Lib.hid (by rw [HNX.out, if_neg hnt, List.map_append]; rfl)
            have hal3 : Below Y2.heap.size Y2 (Y2.alloc (.cells #[.int .i64 x0, .int .i64 x1, .int .i64 x2, .slice pa r3.length pc, .slice pb r4.length pd, .int .i64 x5] HeldT)) := (Below.refl _ _).alloc (Nat.le_refl _) _
            have RO3 := Lib.hid (rawHeld.next RO2.out hal3)
            have XV3 := Lib.hid (XV2.out.next hal3)
            have CH3 : Hid (Chg [gx] Z (Y2.alloc (.cells #[.int .i64 x0, .int .i64 x1, .int .i64 x2, .slice pa r3.length pc, .slice pb r4.length pd, .int .i64 x5] HeldT))) := Lib.hid (CH2.out.trans2 (Below.chg hal3 _))
            have HZ3 : Hid (Z.heap.size ≤ (Y2.alloc (.cells #[.int .i64 x0, .int .i64 x1, .int .i64 x2, .slice pa r3.length pc, .slice pb r4.length pd, .int .i64 x5] HeldT)).heap.size) := Lib.hid CH3.out.size
            have GXZ : Hid (gx < Z.heap.size) := Lib.hid HG.out.gl
            have hlen : ((restZ fr (d : Nat) (zs.take k)).map (·.1)).length + 1 ≤ 1000000000 := by
              have h9 : (restZ fr (d : Nat) (zs.take k)).length ≤ (zs.take k).length := List.length_filter_le _ _
              rw [List.length_take] at h9
              rw [List.length_map]
              omega
            clear hal3 HNX HSK HMK hns hnt XV2 RO2 CH2
            go_wp2_with (at_builtin; refine wpList_pushL (Y2.alloc (.cells #[.int .i64 x0, .int .i64 x1, .int .i64 x2, .slice pa r3.length pc, .slice pb r4.length pd, .int .i64 x5] HeldT)) rfl _ _ 24 rfl Z.heap.size HeldT i0 _ 80 (layCells layHeld.k layHeld.pos) Try.underlying24 hi0 hz0 hs0 hb0 rfl (by omega) u18 fq ((restZ fr (d : Nat) (zs.take k)).map (·.1)) (by rfl) RO3.out ND.out [.int .i64 x0, .int .i64 x1, .int .i64 x2, .slice pa r3.length pc, .slice pb r4.length pd, .int .i64 x5] [.int .i64 x0, .int .i64 x1, .int .i64 x2, .slice pa r3.length pc, .slice pb r4.length pd, .int .i64 x5] [] ⟨rfl, rfl, rfl, HON.out⟩ List.nodup_nil (fun k hk => by cases hk) ⟨Y2.heap.size, 0, none⟩ (by rfl) (fun j u hj => lit_held Y2 #[.int .i64 x0, .int .i64 x1, .int .i64 x2, .slice pa r3.length pc, .slice pb r4.length pd, .int .i64 x5] HeldT j u hj) hlen HZ3.out ?_; intro v' w' hp; obtain ⟨fq', hof, hdf, -⟩ := hp.own; have NN4 := Lib.hid hp.some; have RO4 := Lib.hid hof; have ND4 := Lib.hid hdf; have XV4 : Hid (VarA gx HeldT cs.toArray w') := Lib.hid (XV3.out.next' hp.below GXZ.out); have CH4 : Hid (Chg [gx] Z w') := Lib.hid (chg_below CH3.out hp.below); clear hp hof hdf)
            rw [← HRN.out] at RO4
            go_wp2_with fail
            go_roundw
            case rel => exact ⟨k + 1, fq', A, cs, by omega, by go_num, rfl, HN1, XV4, RO4, ND4, CH4, NN4⟩
            case measure => simp [intOf]; omega
          have k1 : (x1 == (d : Int)) = true := by rw [beq_iff_eq]; exact h1'
          have hsm : SameV fr (d : Nat) (x0, x1, x2, r3, r4, x5) := ⟨h0, h1'⟩
          have HRN : Hid (restZ fr (d : Nat) (zs.take (k + 1)) = restZ fr (d : Nat) (zs.take k)) := Lib.hid (by rw [HNX.out, if_pos hsm, List.append_nil])
          by_cases h2' : x2 = (c : Int)
          rotate_left
          · have k2 : (x2 == (c : Int)) = false := by rw [beq_eq_false_iff_ne]; exact h2'
            have HN1 := Lib.hid (HSK.out (fun h => h2' h.2))
            rw [← HRN.out] at RO2
            clear h0 h1' h2' hsm HNX HSK HMK
            go_wp2_with fail
            go_roundw
            case rel => exact ⟨k + 1, fq, A, cs, by omega, by go_num, rfl, HN1, XV2, RO2, ND, CH2, NN⟩
            case measure => simp [intOf]; omega
          have k2 : (x2 == (c : Int)) = true := by rw [beq_iff_eq]; exact h2'
          obtain ⟨hn1, hrl, rfl, rfl⟩ := HMK.out hsm h2'
          have HN1 := Lib.hid hn1
          obtain ⟨la, lc, hu⟩ := rows_form (rawHeld.read RO2.out)
          rw [List.length_map, hrl, List.length_take, Nat.min_eq_left (by have := HZL.out; omega)] at hu
          subst hu
          rw [← HRN.out] at RO2
          clear h0 h1' h2' hsm HNX HSK HMK hn1 hrl
          have y0 := XV2.out.cell 0
          have y1 := XV2.out.cell 1
          have y2 := XV2.out.cell 2
          have y3 := XV2.out.cell 3
          have y4 := XV2.out.cell 4
          have y5 := XV2.out.cell 5
          have z0 := XV2.out.free 0
          have z1 := XV2.out.free 1
          have z2 := XV2.out.free 2
          have z3 := XV2.out.free 3
          have z4 := XV2.out.free 4
          have z5 := XV2.out.free 5
          have hch : Chg [gx] Y2 ((((((Y2.setCell ⟨gx, 0, none⟩ (.int .i64 x0)).setCell ⟨gx, 1, none⟩ (.int .i64 x1)).setCell ⟨gx, 2, none⟩ (.int .i64 x2)).setCell ⟨gx, 3, none⟩ (.slice pa r3.length pc)).setCell ⟨gx, 4, none⟩ (.slice pb r4.length pd)).setCell ⟨gx, 5, none⟩ (.int .i64 x5)) := (Chg.cell _ _ _ _).trans2 ((Chg.cell _ _ _ _).trans2 ((Chg.cell _ _ _ _).trans2 ((Chg.cell _ _ _ _).trans2 ((Chg.cell _ _ _ _).trans2 (Chg.cell _ _ _ _)))))
          have XV5 := Lib.hid (XV2.out.six (.int .i64 x0) (.int .i64 x1) (.int .i64 x2) (.slice pa r3.length pc) (.slice pb r4.length pd) (.int .i64 x5))
          have RO5 : Hid (rawHeld.own ((((((Y2.setCell ⟨gx, 0, none⟩ (.int .i64 x0)).setCell ⟨gx, 1, none⟩ (.int .i64 x1)).setCell ⟨gx, 2, none⟩ (.int .i64 x2)).setCell ⟨gx, 3, none⟩ (.slice pa r3.length pc)).setCell ⟨gx, 4, none⟩ (.slice pb r4.length pd)).setCell ⟨gx, 5, none⟩ (.int .i64 x5)) Z.heap.size fq [.slice la k lc] ((restZ fr (d : Nat) (zs.take (k + 1))).map (·.1))) := Lib.hid (rawHeld.chg RO2.out hch (fun g hg hm => by have h9 := (rawHeld.blocks RO2.out g hg).1; have h8 := HG.out.gl; simp at hm; omega))
          have CH5 : Hid (Chg [gx] Z ((((((Y2.setCell ⟨gx, 0, none⟩ (.int .i64 x0)).setCell ⟨gx, 1, none⟩ (.int .i64 x1)).setCell ⟨gx, 2, none⟩ (.int .i64 x2)).setCell ⟨gx, 3, none⟩ (.slice pa r3.length pc)).setCell ⟨gx, 4, none⟩ (.slice pb r4.length pd)).setCell ⟨gx, 5, none⟩ (.int .i64 x5))) := Lib.hid (CH2.out.trans2 hch)
          clear hch
          go_wp2_with fail
          go_roundw
          case rel => exact ⟨k + 1, fq, (k : Int), [.int .i64 x0, .int .i64 x1, .int .i64 x2, .slice pa r3.length pc, .slice pb r4.length pd, .int .i64 x5], by omega, by go_num, rfl, HN1, XV5, RO5, ND, CH5, NN⟩
          case measure => simp [intOf]; omega

end Go.Proofs.Ythiicpbedgcmlaa
