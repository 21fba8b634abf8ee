/-
  The program's placeFor: where a part is held; a new one where none is.
-/
import Derived.Test.YthiicpbedgcmlaaJ17
import Derived.Test.YthiicpbedgcmlaaJ19
import Derived.Test.YthiicpbedgcmlaaJ20
import Derived.Deep.RegionHeld3
namespace Go.Proofs.Ythiicpbedgcmlaa
open Go.RowKit

/-- What placeFor leaves of a list where it holds a new one. -/
def restG (l : List HeldD) (r : Int) : List HeldD := if 0 ≤ r then l.eraseIdx r.toNat else if l.length = 3 then l.eraseIdx 0 else l
/-- Whether one of From, Id and Count is held at a place. -/
def FoundG (l : List HeldD) (r : Int) (c : Nat) : Prop := ∃ (i : Nat) (hi : i < l.length), r = (i : Int) ∧ l[i].2.2.1 = (c : Int)
/-- What placeFor tells, and the list behind it. -/
def PlaceG (l : List HeldD) (a d : Int) (c : Nat) (now r : Int) (i : Nat) (ys : List HeldD) : Prop := (FoundG l r c ∧ r = (i : Int) ∧ ys = l) ∨ (¬ FoundG l r c ∧ i = (restG l r).length ∧ ys = restG l r ++ [newV a d (c : Nat) now])
def PlaceForEnd (b base q : Nat) (l : List HeldD) (a d : Int) (c : Nat) (now r : Int) (W : World) (e : Ending) (W' : World) : Prop := ∃ (i : Nat) (ys : List HeldD) (u : Value) (fp : List Nat), e = .returned (.int .i64 i) ∧ PlaceG l a d c now r i ys ∧ VarA q ShelfT #[u] W' ∧ layHeldS.own W' base fp [u] ys ∧ fp.Nodup ∧ q ∉ fp ∧ Below b W W'

set_option maxRecDepth 100000 in
set_option maxHeartbeats 12800000 in
theorem placeFor_any (b base q : Nat) (fp : List Nat) (u : Value) (l : List HeldD) (a d : Int) (c : Nat) (now r : Int) (hr : PlaceIs l a d r) (hl : l.length ≤ 3) (hc : c ≤ 15) (hn0 : 0 ≤ now) (hn1 : now ≤ 999999992) (hb1 : b ≤ base) (hb2 : b ≤ q) (hq : q ∉ fp) (W : World) (hbase : base ≤ W.heap.size) (hv : VarA q ShelfT #[u] W) (hd : fp.Nodup) (ho : layHeldS.own W base fp [u] l) :
    Calls Try.prog 19 #[.pointer (some ⟨q, 0, none⟩), .int .i64 a, .int .i64 d, .int .i64 c, .int .i64 now] W (PlaceForEnd b base q l a d c now r W) := by
  obtain ⟨i3, hi3, hz3, hs3, hb3⟩ := info_of infoString
  obtain ⟨i4, hi4, hz4, hs4, hb4⟩ := info_of infoBool
  obtain ⟨i0, hi0, hz0, hs0, hb0⟩ := info_of infoHeld
  obtain ⟨la, lc, rfl⟩ := rows_form (layHeldS.read ho)
  obtain ⟨Q, HQ⟩ : ∃ Q : Ending → World → Prop, Hid (Q = PlaceForEnd b base q l a d c now r W) := ⟨_, Lib.hid rfl⟩
  rw [← HQ.out]
  have K := Lib.hid (placeOf_any q _ l a d r hr (by omega) W (hv.cell 0) (layHeldS.read ho))
  have HR := Lib.hid hr
  have HV := Lib.hid hv
  have HO := Lib.hid ho
  have HD := Lib.hid hd
  have NQ := Lib.hid hq
  have HBS := Lib.hid hbase
  have hw8 : IntKind.i64.wrap (now + 8) = now + 8 := by rw [IntKind.wrap_i64]; omega
  clear hr hv ho hd hq hbase
  go_enter Try.func19, Try.ntmps19
  go_wp2_with fail
  refine K.out.mono ?_
  rintro e X ⟨rfl, hb⟩
  have V := Lib.hid (HV.out.next hb)
  have O := Lib.hid (layHeldS.next HO.out hb)
  have BB : Hid (Below b W X) := Lib.hid (hb.mono (by have := HV.out.lt; omega))
  have HB : Hid (base ≤ X.heap.size) := Lib.hid (Nat.le_trans HBS.out hb.size)
  clear hb K HV HO HBS
  have v0 : X.cell? ⟨q, 0, none⟩ = some (.slice la l.length lc) := V.out.cell 0
  by_cases h0 : 0 ≤ r
  · obtain ⟨i, hi, rfl⟩ : ∃ i : Nat, ∃ hi : i < l.length, r = (i : Int) := by
      rcases HR.out with ⟨i, hi, h1, _⟩ | ⟨h1, _⟩
      · exact ⟨i, hi, h1⟩
      · omega
    have d0 : decide (0 ≤ (i : Int)) = true := decide_eq_true (by omega)
    have hil : (i : Int) < (l.length : Int) := by omega
    obtain ⟨g, og, cs, hga, hg, hrd, hcl⟩ := rows_elem (layHeldS.read O.out) i _ (List.getElem?_eq_getElem hi)
    subst hga
    have hsplit : l = l.take i ++ l[i] :: l.drop (i + 1) := by rw [List.getElem_cons_drop, List.take_append_drop]
    have hers : l.eraseIdx i = l.take i ++ l.drop (i + 1) := List.eraseIdx_eq_take_drop_succ l i
    have FF : Hid (FoundG l (i : Int) c ↔ l[i].2.2.1 = (c : Int)) := Lib.hid ⟨fun ⟨k, hk, e, h⟩ => by
      obtain rfl : i = k := by omega
      exact h, fun h => ⟨i, hi, rfl, h⟩⟩
    obtain ⟨y, hy⟩ : ∃ y, l[i] = y := ⟨_, rfl⟩
    rw [hy] at hrd hsplit FF
    obtain ⟨w3, w4, rfl, -, -⟩ := layHeld_rd.1 hrd
    obtain ⟨y0, y1, y2, r3, r4, y5⟩ := y
    have e2 : X.cell? ⟨g, og + i * 6 + 2, none⟩ = some (.int .i64 y2) := hcl 2 _ rfl
    have HSP := Lib.hid hsplit
    have HER := Lib.hid hers
    clear hy hcl hrd hsplit hers
    by_cases h2 : y2 = (c : Int)
    · have d2 : (y2 == (c : Int)) = true := by rw [beq_iff_eq]; exact h2
      have E : Hid (Q (.returned (.int .i64 (i : Int))) X) := Lib.hid (by
        rw [HQ.out]
        exact ⟨i, l, _, fp, rfl, .inl ⟨FF.out.2 h2, rfl, rfl⟩, V.out, O.out, HD.out, NQ.out, BB.out⟩)
      clear h2 FF HSP HER
      go_wp2_with fail
      exact E.out
    have d2 : (y2 == (c : Int)) = false := by rw [beq_eq_false_iff_ne]; exact h2
    have O2 := O.out
    rw [HSP.out] at O2
    have hlen : (l.take i ++ (y0, y1, y2, r3, r4, y5) :: l.drop (i + 1)).length = l.length := by rw [← HSP.out]
    have hti : (l.take i).length = i := by rw [List.length_take]; omega
    rw [hlen] at O2
    have KD := Lib.hid (dropHeld_any b base q fp _ (l.take i) (y0, y1, y2, r3, r4, y5) (l.drop (i + 1)) (by rw [hlen]; omega) hb1 hb2 NQ.out X V.out HD.out O2)
    rw [hti, ← HER.out] at KD
    have HEL : Hid ((l.eraseIdx i).length = l.length - 1) := Lib.hid (List.length_eraseIdx_of_lt hi)
    have HPG : Hid (∀ ys u fp' W', ys = l.eraseIdx i ++ [newV a d (c : Nat) now] → VarA q ShelfT #[u] W' → layHeldS.own W' base fp' [u] ys → fp'.Nodup → q ∉ fp' → Below b W W' → Q (.returned (.int .i64 ((l.eraseIdx i).length : Nat))) W') := Lib.hid (fun ys u fp' W' h1 h2' h3 h4 h5 h6 => by
      rw [HQ.out]
      have hrg : restG l (i : Int) = l.eraseIdx i := by unfold restG; rw [if_pos (by omega), Int.toNat_natCast]
      exact ⟨_, ys, u, fp', rfl, .inr ⟨fun hf => h2 (FF.out.1 hf), by rw [hrg], by rw [hrg]; exact h1⟩, h2', h3, h4, h5, h6⟩)
    clear h2 FF HSP HER O2 hlen hti O
    go_wp2_with (go_at_call 23; refine KD.out.mono ?_; rintro e X2 ⟨rfl, g5, cap5, fp5, v5, o5, n5, s5, b5⟩; have V2 := Lib.hid v5; have O5 : Hid (RowG HeldT layHeld X2 base fp5 (.slice (some ⟨g5, 0, none⟩) (l.eraseIdx i).length (l.eraseIdx i).length) (l.eraseIdx i)) := Lib.hid (.inr ⟨g5, cap5, rfl, o5⟩); have HD5 := Lib.hid n5; have NQ5 : Hid (q ∉ fp5) := Lib.hid (fun hm => NQ.out (s5 q hm)); have B5 := Lib.hid (BB.out.trans b5); have HB5 : Hid (base ≤ X2.heap.size) := Lib.hid (Nat.le_trans HB.out b5.size); clear v5 o5 n5 s5 b5; have v0 : X2.cell? ⟨q, 0, none⟩ = some (.slice (some ⟨g5, 0, none⟩) (l.eraseIdx i).length (l.eraseIdx i).length) := V2.out.cell 0; rw [HEL.out] at v0; have hk3 : (((l.length - 1 : Nat) : Int) == 3) = false := (by rw [beq_eq_false_iff_ne]; omega))
    have V := V2
    have BB := B5
    have HB := HB5
    clear V2 B5 HB5 v0
    have hrl : (l.eraseIdx i).length ≤ 3 := by rw [HEL.out]; omega
    generalize (l.eraseIdx i) = rest at *
    obtain ⟨u5, hu5⟩ : ∃ u, u = Value.slice (some ⟨g5, 0, none⟩) rest.length rest.length := ⟨_, rfl⟩
    rw [← hu5] at V O5
    clear hu5
    generalize X2 = X9 at *
    have E0 : Hid (Below b W X9.drew) := Lib.hid BB.out.drew
    replace V := Lib.hid V.out.drew
    replace O5 := Lib.hid (O5.out.next (Below.refl X9.heap.size X9).drew)
    replace HB : Hid (base ≤ X9.drew.heap.size) := HB
    go_wp2_with fail
    refine wp_region_held_drew (S := fun X => Hid (Below b W X)) (by kernel_rfl) E0 (fun hHeld => ?_)
    clear E0 BB
    generalize X9.drew = X0 at *
    refine wpAnyH_take (i := 0) (v := ?_) rfl (by kernel_rfl) (by kernel_rfl) (by kernel_rfl) (fun _ _ _ h => h) (Or.inl ⟨by kernel_rfl, ?_⟩) hHeld ?_
    rotate_left
    · intro X hX
      first | (go_simp; done) | (go_simp; with_reducible rfl)
    try simp only [Act.put, List.getElem_toArray, List.getElem_cons_zero, List.setIfInBounds_toArray, List.set_cons_zero, List.set_cons_succ]
    refine wpAnyH_take (i := 1) (v := ?_) rfl (by kernel_rfl) (by kernel_rfl) (by kernel_rfl) (fun _ _ _ h => h) (Or.inl ⟨by kernel_rfl, ?_⟩) hHeld ?_
    rotate_left
    · intro X hX
      first | (go_simp; done) | (go_simp; with_reducible rfl)
    try simp only [Act.put, List.getElem_toArray, List.getElem_cons_succ, List.getElem_cons_zero, List.setIfInBounds_toArray, List.set_cons_zero, List.set_cons_succ]
    refine wpAnyH_take (i := 2) (v := ?_) rfl (by kernel_rfl) (by kernel_rfl) (by kernel_rfl) (fun _ _ _ h => h) (Or.inl ⟨by kernel_rfl, ?_⟩) hHeld ?_
    rotate_left
    · intro X hX
      first | (go_simp; done) | (go_simp; with_reducible rfl)
    try simp only [Act.put, List.getElem_toArray, List.getElem_cons_succ, List.getElem_cons_zero, List.setIfInBounds_toArray, List.set_cons_zero, List.set_cons_succ]
    refine wpAnyH_take (i := 3) (v := ?_) rfl (by kernel_rfl) (by kernel_rfl) (by kernel_rfl) (fun _ _ _ h => h) (Or.inl ⟨by kernel_rfl, ?_⟩) hHeld ?_
    rotate_left
    · intro X hX
      first | (go_simp; done) | (go_simp; with_reducible rfl)
    try simp only [Act.put, List.getElem_toArray, List.getElem_cons_succ, List.getElem_cons_zero, List.setIfInBounds_toArray, List.set_cons_zero, List.set_cons_succ]
    refine wpAnyH_take (i := 5) (v := ?_) rfl (by kernel_rfl) (by kernel_rfl) (by kernel_rfl) (fun _ _ _ h => h) (Or.inl ⟨by kernel_rfl, ?_⟩) hHeld ?_
    rotate_left
    · intro X hX
      first | (go_simp; done) | (go_simp; with_reducible rfl)
    try simp only [Act.put, List.getElem_toArray, List.getElem_cons_succ, List.getElem_cons_zero, List.setIfInBounds_toArray, List.set_cons_zero, List.set_cons_succ]
    refine wpAnyH_take (i := 6) (v := ?_) rfl (by kernel_rfl) (by kernel_rfl) (by kernel_rfl) (fun _ _ _ h => h) (Or.inl ⟨by kernel_rfl, ?_⟩) hHeld ?_
    rotate_left
    · intro X hX
      first | (go_simp; done) | (go_simp; with_reducible rfl)
    try simp only [Act.put, List.getElem_toArray, List.getElem_cons_succ, List.getElem_cons_zero, List.setIfInBounds_toArray, List.set_cons_zero, List.set_cons_succ]
    refine wpAnyH_take (i := 7) (v := ?_) rfl (by kernel_rfl) (by kernel_rfl) (by kernel_rfl) (fun _ _ _ h => h) (Or.inl ⟨by kernel_rfl, ?_⟩) hHeld ?_
    rotate_left
    · intro X hX
      first | (go_simp; done) | (go_simp; with_reducible rfl)
    try simp only [Act.put, List.getElem_toArray, List.getElem_cons_succ, List.getElem_cons_zero, List.setIfInBounds_toArray, List.set_cons_zero, List.set_cons_succ]
    refine wpAnyH_take (i := 8) (v := ?_) rfl (by kernel_rfl) (by kernel_rfl) (by kernel_rfl) (fun _ _ _ h => h) (Or.inl ⟨by kernel_rfl, ?_⟩) hHeld ?_
    rotate_left
    · intro X hX
      first | (go_simp; done) | (go_simp; with_reducible rfl)
    try simp only [Act.put, List.getElem_toArray, List.getElem_cons_succ, List.getElem_cons_zero, List.setIfInBounds_toArray, List.set_cons_zero, List.set_cons_succ]
    refine wpAnyH_take (i := 10) (v := ?_) rfl (by kernel_rfl) (by kernel_rfl) (by kernel_rfl) (fun _ _ _ h => h) (Or.inl ⟨by kernel_rfl, ?_⟩) hHeld ?_
    rotate_left
    · intro X hX
      first | (go_simp; done) | (go_simp; with_reducible rfl)
    try simp only [Act.put, List.getElem_toArray, List.getElem_cons_succ, List.getElem_cons_zero, List.setIfInBounds_toArray, List.set_cons_zero, List.set_cons_succ]
    refine wpAnyH_take (i := 12) (v := ?_) rfl (by kernel_rfl) (by kernel_rfl) (by kernel_rfl) (fun _ _ _ h => h) (Or.inl ⟨by kernel_rfl, ?_⟩) hHeld ?_
    rotate_left
    · intro X hX
      first | (go_simp; done) | (go_simp; with_reducible rfl)
    try simp only [Act.put, List.getElem_toArray, List.getElem_cons_succ, List.getElem_cons_zero, List.setIfInBounds_toArray, List.set_cons_zero, List.set_cons_succ]
    refine wpAnyH_take (i := 13) (v := ?_) rfl (by kernel_rfl) (by kernel_rfl) (by kernel_rfl) (fun _ _ _ h => h) (Or.inl ⟨by kernel_rfl, ?_⟩) hHeld ?_
    rotate_left
    · intro X hX
      first | (go_simp; done) | (go_simp; with_reducible rfl)
    try simp only [Act.put, List.getElem_toArray, List.getElem_cons_succ, List.getElem_cons_zero, List.setIfInBounds_toArray, List.set_cons_zero, List.set_cons_succ]
    refine wpAnyH_ready (rs := [4, 9, 11]) (by kernel_rfl) (by simp) ?_
    refine AllReadyH.cons rfl (fun K hK => ?_) (AllReadyH.cons rfl (fun K hK => ?_) (AllReadyH.cons rfl (fun K hK => ?_) AllReadyH.nil))
    · have y0_ : X0.cell? ⟨q, 0, none⟩ = some u5 := V.out.cell 0
      go_simp
      refine hK.out _ _ hHeld (fun hHeld => ?_)
      clear hK K y0_
      try simp only [Act.put, List.getElem_toArray, List.getElem_cons_succ, List.getElem_cons_zero, List.setIfInBounds_toArray, List.set_cons_zero, List.set_cons_succ]
      refine wpAnyH_ready (rs := [9, 11]) (by kernel_rfl) (by simp) ?_
      refine AllReadyH.cons rfl (fun K hK => ?_) (AllReadyH.cons rfl (fun K hK => ?_) AllReadyH.nil)
      · have hxs : q < X0.heap.size := V.out.lt
        refine step_make rfl (.tmp 52) (.tmp 52) 32 rfl base StringT i3 (.string ⟨#[]⟩) 1 Try.underlying32 hi3 hz3 hs3 .i64 .i64 c (by rfl) (by rfl) (by rw [hb3]; omega) (by unfold maxLen; omega) HB.out ?_
        intro X2 hown1 hg1
        have hb : Hid (Below X0.heap.size X0 X2) := Lib.hid (below_grown hg1 (fun k h => by cases h) (Nat.le_refl _))
        have O3 : Hid (layStringS.own X2 base [X0.heap.size] [.slice (some ⟨X0.heap.size, 0, none⟩) c c] (List.replicate c ⟨#[]⟩)) := Lib.hid (rows_made (A := layString) hown1 rfl (flatString.own _ _ _ _ (layString_rd.2 rfl)))
        have F3 : Hid (X0.heap.size ∉ fp5 ∧ q ≠ X0.heap.size) := Lib.hid ⟨fun hm => by have := (O5.out.blocks _ hm).2; omega, by omega⟩
        refine hK.out _ _ (Lib.hid (hHeld.out.trans (hb.out.mono (by omega)))) (fun hHeld => ?_)
        clear hK K hown1 hg1 hxs
        replace V := Lib.hid (V.out.next hb.out)
        replace O5 := Lib.hid (O5.out.next hb.out)
        replace HB := Lib.hid (Nat.le_trans HB.out hb.out.size)
        clear hb
        generalize X0.heap.size = g3 at *
        try simp only [Act.put, List.getElem_toArray, List.getElem_cons_succ, List.getElem_cons_zero, List.setIfInBounds_toArray, List.set_cons_zero, List.set_cons_succ]
        refine wpAnyH_ready (rs := [11]) (by kernel_rfl) (by simp) ?_
        refine AllReadyH.cons rfl (fun K hK => ?_) AllReadyH.nil
        have hxs : q < X2.heap.size := V.out.lt
        refine step_make rfl (.tmp 54) (.tmp 54) 33 rfl base 4 i4 (.bool false) 1 Try.underlying33 hi4 hz4 hs4 .i64 .i64 c (by rfl) (by rfl) (by rw [hb4]; omega) (by unfold maxLen; omega) HB.out ?_
        intro X3 hown1 hg1
        have hb : Hid (Below X2.heap.size X2 X3) := Lib.hid (below_grown hg1 (fun k h => by cases h) (Nat.le_refl _))
        have O4 : Hid (layBoolS.own X3 base [X2.heap.size] [.slice (some ⟨X2.heap.size, 0, none⟩) c c] (List.replicate c false)) := Lib.hid (rows_made (A := Lay.bool) hown1 rfl (bool_own.2 ⟨rfl, rfl⟩))
        have F4 : Hid (X2.heap.size ∉ fp5 ∧ q ≠ X2.heap.size) := Lib.hid ⟨fun hm => by have := (O5.out.blocks _ hm).2; omega, by omega⟩
        have F34 : Hid (g3 ≠ X2.heap.size) := Lib.hid (by have h9 := (layStringS.blocks O3.out g3 (by simp)).2; omega)
        refine hK.out _ _ (Lib.hid (hHeld.out.trans (hb.out.mono (by omega)))) (fun hHeld => ?_)
        clear hK K hown1 hg1 hxs
        replace V := Lib.hid (V.out.next hb.out)
        replace O5 := Lib.hid (O5.out.next hb.out)
        replace HB := Lib.hid (Nat.le_trans HB.out hb.out.size)
        replace O3 := Lib.hid (layStringS.next O3.out hb.out)
        clear hb
        generalize X2.heap.size = g4 at *
        try simp only [Act.put, List.getElem_toArray, List.getElem_cons_succ, List.getElem_cons_zero, List.setIfInBounds_toArray, List.set_cons_zero, List.set_cons_succ]
        refine wpAnyH_take (i := 14) (v := ?_) rfl (by kernel_rfl) (by kernel_rfl) (by kernel_rfl) (fun _ _ _ h => h) (Or.inl ⟨by kernel_rfl, ?_⟩) hHeld ?_
        rotate_left
        · intro X hX
          first | (go_simp; done) | (go_simp; with_reducible rfl)
        try simp only [Act.put, List.getElem_toArray, List.getElem_cons_succ, List.getElem_cons_zero, List.setIfInBounds_toArray, List.set_cons_zero, List.set_cons_succ]
        refine wpAnyH_ready (rs := [15]) (by kernel_rfl) (by simp) ?_
        refine AllReadyH.cons rfl (fun K hK => ?_) AllReadyH.nil
        go_simp
        have hxs : q < X3.heap.size := V.out.lt
        have hal : Below X3.heap.size X3 (X3.alloc (.cells #[.int .i64 a, .int .i64 d, .int .i64 (c : Nat), .slice (some ⟨g3, 0, none⟩) c c, .slice (some ⟨g4, 0, none⟩) c c, .int .i64 (now + 8)] HeldT)) := (Below.refl _ _).alloc (Nat.le_refl _) _
        refine hK.out _ _ (Lib.hid (hHeld.out.trans (hal.mono (by omega)))) (fun hHeld => ?_)
        clear hK K hxs
        have HC : Hid (∀ (j : Nat) (p : Value), [.int .i64 a, .int .i64 d, .int .i64 (c : Nat), .slice (some ⟨g3, 0, none⟩) c c, .slice (some ⟨g4, 0, none⟩) c c, .int .i64 (now + 8)][j]? = some p → (X3.alloc (.cells #[.int .i64 a, .int .i64 d, .int .i64 (c : Nat), .slice (some ⟨g3, 0, none⟩) c c, .slice (some ⟨g4, 0, none⟩) c c, .int .i64 (now + 8)] HeldT)).cell? ((⟨X3.heap.size, 0, none⟩ : Addr).add j) = some p) := Lib.hid (fun j p hj => lit_held X3 #[.int .i64 a, .int .i64 d, .int .i64 (c : Nat), .slice (some ⟨g3, 0, none⟩) c c, .slice (some ⟨g4, 0, none⟩) c c, .int .i64 (now + 8)] HeldT j p hj)
        have hb := Lib.hid hal
        clear hal
        replace V := Lib.hid (V.out.next hb.out)
        replace O5 := Lib.hid (O5.out.next hb.out)
        replace HB := Lib.hid (Nat.le_trans HB.out hb.out.size)
        replace O3 := Lib.hid (layStringS.next O3.out hb.out)
        replace O4 := Lib.hid (layBoolS.next O4.out hb.out)
        clear hb
        generalize (X3.alloc (.cells #[.int .i64 a, .int .i64 d, .int .i64 (c : Nat), .slice (some ⟨g3, 0, none⟩) c c, .slice (some ⟨g4, 0, none⟩) c c, .int .i64 (now + 8)] HeldT)) = X4 at *
        generalize X3.heap.size = gl at *
        try simp only [Act.put, List.getElem_toArray, List.getElem_cons_succ, List.getElem_cons_zero, List.setIfInBounds_toArray, List.set_cons_zero, List.set_cons_succ]
        refine wpAnyH_ready (rs := [16]) (by kernel_rfl) (by simp) ?_
        refine AllReadyH.cons rfl (fun K hK => ?_) AllReadyH.nil
        have HY : Hid (layHeld.own X4 base ([g3] ++ [g4]) [.int .i64 a, .int .i64 d, .int .i64 (c : Nat), .slice (some ⟨g3, 0, none⟩) c c, .slice (some ⟨g4, 0, none⟩) c c, .int .i64 (now + 8)] (newV a d (c : Nat) now)) := Lib.hid (layHeld_own.2 ⟨_, _, [g3], [g4], rfl, rfl, O3.out, O4.out⟩)
        have HDY : Hid (([g3] ++ [g4]).Nodup) := Lib.hid (by have := F34.out; simp; omega)
        have HNY : Hid (∀ k ∈ [g3] ++ [g4], k ∉ fp5) := Lib.hid (fun k hk => by simp at hk; rcases hk with rfl | rfl; exact F3.out.1; exact F4.out.1)
        refine step_pushR rfl (.tmp 48) (.tmp 59) 24 rfl base HeldT i0 _ 80 layHeld Try.underlying24 hi0 hz0 hs0 hb0 rfl (by omega) u5 fp5 rest (by rfl) O5.out HD5.out (newV a d (c : Nat) now) [.int .i64 a, .int .i64 d, .int .i64 (c : Nat), .slice (some ⟨g3, 0, none⟩) c c, .slice (some ⟨g4, 0, none⟩) c c, .int .i64 (now + 8)] ([g3] ++ [g4]) HY.out HDY.out HNY.out ⟨gl, 0, none⟩ (by rfl) HC.out (by omega) HB.out ?_
        rintro v1 X5 ⟨f6, o6, n6, s6⟩ hbe hch
        have hxs : q < X4.heap.size := V.out.lt
        have NQ6 : Hid (q ∉ f6) := Lib.hid (fun hm => by
          rcases s6 q hm with h9 | h9 | h9
          · exact NQ5.out h9
          · simp at h9; rcases h9 with h9 | h9
            · exact F3.out.2 h9
            · exact F4.out.2 h9
          · omega)
        have V6 : Hid (VarA q ShelfT #[u5] X5) := Lib.hid ⟨(hch.block q V.out.lt NQ5.out).trans V.out.row⟩
        have O6 := Lib.hid o6
        have N6 := Lib.hid n6
        refine hK.out _ _ (Lib.hid (hHeld.out.trans (hbe.mono hb1))) (fun hHeld => ?_)
        clear hK K HY HDY HNY HC O3 O4 F3 F4 F34 O5 V o6 n6 s6 hbe hch hxs HB
        try simp only [Act.put, List.getElem_toArray, List.getElem_cons_succ, List.getElem_cons_zero, List.setIfInBounds_toArray, List.set_cons_zero, List.set_cons_succ]
        refine wpAnyH_take (i := 17) (v := ?_) rfl (by kernel_rfl) (by kernel_rfl) (by kernel_rfl) (fun _ _ _ h => h) (Or.inl ⟨by kernel_rfl, ?_⟩) hHeld ?_
        rotate_left
        · intro X hX
          first | (go_simp; done) | (go_simp; with_reducible rfl)
        try simp only [Act.put, List.getElem_toArray, List.getElem_cons_succ, List.getElem_cons_zero, List.setIfInBounds_toArray, List.set_cons_zero, List.set_cons_succ]
        refine wpAnyH_take (i := 18) (v := ?_) rfl (by kernel_rfl) (by kernel_rfl) (by kernel_rfl) (fun _ _ _ h => h) (Or.inl ⟨by kernel_rfl, ?_⟩) hHeld ?_
        rotate_left
        · intro X hX
          first | (go_simp; done) | (go_simp; with_reducible rfl)
        try simp only [Act.put, List.getElem_toArray, List.getElem_cons_succ, List.getElem_cons_zero, List.setIfInBounds_toArray, List.set_cons_zero, List.set_cons_succ]
        refine wpAnyH_ready (rs := [19]) (by kernel_rfl) (by simp) ?_
        refine AllReadyH.cons rfl (fun K hK => ?_) AllReadyH.nil
        obtain ⟨na, nk, hv1⟩ : ∃ na nk, v1 = .slice na (rest.length + 1) nk := (by have h9 := rows_form (layHeldS.read O6.out); rw [List.length_append] at h9; exact h9)
        rw [hv1] at O6 ⊢
        have y0_ : X5.cell? ⟨q, 0, none⟩ = some u5 := V6.out.cell 0
        have g0_ := V6.out.free 0
        go_simp
        have hc : Only q X5 (X5.setCell ⟨q, 0, none⟩ (.slice na (rest.length + 1) nk)) := Only.setCell 0 _
        have hb9 := hHeld.out.trans (hc.below hb2 (by have := V6.out.lt; omega))
        have V7 : Hid (VarA q ShelfT #[.slice na (rest.length + 1) nk] (X5.setCell ⟨q, 0, none⟩ (.slice na (rest.length + 1) nk))) := Lib.hid (V6.out.set 0 _)
        have E : Hid (Q (.returned (.int .i64 (rest.length : Nat))) (X5.setCell ⟨q, 0, none⟩ (.slice na (rest.length + 1) nk))) := Lib.hid (HPG.out _ _ f6 _ rfl V7.out (layHeldS.keep O6.out (fun a ha => hc.block a (layHeldS.blocks O6.out a ha).2 (fun e => NQ6.out (e ▸ ha)))) N6.out NQ6.out hb9)
        refine hK.out _ _ (Lib.hid hb9) (fun hHeld => ?_)
        clear hK K y0_ g0_ hc hb9 O6 V6 N6 NQ6 hv1
        generalize (X5.setCell ⟨q, 0, none⟩ (.slice na (rest.length + 1) nk)) = X6 at *
        try simp only [Act.put, List.getElem_toArray, List.getElem_cons_succ, List.getElem_cons_zero, List.setIfInBounds_toArray, List.set_cons_zero, List.set_cons_succ]
        refine wpAnyH_done (by kernel_rfl) ?_ _
        have y0_ : X6.cell? ⟨q, 0, none⟩ = some (.slice na (rest.length + 1) nk) := V7.out.cell 0
        have hwn : IntKind.i64.wrap (((rest.length + 1 : Nat) : Int) - 1) = (rest.length : Int) := by rw [IntKind.wrap_i64]; omega
        clear hHeld
        go_wp2_with fail
        exact E.out
      · have hxs : q < X0.heap.size := V.out.lt
        refine step_make rfl (.tmp 54) (.tmp 54) 33 rfl base 4 i4 (.bool false) 1 Try.underlying33 hi4 hz4 hs4 .i64 .i64 c (by rfl) (by rfl) (by rw [hb4]; omega) (by unfold maxLen; omega) HB.out ?_
        intro X2 hown1 hg1
        have hb : Hid (Below X0.heap.size X0 X2) := Lib.hid (below_grown hg1 (fun k h => by cases h) (Nat.le_refl _))
        have O4 : Hid (layBoolS.own X2 base [X0.heap.size] [.slice (some ⟨X0.heap.size, 0, none⟩) c c] (List.replicate c false)) := Lib.hid (rows_made (A := Lay.bool) hown1 rfl (bool_own.2 ⟨rfl, rfl⟩))
        have F4 : Hid (X0.heap.size ∉ fp5 ∧ q ≠ X0.heap.size) := Lib.hid ⟨fun hm => by have := (O5.out.blocks _ hm).2; omega, by omega⟩
        refine hK.out _ _ (Lib.hid (hHeld.out.trans (hb.out.mono (by omega)))) (fun hHeld => ?_)
        clear hK K hown1 hg1 hxs
        replace V := Lib.hid (V.out.next hb.out)
        replace O5 := Lib.hid (O5.out.next hb.out)
        replace HB := Lib.hid (Nat.le_trans HB.out hb.out.size)
        clear hb
        generalize X0.heap.size = g4 at *
        try simp only [Act.put, List.getElem_toArray, List.getElem_cons_succ, List.getElem_cons_zero, List.setIfInBounds_toArray, List.set_cons_zero, List.set_cons_succ]
        refine wpAnyH_ready (rs := [9]) (by kernel_rfl) (by simp) ?_
        refine AllReadyH.cons rfl (fun K hK => ?_) AllReadyH.nil
        have hxs : q < X2.heap.size := V.out.lt
        refine step_make rfl (.tmp 52) (.tmp 52) 32 rfl base StringT i3 (.string ⟨#[]⟩) 1 Try.underlying32 hi3 hz3 hs3 .i64 .i64 c (by rfl) (by rfl) (by rw [hb3]; omega) (by unfold maxLen; omega) HB.out ?_
        intro X3 hown1 hg1
        have hb : Hid (Below X2.heap.size X2 X3) := Lib.hid (below_grown hg1 (fun k h => by cases h) (Nat.le_refl _))
        have O3 : Hid (layStringS.own X3 base [X2.heap.size] [.slice (some ⟨X2.heap.size, 0, none⟩) c c] (List.replicate c ⟨#[]⟩)) := Lib.hid (rows_made (A := layString) hown1 rfl (flatString.own _ _ _ _ (layString_rd.2 rfl)))
        have F3 : Hid (X2.heap.size ∉ fp5 ∧ q ≠ X2.heap.size) := Lib.hid ⟨fun hm => by have := (O5.out.blocks _ hm).2; omega, by omega⟩
        have F34 : Hid (g4 ≠ X2.heap.size) := Lib.hid (by have h9 := (layBoolS.blocks O4.out g4 (by simp)).2; omega)
        refine hK.out _ _ (Lib.hid (hHeld.out.trans (hb.out.mono (by omega)))) (fun hHeld => ?_)
        clear hK K hown1 hg1 hxs
        replace V := Lib.hid (V.out.next hb.out)
        replace O5 := Lib.hid (O5.out.next hb.out)
        replace HB := Lib.hid (Nat.le_trans HB.out hb.out.size)
        replace O4 := Lib.hid (layBoolS.next O4.out hb.out)
        clear hb
        generalize X2.heap.size = g3 at *
        try simp only [Act.put, List.getElem_toArray, List.getElem_cons_succ, List.getElem_cons_zero, List.setIfInBounds_toArray, List.set_cons_zero, List.set_cons_succ]
        refine wpAnyH_take (i := 14) (v := ?_) rfl (by kernel_rfl) (by kernel_rfl) (by kernel_rfl) (fun _ _ _ h => h) (Or.inl ⟨by kernel_rfl, ?_⟩) hHeld ?_
        rotate_left
        · intro X hX
          first | (go_simp; done) | (go_simp; with_reducible rfl)
        try simp only [Act.put, List.getElem_toArray, List.getElem_cons_succ, List.getElem_cons_zero, List.setIfInBounds_toArray, List.set_cons_zero, List.set_cons_succ]
        refine wpAnyH_ready (rs := [15]) (by kernel_rfl) (by simp) ?_
        refine AllReadyH.cons rfl (fun K hK => ?_) AllReadyH.nil
        go_simp
        have hxs : q < X3.heap.size := V.out.lt
        have hal : Below X3.heap.size X3 (X3.alloc (.cells #[.int .i64 a, .int .i64 d, .int .i64 (c : Nat), .slice (some ⟨g3, 0, none⟩) c c, .slice (some ⟨g4, 0, none⟩) c c, .int .i64 (now + 8)] HeldT)) := (Below.refl _ _).alloc (Nat.le_refl _) _
        refine hK.out _ _ (Lib.hid (hHeld.out.trans (hal.mono (by omega)))) (fun hHeld => ?_)
        clear hK K hxs
        have HC : Hid (∀ (j : Nat) (p : Value), [.int .i64 a, .int .i64 d, .int .i64 (c : Nat), .slice (some ⟨g3, 0, none⟩) c c, .slice (some ⟨g4, 0, none⟩) c c, .int .i64 (now + 8)][j]? = some p → (X3.alloc (.cells #[.int .i64 a, .int .i64 d, .int .i64 (c : Nat), .slice (some ⟨g3, 0, none⟩) c c, .slice (some ⟨g4, 0, none⟩) c c, .int .i64 (now + 8)] HeldT)).cell? ((⟨X3.heap.size, 0, none⟩ : Addr).add j) = some p) := Lib.hid (fun j p hj => lit_held X3 #[.int .i64 a, .int .i64 d, .int .i64 (c : Nat), .slice (some ⟨g3, 0, none⟩) c c, .slice (some ⟨g4, 0, none⟩) c c, .int .i64 (now + 8)] HeldT j p hj)
        have hb := Lib.hid hal
        clear hal
        replace V := Lib.hid (V.out.next hb.out)
        replace O5 := Lib.hid (O5.out.next hb.out)
        replace HB := Lib.hid (Nat.le_trans HB.out hb.out.size)
        replace O3 := Lib.hid (layStringS.next O3.out hb.out)
        replace O4 := Lib.hid (layBoolS.next O4.out hb.out)
        clear hb
        generalize (X3.alloc (.cells #[.int .i64 a, .int .i64 d, .int .i64 (c : Nat), .slice (some ⟨g3, 0, none⟩) c c, .slice (some ⟨g4, 0, none⟩) c c, .int .i64 (now + 8)] HeldT)) = X4 at *
        generalize X3.heap.size = gl at *
        try simp only [Act.put, List.getElem_toArray, List.getElem_cons_succ, List.getElem_cons_zero, List.setIfInBounds_toArray, List.set_cons_zero, List.set_cons_succ]
        refine wpAnyH_ready (rs := [16]) (by kernel_rfl) (by simp) ?_
        refine AllReadyH.cons rfl (fun K hK => ?_) AllReadyH.nil
        have HY : Hid (layHeld.own X4 base ([g3] ++ [g4]) [.int .i64 a, .int .i64 d, .int .i64 (c : Nat), .slice (some ⟨g3, 0, none⟩) c c, .slice (some ⟨g4, 0, none⟩) c c, .int .i64 (now + 8)] (newV a d (c : Nat) now)) := Lib.hid (layHeld_own.2 ⟨_, _, [g3], [g4], rfl, rfl, O3.out, O4.out⟩)
        have HDY : Hid (([g3] ++ [g4]).Nodup) := Lib.hid (by have := F34.out; simp; omega)
        have HNY : Hid (∀ k ∈ [g3] ++ [g4], k ∉ fp5) := Lib.hid (fun k hk => by simp at hk; rcases hk with rfl | rfl; exact F3.out.1; exact F4.out.1)
        refine step_pushR rfl (.tmp 48) (.tmp 59) 24 rfl base HeldT i0 _ 80 layHeld Try.underlying24 hi0 hz0 hs0 hb0 rfl (by omega) u5 fp5 rest (by rfl) O5.out HD5.out (newV a d (c : Nat) now) [.int .i64 a, .int .i64 d, .int .i64 (c : Nat), .slice (some ⟨g3, 0, none⟩) c c, .slice (some ⟨g4, 0, none⟩) c c, .int .i64 (now + 8)] ([g3] ++ [g4]) HY.out HDY.out HNY.out ⟨gl, 0, none⟩ (by rfl) HC.out (by omega) HB.out ?_
        rintro v1 X5 ⟨f6, o6, n6, s6⟩ hbe hch
        have hxs : q < X4.heap.size := V.out.lt
        have NQ6 : Hid (q ∉ f6) := Lib.hid (fun hm => by
          rcases s6 q hm with h9 | h9 | h9
          · exact NQ5.out h9
          · simp at h9; rcases h9 with h9 | h9
            · exact F3.out.2 h9
            · exact F4.out.2 h9
          · omega)
        have V6 : Hid (VarA q ShelfT #[u5] X5) := Lib.hid ⟨(hch.block q V.out.lt NQ5.out).trans V.out.row⟩
        have O6 := Lib.hid o6
        have N6 := Lib.hid n6
        refine hK.out _ _ (Lib.hid (hHeld.out.trans (hbe.mono hb1))) (fun hHeld => ?_)
        clear hK K HY HDY HNY HC O3 O4 F3 F4 F34 O5 V o6 n6 s6 hbe hch hxs HB
        try simp only [Act.put, List.getElem_toArray, List.getElem_cons_succ, List.getElem_cons_zero, List.setIfInBounds_toArray, List.set_cons_zero, List.set_cons_succ]
        refine wpAnyH_take (i := 17) (v := ?_) rfl (by kernel_rfl) (by kernel_rfl) (by kernel_rfl) (fun _ _ _ h => h) (Or.inl ⟨by kernel_rfl, ?_⟩) hHeld ?_
        rotate_left
        · intro X hX
          first | (go_simp; done) | (go_simp; with_reducible rfl)
        try simp only [Act.put, List.getElem_toArray, List.getElem_cons_succ, List.getElem_cons_zero, List.setIfInBounds_toArray, List.set_cons_zero, List.set_cons_succ]
        refine wpAnyH_take (i := 18) (v := ?_) rfl (by kernel_rfl) (by kernel_rfl) (by kernel_rfl) (fun _ _ _ h => h) (Or.inl ⟨by kernel_rfl, ?_⟩) hHeld ?_
        rotate_left
        · intro X hX
          first | (go_simp; done) | (go_simp; with_reducible rfl)
        try simp only [Act.put, List.getElem_toArray, List.getElem_cons_succ, List.getElem_cons_zero, List.setIfInBounds_toArray, List.set_cons_zero, List.set_cons_succ]
        refine wpAnyH_ready (rs := [19]) (by kernel_rfl) (by simp) ?_
        refine AllReadyH.cons rfl (fun K hK => ?_) AllReadyH.nil
        obtain ⟨na, nk, hv1⟩ : ∃ na nk, v1 = .slice na (rest.length + 1) nk := (by have h9 := rows_form (layHeldS.read O6.out); rw [List.length_append] at h9; exact h9)
        rw [hv1] at O6 ⊢
        have y0_ : X5.cell? ⟨q, 0, none⟩ = some u5 := V6.out.cell 0
        have g0_ := V6.out.free 0
        go_simp
        have hc : Only q X5 (X5.setCell ⟨q, 0, none⟩ (.slice na (rest.length + 1) nk)) := Only.setCell 0 _
        have hb9 := hHeld.out.trans (hc.below hb2 (by have := V6.out.lt; omega))
        have V7 : Hid (VarA q ShelfT #[.slice na (rest.length + 1) nk] (X5.setCell ⟨q, 0, none⟩ (.slice na (rest.length + 1) nk))) := Lib.hid (V6.out.set 0 _)
        have E : Hid (Q (.returned (.int .i64 (rest.length : Nat))) (X5.setCell ⟨q, 0, none⟩ (.slice na (rest.length + 1) nk))) := Lib.hid (HPG.out _ _ f6 _ rfl V7.out (layHeldS.keep O6.out (fun a ha => hc.block a (layHeldS.blocks O6.out a ha).2 (fun e => NQ6.out (e ▸ ha)))) N6.out NQ6.out hb9)
        refine hK.out _ _ (Lib.hid hb9) (fun hHeld => ?_)
        clear hK K y0_ g0_ hc hb9 O6 V6 N6 NQ6 hv1
        generalize (X5.setCell ⟨q, 0, none⟩ (.slice na (rest.length + 1) nk)) = X6 at *
        try simp only [Act.put, List.getElem_toArray, List.getElem_cons_succ, List.getElem_cons_zero, List.setIfInBounds_toArray, List.set_cons_zero, List.set_cons_succ]
        refine wpAnyH_done (by kernel_rfl) ?_ _
        have y0_ : X6.cell? ⟨q, 0, none⟩ = some (.slice na (rest.length + 1) nk) := V7.out.cell 0
        have hwn : IntKind.i64.wrap (((rest.length + 1 : Nat) : Int) - 1) = (rest.length : Int) := by rw [IntKind.wrap_i64]; omega
        clear hHeld
        go_wp2_with fail
        exact E.out
    · have hxs : q < X0.heap.size := V.out.lt
      refine step_make rfl (.tmp 52) (.tmp 52) 32 rfl base StringT i3 (.string ⟨#[]⟩) 1 Try.underlying32 hi3 hz3 hs3 .i64 .i64 c (by rfl) (by rfl) (by rw [hb3]; omega) (by unfold maxLen; omega) HB.out ?_
      intro X1 hown1 hg1
      have hb : Hid (Below X0.heap.size X0 X1) := Lib.hid (below_grown hg1 (fun k h => by cases h) (Nat.le_refl _))
      have O3 : Hid (layStringS.own X1 base [X0.heap.size] [.slice (some ⟨X0.heap.size, 0, none⟩) c c] (List.replicate c ⟨#[]⟩)) := Lib.hid (rows_made (A := layString) hown1 rfl (flatString.own _ _ _ _ (layString_rd.2 rfl)))
      have F3 : Hid (X0.heap.size ∉ fp5 ∧ q ≠ X0.heap.size) := Lib.hid ⟨fun hm => by have := (O5.out.blocks _ hm).2; omega, by omega⟩
      refine hK.out _ _ (Lib.hid (hHeld.out.trans (hb.out.mono (by omega)))) (fun hHeld => ?_)
      clear hK K hown1 hg1 hxs
      replace V := Lib.hid (V.out.next hb.out)
      replace O5 := Lib.hid (O5.out.next hb.out)
      replace HB := Lib.hid (Nat.le_trans HB.out hb.out.size)
      clear hb
      generalize X0.heap.size = g3 at *
      try simp only [Act.put, List.getElem_toArray, List.getElem_cons_succ, List.getElem_cons_zero, List.setIfInBounds_toArray, List.set_cons_zero, List.set_cons_succ]
      refine wpAnyH_ready (rs := [4, 11]) (by kernel_rfl) (by simp) ?_
      refine AllReadyH.cons rfl (fun K hK => ?_) (AllReadyH.cons rfl (fun K hK => ?_) AllReadyH.nil)
      · have y0_ : X1.cell? ⟨q, 0, none⟩ = some u5 := V.out.cell 0
        go_simp
        refine hK.out _ _ hHeld (fun hHeld => ?_)
        clear hK K y0_
        try simp only [Act.put, List.getElem_toArray, List.getElem_cons_succ, List.getElem_cons_zero, List.setIfInBounds_toArray, List.set_cons_zero, List.set_cons_succ]
        refine wpAnyH_ready (rs := [11]) (by kernel_rfl) (by simp) ?_
        refine AllReadyH.cons rfl (fun K hK => ?_) AllReadyH.nil
        have hxs : q < X1.heap.size := V.out.lt
        refine step_make rfl (.tmp 54) (.tmp 54) 33 rfl base 4 i4 (.bool false) 1 Try.underlying33 hi4 hz4 hs4 .i64 .i64 c (by rfl) (by rfl) (by rw [hb4]; omega) (by unfold maxLen; omega) HB.out ?_
        intro X3 hown1 hg1
        have hb : Hid (Below X1.heap.size X1 X3) := Lib.hid (below_grown hg1 (fun k h => by cases h) (Nat.le_refl _))
        have O4 : Hid (layBoolS.own X3 base [X1.heap.size] [.slice (some ⟨X1.heap.size, 0, none⟩) c c] (List.replicate c false)) := Lib.hid (rows_made (A := Lay.bool) hown1 rfl (bool_own.2 ⟨rfl, rfl⟩))
        have F4 : Hid (X1.heap.size ∉ fp5 ∧ q ≠ X1.heap.size) := Lib.hid ⟨fun hm => by have := (O5.out.blocks _ hm).2; omega, by omega⟩
        have F34 : Hid (g3 ≠ X1.heap.size) := Lib.hid (by have h9 := (layStringS.blocks O3.out g3 (by simp)).2; omega)
        refine hK.out _ _ (Lib.hid (hHeld.out.trans (hb.out.mono (by omega)))) (fun hHeld => ?_)
        clear hK K hown1 hg1 hxs
        replace V := Lib.hid (V.out.next hb.out)
        replace O5 := Lib.hid (O5.out.next hb.out)
        replace HB := Lib.hid (Nat.le_trans HB.out hb.out.size)
        replace O3 := Lib.hid (layStringS.next O3.out hb.out)
        clear hb
        generalize X1.heap.size = g4 at *
        try simp only [Act.put, List.getElem_toArray, List.getElem_cons_succ, List.getElem_cons_zero, List.setIfInBounds_toArray, List.set_cons_zero, List.set_cons_succ]
        refine wpAnyH_take (i := 14) (v := ?_) rfl (by kernel_rfl) (by kernel_rfl) (by kernel_rfl) (fun _ _ _ h => h) (Or.inl ⟨by kernel_rfl, ?_⟩) hHeld ?_
        rotate_left
        · intro X hX
          first | (go_simp; done) | (go_simp; with_reducible rfl)
        try simp only [Act.put, List.getElem_toArray, List.getElem_cons_succ, List.getElem_cons_zero, List.setIfInBounds_toArray, List.set_cons_zero, List.set_cons_succ]
        refine wpAnyH_ready (rs := [15]) (by kernel_rfl) (by simp) ?_
        refine AllReadyH.cons rfl (fun K hK => ?_) AllReadyH.nil
        go_simp
        have hxs : q < X3.heap.size := V.out.lt
        have hal : Below X3.heap.size X3 (X3.alloc (.cells #[.int .i64 a, .int .i64 d, .int .i64 (c : Nat), .slice (some ⟨g3, 0, none⟩) c c, .slice (some ⟨g4, 0, none⟩) c c, .int .i64 (now + 8)] HeldT)) := (Below.refl _ _).alloc (Nat.le_refl _) _
        refine hK.out _ _ (Lib.hid (hHeld.out.trans (hal.mono (by omega)))) (fun hHeld => ?_)
        clear hK K hxs
        have HC : Hid (∀ (j : Nat) (p : Value), [.int .i64 a, .int .i64 d, .int .i64 (c : Nat), .slice (some ⟨g3, 0, none⟩) c c, .slice (some ⟨g4, 0, none⟩) c c, .int .i64 (now + 8)][j]? = some p → (X3.alloc (.cells #[.int .i64 a, .int .i64 d, .int .i64 (c : Nat), .slice (some ⟨g3, 0, none⟩) c c, .slice (some ⟨g4, 0, none⟩) c c, .int .i64 (now + 8)] HeldT)).cell? ((⟨X3.heap.size, 0, none⟩ : Addr).add j) = some p) := Lib.hid (fun j p hj => lit_held X3 #[.int .i64 a, .int .i64 d, .int .i64 (c : Nat), .slice (some ⟨g3, 0, none⟩) c c, .slice (some ⟨g4, 0, none⟩) c c, .int .i64 (now + 8)] HeldT j p hj)
        have hb := Lib.hid hal
        clear hal
        replace V := Lib.hid (V.out.next hb.out)
        replace O5 := Lib.hid (O5.out.next hb.out)
        replace HB := Lib.hid (Nat.le_trans HB.out hb.out.size)
        replace O3 := Lib.hid (layStringS.next O3.out hb.out)
        replace O4 := Lib.hid (layBoolS.next O4.out hb.out)
        clear hb
        generalize (X3.alloc (.cells #[.int .i64 a, .int .i64 d, .int .i64 (c : Nat), .slice (some ⟨g3, 0, none⟩) c c, .slice (some ⟨g4, 0, none⟩) c c, .int .i64 (now + 8)] HeldT)) = X4 at *
        generalize X3.heap.size = gl at *
        try simp only [Act.put, List.getElem_toArray, List.getElem_cons_succ, List.getElem_cons_zero, List.setIfInBounds_toArray, List.set_cons_zero, List.set_cons_succ]
        refine wpAnyH_ready (rs := [16]) (by kernel_rfl) (by simp) ?_
        refine AllReadyH.cons rfl (fun K hK => ?_) AllReadyH.nil
        have HY : Hid (layHeld.own X4 base ([g3] ++ [g4]) [.int .i64 a, .int .i64 d, .int .i64 (c : Nat), .slice (some ⟨g3, 0, none⟩) c c, .slice (some ⟨g4, 0, none⟩) c c, .int .i64 (now + 8)] (newV a d (c : Nat) now)) := Lib.hid (layHeld_own.2 ⟨_, _, [g3], [g4], rfl, rfl, O3.out, O4.out⟩)
        have HDY : Hid (([g3] ++ [g4]).Nodup) := Lib.hid (by have := F34.out; simp; omega)
        have HNY : Hid (∀ k ∈ [g3] ++ [g4], k ∉ fp5) := Lib.hid (fun k hk => by simp at hk; rcases hk with rfl | rfl; exact F3.out.1; exact F4.out.1)
        refine step_pushR rfl (.tmp 48) (.tmp 59) 24 rfl base HeldT i0 _ 80 layHeld Try.underlying24 hi0 hz0 hs0 hb0 rfl (by omega) u5 fp5 rest (by rfl) O5.out HD5.out (newV a d (c : Nat) now) [.int .i64 a, .int .i64 d, .int .i64 (c : Nat), .slice (some ⟨g3, 0, none⟩) c c, .slice (some ⟨g4, 0, none⟩) c c, .int .i64 (now + 8)] ([g3] ++ [g4]) HY.out HDY.out HNY.out ⟨gl, 0, none⟩ (by rfl) HC.out (by omega) HB.out ?_
        rintro v1 X5 ⟨f6, o6, n6, s6⟩ hbe hch
        have hxs : q < X4.heap.size := V.out.lt
        have NQ6 : Hid (q ∉ f6) := Lib.hid (fun hm => by
          rcases s6 q hm with h9 | h9 | h9
          · exact NQ5.out h9
          · simp at h9; rcases h9 with h9 | h9
            · exact F3.out.2 h9
            · exact F4.out.2 h9
          · omega)
        have V6 : Hid (VarA q ShelfT #[u5] X5) := Lib.hid ⟨(hch.block q V.out.lt NQ5.out).trans V.out.row⟩
        have O6 := Lib.hid o6
        have N6 := Lib.hid n6
        refine hK.out _ _ (Lib.hid (hHeld.out.trans (hbe.mono hb1))) (fun hHeld => ?_)
        clear hK K HY HDY HNY HC O3 O4 F3 F4 F34 O5 V o6 n6 s6 hbe hch hxs HB
        try simp only [Act.put, List.getElem_toArray, List.getElem_cons_succ, List.getElem_cons_zero, List.setIfInBounds_toArray, List.set_cons_zero, List.set_cons_succ]
        refine wpAnyH_take (i := 17) (v := ?_) rfl (by kernel_rfl) (by kernel_rfl) (by kernel_rfl) (fun _ _ _ h => h) (Or.inl ⟨by kernel_rfl, ?_⟩) hHeld ?_
        rotate_left
        · intro X hX
          first | (go_simp; done) | (go_simp; with_reducible rfl)
        try simp only [Act.put, List.getElem_toArray, List.getElem_cons_succ, List.getElem_cons_zero, List.setIfInBounds_toArray, List.set_cons_zero, List.set_cons_succ]
        refine wpAnyH_take (i := 18) (v := ?_) rfl (by kernel_rfl) (by kernel_rfl) (by kernel_rfl) (fun _ _ _ h => h) (Or.inl ⟨by kernel_rfl, ?_⟩) hHeld ?_
        rotate_left
        · intro X hX
          first | (go_simp; done) | (go_simp; with_reducible rfl)
        try simp only [Act.put, List.getElem_toArray, List.getElem_cons_succ, List.getElem_cons_zero, List.setIfInBounds_toArray, List.set_cons_zero, List.set_cons_succ]
        refine wpAnyH_ready (rs := [19]) (by kernel_rfl) (by simp) ?_
        refine AllReadyH.cons rfl (fun K hK => ?_) AllReadyH.nil
        obtain ⟨na, nk, hv1⟩ : ∃ na nk, v1 = .slice na (rest.length + 1) nk := (by have h9 := rows_form (layHeldS.read O6.out); rw [List.length_append] at h9; exact h9)
        rw [hv1] at O6 ⊢
        have y0_ : X5.cell? ⟨q, 0, none⟩ = some u5 := V6.out.cell 0
        have g0_ := V6.out.free 0
        go_simp
        have hc : Only q X5 (X5.setCell ⟨q, 0, none⟩ (.slice na (rest.length + 1) nk)) := Only.setCell 0 _
        have hb9 := hHeld.out.trans (hc.below hb2 (by have := V6.out.lt; omega))
        have V7 : Hid (VarA q ShelfT #[.slice na (rest.length + 1) nk] (X5.setCell ⟨q, 0, none⟩ (.slice na (rest.length + 1) nk))) := Lib.hid (V6.out.set 0 _)
        have E : Hid (Q (.returned (.int .i64 (rest.length : Nat))) (X5.setCell ⟨q, 0, none⟩ (.slice na (rest.length + 1) nk))) := Lib.hid (HPG.out _ _ f6 _ rfl V7.out (layHeldS.keep O6.out (fun a ha => hc.block a (layHeldS.blocks O6.out a ha).2 (fun e => NQ6.out (e ▸ ha)))) N6.out NQ6.out hb9)
        refine hK.out _ _ (Lib.hid hb9) (fun hHeld => ?_)
        clear hK K y0_ g0_ hc hb9 O6 V6 N6 NQ6 hv1
        generalize (X5.setCell ⟨q, 0, none⟩ (.slice na (rest.length + 1) nk)) = X6 at *
        try simp only [Act.put, List.getElem_toArray, List.getElem_cons_succ, List.getElem_cons_zero, List.setIfInBounds_toArray, List.set_cons_zero, List.set_cons_succ]
        refine wpAnyH_done (by kernel_rfl) ?_ _
        have y0_ : X6.cell? ⟨q, 0, none⟩ = some (.slice na (rest.length + 1) nk) := V7.out.cell 0
        have hwn : IntKind.i64.wrap (((rest.length + 1 : Nat) : Int) - 1) = (rest.length : Int) := by rw [IntKind.wrap_i64]; omega
        clear hHeld
        go_wp2_with fail
        exact E.out
      · have hxs : q < X1.heap.size := V.out.lt
        refine step_make rfl (.tmp 54) (.tmp 54) 33 rfl base 4 i4 (.bool false) 1 Try.underlying33 hi4 hz4 hs4 .i64 .i64 c (by rfl) (by rfl) (by rw [hb4]; omega) (by unfold maxLen; omega) HB.out ?_
        intro X2 hown1 hg1
        have hb : Hid (Below X1.heap.size X1 X2) := Lib.hid (below_grown hg1 (fun k h => by cases h) (Nat.le_refl _))
        have O4 : Hid (layBoolS.own X2 base [X1.heap.size] [.slice (some ⟨X1.heap.size, 0, none⟩) c c] (List.replicate c false)) := Lib.hid (rows_made (A := Lay.bool) hown1 rfl (bool_own.2 ⟨rfl, rfl⟩))
        have F4 : Hid (X1.heap.size ∉ fp5 ∧ q ≠ X1.heap.size) := Lib.hid ⟨fun hm => by have := (O5.out.blocks _ hm).2; omega, by omega⟩
        have F34 : Hid (g3 ≠ X1.heap.size) := Lib.hid (by have h9 := (layStringS.blocks O3.out g3 (by simp)).2; omega)
        refine hK.out _ _ (Lib.hid (hHeld.out.trans (hb.out.mono (by omega)))) (fun hHeld => ?_)
        clear hK K hown1 hg1 hxs
        replace V := Lib.hid (V.out.next hb.out)
        replace O5 := Lib.hid (O5.out.next hb.out)
        replace HB := Lib.hid (Nat.le_trans HB.out hb.out.size)
        replace O3 := Lib.hid (layStringS.next O3.out hb.out)
        clear hb
        generalize X1.heap.size = g4 at *
        try simp only [Act.put, List.getElem_toArray, List.getElem_cons_succ, List.getElem_cons_zero, List.setIfInBounds_toArray, List.set_cons_zero, List.set_cons_succ]
        refine wpAnyH_take (i := 14) (v := ?_) rfl (by kernel_rfl) (by kernel_rfl) (by kernel_rfl) (fun _ _ _ h => h) (Or.inl ⟨by kernel_rfl, ?_⟩) hHeld ?_
        rotate_left
        · intro X hX
          first | (go_simp; done) | (go_simp; with_reducible rfl)
        try simp only [Act.put, List.getElem_toArray, List.getElem_cons_succ, List.getElem_cons_zero, List.setIfInBounds_toArray, List.set_cons_zero, List.set_cons_succ]
        refine wpAnyH_ready (rs := [4, 15]) (by kernel_rfl) (by simp) ?_
        refine AllReadyH.cons rfl (fun K hK => ?_) (AllReadyH.cons rfl (fun K hK => ?_) AllReadyH.nil)
        · have y0_ : X2.cell? ⟨q, 0, none⟩ = some u5 := V.out.cell 0
          go_simp
          refine hK.out _ _ hHeld (fun hHeld => ?_)
          clear hK K y0_
          try simp only [Act.put, List.getElem_toArray, List.getElem_cons_succ, List.getElem_cons_zero, List.setIfInBounds_toArray, List.set_cons_zero, List.set_cons_succ]
          refine wpAnyH_ready (rs := [15]) (by kernel_rfl) (by simp) ?_
          refine AllReadyH.cons rfl (fun K hK => ?_) AllReadyH.nil
          go_simp
          have hxs : q < X2.heap.size := V.out.lt
          have hal : Below X2.heap.size X2 (X2.alloc (.cells #[.int .i64 a, .int .i64 d, .int .i64 (c : Nat), .slice (some ⟨g3, 0, none⟩) c c, .slice (some ⟨g4, 0, none⟩) c c, .int .i64 (now + 8)] HeldT)) := (Below.refl _ _).alloc (Nat.le_refl _) _
          refine hK.out _ _ (Lib.hid (hHeld.out.trans (hal.mono (by omega)))) (fun hHeld => ?_)
          clear hK K hxs
          have HC : Hid (∀ (j : Nat) (p : Value), [.int .i64 a, .int .i64 d, .int .i64 (c : Nat), .slice (some ⟨g3, 0, none⟩) c c, .slice (some ⟨g4, 0, none⟩) c c, .int .i64 (now + 8)][j]? = some p → (X2.alloc (.cells #[.int .i64 a, .int .i64 d, .int .i64 (c : Nat), .slice (some ⟨g3, 0, none⟩) c c, .slice (some ⟨g4, 0, none⟩) c c, .int .i64 (now + 8)] HeldT)).cell? ((⟨X2.heap.size, 0, none⟩ : Addr).add j) = some p) := Lib.hid (fun j p hj => lit_held X2 #[.int .i64 a, .int .i64 d, .int .i64 (c : Nat), .slice (some ⟨g3, 0, none⟩) c c, .slice (some ⟨g4, 0, none⟩) c c, .int .i64 (now + 8)] HeldT j p hj)
          have hb := Lib.hid hal
          clear hal
          replace V := Lib.hid (V.out.next hb.out)
          replace O5 := Lib.hid (O5.out.next hb.out)
          replace HB := Lib.hid (Nat.le_trans HB.out hb.out.size)
          replace O3 := Lib.hid (layStringS.next O3.out hb.out)
          replace O4 := Lib.hid (layBoolS.next O4.out hb.out)
          clear hb
          generalize (X2.alloc (.cells #[.int .i64 a, .int .i64 d, .int .i64 (c : Nat), .slice (some ⟨g3, 0, none⟩) c c, .slice (some ⟨g4, 0, none⟩) c c, .int .i64 (now + 8)] HeldT)) = X4 at *
          generalize X2.heap.size = gl at *
          try simp only [Act.put, List.getElem_toArray, List.getElem_cons_succ, List.getElem_cons_zero, List.setIfInBounds_toArray, List.set_cons_zero, List.set_cons_succ]
          refine wpAnyH_ready (rs := [16]) (by kernel_rfl) (by simp) ?_
          refine AllReadyH.cons rfl (fun K hK => ?_) AllReadyH.nil
          have HY : Hid (layHeld.own X4 base ([g3] ++ [g4]) [.int .i64 a, .int .i64 d, .int .i64 (c : Nat), .slice (some ⟨g3, 0, none⟩) c c, .slice (some ⟨g4, 0, none⟩) c c, .int .i64 (now + 8)] (newV a d (c : Nat) now)) := Lib.hid (layHeld_own.2 ⟨_, _, [g3], [g4], rfl, rfl, O3.out, O4.out⟩)
          have HDY : Hid (([g3] ++ [g4]).Nodup) := Lib.hid (by have := F34.out; simp; omega)
          have HNY : Hid (∀ k ∈ [g3] ++ [g4], k ∉ fp5) := Lib.hid (fun k hk => by simp at hk; rcases hk with rfl | rfl; exact F3.out.1; exact F4.out.1)
          refine step_pushR rfl (.tmp 48) (.tmp 59) 24 rfl base HeldT i0 _ 80 layHeld Try.underlying24 hi0 hz0 hs0 hb0 rfl (by omega) u5 fp5 rest (by rfl) O5.out HD5.out (newV a d (c : Nat) now) [.int .i64 a, .int .i64 d, .int .i64 (c : Nat), .slice (some ⟨g3, 0, none⟩) c c, .slice (some ⟨g4, 0, none⟩) c c, .int .i64 (now + 8)] ([g3] ++ [g4]) HY.out HDY.out HNY.out ⟨gl, 0, none⟩ (by rfl) HC.out (by omega) HB.out ?_
          rintro v1 X5 ⟨f6, o6, n6, s6⟩ hbe hch
          have hxs : q < X4.heap.size := V.out.lt
          have NQ6 : Hid (q ∉ f6) := Lib.hid (fun hm => by
            rcases s6 q hm with h9 | h9 | h9
            · exact NQ5.out h9
            · simp at h9; rcases h9 with h9 | h9
              · exact F3.out.2 h9
              · exact F4.out.2 h9
            · omega)
          have V6 : Hid (VarA q ShelfT #[u5] X5) := Lib.hid ⟨(hch.block q V.out.lt NQ5.out).trans V.out.row⟩
          have O6 := Lib.hid o6
          have N6 := Lib.hid n6
          refine hK.out _ _ (Lib.hid (hHeld.out.trans (hbe.mono hb1))) (fun hHeld => ?_)
          clear hK K HY HDY HNY HC O3 O4 F3 F4 F34 O5 V o6 n6 s6 hbe hch hxs HB
          try simp only [Act.put, List.getElem_toArray, List.getElem_cons_succ, List.getElem_cons_zero, List.setIfInBounds_toArray, List.set_cons_zero, List.set_cons_succ]
          refine wpAnyH_take (i := 17) (v := ?_) rfl (by kernel_rfl) (by kernel_rfl) (by kernel_rfl) (fun _ _ _ h => h) (Or.inl ⟨by kernel_rfl, ?_⟩) hHeld ?_
          rotate_left
          · intro X hX
            first | (go_simp; done) | (go_simp; with_reducible rfl)
          try simp only [Act.put, List.getElem_toArray, List.getElem_cons_succ, List.getElem_cons_zero, List.setIfInBounds_toArray, List.set_cons_zero, List.set_cons_succ]
          refine wpAnyH_take (i := 18) (v := ?_) rfl (by kernel_rfl) (by kernel_rfl) (by kernel_rfl) (fun _ _ _ h => h) (Or.inl ⟨by kernel_rfl, ?_⟩) hHeld ?_
          rotate_left
          · intro X hX
            first | (go_simp; done) | (go_simp; with_reducible rfl)
          try simp only [Act.put, List.getElem_toArray, List.getElem_cons_succ, List.getElem_cons_zero, List.setIfInBounds_toArray, List.set_cons_zero, List.set_cons_succ]
          refine wpAnyH_ready (rs := [19]) (by kernel_rfl) (by simp) ?_
          refine AllReadyH.cons rfl (fun K hK => ?_) AllReadyH.nil
          obtain ⟨na, nk, hv1⟩ : ∃ na nk, v1 = .slice na (rest.length + 1) nk := (by have h9 := rows_form (layHeldS.read O6.out); rw [List.length_append] at h9; exact h9)
          rw [hv1] at O6 ⊢
          have y0_ : X5.cell? ⟨q, 0, none⟩ = some u5 := V6.out.cell 0
          have g0_ := V6.out.free 0
          go_simp
          have hc : Only q X5 (X5.setCell ⟨q, 0, none⟩ (.slice na (rest.length + 1) nk)) := Only.setCell 0 _
          have hb9 := hHeld.out.trans (hc.below hb2 (by have := V6.out.lt; omega))
          have V7 : Hid (VarA q ShelfT #[.slice na (rest.length + 1) nk] (X5.setCell ⟨q, 0, none⟩ (.slice na (rest.length + 1) nk))) := Lib.hid (V6.out.set 0 _)
          have E : Hid (Q (.returned (.int .i64 (rest.length : Nat))) (X5.setCell ⟨q, 0, none⟩ (.slice na (rest.length + 1) nk))) := Lib.hid (HPG.out _ _ f6 _ rfl V7.out (layHeldS.keep O6.out (fun a ha => hc.block a (layHeldS.blocks O6.out a ha).2 (fun e => NQ6.out (e ▸ ha)))) N6.out NQ6.out hb9)
          refine hK.out _ _ (Lib.hid hb9) (fun hHeld => ?_)
          clear hK K y0_ g0_ hc hb9 O6 V6 N6 NQ6 hv1
          generalize (X5.setCell ⟨q, 0, none⟩ (.slice na (rest.length + 1) nk)) = X6 at *
          try simp only [Act.put, List.getElem_toArray, List.getElem_cons_succ, List.getElem_cons_zero, List.setIfInBounds_toArray, List.set_cons_zero, List.set_cons_succ]
          refine wpAnyH_done (by kernel_rfl) ?_ _
          have y0_ : X6.cell? ⟨q, 0, none⟩ = some (.slice na (rest.length + 1) nk) := V7.out.cell 0
          have hwn : IntKind.i64.wrap (((rest.length + 1 : Nat) : Int) - 1) = (rest.length : Int) := by rw [IntKind.wrap_i64]; omega
          clear hHeld
          go_wp2_with fail
          exact E.out
        · go_simp
          have hxs : q < X2.heap.size := V.out.lt
          have hal : Below X2.heap.size X2 (X2.alloc (.cells #[.int .i64 a, .int .i64 d, .int .i64 (c : Nat), .slice (some ⟨g3, 0, none⟩) c c, .slice (some ⟨g4, 0, none⟩) c c, .int .i64 (now + 8)] HeldT)) := (Below.refl _ _).alloc (Nat.le_refl _) _
          refine hK.out _ _ (Lib.hid (hHeld.out.trans (hal.mono (by omega)))) (fun hHeld => ?_)
          clear hK K hxs
          have HC : Hid (∀ (j : Nat) (p : Value), [.int .i64 a, .int .i64 d, .int .i64 (c : Nat), .slice (some ⟨g3, 0, none⟩) c c, .slice (some ⟨g4, 0, none⟩) c c, .int .i64 (now + 8)][j]? = some p → (X2.alloc (.cells #[.int .i64 a, .int .i64 d, .int .i64 (c : Nat), .slice (some ⟨g3, 0, none⟩) c c, .slice (some ⟨g4, 0, none⟩) c c, .int .i64 (now + 8)] HeldT)).cell? ((⟨X2.heap.size, 0, none⟩ : Addr).add j) = some p) := Lib.hid (fun j p hj => lit_held X2 #[.int .i64 a, .int .i64 d, .int .i64 (c : Nat), .slice (some ⟨g3, 0, none⟩) c c, .slice (some ⟨g4, 0, none⟩) c c, .int .i64 (now + 8)] HeldT j p hj)
          have hb := Lib.hid hal
          clear hal
          replace V := Lib.hid (V.out.next hb.out)
          replace O5 := Lib.hid (O5.out.next hb.out)
          replace HB := Lib.hid (Nat.le_trans HB.out hb.out.size)
          replace O3 := Lib.hid (layStringS.next O3.out hb.out)
          replace O4 := Lib.hid (layBoolS.next O4.out hb.out)
          clear hb
          generalize (X2.alloc (.cells #[.int .i64 a, .int .i64 d, .int .i64 (c : Nat), .slice (some ⟨g3, 0, none⟩) c c, .slice (some ⟨g4, 0, none⟩) c c, .int .i64 (now + 8)] HeldT)) = X3 at *
          generalize X2.heap.size = gl at *
          try simp only [Act.put, List.getElem_toArray, List.getElem_cons_succ, List.getElem_cons_zero, List.setIfInBounds_toArray, List.set_cons_zero, List.set_cons_succ]
          refine wpAnyH_ready (rs := [4]) (by kernel_rfl) (by simp) ?_
          refine AllReadyH.cons rfl (fun K hK => ?_) AllReadyH.nil
          have y0_ : X3.cell? ⟨q, 0, none⟩ = some u5 := V.out.cell 0
          go_simp
          refine hK.out _ _ hHeld (fun hHeld => ?_)
          clear hK K y0_
          try simp only [Act.put, List.getElem_toArray, List.getElem_cons_succ, List.getElem_cons_zero, List.setIfInBounds_toArray, List.set_cons_zero, List.set_cons_succ]
          refine wpAnyH_ready (rs := [16]) (by kernel_rfl) (by simp) ?_
          refine AllReadyH.cons rfl (fun K hK => ?_) AllReadyH.nil
          have HY : Hid (layHeld.own X3 base ([g3] ++ [g4]) [.int .i64 a, .int .i64 d, .int .i64 (c : Nat), .slice (some ⟨g3, 0, none⟩) c c, .slice (some ⟨g4, 0, none⟩) c c, .int .i64 (now + 8)] (newV a d (c : Nat) now)) := Lib.hid (layHeld_own.2 ⟨_, _, [g3], [g4], rfl, rfl, O3.out, O4.out⟩)
          have HDY : Hid (([g3] ++ [g4]).Nodup) := Lib.hid (by have := F34.out; simp; omega)
          have HNY : Hid (∀ k ∈ [g3] ++ [g4], k ∉ fp5) := Lib.hid (fun k hk => by simp at hk; rcases hk with rfl | rfl; exact F3.out.1; exact F4.out.1)
          refine step_pushR rfl (.tmp 48) (.tmp 59) 24 rfl base HeldT i0 _ 80 layHeld Try.underlying24 hi0 hz0 hs0 hb0 rfl (by omega) u5 fp5 rest (by rfl) O5.out HD5.out (newV a d (c : Nat) now) [.int .i64 a, .int .i64 d, .int .i64 (c : Nat), .slice (some ⟨g3, 0, none⟩) c c, .slice (some ⟨g4, 0, none⟩) c c, .int .i64 (now + 8)] ([g3] ++ [g4]) HY.out HDY.out HNY.out ⟨gl, 0, none⟩ (by rfl) HC.out (by omega) HB.out ?_
          rintro v1 X5 ⟨f6, o6, n6, s6⟩ hbe hch
          have hxs : q < X3.heap.size := V.out.lt
          have NQ6 : Hid (q ∉ f6) := Lib.hid (fun hm => by
            rcases s6 q hm with h9 | h9 | h9
            · exact NQ5.out h9
            · simp at h9; rcases h9 with h9 | h9
              · exact F3.out.2 h9
              · exact F4.out.2 h9
            · omega)
          have V6 : Hid (VarA q ShelfT #[u5] X5) := Lib.hid ⟨(hch.block q V.out.lt NQ5.out).trans V.out.row⟩
          have O6 := Lib.hid o6
          have N6 := Lib.hid n6
          refine hK.out _ _ (Lib.hid (hHeld.out.trans (hbe.mono hb1))) (fun hHeld => ?_)
          clear hK K HY HDY HNY HC O3 O4 F3 F4 F34 O5 V o6 n6 s6 hbe hch hxs HB
          try simp only [Act.put, List.getElem_toArray, List.getElem_cons_succ, List.getElem_cons_zero, List.setIfInBounds_toArray, List.set_cons_zero, List.set_cons_succ]
          refine wpAnyH_take (i := 17) (v := ?_) rfl (by kernel_rfl) (by kernel_rfl) (by kernel_rfl) (fun _ _ _ h => h) (Or.inl ⟨by kernel_rfl, ?_⟩) hHeld ?_
          rotate_left
          · intro X hX
            first | (go_simp; done) | (go_simp; with_reducible rfl)
          try simp only [Act.put, List.getElem_toArray, List.getElem_cons_succ, List.getElem_cons_zero, List.setIfInBounds_toArray, List.set_cons_zero, List.set_cons_succ]
          refine wpAnyH_take (i := 18) (v := ?_) rfl (by kernel_rfl) (by kernel_rfl) (by kernel_rfl) (fun _ _ _ h => h) (Or.inl ⟨by kernel_rfl, ?_⟩) hHeld ?_
          rotate_left
          · intro X hX
            first | (go_simp; done) | (go_simp; with_reducible rfl)
          try simp only [Act.put, List.getElem_toArray, List.getElem_cons_succ, List.getElem_cons_zero, List.setIfInBounds_toArray, List.set_cons_zero, List.set_cons_succ]
          refine wpAnyH_ready (rs := [19]) (by kernel_rfl) (by simp) ?_
          refine AllReadyH.cons rfl (fun K hK => ?_) AllReadyH.nil
          obtain ⟨na, nk, hv1⟩ : ∃ na nk, v1 = .slice na (rest.length + 1) nk := (by have h9 := rows_form (layHeldS.read O6.out); rw [List.length_append] at h9; exact h9)
          rw [hv1] at O6 ⊢
          have y0_ : X5.cell? ⟨q, 0, none⟩ = some u5 := V6.out.cell 0
          have g0_ := V6.out.free 0
          go_simp
          have hc : Only q X5 (X5.setCell ⟨q, 0, none⟩ (.slice na (rest.length + 1) nk)) := Only.setCell 0 _
          have hb9 := hHeld.out.trans (hc.below hb2 (by have := V6.out.lt; omega))
          have V7 : Hid (VarA q ShelfT #[.slice na (rest.length + 1) nk] (X5.setCell ⟨q, 0, none⟩ (.slice na (rest.length + 1) nk))) := Lib.hid (V6.out.set 0 _)
          have E : Hid (Q (.returned (.int .i64 (rest.length : Nat))) (X5.setCell ⟨q, 0, none⟩ (.slice na (rest.length + 1) nk))) := Lib.hid (HPG.out _ _ f6 _ rfl V7.out (layHeldS.keep O6.out (fun a ha => hc.block a (layHeldS.blocks O6.out a ha).2 (fun e => NQ6.out (e ▸ ha)))) N6.out NQ6.out hb9)
          refine hK.out _ _ (Lib.hid hb9) (fun hHeld => ?_)
          clear hK K y0_ g0_ hc hb9 O6 V6 N6 NQ6 hv1
          generalize (X5.setCell ⟨q, 0, none⟩ (.slice na (rest.length + 1) nk)) = X6 at *
          try simp only [Act.put, List.getElem_toArray, List.getElem_cons_succ, List.getElem_cons_zero, List.setIfInBounds_toArray, List.set_cons_zero, List.set_cons_succ]
          refine wpAnyH_done (by kernel_rfl) ?_ _
          have y0_ : X6.cell? ⟨q, 0, none⟩ = some (.slice na (rest.length + 1) nk) := V7.out.cell 0
          have hwn : IntKind.i64.wrap (((rest.length + 1 : Nat) : Int) - 1) = (rest.length : Int) := by rw [IntKind.wrap_i64]; omega
          clear hHeld
          go_wp2_with fail
          exact E.out
    · have hxs : q < X0.heap.size := V.out.lt
      refine step_make rfl (.tmp 54) (.tmp 54) 33 rfl base 4 i4 (.bool false) 1 Try.underlying33 hi4 hz4 hs4 .i64 .i64 c (by rfl) (by rfl) (by rw [hb4]; omega) (by unfold maxLen; omega) HB.out ?_
      intro X1 hown1 hg1
      have hb : Hid (Below X0.heap.size X0 X1) := Lib.hid (below_grown hg1 (fun k h => by cases h) (Nat.le_refl _))
      have O4 : Hid (layBoolS.own X1 base [X0.heap.size] [.slice (some ⟨X0.heap.size, 0, none⟩) c c] (List.replicate c false)) := Lib.hid (rows_made (A := Lay.bool) hown1 rfl (bool_own.2 ⟨rfl, rfl⟩))
      have F4 : Hid (X0.heap.size ∉ fp5 ∧ q ≠ X0.heap.size) := Lib.hid ⟨fun hm => by have := (O5.out.blocks _ hm).2; omega, by omega⟩
      refine hK.out _ _ (Lib.hid (hHeld.out.trans (hb.out.mono (by omega)))) (fun hHeld => ?_)
      clear hK K hown1 hg1 hxs
      replace V := Lib.hid (V.out.next hb.out)
      replace O5 := Lib.hid (O5.out.next hb.out)
      replace HB := Lib.hid (Nat.le_trans HB.out hb.out.size)
      clear hb
      generalize X0.heap.size = g4 at *
      try simp only [Act.put, List.getElem_toArray, List.getElem_cons_succ, List.getElem_cons_zero, List.setIfInBounds_toArray, List.set_cons_zero, List.set_cons_succ]
      refine wpAnyH_ready (rs := [4, 9]) (by kernel_rfl) (by simp) ?_
      refine AllReadyH.cons rfl (fun K hK => ?_) (AllReadyH.cons rfl (fun K hK => ?_) AllReadyH.nil)
      · have y0_ : X1.cell? ⟨q, 0, none⟩ = some u5 := V.out.cell 0
        go_simp
        refine hK.out _ _ hHeld (fun hHeld => ?_)
        clear hK K y0_
        try simp only [Act.put, List.getElem_toArray, List.getElem_cons_succ, List.getElem_cons_zero, List.setIfInBounds_toArray, List.set_cons_zero, List.set_cons_succ]
        refine wpAnyH_ready (rs := [9]) (by kernel_rfl) (by simp) ?_
        refine AllReadyH.cons rfl (fun K hK => ?_) AllReadyH.nil
        have hxs : q < X1.heap.size := V.out.lt
        refine step_make rfl (.tmp 52) (.tmp 52) 32 rfl base StringT i3 (.string ⟨#[]⟩) 1 Try.underlying32 hi3 hz3 hs3 .i64 .i64 c (by rfl) (by rfl) (by rw [hb3]; omega) (by unfold maxLen; omega) HB.out ?_
        intro X3 hown1 hg1
        have hb : Hid (Below X1.heap.size X1 X3) := Lib.hid (below_grown hg1 (fun k h => by cases h) (Nat.le_refl _))
        have O3 : Hid (layStringS.own X3 base [X1.heap.size] [.slice (some ⟨X1.heap.size, 0, none⟩) c c] (List.replicate c ⟨#[]⟩)) := Lib.hid (rows_made (A := layString) hown1 rfl (flatString.own _ _ _ _ (layString_rd.2 rfl)))
        have F3 : Hid (X1.heap.size ∉ fp5 ∧ q ≠ X1.heap.size) := Lib.hid ⟨fun hm => by have := (O5.out.blocks _ hm).2; omega, by omega⟩
        have F34 : Hid (g4 ≠ X1.heap.size) := Lib.hid (by have h9 := (layBoolS.blocks O4.out g4 (by simp)).2; omega)
        refine hK.out _ _ (Lib.hid (hHeld.out.trans (hb.out.mono (by omega)))) (fun hHeld => ?_)
        clear hK K hown1 hg1 hxs
        replace V := Lib.hid (V.out.next hb.out)
        replace O5 := Lib.hid (O5.out.next hb.out)
        replace HB := Lib.hid (Nat.le_trans HB.out hb.out.size)
        replace O4 := Lib.hid (layBoolS.next O4.out hb.out)
        clear hb
        generalize X1.heap.size = g3 at *
        try simp only [Act.put, List.getElem_toArray, List.getElem_cons_succ, List.getElem_cons_zero, List.setIfInBounds_toArray, List.set_cons_zero, List.set_cons_succ]
        refine wpAnyH_take (i := 14) (v := ?_) rfl (by kernel_rfl) (by kernel_rfl) (by kernel_rfl) (fun _ _ _ h => h) (Or.inl ⟨by kernel_rfl, ?_⟩) hHeld ?_
        rotate_left
        · intro X hX
          first | (go_simp; done) | (go_simp; with_reducible rfl)
        try simp only [Act.put, List.getElem_toArray, List.getElem_cons_succ, List.getElem_cons_zero, List.setIfInBounds_toArray, List.set_cons_zero, List.set_cons_succ]
        refine wpAnyH_ready (rs := [15]) (by kernel_rfl) (by simp) ?_
        refine AllReadyH.cons rfl (fun K hK => ?_) AllReadyH.nil
        go_simp
        have hxs : q < X3.heap.size := V.out.lt
        have hal : Below X3.heap.size X3 (X3.alloc (.cells #[.int .i64 a, .int .i64 d, .int .i64 (c : Nat), .slice (some ⟨g3, 0, none⟩) c c, .slice (some ⟨g4, 0, none⟩) c c, .int .i64 (now + 8)] HeldT)) := (Below.refl _ _).alloc (Nat.le_refl _) _
        refine hK.out _ _ (Lib.hid (hHeld.out.trans (hal.mono (by omega)))) (fun hHeld => ?_)
        clear hK K hxs
        have HC : Hid (∀ (j : Nat) (p : Value), [.int .i64 a, .int .i64 d, .int .i64 (c : Nat), .slice (some ⟨g3, 0, none⟩) c c, .slice (some ⟨g4, 0, none⟩) c c, .int .i64 (now + 8)][j]? = some p → (X3.alloc (.cells #[.int .i64 a, .int .i64 d, .int .i64 (c : Nat), .slice (some ⟨g3, 0, none⟩) c c, .slice (some ⟨g4, 0, none⟩) c c, .int .i64 (now + 8)] HeldT)).cell? ((⟨X3.heap.size, 0, none⟩ : Addr).add j) = some p) := Lib.hid (fun j p hj => lit_held X3 #[.int .i64 a, .int .i64 d, .int .i64 (c : Nat), .slice (some ⟨g3, 0, none⟩) c c, .slice (some ⟨g4, 0, none⟩) c c, .int .i64 (now + 8)] HeldT j p hj)
        have hb := Lib.hid hal
        clear hal
        replace V := Lib.hid (V.out.next hb.out)
        replace O5 := Lib.hid (O5.out.next hb.out)
        replace HB := Lib.hid (Nat.le_trans HB.out hb.out.size)
        replace O3 := Lib.hid (layStringS.next O3.out hb.out)
        replace O4 := Lib.hid (layBoolS.next O4.out hb.out)
        clear hb
        generalize (X3.alloc (.cells #[.int .i64 a, .int .i64 d, .int .i64 (c : Nat), .slice (some ⟨g3, 0, none⟩) c c, .slice (some ⟨g4, 0, none⟩) c c, .int .i64 (now + 8)] HeldT)) = X4 at *
        generalize X3.heap.size = gl at *
        try simp only [Act.put, List.getElem_toArray, List.getElem_cons_succ, List.getElem_cons_zero, List.setIfInBounds_toArray, List.set_cons_zero, List.set_cons_succ]
        refine wpAnyH_ready (rs := [16]) (by kernel_rfl) (by simp) ?_
        refine AllReadyH.cons rfl (fun K hK => ?_) AllReadyH.nil
        have HY : Hid (layHeld.own X4 base ([g3] ++ [g4]) [.int .i64 a, .int .i64 d, .int .i64 (c : Nat), .slice (some ⟨g3, 0, none⟩) c c, .slice (some ⟨g4, 0, none⟩) c c, .int .i64 (now + 8)] (newV a d (c : Nat) now)) := Lib.hid (layHeld_own.2 ⟨_, _, [g3], [g4], rfl, rfl, O3.out, O4.out⟩)
        have HDY : Hid (([g3] ++ [g4]).Nodup) := Lib.hid (by have := F34.out; simp; omega)
        have HNY : Hid (∀ k ∈ [g3] ++ [g4], k ∉ fp5) := Lib.hid (fun k hk => by simp at hk; rcases hk with rfl | rfl; exact F3.out.1; exact F4.out.1)
        refine step_pushR rfl (.tmp 48) (.tmp 59) 24 rfl base HeldT i0 _ 80 layHeld Try.underlying24 hi0 hz0 hs0 hb0 rfl (by omega) u5 fp5 rest (by rfl) O5.out HD5.out (newV a d (c : Nat) now) [.int .i64 a, .int .i64 d, .int .i64 (c : Nat), .slice (some ⟨g3, 0, none⟩) c c, .slice (some ⟨g4, 0, none⟩) c c, .int .i64 (now + 8)] ([g3] ++ [g4]) HY.out HDY.out HNY.out ⟨gl, 0, none⟩ (by rfl) HC.out (by omega) HB.out ?_
        rintro v1 X5 ⟨f6, o6, n6, s6⟩ hbe hch
        have hxs : q < X4.heap.size := V.out.lt
        have NQ6 : Hid (q ∉ f6) := Lib.hid (fun hm => by
          rcases s6 q hm with h9 | h9 | h9
          · exact NQ5.out h9
          · simp at h9; rcases h9 with h9 | h9
            · exact F3.out.2 h9
            · exact F4.out.2 h9
          · omega)
        have V6 : Hid (VarA q ShelfT #[u5] X5) := Lib.hid ⟨(hch.block q V.out.lt NQ5.out).trans V.out.row⟩
        have O6 := Lib.hid o6
        have N6 := Lib.hid n6
        refine hK.out _ _ (Lib.hid (hHeld.out.trans (hbe.mono hb1))) (fun hHeld => ?_)
        clear hK K HY HDY HNY HC O3 O4 F3 F4 F34 O5 V o6 n6 s6 hbe hch hxs HB
        try simp only [Act.put, List.getElem_toArray, List.getElem_cons_succ, List.getElem_cons_zero, List.setIfInBounds_toArray, List.set_cons_zero, List.set_cons_succ]
        refine wpAnyH_take (i := 17) (v := ?_) rfl (by kernel_rfl) (by kernel_rfl) (by kernel_rfl) (fun _ _ _ h => h) (Or.inl ⟨by kernel_rfl, ?_⟩) hHeld ?_
        rotate_left
        · intro X hX
          first | (go_simp; done) | (go_simp; with_reducible rfl)
        try simp only [Act.put, List.getElem_toArray, List.getElem_cons_succ, List.getElem_cons_zero, List.setIfInBounds_toArray, List.set_cons_zero, List.set_cons_succ]
        refine wpAnyH_take (i := 18) (v := ?_) rfl (by kernel_rfl) (by kernel_rfl) (by kernel_rfl) (fun _ _ _ h => h) (Or.inl ⟨by kernel_rfl, ?_⟩) hHeld ?_
        rotate_left
        · intro X hX
          first | (go_simp; done) | (go_simp; with_reducible rfl)
        try simp only [Act.put, List.getElem_toArray, List.getElem_cons_succ, List.getElem_cons_zero, List.setIfInBounds_toArray, List.set_cons_zero, List.set_cons_succ]
        refine wpAnyH_ready (rs := [19]) (by kernel_rfl) (by simp) ?_
        refine AllReadyH.cons rfl (fun K hK => ?_) AllReadyH.nil
        obtain ⟨na, nk, hv1⟩ : ∃ na nk, v1 = .slice na (rest.length + 1) nk := (by have h9 := rows_form (layHeldS.read O6.out); rw [List.length_append] at h9; exact h9)
        rw [hv1] at O6 ⊢
        have y0_ : X5.cell? ⟨q, 0, none⟩ = some u5 := V6.out.cell 0
        have g0_ := V6.out.free 0
        go_simp
        have hc : Only q X5 (X5.setCell ⟨q, 0, none⟩ (.slice na (rest.length + 1) nk)) := Only.setCell 0 _
        have hb9 := hHeld.out.trans (hc.below hb2 (by have := V6.out.lt; omega))
        have V7 : Hid (VarA q ShelfT #[.slice na (rest.length + 1) nk] (X5.setCell ⟨q, 0, none⟩ (.slice na (rest.length + 1) nk))) := Lib.hid (V6.out.set 0 _)
        have E : Hid (Q (.returned (.int .i64 (rest.length : Nat))) (X5.setCell ⟨q, 0, none⟩ (.slice na (rest.length + 1) nk))) := Lib.hid (HPG.out _ _ f6 _ rfl V7.out (layHeldS.keep O6.out (fun a ha => hc.block a (layHeldS.blocks O6.out a ha).2 (fun e => NQ6.out (e ▸ ha)))) N6.out NQ6.out hb9)
        refine hK.out _ _ (Lib.hid hb9) (fun hHeld => ?_)
        clear hK K y0_ g0_ hc hb9 O6 V6 N6 NQ6 hv1
        generalize (X5.setCell ⟨q, 0, none⟩ (.slice na (rest.length + 1) nk)) = X6 at *
        try simp only [Act.put, List.getElem_toArray, List.getElem_cons_succ, List.getElem_cons_zero, List.setIfInBounds_toArray, List.set_cons_zero, List.set_cons_succ]
        refine wpAnyH_done (by kernel_rfl) ?_ _
        have y0_ : X6.cell? ⟨q, 0, none⟩ = some (.slice na (rest.length + 1) nk) := V7.out.cell 0
        have hwn : IntKind.i64.wrap (((rest.length + 1 : Nat) : Int) - 1) = (rest.length : Int) := by rw [IntKind.wrap_i64]; omega
        clear hHeld
        go_wp2_with fail
        exact E.out
      · have hxs : q < X1.heap.size := V.out.lt
        refine step_make rfl (.tmp 52) (.tmp 52) 32 rfl base StringT i3 (.string ⟨#[]⟩) 1 Try.underlying32 hi3 hz3 hs3 .i64 .i64 c (by rfl) (by rfl) (by rw [hb3]; omega) (by unfold maxLen; omega) HB.out ?_
        intro X2 hown1 hg1
        have hb : Hid (Below X1.heap.size X1 X2) := Lib.hid (below_grown hg1 (fun k h => by cases h) (Nat.le_refl _))
        have O3 : Hid (layStringS.own X2 base [X1.heap.size] [.slice (some ⟨X1.heap.size, 0, none⟩) c c] (List.replicate c ⟨#[]⟩)) := Lib.hid (rows_made (A := layString) hown1 rfl (flatString.own _ _ _ _ (layString_rd.2 rfl)))
        have F3 : Hid (X1.heap.size ∉ fp5 ∧ q ≠ X1.heap.size) := Lib.hid ⟨fun hm => by have := (O5.out.blocks _ hm).2; omega, by omega⟩
        have F34 : Hid (g4 ≠ X1.heap.size) := Lib.hid (by have h9 := (layBoolS.blocks O4.out g4 (by simp)).2; omega)
        refine hK.out _ _ (Lib.hid (hHeld.out.trans (hb.out.mono (by omega)))) (fun hHeld => ?_)
        clear hK K hown1 hg1 hxs
        replace V := Lib.hid (V.out.next hb.out)
        replace O5 := Lib.hid (O5.out.next hb.out)
        replace HB := Lib.hid (Nat.le_trans HB.out hb.out.size)
        replace O4 := Lib.hid (layBoolS.next O4.out hb.out)
        clear hb
        generalize X1.heap.size = g3 at *
        try simp only [Act.put, List.getElem_toArray, List.getElem_cons_succ, List.getElem_cons_zero, List.setIfInBounds_toArray, List.set_cons_zero, List.set_cons_succ]
        refine wpAnyH_take (i := 14) (v := ?_) rfl (by kernel_rfl) (by kernel_rfl) (by kernel_rfl) (fun _ _ _ h => h) (Or.inl ⟨by kernel_rfl, ?_⟩) hHeld ?_
        rotate_left
        · intro X hX
          first | (go_simp; done) | (go_simp; with_reducible rfl)
        try simp only [Act.put, List.getElem_toArray, List.getElem_cons_succ, List.getElem_cons_zero, List.setIfInBounds_toArray, List.set_cons_zero, List.set_cons_succ]
        refine wpAnyH_ready (rs := [4, 15]) (by kernel_rfl) (by simp) ?_
        refine AllReadyH.cons rfl (fun K hK => ?_) (AllReadyH.cons rfl (fun K hK => ?_) AllReadyH.nil)
        · have y0_ : X2.cell? ⟨q, 0, none⟩ = some u5 := V.out.cell 0
          go_simp
          refine hK.out _ _ hHeld (fun hHeld => ?_)
          clear hK K y0_
          try simp only [Act.put, List.getElem_toArray, List.getElem_cons_succ, List.getElem_cons_zero, List.setIfInBounds_toArray, List.set_cons_zero, List.set_cons_succ]
          refine wpAnyH_ready (rs := [15]) (by kernel_rfl) (by simp) ?_
          refine AllReadyH.cons rfl (fun K hK => ?_) AllReadyH.nil
          go_simp
          have hxs : q < X2.heap.size := V.out.lt
          have hal : Below X2.heap.size X2 (X2.alloc (.cells #[.int .i64 a, .int .i64 d, .int .i64 (c : Nat), .slice (some ⟨g3, 0, none⟩) c c, .slice (some ⟨g4, 0, none⟩) c c, .int .i64 (now + 8)] HeldT)) := (Below.refl _ _).alloc (Nat.le_refl _) _
          refine hK.out _ _ (Lib.hid (hHeld.out.trans (hal.mono (by omega)))) (fun hHeld => ?_)
          clear hK K hxs
          have HC : Hid (∀ (j : Nat) (p : Value), [.int .i64 a, .int .i64 d, .int .i64 (c : Nat), .slice (some ⟨g3, 0, none⟩) c c, .slice (some ⟨g4, 0, none⟩) c c, .int .i64 (now + 8)][j]? = some p → (X2.alloc (.cells #[.int .i64 a, .int .i64 d, .int .i64 (c : Nat), .slice (some ⟨g3, 0, none⟩) c c, .slice (some ⟨g4, 0, none⟩) c c, .int .i64 (now + 8)] HeldT)).cell? ((⟨X2.heap.size, 0, none⟩ : Addr).add j) = some p) := Lib.hid (fun j p hj => lit_held X2 #[.int .i64 a, .int .i64 d, .int .i64 (c : Nat), .slice (some ⟨g3, 0, none⟩) c c, .slice (some ⟨g4, 0, none⟩) c c, .int .i64 (now + 8)] HeldT j p hj)
          have hb := Lib.hid hal
          clear hal
          replace V := Lib.hid (V.out.next hb.out)
          replace O5 := Lib.hid (O5.out.next hb.out)
          replace HB := Lib.hid (Nat.le_trans HB.out hb.out.size)
          replace O3 := Lib.hid (layStringS.next O3.out hb.out)
          replace O4 := Lib.hid (layBoolS.next O4.out hb.out)
          clear hb
          generalize (X2.alloc (.cells #[.int .i64 a, .int .i64 d, .int .i64 (c : Nat), .slice (some ⟨g3, 0, none⟩) c c, .slice (some ⟨g4, 0, none⟩) c c, .int .i64 (now + 8)] HeldT)) = X4 at *
          generalize X2.heap.size = gl at *
          try simp only [Act.put, List.getElem_toArray, List.getElem_cons_succ, List.getElem_cons_zero, List.setIfInBounds_toArray, List.set_cons_zero, List.set_cons_succ]
          refine wpAnyH_ready (rs := [16]) (by kernel_rfl) (by simp) ?_
          refine AllReadyH.cons rfl (fun K hK => ?_) AllReadyH.nil
          have HY : Hid (layHeld.own X4 base ([g3] ++ [g4]) [.int .i64 a, .int .i64 d, .int .i64 (c : Nat), .slice (some ⟨g3, 0, none⟩) c c, .slice (some ⟨g4, 0, none⟩) c c, .int .i64 (now + 8)] (newV a d (c : Nat) now)) := Lib.hid (layHeld_own.2 ⟨_, _, [g3], [g4], rfl, rfl, O3.out, O4.out⟩)
          have HDY : Hid (([g3] ++ [g4]).Nodup) := Lib.hid (by have := F34.out; simp; omega)
          have HNY : Hid (∀ k ∈ [g3] ++ [g4], k ∉ fp5) := Lib.hid (fun k hk => by simp at hk; rcases hk with rfl | rfl; exact F3.out.1; exact F4.out.1)
          refine step_pushR rfl (.tmp 48) (.tmp 59) 24 rfl base HeldT i0 _ 80 layHeld Try.underlying24 hi0 hz0 hs0 hb0 rfl (by omega) u5 fp5 rest (by rfl) O5.out HD5.out (newV a d (c : Nat) now) [.int .i64 a, .int .i64 d, .int .i64 (c : Nat), .slice (some ⟨g3, 0, none⟩) c c, .slice (some ⟨g4, 0, none⟩) c c, .int .i64 (now + 8)] ([g3] ++ [g4]) HY.out HDY.out HNY.out ⟨gl, 0, none⟩ (by rfl) HC.out (by omega) HB.out ?_
          rintro v1 X5 ⟨f6, o6, n6, s6⟩ hbe hch
          have hxs : q < X4.heap.size := V.out.lt
          have NQ6 : Hid (q ∉ f6) := Lib.hid (fun hm => by
            rcases s6 q hm with h9 | h9 | h9
            · exact NQ5.out h9
            · simp at h9; rcases h9 with h9 | h9
              · exact F3.out.2 h9
              · exact F4.out.2 h9
            · omega)
          have V6 : Hid (VarA q ShelfT #[u5] X5) := Lib.hid ⟨(hch.block q V.out.lt NQ5.out).trans V.out.row⟩
          have O6 := Lib.hid o6
          have N6 := Lib.hid n6
          refine hK.out _ _ (Lib.hid (hHeld.out.trans (hbe.mono hb1))) (fun hHeld => ?_)
          clear hK K HY HDY HNY HC O3 O4 F3 F4 F34 O5 V o6 n6 s6 hbe hch hxs HB
          try simp only [Act.put, List.getElem_toArray, List.getElem_cons_succ, List.getElem_cons_zero, List.setIfInBounds_toArray, List.set_cons_zero, List.set_cons_succ]
          refine wpAnyH_take (i := 17) (v := ?_) rfl (by kernel_rfl) (by kernel_rfl) (by kernel_rfl) (fun _ _ _ h => h) (Or.inl ⟨by kernel_rfl, ?_⟩) hHeld ?_
          rotate_left
          · intro X hX
            first | (go_simp; done) | (go_simp; with_reducible rfl)
          try simp only [Act.put, List.getElem_toArray, List.getElem_cons_succ, List.getElem_cons_zero, List.setIfInBounds_toArray, List.set_cons_zero, List.set_cons_succ]
          refine wpAnyH_take (i := 18) (v := ?_) rfl (by kernel_rfl) (by kernel_rfl) (by kernel_rfl) (fun _ _ _ h => h) (Or.inl ⟨by kernel_rfl, ?_⟩) hHeld ?_
          rotate_left
          · intro X hX
            first | (go_simp; done) | (go_simp; with_reducible rfl)
          try simp only [Act.put, List.getElem_toArray, List.getElem_cons_succ, List.getElem_cons_zero, List.setIfInBounds_toArray, List.set_cons_zero, List.set_cons_succ]
          refine wpAnyH_ready (rs := [19]) (by kernel_rfl) (by simp) ?_
          refine AllReadyH.cons rfl (fun K hK => ?_) AllReadyH.nil
          obtain ⟨na, nk, hv1⟩ : ∃ na nk, v1 = .slice na (rest.length + 1) nk := (by have h9 := rows_form (layHeldS.read O6.out); rw [List.length_append] at h9; exact h9)
          rw [hv1] at O6 ⊢
          have y0_ : X5.cell? ⟨q, 0, none⟩ = some u5 := V6.out.cell 0
          have g0_ := V6.out.free 0
          go_simp
          have hc : Only q X5 (X5.setCell ⟨q, 0, none⟩ (.slice na (rest.length + 1) nk)) := Only.setCell 0 _
          have hb9 := hHeld.out.trans (hc.below hb2 (by have := V6.out.lt; omega))
          have V7 : Hid (VarA q ShelfT #[.slice na (rest.length + 1) nk] (X5.setCell ⟨q, 0, none⟩ (.slice na (rest.length + 1) nk))) := Lib.hid (V6.out.set 0 _)
          have E : Hid (Q (.returned (.int .i64 (rest.length : Nat))) (X5.setCell ⟨q, 0, none⟩ (.slice na (rest.length + 1) nk))) := Lib.hid (HPG.out _ _ f6 _ rfl V7.out (layHeldS.keep O6.out (fun a ha => hc.block a (layHeldS.blocks O6.out a ha).2 (fun e => NQ6.out (e ▸ ha)))) N6.out NQ6.out hb9)
          refine hK.out _ _ (Lib.hid hb9) (fun hHeld => ?_)
          clear hK K y0_ g0_ hc hb9 O6 V6 N6 NQ6 hv1
          generalize (X5.setCell ⟨q, 0, none⟩ (.slice na (rest.length + 1) nk)) = X6 at *
          try simp only [Act.put, List.getElem_toArray, List.getElem_cons_succ, List.getElem_cons_zero, List.setIfInBounds_toArray, List.set_cons_zero, List.set_cons_succ]
          refine wpAnyH_done (by kernel_rfl) ?_ _
          have y0_ : X6.cell? ⟨q, 0, none⟩ = some (.slice na (rest.length + 1) nk) := V7.out.cell 0
          have hwn : IntKind.i64.wrap (((rest.length + 1 : Nat) : Int) - 1) = (rest.length : Int) := by rw [IntKind.wrap_i64]; omega
          clear hHeld
          go_wp2_with fail
          exact E.out
        · go_simp
          have hxs : q < X2.heap.size := V.out.lt
          have hal : Below X2.heap.size X2 (X2.alloc (.cells #[.int .i64 a, .int .i64 d, .int .i64 (c : Nat), .slice (some ⟨g3, 0, none⟩) c c, .slice (some ⟨g4, 0, none⟩) c c, .int .i64 (now + 8)] HeldT)) := (Below.refl _ _).alloc (Nat.le_refl _) _
          refine hK.out _ _ (Lib.hid (hHeld.out.trans (hal.mono (by omega)))) (fun hHeld => ?_)
          clear hK K hxs
          have HC : Hid (∀ (j : Nat) (p : Value), [.int .i64 a, .int .i64 d, .int .i64 (c : Nat), .slice (some ⟨g3, 0, none⟩) c c, .slice (some ⟨g4, 0, none⟩) c c, .int .i64 (now + 8)][j]? = some p → (X2.alloc (.cells #[.int .i64 a, .int .i64 d, .int .i64 (c : Nat), .slice (some ⟨g3, 0, none⟩) c c, .slice (some ⟨g4, 0, none⟩) c c, .int .i64 (now + 8)] HeldT)).cell? ((⟨X2.heap.size, 0, none⟩ : Addr).add j) = some p) := Lib.hid (fun j p hj => lit_held X2 #[.int .i64 a, .int .i64 d, .int .i64 (c : Nat), .slice (some ⟨g3, 0, none⟩) c c, .slice (some ⟨g4, 0, none⟩) c c, .int .i64 (now + 8)] HeldT j p hj)
          have hb := Lib.hid hal
          clear hal
          replace V := Lib.hid (V.out.next hb.out)
          replace O5 := Lib.hid (O5.out.next hb.out)
          replace HB := Lib.hid (Nat.le_trans HB.out hb.out.size)
          replace O3 := Lib.hid (layStringS.next O3.out hb.out)
          replace O4 := Lib.hid (layBoolS.next O4.out hb.out)
          clear hb
          generalize (X2.alloc (.cells #[.int .i64 a, .int .i64 d, .int .i64 (c : Nat), .slice (some ⟨g3, 0, none⟩) c c, .slice (some ⟨g4, 0, none⟩) c c, .int .i64 (now + 8)] HeldT)) = X3 at *
          generalize X2.heap.size = gl at *
          try simp only [Act.put, List.getElem_toArray, List.getElem_cons_succ, List.getElem_cons_zero, List.setIfInBounds_toArray, List.set_cons_zero, List.set_cons_succ]
          refine wpAnyH_ready (rs := [4]) (by kernel_rfl) (by simp) ?_
          refine AllReadyH.cons rfl (fun K hK => ?_) AllReadyH.nil
          have y0_ : X3.cell? ⟨q, 0, none⟩ = some u5 := V.out.cell 0
          go_simp
          refine hK.out _ _ hHeld (fun hHeld => ?_)
          clear hK K y0_
          try simp only [Act.put, List.getElem_toArray, List.getElem_cons_succ, List.getElem_cons_zero, List.setIfInBounds_toArray, List.set_cons_zero, List.set_cons_succ]
          refine wpAnyH_ready (rs := [16]) (by kernel_rfl) (by simp) ?_
          refine AllReadyH.cons rfl (fun K hK => ?_) AllReadyH.nil
          have HY : Hid (layHeld.own X3 base ([g3] ++ [g4]) [.int .i64 a, .int .i64 d, .int .i64 (c : Nat), .slice (some ⟨g3, 0, none⟩) c c, .slice (some ⟨g4, 0, none⟩) c c, .int .i64 (now + 8)] (newV a d (c : Nat) now)) := Lib.hid (layHeld_own.2 ⟨_, _, [g3], [g4], rfl, rfl, O3.out, O4.out⟩)
          have HDY : Hid (([g3] ++ [g4]).Nodup) := Lib.hid (by have := F34.out; simp; omega)
          have HNY : Hid (∀ k ∈ [g3] ++ [g4], k ∉ fp5) := Lib.hid (fun k hk => by simp at hk; rcases hk with rfl | rfl; exact F3.out.1; exact F4.out.1)
          refine step_pushR rfl (.tmp 48) (.tmp 59) 24 rfl base HeldT i0 _ 80 layHeld Try.underlying24 hi0 hz0 hs0 hb0 rfl (by omega) u5 fp5 rest (by rfl) O5.out HD5.out (newV a d (c : Nat) now) [.int .i64 a, .int .i64 d, .int .i64 (c : Nat), .slice (some ⟨g3, 0, none⟩) c c, .slice (some ⟨g4, 0, none⟩) c c, .int .i64 (now + 8)] ([g3] ++ [g4]) HY.out HDY.out HNY.out ⟨gl, 0, none⟩ (by rfl) HC.out (by omega) HB.out ?_
          rintro v1 X5 ⟨f6, o6, n6, s6⟩ hbe hch
          have hxs : q < X3.heap.size := V.out.lt
          have NQ6 : Hid (q ∉ f6) := Lib.hid (fun hm => by
            rcases s6 q hm with h9 | h9 | h9
            · exact NQ5.out h9
            · simp at h9; rcases h9 with h9 | h9
              · exact F3.out.2 h9
              · exact F4.out.2 h9
            · omega)
          have V6 : Hid (VarA q ShelfT #[u5] X5) := Lib.hid ⟨(hch.block q V.out.lt NQ5.out).trans V.out.row⟩
          have O6 := Lib.hid o6
          have N6 := Lib.hid n6
          refine hK.out _ _ (Lib.hid (hHeld.out.trans (hbe.mono hb1))) (fun hHeld => ?_)
          clear hK K HY HDY HNY HC O3 O4 F3 F4 F34 O5 V o6 n6 s6 hbe hch hxs HB
          try simp only [Act.put, List.getElem_toArray, List.getElem_cons_succ, List.getElem_cons_zero, List.setIfInBounds_toArray, List.set_cons_zero, List.set_cons_succ]
          refine wpAnyH_take (i := 17) (v := ?_) rfl (by kernel_rfl) (by kernel_rfl) (by kernel_rfl) (fun _ _ _ h => h) (Or.inl ⟨by kernel_rfl, ?_⟩) hHeld ?_
          rotate_left
          · intro X hX
            first | (go_simp; done) | (go_simp; with_reducible rfl)
          try simp only [Act.put, List.getElem_toArray, List.getElem_cons_succ, List.getElem_cons_zero, List.setIfInBounds_toArray, List.set_cons_zero, List.set_cons_succ]
          refine wpAnyH_take (i := 18) (v := ?_) rfl (by kernel_rfl) (by kernel_rfl) (by kernel_rfl) (fun _ _ _ h => h) (Or.inl ⟨by kernel_rfl, ?_⟩) hHeld ?_
          rotate_left
          · intro X hX
            first | (go_simp; done) | (go_simp; with_reducible rfl)
          try simp only [Act.put, List.getElem_toArray, List.getElem_cons_succ, List.getElem_cons_zero, List.setIfInBounds_toArray, List.set_cons_zero, List.set_cons_succ]
          refine wpAnyH_ready (rs := [19]) (by kernel_rfl) (by simp) ?_
          refine AllReadyH.cons rfl (fun K hK => ?_) AllReadyH.nil
          obtain ⟨na, nk, hv1⟩ : ∃ na nk, v1 = .slice na (rest.length + 1) nk := (by have h9 := rows_form (layHeldS.read O6.out); rw [List.length_append] at h9; exact h9)
          rw [hv1] at O6 ⊢
          have y0_ : X5.cell? ⟨q, 0, none⟩ = some u5 := V6.out.cell 0
          have g0_ := V6.out.free 0
          go_simp
          have hc : Only q X5 (X5.setCell ⟨q, 0, none⟩ (.slice na (rest.length + 1) nk)) := Only.setCell 0 _
          have hb9 := hHeld.out.trans (hc.below hb2 (by have := V6.out.lt; omega))
          have V7 : Hid (VarA q ShelfT #[.slice na (rest.length + 1) nk] (X5.setCell ⟨q, 0, none⟩ (.slice na (rest.length + 1) nk))) := Lib.hid (V6.out.set 0 _)
          have E : Hid (Q (.returned (.int .i64 (rest.length : Nat))) (X5.setCell ⟨q, 0, none⟩ (.slice na (rest.length + 1) nk))) := Lib.hid (HPG.out _ _ f6 _ rfl V7.out (layHeldS.keep O6.out (fun a ha => hc.block a (layHeldS.blocks O6.out a ha).2 (fun e => NQ6.out (e ▸ ha)))) N6.out NQ6.out hb9)
          refine hK.out _ _ (Lib.hid hb9) (fun hHeld => ?_)
          clear hK K y0_ g0_ hc hb9 O6 V6 N6 NQ6 hv1
          generalize (X5.setCell ⟨q, 0, none⟩ (.slice na (rest.length + 1) nk)) = X6 at *
          try simp only [Act.put, List.getElem_toArray, List.getElem_cons_succ, List.getElem_cons_zero, List.setIfInBounds_toArray, List.set_cons_zero, List.set_cons_succ]
          refine wpAnyH_done (by kernel_rfl) ?_ _
          have y0_ : X6.cell? ⟨q, 0, none⟩ = some (.slice na (rest.length + 1) nk) := V7.out.cell 0
          have hwn : IntKind.i64.wrap (((rest.length + 1 : Nat) : Int) - 1) = (rest.length : Int) := by rw [IntKind.wrap_i64]; omega
          clear hHeld
          go_wp2_with fail
          exact E.out
  have hr1 : r = -1 ∧ ∀ x ∈ l, ¬ SameV a d x := by
    rcases HR.out with ⟨i, hi, h1, _⟩ | h1
    · omega
    · exact h1
  obtain ⟨rfl, hno⟩ := hr1
  have HNF : Hid (¬ FoundG l (-1) c) := Lib.hid (fun ⟨k, hk, e, h⟩ => by omega)
  clear hno h0
  by_cases h3 : l.length = 3
  · obtain ⟨x, xs, rfl⟩ : ∃ x xs, l = x :: xs := by
      cases l with
      | nil => simp at h3
      | cons x xs => exact ⟨x, xs, rfl⟩
    have hxl : xs.length = 2 := by simpa using h3
    have KD := Lib.hid (dropHeld_any b base q fp _ [] x xs (by show (x :: xs).length ≤ 1000; omega) hb1 hb2 NQ.out X V.out HD.out O.out)
    have HPG : Hid (∀ ys u fp' W', ys = xs ++ [newV a d (c : Nat) now] → VarA q ShelfT #[u] W' → layHeldS.own W' base fp' [u] ys → fp'.Nodup → q ∉ fp' → Below b W W' → Q (.returned (.int .i64 (xs.length : Nat))) W') := Lib.hid (fun ys u fp' W' h1 h2' h3' h4 h5 h6 => by
      rw [HQ.out]
      have hrg : restG (x :: xs) (-1) = xs := by unfold restG; rw [if_neg (by omega), if_pos h3]; rfl
      exact ⟨_, ys, u, fp', rfl, .inr ⟨HNF.out, by rw [hrg], by rw [hrg]; exact h1⟩, h2', h3', h4, h5, h6⟩)
    rw [h3] at v0
    clear O HNF
    go_wp2_with (go_at_call 23; refine KD.out.mono ?_; rintro e X2 ⟨rfl, g5, cap5, fp5, v5, o5, n5, s5, b5⟩; have V2 := Lib.hid v5; have O5 : Hid (RowG HeldT layHeld X2 base fp5 (.slice (some ⟨g5, 0, none⟩) xs.length xs.length) xs) := Lib.hid (.inr ⟨g5, cap5, rfl, o5⟩); have HD5 := Lib.hid n5; have NQ5 : Hid (q ∉ fp5) := Lib.hid (fun hm => NQ.out (s5 q hm)); have B5 := Lib.hid (BB.out.trans b5); have HB5 : Hid (base ≤ X2.heap.size) := Lib.hid (Nat.le_trans HB.out b5.size); clear v5 o5 n5 s5 b5)
    have V := V2
    have BB := B5
    have HB := HB5
    have hrl : xs.length ≤ 3 := by omega
    clear V2 B5 HB5 v0 h3 hxl
    generalize xs = rest at *
    obtain ⟨u5, hu5⟩ : ∃ u, u = Value.slice (some ⟨g5, 0, none⟩) rest.length rest.length := ⟨_, rfl⟩
    have V5 : Hid (VarA q ShelfT #[u5] X2) := Lib.hid (by rw [hu5]; exact V.out)
    rw [← hu5] at O5
    clear hu5 V
    have V := V5
    clear V5
    generalize X2 = X9 at *
    have E0 : Hid (Below b W X9.drew) := Lib.hid BB.out.drew
    replace V := Lib.hid V.out.drew
    replace O5 := Lib.hid (O5.out.next (Below.refl X9.heap.size X9).drew)
    replace HB : Hid (base ≤ X9.drew.heap.size) := HB
    go_wp2_with fail
    refine wp_region_held_drew (S := fun X => Hid (Below b W X)) (by kernel_rfl) E0 (fun hHeld => ?_)
    clear E0 BB
    generalize X9.drew = X0 at *
    refine wpAnyH_take (i := 0) (v := ?_) rfl (by kernel_rfl) (by kernel_rfl) (by kernel_rfl) (fun _ _ _ h => h) (Or.inl ⟨by kernel_rfl, ?_⟩) hHeld ?_
    rotate_left
    · intro X hX
      first | (go_simp; done) | (go_simp; with_reducible rfl)
    try simp only [Act.put, List.getElem_toArray, List.getElem_cons_zero, List.setIfInBounds_toArray, List.set_cons_zero, List.set_cons_succ]
    refine wpAnyH_take (i := 1) (v := ?_) rfl (by kernel_rfl) (by kernel_rfl) (by kernel_rfl) (fun _ _ _ h => h) (Or.inl ⟨by kernel_rfl, ?_⟩) hHeld ?_
    rotate_left
    · intro X hX
      first | (go_simp; done) | (go_simp; with_reducible rfl)
    try simp only [Act.put, List.getElem_toArray, List.getElem_cons_succ, List.getElem_cons_zero, List.setIfInBounds_toArray, List.set_cons_zero, List.set_cons_succ]
    refine wpAnyH_take (i := 2) (v := ?_) rfl (by kernel_rfl) (by kernel_rfl) (by kernel_rfl) (fun _ _ _ h => h) (Or.inl ⟨by kernel_rfl, ?_⟩) hHeld ?_
    rotate_left
    · intro X hX
      first | (go_simp; done) | (go_simp; with_reducible rfl)
    try simp only [Act.put, List.getElem_toArray, List.getElem_cons_succ, List.getElem_cons_zero, List.setIfInBounds_toArray, List.set_cons_zero, List.set_cons_succ]
    refine wpAnyH_take (i := 3) (v := ?_) rfl (by kernel_rfl) (by kernel_rfl) (by kernel_rfl) (fun _ _ _ h => h) (Or.inl ⟨by kernel_rfl, ?_⟩) hHeld ?_
    rotate_left
    · intro X hX
      first | (go_simp; done) | (go_simp; with_reducible rfl)
    try simp only [Act.put, List.getElem_toArray, List.getElem_cons_succ, List.getElem_cons_zero, List.setIfInBounds_toArray, List.set_cons_zero, List.set_cons_succ]
    refine wpAnyH_take (i := 5) (v := ?_) rfl (by kernel_rfl) (by kernel_rfl) (by kernel_rfl) (fun _ _ _ h => h) (Or.inl ⟨by kernel_rfl, ?_⟩) hHeld ?_
    rotate_left
    · intro X hX
      first | (go_simp; done) | (go_simp; with_reducible rfl)
    try simp only [Act.put, List.getElem_toArray, List.getElem_cons_succ, List.getElem_cons_zero, List.setIfInBounds_toArray, List.set_cons_zero, List.set_cons_succ]
    refine wpAnyH_take (i := 6) (v := ?_) rfl (by kernel_rfl) (by kernel_rfl) (by kernel_rfl) (fun _ _ _ h => h) (Or.inl ⟨by kernel_rfl, ?_⟩) hHeld ?_
    rotate_left
    · intro X hX
      first | (go_simp; done) | (go_simp; with_reducible rfl)
    try simp only [Act.put, List.getElem_toArray, List.getElem_cons_succ, List.getElem_cons_zero, List.setIfInBounds_toArray, List.set_cons_zero, List.set_cons_succ]
    refine wpAnyH_take (i := 7) (v := ?_) rfl (by kernel_rfl) (by kernel_rfl) (by kernel_rfl) (fun _ _ _ h => h) (Or.inl ⟨by kernel_rfl, ?_⟩) hHeld ?_
    rotate_left
    · intro X hX
      first | (go_simp; done) | (go_simp; with_reducible rfl)
    try simp only [Act.put, List.getElem_toArray, List.getElem_cons_succ, List.getElem_cons_zero, List.setIfInBounds_toArray, List.set_cons_zero, List.set_cons_succ]
    refine wpAnyH_take (i := 8) (v := ?_) rfl (by kernel_rfl) (by kernel_rfl) (by kernel_rfl) (fun _ _ _ h => h) (Or.inl ⟨by kernel_rfl, ?_⟩) hHeld ?_
    rotate_left
    · intro X hX
      first | (go_simp; done) | (go_simp; with_reducible rfl)
    try simp only [Act.put, List.getElem_toArray, List.getElem_cons_succ, List.getElem_cons_zero, List.setIfInBounds_toArray, List.set_cons_zero, List.set_cons_succ]
    refine wpAnyH_take (i := 10) (v := ?_) rfl (by kernel_rfl) (by kernel_rfl) (by kernel_rfl) (fun _ _ _ h => h) (Or.inl ⟨by kernel_rfl, ?_⟩) hHeld ?_
    rotate_left
    · intro X hX
      first | (go_simp; done) | (go_simp; with_reducible rfl)
    try simp only [Act.put, List.getElem_toArray, List.getElem_cons_succ, List.getElem_cons_zero, List.setIfInBounds_toArray, List.set_cons_zero, List.set_cons_succ]
    refine wpAnyH_take (i := 12) (v := ?_) rfl (by kernel_rfl) (by kernel_rfl) (by kernel_rfl) (fun _ _ _ h => h) (Or.inl ⟨by kernel_rfl, ?_⟩) hHeld ?_
    rotate_left
    · intro X hX
      first | (go_simp; done) | (go_simp; with_reducible rfl)
    try simp only [Act.put, List.getElem_toArray, List.getElem_cons_succ, List.getElem_cons_zero, List.setIfInBounds_toArray, List.set_cons_zero, List.set_cons_succ]
    refine wpAnyH_take (i := 13) (v := ?_) rfl (by kernel_rfl) (by kernel_rfl) (by kernel_rfl) (fun _ _ _ h => h) (Or.inl ⟨by kernel_rfl, ?_⟩) hHeld ?_
    rotate_left
    · intro X hX
      first | (go_simp; done) | (go_simp; with_reducible rfl)
    try simp only [Act.put, List.getElem_toArray, List.getElem_cons_succ, List.getElem_cons_zero, List.setIfInBounds_toArray, List.set_cons_zero, List.set_cons_succ]
    refine wpAnyH_ready (rs := [4, 9, 11]) (by kernel_rfl) (by simp) ?_
    refine AllReadyH.cons rfl (fun K hK => ?_) (AllReadyH.cons rfl (fun K hK => ?_) (AllReadyH.cons rfl (fun K hK => ?_) AllReadyH.nil))
    · have y0_ : X0.cell? ⟨q, 0, none⟩ = some u5 := V.out.cell 0
      go_simp
      refine hK.out _ _ hHeld (fun hHeld => ?_)
      clear hK K y0_
      try simp only [Act.put, List.getElem_toArray, List.getElem_cons_succ, List.getElem_cons_zero, List.setIfInBounds_toArray, List.set_cons_zero, List.set_cons_succ]
      refine wpAnyH_ready (rs := [9, 11]) (by kernel_rfl) (by simp) ?_
      refine AllReadyH.cons rfl (fun K hK => ?_) (AllReadyH.cons rfl (fun K hK => ?_) AllReadyH.nil)
      · have hxs : q < X0.heap.size := V.out.lt
        refine step_make rfl (.tmp 52) (.tmp 52) 32 rfl base StringT i3 (.string ⟨#[]⟩) 1 Try.underlying32 hi3 hz3 hs3 .i64 .i64 c (by rfl) (by rfl) (by rw [hb3]; omega) (by unfold maxLen; omega) HB.out ?_
        intro X2 hown1 hg1
        have hb : Hid (Below X0.heap.size X0 X2) := Lib.hid (below_grown hg1 (fun k h => by cases h) (Nat.le_refl _))
        have O3 : Hid (layStringS.own X2 base [X0.heap.size] [.slice (some ⟨X0.heap.size, 0, none⟩) c c] (List.replicate c ⟨#[]⟩)) := Lib.hid (rows_made (A := layString) hown1 rfl (flatString.own _ _ _ _ (layString_rd.2 rfl)))
        have F3 : Hid (X0.heap.size ∉ fp5 ∧ q ≠ X0.heap.size) := Lib.hid ⟨fun hm => by have := (O5.out.blocks _ hm).2; omega, by omega⟩
        refine hK.out _ _ (Lib.hid (hHeld.out.trans (hb.out.mono (by omega)))) (fun hHeld => ?_)
        clear hK K hown1 hg1 hxs
        replace V := Lib.hid (V.out.next hb.out)
        replace O5 := Lib.hid (O5.out.next hb.out)
        replace HB := Lib.hid (Nat.le_trans HB.out hb.out.size)
        clear hb
        generalize X0.heap.size = g3 at *
        try simp only [Act.put, List.getElem_toArray, List.getElem_cons_succ, List.getElem_cons_zero, List.setIfInBounds_toArray, List.set_cons_zero, List.set_cons_succ]
        refine wpAnyH_ready (rs := [11]) (by kernel_rfl) (by simp) ?_
        refine AllReadyH.cons rfl (fun K hK => ?_) AllReadyH.nil
        have hxs : q < X2.heap.size := V.out.lt
        refine step_make rfl (.tmp 54) (.tmp 54) 33 rfl base 4 i4 (.bool false) 1 Try.underlying33 hi4 hz4 hs4 .i64 .i64 c (by rfl) (by rfl) (by rw [hb4]; omega) (by unfold maxLen; omega) HB.out ?_
        intro X3 hown1 hg1
        have hb : Hid (Below X2.heap.size X2 X3) := Lib.hid (below_grown hg1 (fun k h => by cases h) (Nat.le_refl _))
        have O4 : Hid (layBoolS.own X3 base [X2.heap.size] [.slice (some ⟨X2.heap.size, 0, none⟩) c c] (List.replicate c false)) := Lib.hid (rows_made (A := Lay.bool) hown1 rfl (bool_own.2 ⟨rfl, rfl⟩))
        have F4 : Hid (X2.heap.size ∉ fp5 ∧ q ≠ X2.heap.size) := Lib.hid ⟨fun hm => by have := (O5.out.blocks _ hm).2; omega, by omega⟩
        have F34 : Hid (g3 ≠ X2.heap.size) := Lib.hid (by have h9 := (layStringS.blocks O3.out g3 (by simp)).2; omega)
        refine hK.out _ _ (Lib.hid (hHeld.out.trans (hb.out.mono (by omega)))) (fun hHeld => ?_)
        clear hK K hown1 hg1 hxs
        replace V := Lib.hid (V.out.next hb.out)
        replace O5 := Lib.hid (O5.out.next hb.out)
        replace HB := Lib.hid (Nat.le_trans HB.out hb.out.size)
        replace O3 := Lib.hid (layStringS.next O3.out hb.out)
        clear hb
        generalize X2.heap.size = g4 at *
        try simp only [Act.put, List.getElem_toArray, List.getElem_cons_succ, List.getElem_cons_zero, List.setIfInBounds_toArray, List.set_cons_zero, List.set_cons_succ]
        refine wpAnyH_take (i := 14) (v := ?_) rfl (by kernel_rfl) (by kernel_rfl) (by kernel_rfl) (fun _ _ _ h => h) (Or.inl ⟨by kernel_rfl, ?_⟩) hHeld ?_
        rotate_left
        · intro X hX
          first | (go_simp; done) | (go_simp; with_reducible rfl)
        try simp only [Act.put, List.getElem_toArray, List.getElem_cons_succ, List.getElem_cons_zero, List.setIfInBounds_toArray, List.set_cons_zero, List.set_cons_succ]
        refine wpAnyH_ready (rs := [15]) (by kernel_rfl) (by simp) ?_
        refine AllReadyH.cons rfl (fun K hK => ?_) AllReadyH.nil
        go_simp
        have hxs : q < X3.heap.size := V.out.lt
        have hal : Below X3.heap.size X3 (X3.alloc (.cells #[.int .i64 a, .int .i64 d, .int .i64 (c : Nat), .slice (some ⟨g3, 0, none⟩) c c, .slice (some ⟨g4, 0, none⟩) c c, .int .i64 (now + 8)] HeldT)) := (Below.refl _ _).alloc (Nat.le_refl _) _
        refine hK.out _ _ (Lib.hid (hHeld.out.trans (hal.mono (by omega)))) (fun hHeld => ?_)
        clear hK K hxs
        have HC : Hid (∀ (j : Nat) (p : Value), [.int .i64 a, .int .i64 d, .int .i64 (c : Nat), .slice (some ⟨g3, 0, none⟩) c c, .slice (some ⟨g4, 0, none⟩) c c, .int .i64 (now + 8)][j]? = some p → (X3.alloc (.cells #[.int .i64 a, .int .i64 d, .int .i64 (c : Nat), .slice (some ⟨g3, 0, none⟩) c c, .slice (some ⟨g4, 0, none⟩) c c, .int .i64 (now + 8)] HeldT)).cell? ((⟨X3.heap.size, 0, none⟩ : Addr).add j) = some p) := Lib.hid (fun j p hj => lit_held X3 #[.int .i64 a, .int .i64 d, .int .i64 (c : Nat), .slice (some ⟨g3, 0, none⟩) c c, .slice (some ⟨g4, 0, none⟩) c c, .int .i64 (now + 8)] HeldT j p hj)
        have hb := Lib.hid hal
        clear hal
        replace V := Lib.hid (V.out.next hb.out)
        replace O5 := Lib.hid (O5.out.next hb.out)
        replace HB := Lib.hid (Nat.le_trans HB.out hb.out.size)
        replace O3 := Lib.hid (layStringS.next O3.out hb.out)
        replace O4 := Lib.hid (layBoolS.next O4.out hb.out)
        clear hb
        generalize (X3.alloc (.cells #[.int .i64 a, .int .i64 d, .int .i64 (c : Nat), .slice (some ⟨g3, 0, none⟩) c c, .slice (some ⟨g4, 0, none⟩) c c, .int .i64 (now + 8)] HeldT)) = X4 at *
        generalize X3.heap.size = gl at *
        try simp only [Act.put, List.getElem_toArray, List.getElem_cons_succ, List.getElem_cons_zero, List.setIfInBounds_toArray, List.set_cons_zero, List.set_cons_succ]
        refine wpAnyH_ready (rs := [16]) (by kernel_rfl) (by simp) ?_
        refine AllReadyH.cons rfl (fun K hK => ?_) AllReadyH.nil
        have HY : Hid (layHeld.own X4 base ([g3] ++ [g4]) [.int .i64 a, .int .i64 d, .int .i64 (c : Nat), .slice (some ⟨g3, 0, none⟩) c c, .slice (some ⟨g4, 0, none⟩) c c, .int .i64 (now + 8)] (newV a d (c : Nat) now)) := Lib.hid (layHeld_own.2 ⟨_, _, [g3], [g4], rfl, rfl, O3.out, O4.out⟩)
        have HDY : Hid (([g3] ++ [g4]).Nodup) := Lib.hid (by have := F34.out; simp; omega)
        have HNY : Hid (∀ k ∈ [g3] ++ [g4], k ∉ fp5) := Lib.hid (fun k hk => by simp at hk; rcases hk with rfl | rfl; exact F3.out.1; exact F4.out.1)
        refine step_pushR rfl (.tmp 48) (.tmp 59) 24 rfl base HeldT i0 _ 80 layHeld Try.underlying24 hi0 hz0 hs0 hb0 rfl (by omega) u5 fp5 rest (by rfl) O5.out HD5.out (newV a d (c : Nat) now) [.int .i64 a, .int .i64 d, .int .i64 (c : Nat), .slice (some ⟨g3, 0, none⟩) c c, .slice (some ⟨g4, 0, none⟩) c c, .int .i64 (now + 8)] ([g3] ++ [g4]) HY.out HDY.out HNY.out ⟨gl, 0, none⟩ (by rfl) HC.out (by omega) HB.out ?_
        rintro v1 X5 ⟨f6, o6, n6, s6⟩ hbe hch
        have hxs : q < X4.heap.size := V.out.lt
        have NQ6 : Hid (q ∉ f6) := Lib.hid (fun hm => by
          rcases s6 q hm with h9 | h9 | h9
          · exact NQ5.out h9
          · simp at h9; rcases h9 with h9 | h9
            · exact F3.out.2 h9
            · exact F4.out.2 h9
          · omega)
        have V6 : Hid (VarA q ShelfT #[u5] X5) := Lib.hid ⟨(hch.block q V.out.lt NQ5.out).trans V.out.row⟩
        have O6 := Lib.hid o6
        have N6 := Lib.hid n6
        refine hK.out _ _ (Lib.hid (hHeld.out.trans (hbe.mono hb1))) (fun hHeld => ?_)
        clear hK K HY HDY HNY HC O3 O4 F3 F4 F34 O5 V o6 n6 s6 hbe hch hxs HB
        try simp only [Act.put, List.getElem_toArray, List.getElem_cons_succ, List.getElem_cons_zero, List.setIfInBounds_toArray, List.set_cons_zero, List.set_cons_succ]
        refine wpAnyH_take (i := 17) (v := ?_) rfl (by kernel_rfl) (by kernel_rfl) (by kernel_rfl) (fun _ _ _ h => h) (Or.inl ⟨by kernel_rfl, ?_⟩) hHeld ?_
        rotate_left
        · intro X hX
          first | (go_simp; done) | (go_simp; with_reducible rfl)
        try simp only [Act.put, List.getElem_toArray, List.getElem_cons_succ, List.getElem_cons_zero, List.setIfInBounds_toArray, List.set_cons_zero, List.set_cons_succ]
        refine wpAnyH_take (i := 18) (v := ?_) rfl (by kernel_rfl) (by kernel_rfl) (by kernel_rfl) (fun _ _ _ h => h) (Or.inl ⟨by kernel_rfl, ?_⟩) hHeld ?_
        rotate_left
        · intro X hX
          first | (go_simp; done) | (go_simp; with_reducible rfl)
        try simp only [Act.put, List.getElem_toArray, List.getElem_cons_succ, List.getElem_cons_zero, List.setIfInBounds_toArray, List.set_cons_zero, List.set_cons_succ]
        refine wpAnyH_ready (rs := [19]) (by kernel_rfl) (by simp) ?_
        refine AllReadyH.cons rfl (fun K hK => ?_) AllReadyH.nil
        obtain ⟨na, nk, hv1⟩ : ∃ na nk, v1 = .slice na (rest.length + 1) nk := (by have h9 := rows_form (layHeldS.read O6.out); rw [List.length_append] at h9; exact h9)
        rw [hv1] at O6 ⊢
        have y0_ : X5.cell? ⟨q, 0, none⟩ = some u5 := V6.out.cell 0
        have g0_ := V6.out.free 0
        go_simp
        have hc : Only q X5 (X5.setCell ⟨q, 0, none⟩ (.slice na (rest.length + 1) nk)) := Only.setCell 0 _
        have hb9 := hHeld.out.trans (hc.below hb2 (by have := V6.out.lt; omega))
        have V7 : Hid (VarA q ShelfT #[.slice na (rest.length + 1) nk] (X5.setCell ⟨q, 0, none⟩ (.slice na (rest.length + 1) nk))) := Lib.hid (V6.out.set 0 _)
        have E : Hid (Q (.returned (.int .i64 (rest.length : Nat))) (X5.setCell ⟨q, 0, none⟩ (.slice na (rest.length + 1) nk))) := Lib.hid (HPG.out _ _ f6 _ rfl V7.out (layHeldS.keep O6.out (fun a ha => hc.block a (layHeldS.blocks O6.out a ha).2 (fun e => NQ6.out (e ▸ ha)))) N6.out NQ6.out hb9)
        refine hK.out _ _ (Lib.hid hb9) (fun hHeld => ?_)
        clear hK K y0_ g0_ hc hb9 O6 V6 N6 NQ6 hv1
        generalize (X5.setCell ⟨q, 0, none⟩ (.slice na (rest.length + 1) nk)) = X6 at *
        try simp only [Act.put, List.getElem_toArray, List.getElem_cons_succ, List.getElem_cons_zero, List.setIfInBounds_toArray, List.set_cons_zero, List.set_cons_succ]
        refine wpAnyH_done (by kernel_rfl) ?_ _
        have y0_ : X6.cell? ⟨q, 0, none⟩ = some (.slice na (rest.length + 1) nk) := V7.out.cell 0
        have hwn : IntKind.i64.wrap (((rest.length + 1 : Nat) : Int) - 1) = (rest.length : Int) := by rw [IntKind.wrap_i64]; omega
        clear hHeld
        go_wp2_with fail
        exact E.out
      · have hxs : q < X0.heap.size := V.out.lt
        refine step_make rfl (.tmp 54) (.tmp 54) 33 rfl base 4 i4 (.bool false) 1 Try.underlying33 hi4 hz4 hs4 .i64 .i64 c (by rfl) (by rfl) (by rw [hb4]; omega) (by unfold maxLen; omega) HB.out ?_
        intro X2 hown1 hg1
        have hb : Hid (Below X0.heap.size X0 X2) := Lib.hid (below_grown hg1 (fun k h => by cases h) (Nat.le_refl _))
        have O4 : Hid (layBoolS.own X2 base [X0.heap.size] [.slice (some ⟨X0.heap.size, 0, none⟩) c c] (List.replicate c false)) := Lib.hid (rows_made (A := Lay.bool) hown1 rfl (bool_own.2 ⟨rfl, rfl⟩))
        have F4 : Hid (X0.heap.size ∉ fp5 ∧ q ≠ X0.heap.size) := Lib.hid ⟨fun hm => by have := (O5.out.blocks _ hm).2; omega, by omega⟩
        refine hK.out _ _ (Lib.hid (hHeld.out.trans (hb.out.mono (by omega)))) (fun hHeld => ?_)
        clear hK K hown1 hg1 hxs
        replace V := Lib.hid (V.out.next hb.out)
        replace O5 := Lib.hid (O5.out.next hb.out)
        replace HB := Lib.hid (Nat.le_trans HB.out hb.out.size)
        clear hb
        generalize X0.heap.size = g4 at *
        try simp only [Act.put, List.getElem_toArray, List.getElem_cons_succ, List.getElem_cons_zero, List.setIfInBounds_toArray, List.set_cons_zero, List.set_cons_succ]
        refine wpAnyH_ready (rs := [9]) (by kernel_rfl) (by simp) ?_
        refine AllReadyH.cons rfl (fun K hK => ?_) AllReadyH.nil
        have hxs : q < X2.heap.size := V.out.lt
        refine step_make rfl (.tmp 52) (.tmp 52) 32 rfl base StringT i3 (.string ⟨#[]⟩) 1 Try.underlying32 hi3 hz3 hs3 .i64 .i64 c (by rfl) (by rfl) (by rw [hb3]; omega) (by unfold maxLen; omega) HB.out ?_
        intro X3 hown1 hg1
        have hb : Hid (Below X2.heap.size X2 X3) := Lib.hid (below_grown hg1 (fun k h => by cases h) (Nat.le_refl _))
        have O3 : Hid (layStringS.own X3 base [X2.heap.size] [.slice (some ⟨X2.heap.size, 0, none⟩) c c] (List.replicate c ⟨#[]⟩)) := Lib.hid (rows_made (A := layString) hown1 rfl (flatString.own _ _ _ _ (layString_rd.2 rfl)))
        have F3 : Hid (X2.heap.size ∉ fp5 ∧ q ≠ X2.heap.size) := Lib.hid ⟨fun hm => by have := (O5.out.blocks _ hm).2; omega, by omega⟩
        have F34 : Hid (g4 ≠ X2.heap.size) := Lib.hid (by have h9 := (layBoolS.blocks O4.out g4 (by simp)).2; omega)
        refine hK.out _ _ (Lib.hid (hHeld.out.trans (hb.out.mono (by omega)))) (fun hHeld => ?_)
        clear hK K hown1 hg1 hxs
        replace V := Lib.hid (V.out.next hb.out)
        replace O5 := Lib.hid (O5.out.next hb.out)
        replace HB := Lib.hid (Nat.le_trans HB.out hb.out.size)
        replace O4 := Lib.hid (layBoolS.next O4.out hb.out)
        clear hb
        generalize X2.heap.size = g3 at *
        try simp only [Act.put, List.getElem_toArray, List.getElem_cons_succ, List.getElem_cons_zero, List.setIfInBounds_toArray, List.set_cons_zero, List.set_cons_succ]
        refine wpAnyH_take (i := 14) (v := ?_) rfl (by kernel_rfl) (by kernel_rfl) (by kernel_rfl) (fun _ _ _ h => h) (Or.inl ⟨by kernel_rfl, ?_⟩) hHeld ?_
        rotate_left
        · intro X hX
          first | (go_simp; done) | (go_simp; with_reducible rfl)
        try simp only [Act.put, List.getElem_toArray, List.getElem_cons_succ, List.getElem_cons_zero, List.setIfInBounds_toArray, List.set_cons_zero, List.set_cons_succ]
        refine wpAnyH_ready (rs := [15]) (by kernel_rfl) (by simp) ?_
        refine AllReadyH.cons rfl (fun K hK => ?_) AllReadyH.nil
        go_simp
        have hxs : q < X3.heap.size := V.out.lt
        have hal : Below X3.heap.size X3 (X3.alloc (.cells #[.int .i64 a, .int .i64 d, .int .i64 (c : Nat), .slice (some ⟨g3, 0, none⟩) c c, .slice (some ⟨g4, 0, none⟩) c c, .int .i64 (now + 8)] HeldT)) := (Below.refl _ _).alloc (Nat.le_refl _) _
        refine hK.out _ _ (Lib.hid (hHeld.out.trans (hal.mono (by omega)))) (fun hHeld => ?_)
        clear hK K hxs
        have HC : Hid (∀ (j : Nat) (p : Value), [.int .i64 a, .int .i64 d, .int .i64 (c : Nat), .slice (some ⟨g3, 0, none⟩) c c, .slice (some ⟨g4, 0, none⟩) c c, .int .i64 (now + 8)][j]? = some p → (X3.alloc (.cells #[.int .i64 a, .int .i64 d, .int .i64 (c : Nat), .slice (some ⟨g3, 0, none⟩) c c, .slice (some ⟨g4, 0, none⟩) c c, .int .i64 (now + 8)] HeldT)).cell? ((⟨X3.heap.size, 0, none⟩ : Addr).add j) = some p) := Lib.hid (fun j p hj => lit_held X3 #[.int .i64 a, .int .i64 d, .int .i64 (c : Nat), .slice (some ⟨g3, 0, none⟩) c c, .slice (some ⟨g4, 0, none⟩) c c, .int .i64 (now + 8)] HeldT j p hj)
        have hb := Lib.hid hal
        clear hal
        replace V := Lib.hid (V.out.next hb.out)
        replace O5 := Lib.hid (O5.out.next hb.out)
        replace HB := Lib.hid (Nat.le_trans HB.out hb.out.size)
        replace O3 := Lib.hid (layStringS.next O3.out hb.out)
        replace O4 := Lib.hid (layBoolS.next O4.out hb.out)
        clear hb
        generalize (X3.alloc (.cells #[.int .i64 a, .int .i64 d, .int .i64 (c : Nat), .slice (some ⟨g3, 0, none⟩) c c, .slice (some ⟨g4, 0, none⟩) c c, .int .i64 (now + 8)] HeldT)) = X4 at *
        generalize X3.heap.size = gl at *
        try simp only [Act.put, List.getElem_toArray, List.getElem_cons_succ, List.getElem_cons_zero, List.setIfInBounds_toArray, List.set_cons_zero, List.set_cons_succ]
        refine wpAnyH_ready (rs := [16]) (by kernel_rfl) (by simp) ?_
        refine AllReadyH.cons rfl (fun K hK => ?_) AllReadyH.nil
        have HY : Hid (layHeld.own X4 base ([g3] ++ [g4]) [.int .i64 a, .int .i64 d, .int .i64 (c : Nat), .slice (some ⟨g3, 0, none⟩) c c, .slice (some ⟨g4, 0, none⟩) c c, .int .i64 (now + 8)] (newV a d (c : Nat) now)) := Lib.hid (layHeld_own.2 ⟨_, _, [g3], [g4], rfl, rfl, O3.out, O4.out⟩)
        have HDY : Hid (([g3] ++ [g4]).Nodup) := Lib.hid (by have := F34.out; simp; omega)
        have HNY : Hid (∀ k ∈ [g3] ++ [g4], k ∉ fp5) := Lib.hid (fun k hk => by simp at hk; rcases hk with rfl | rfl; exact F3.out.1; exact F4.out.1)
        refine step_pushR rfl (.tmp 48) (.tmp 59) 24 rfl base HeldT i0 _ 80 layHeld Try.underlying24 hi0 hz0 hs0 hb0 rfl (by omega) u5 fp5 rest (by rfl) O5.out HD5.out (newV a d (c : Nat) now) [.int .i64 a, .int .i64 d, .int .i64 (c : Nat), .slice (some ⟨g3, 0, none⟩) c c, .slice (some ⟨g4, 0, none⟩) c c, .int .i64 (now + 8)] ([g3] ++ [g4]) HY.out HDY.out HNY.out ⟨gl, 0, none⟩ (by rfl) HC.out (by omega) HB.out ?_
        rintro v1 X5 ⟨f6, o6, n6, s6⟩ hbe hch
        have hxs : q < X4.heap.size := V.out.lt
        have NQ6 : Hid (q ∉ f6) := Lib.hid (fun hm => by
          rcases s6 q hm with h9 | h9 | h9
          · exact NQ5.out h9
          · simp at h9; rcases h9 with h9 | h9
            · exact F3.out.2 h9
            · exact F4.out.2 h9
          · omega)
        have V6 : Hid (VarA q ShelfT #[u5] X5) := Lib.hid ⟨(hch.block q V.out.lt NQ5.out).trans V.out.row⟩
        have O6 := Lib.hid o6
        have N6 := Lib.hid n6
        refine hK.out _ _ (Lib.hid (hHeld.out.trans (hbe.mono hb1))) (fun hHeld => ?_)
        clear hK K HY HDY HNY HC O3 O4 F3 F4 F34 O5 V o6 n6 s6 hbe hch hxs HB
        try simp only [Act.put, List.getElem_toArray, List.getElem_cons_succ, List.getElem_cons_zero, List.setIfInBounds_toArray, List.set_cons_zero, List.set_cons_succ]
        refine wpAnyH_take (i := 17) (v := ?_) rfl (by kernel_rfl) (by kernel_rfl) (by kernel_rfl) (fun _ _ _ h => h) (Or.inl ⟨by kernel_rfl, ?_⟩) hHeld ?_
        rotate_left
        · intro X hX
          first | (go_simp; done) | (go_simp; with_reducible rfl)
        try simp only [Act.put, List.getElem_toArray, List.getElem_cons_succ, List.getElem_cons_zero, List.setIfInBounds_toArray, List.set_cons_zero, List.set_cons_succ]
        refine wpAnyH_take (i := 18) (v := ?_) rfl (by kernel_rfl) (by kernel_rfl) (by kernel_rfl) (fun _ _ _ h => h) (Or.inl ⟨by kernel_rfl, ?_⟩) hHeld ?_
        rotate_left
        · intro X hX
          first | (go_simp; done) | (go_simp; with_reducible rfl)
        try simp only [Act.put, List.getElem_toArray, List.getElem_cons_succ, List.getElem_cons_zero, List.setIfInBounds_toArray, List.set_cons_zero, List.set_cons_succ]
        refine wpAnyH_ready (rs := [19]) (by kernel_rfl) (by simp) ?_
        refine AllReadyH.cons rfl (fun K hK => ?_) AllReadyH.nil
        obtain ⟨na, nk, hv1⟩ : ∃ na nk, v1 = .slice na (rest.length + 1) nk := (by have h9 := rows_form (layHeldS.read O6.out); rw [List.length_append] at h9; exact h9)
        rw [hv1] at O6 ⊢
        have y0_ : X5.cell? ⟨q, 0, none⟩ = some u5 := V6.out.cell 0
        have g0_ := V6.out.free 0
        go_simp
        have hc : Only q X5 (X5.setCell ⟨q, 0, none⟩ (.slice na (rest.length + 1) nk)) := Only.setCell 0 _
        have hb9 := hHeld.out.trans (hc.below hb2 (by have := V6.out.lt; omega))
        have V7 : Hid (VarA q ShelfT #[.slice na (rest.length + 1) nk] (X5.setCell ⟨q, 0, none⟩ (.slice na (rest.length + 1) nk))) := Lib.hid (V6.out.set 0 _)
        have E : Hid (Q (.returned (.int .i64 (rest.length : Nat))) (X5.setCell ⟨q, 0, none⟩ (.slice na (rest.length + 1) nk))) := Lib.hid (HPG.out _ _ f6 _ rfl V7.out (layHeldS.keep O6.out (fun a ha => hc.block a (layHeldS.blocks O6.out a ha).2 (fun e => NQ6.out (e ▸ ha)))) N6.out NQ6.out hb9)
        refine hK.out _ _ (Lib.hid hb9) (fun hHeld => ?_)
        clear hK K y0_ g0_ hc hb9 O6 V6 N6 NQ6 hv1
        generalize (X5.setCell ⟨q, 0, none⟩ (.slice na (rest.length + 1) nk)) = X6 at *
        try simp only [Act.put, List.getElem_toArray, List.getElem_cons_succ, List.getElem_cons_zero, List.setIfInBounds_toArray, List.set_cons_zero, List.set_cons_succ]
        refine wpAnyH_done (by kernel_rfl) ?_ _
        have y0_ : X6.cell? ⟨q, 0, none⟩ = some (.slice na (rest.length + 1) nk) := V7.out.cell 0
        have hwn : IntKind.i64.wrap (((rest.length + 1 : Nat) : Int) - 1) = (rest.length : Int) := by rw [IntKind.wrap_i64]; omega
        clear hHeld
        go_wp2_with fail
        exact E.out
    · have hxs : q < X0.heap.size := V.out.lt
      refine step_make rfl (.tmp 52) (.tmp 52) 32 rfl base StringT i3 (.string ⟨#[]⟩) 1 Try.underlying32 hi3 hz3 hs3 .i64 .i64 c (by rfl) (by rfl) (by rw [hb3]; omega) (by unfold maxLen; omega) HB.out ?_
      intro X1 hown1 hg1
      have hb : Hid (Below X0.heap.size X0 X1) := Lib.hid (below_grown hg1 (fun k h => by cases h) (Nat.le_refl _))
      have O3 : Hid (layStringS.own X1 base [X0.heap.size] [.slice (some ⟨X0.heap.size, 0, none⟩) c c] (List.replicate c ⟨#[]⟩)) := Lib.hid (rows_made (A := layString) hown1 rfl (flatString.own _ _ _ _ (layString_rd.2 rfl)))
      have F3 : Hid (X0.heap.size ∉ fp5 ∧ q ≠ X0.heap.size) := Lib.hid ⟨fun hm => by have := (O5.out.blocks _ hm).2; omega, by omega⟩
      refine hK.out _ _ (Lib.hid (hHeld.out.trans (hb.out.mono (by omega)))) (fun hHeld => ?_)
      clear hK K hown1 hg1 hxs
      replace V := Lib.hid (V.out.next hb.out)
      replace O5 := Lib.hid (O5.out.next hb.out)
      replace HB := Lib.hid (Nat.le_trans HB.out hb.out.size)
      clear hb
      generalize X0.heap.size = g3 at *
      try simp only [Act.put, List.getElem_toArray, List.getElem_cons_succ, List.getElem_cons_zero, List.setIfInBounds_toArray, List.set_cons_zero, List.set_cons_succ]
      refine wpAnyH_ready (rs := [4, 11]) (by kernel_rfl) (by simp) ?_
      refine AllReadyH.cons rfl (fun K hK => ?_) (AllReadyH.cons rfl (fun K hK => ?_) AllReadyH.nil)
      · have y0_ : X1.cell? ⟨q, 0, none⟩ = some u5 := V.out.cell 0
        go_simp
        refine hK.out _ _ hHeld (fun hHeld => ?_)
        clear hK K y0_
        try simp only [Act.put, List.getElem_toArray, List.getElem_cons_succ, List.getElem_cons_zero, List.setIfInBounds_toArray, List.set_cons_zero, List.set_cons_succ]
        refine wpAnyH_ready (rs := [11]) (by kernel_rfl) (by simp) ?_
        refine AllReadyH.cons rfl (fun K hK => ?_) AllReadyH.nil
        have hxs : q < X1.heap.size := V.out.lt
        refine step_make rfl (.tmp 54) (.tmp 54) 33 rfl base 4 i4 (.bool false) 1 Try.underlying33 hi4 hz4 hs4 .i64 .i64 c (by rfl) (by rfl) (by rw [hb4]; omega) (by unfold maxLen; omega) HB.out ?_
        intro X3 hown1 hg1
        have hb : Hid (Below X1.heap.size X1 X3) := Lib.hid (below_grown hg1 (fun k h => by cases h) (Nat.le_refl _))
        have O4 : Hid (layBoolS.own X3 base [X1.heap.size] [.slice (some ⟨X1.heap.size, 0, none⟩) c c] (List.replicate c false)) := Lib.hid (rows_made (A := Lay.bool) hown1 rfl (bool_own.2 ⟨rfl, rfl⟩))
        have F4 : Hid (X1.heap.size ∉ fp5 ∧ q ≠ X1.heap.size) := Lib.hid ⟨fun hm => by have := (O5.out.blocks _ hm).2; omega, by omega⟩
        have F34 : Hid (g3 ≠ X1.heap.size) := Lib.hid (by have h9 := (layStringS.blocks O3.out g3 (by simp)).2; omega)
        refine hK.out _ _ (Lib.hid (hHeld.out.trans (hb.out.mono (by omega)))) (fun hHeld => ?_)
        clear hK K hown1 hg1 hxs
        replace V := Lib.hid (V.out.next hb.out)
        replace O5 := Lib.hid (O5.out.next hb.out)
        replace HB := Lib.hid (Nat.le_trans HB.out hb.out.size)
        replace O3 := Lib.hid (layStringS.next O3.out hb.out)
        clear hb
        generalize X1.heap.size = g4 at *
        try simp only [Act.put, List.getElem_toArray, List.getElem_cons_succ, List.getElem_cons_zero, List.setIfInBounds_toArray, List.set_cons_zero, List.set_cons_succ]
        refine wpAnyH_take (i := 14) (v := ?_) rfl (by kernel_rfl) (by kernel_rfl) (by kernel_rfl) (fun _ _ _ h => h) (Or.inl ⟨by kernel_rfl, ?_⟩) hHeld ?_
        rotate_left
        · intro X hX
          first | (go_simp; done) | (go_simp; with_reducible rfl)
        try simp only [Act.put, List.getElem_toArray, List.getElem_cons_succ, List.getElem_cons_zero, List.setIfInBounds_toArray, List.set_cons_zero, List.set_cons_succ]
        refine wpAnyH_ready (rs := [15]) (by kernel_rfl) (by simp) ?_
        refine AllReadyH.cons rfl (fun K hK => ?_) AllReadyH.nil
        go_simp
        have hxs : q < X3.heap.size := V.out.lt
        have hal : Below X3.heap.size X3 (X3.alloc (.cells #[.int .i64 a, .int .i64 d, .int .i64 (c : Nat), .slice (some ⟨g3, 0, none⟩) c c, .slice (some ⟨g4, 0, none⟩) c c, .int .i64 (now + 8)] HeldT)) := (Below.refl _ _).alloc (Nat.le_refl _) _
        refine hK.out _ _ (Lib.hid (hHeld.out.trans (hal.mono (by omega)))) (fun hHeld => ?_)
        clear hK K hxs
        have HC : Hid (∀ (j : Nat) (p : Value), [.int .i64 a, .int .i64 d, .int .i64 (c : Nat), .slice (some ⟨g3, 0, none⟩) c c, .slice (some ⟨g4, 0, none⟩) c c, .int .i64 (now + 8)][j]? = some p → (X3.alloc (.cells #[.int .i64 a, .int .i64 d, .int .i64 (c : Nat), .slice (some ⟨g3, 0, none⟩) c c, .slice (some ⟨g4, 0, none⟩) c c, .int .i64 (now + 8)] HeldT)).cell? ((⟨X3.heap.size, 0, none⟩ : Addr).add j) = some p) := Lib.hid (fun j p hj => lit_held X3 #[.int .i64 a, .int .i64 d, .int .i64 (c : Nat), .slice (some ⟨g3, 0, none⟩) c c, .slice (some ⟨g4, 0, none⟩) c c, .int .i64 (now + 8)] HeldT j p hj)
        have hb := Lib.hid hal
        clear hal
        replace V := Lib.hid (V.out.next hb.out)
        replace O5 := Lib.hid (O5.out.next hb.out)
        replace HB := Lib.hid (Nat.le_trans HB.out hb.out.size)
        replace O3 := Lib.hid (layStringS.next O3.out hb.out)
        replace O4 := Lib.hid (layBoolS.next O4.out hb.out)
        clear hb
        generalize (X3.alloc (.cells #[.int .i64 a, .int .i64 d, .int .i64 (c : Nat), .slice (some ⟨g3, 0, none⟩) c c, .slice (some ⟨g4, 0, none⟩) c c, .int .i64 (now + 8)] HeldT)) = X4 at *
        generalize X3.heap.size = gl at *
        try simp only [Act.put, List.getElem_toArray, List.getElem_cons_succ, List.getElem_cons_zero, List.setIfInBounds_toArray, List.set_cons_zero, List.set_cons_succ]
        refine wpAnyH_ready (rs := [16]) (by kernel_rfl) (by simp) ?_
        refine AllReadyH.cons rfl (fun K hK => ?_) AllReadyH.nil
        have HY : Hid (layHeld.own X4 base ([g3] ++ [g4]) [.int .i64 a, .int .i64 d, .int .i64 (c : Nat), .slice (some ⟨g3, 0, none⟩) c c, .slice (some ⟨g4, 0, none⟩) c c, .int .i64 (now + 8)] (newV a d (c : Nat) now)) := Lib.hid (layHeld_own.2 ⟨_, _, [g3], [g4], rfl, rfl, O3.out, O4.out⟩)
        have HDY : Hid (([g3] ++ [g4]).Nodup) := Lib.hid (by have := F34.out; simp; omega)
        have HNY : Hid (∀ k ∈ [g3] ++ [g4], k ∉ fp5) := Lib.hid (fun k hk => by simp at hk; rcases hk with rfl | rfl; exact F3.out.1; exact F4.out.1)
        refine step_pushR rfl (.tmp 48) (.tmp 59) 24 rfl base HeldT i0 _ 80 layHeld Try.underlying24 hi0 hz0 hs0 hb0 rfl (by omega) u5 fp5 rest (by rfl) O5.out HD5.out (newV a d (c : Nat) now) [.int .i64 a, .int .i64 d, .int .i64 (c : Nat), .slice (some ⟨g3, 0, none⟩) c c, .slice (some ⟨g4, 0, none⟩) c c, .int .i64 (now + 8)] ([g3] ++ [g4]) HY.out HDY.out HNY.out ⟨gl, 0, none⟩ (by rfl) HC.out (by omega) HB.out ?_
        rintro v1 X5 ⟨f6, o6, n6, s6⟩ hbe hch
        have hxs : q < X4.heap.size := V.out.lt
        have NQ6 : Hid (q ∉ f6) := Lib.hid (fun hm => by
          rcases s6 q hm with h9 | h9 | h9
          · exact NQ5.out h9
          · simp at h9; rcases h9 with h9 | h9
            · exact F3.out.2 h9
            · exact F4.out.2 h9
          · omega)
        have V6 : Hid (VarA q ShelfT #[u5] X5) := Lib.hid ⟨(hch.block q V.out.lt NQ5.out).trans V.out.row⟩
        have O6 := Lib.hid o6
        have N6 := Lib.hid n6
        refine hK.out _ _ (Lib.hid (hHeld.out.trans (hbe.mono hb1))) (fun hHeld => ?_)
        clear hK K HY HDY HNY HC O3 O4 F3 F4 F34 O5 V o6 n6 s6 hbe hch hxs HB
        try simp only [Act.put, List.getElem_toArray, List.getElem_cons_succ, List.getElem_cons_zero, List.setIfInBounds_toArray, List.set_cons_zero, List.set_cons_succ]
        refine wpAnyH_take (i := 17) (v := ?_) rfl (by kernel_rfl) (by kernel_rfl) (by kernel_rfl) (fun _ _ _ h => h) (Or.inl ⟨by kernel_rfl, ?_⟩) hHeld ?_
        rotate_left
        · intro X hX
          first | (go_simp; done) | (go_simp; with_reducible rfl)
        try simp only [Act.put, List.getElem_toArray, List.getElem_cons_succ, List.getElem_cons_zero, List.setIfInBounds_toArray, List.set_cons_zero, List.set_cons_succ]
        refine wpAnyH_take (i := 18) (v := ?_) rfl (by kernel_rfl) (by kernel_rfl) (by kernel_rfl) (fun _ _ _ h => h) (Or.inl ⟨by kernel_rfl, ?_⟩) hHeld ?_
        rotate_left
        · intro X hX
          first | (go_simp; done) | (go_simp; with_reducible rfl)
        try simp only [Act.put, List.getElem_toArray, List.getElem_cons_succ, List.getElem_cons_zero, List.setIfInBounds_toArray, List.set_cons_zero, List.set_cons_succ]
        refine wpAnyH_ready (rs := [19]) (by kernel_rfl) (by simp) ?_
        refine AllReadyH.cons rfl (fun K hK => ?_) AllReadyH.nil
        obtain ⟨na, nk, hv1⟩ : ∃ na nk, v1 = .slice na (rest.length + 1) nk := (by have h9 := rows_form (layHeldS.read O6.out); rw [List.length_append] at h9; exact h9)
        rw [hv1] at O6 ⊢
        have y0_ : X5.cell? ⟨q, 0, none⟩ = some u5 := V6.out.cell 0
        have g0_ := V6.out.free 0
        go_simp
        have hc : Only q X5 (X5.setCell ⟨q, 0, none⟩ (.slice na (rest.length + 1) nk)) := Only.setCell 0 _
        have hb9 := hHeld.out.trans (hc.below hb2 (by have := V6.out.lt; omega))
        have V7 : Hid (VarA q ShelfT #[.slice na (rest.length + 1) nk] (X5.setCell ⟨q, 0, none⟩ (.slice na (rest.length + 1) nk))) := Lib.hid (V6.out.set 0 _)
        have E : Hid (Q (.returned (.int .i64 (rest.length : Nat))) (X5.setCell ⟨q, 0, none⟩ (.slice na (rest.length + 1) nk))) := Lib.hid (HPG.out _ _ f6 _ rfl V7.out (layHeldS.keep O6.out (fun a ha => hc.block a (layHeldS.blocks O6.out a ha).2 (fun e => NQ6.out (e ▸ ha)))) N6.out NQ6.out hb9)
        refine hK.out _ _ (Lib.hid hb9) (fun hHeld => ?_)
        clear hK K y0_ g0_ hc hb9 O6 V6 N6 NQ6 hv1
        generalize (X5.setCell ⟨q, 0, none⟩ (.slice na (rest.length + 1) nk)) = X6 at *
        try simp only [Act.put, List.getElem_toArray, List.getElem_cons_succ, List.getElem_cons_zero, List.setIfInBounds_toArray, List.set_cons_zero, List.set_cons_succ]
        refine wpAnyH_done (by kernel_rfl) ?_ _
        have y0_ : X6.cell? ⟨q, 0, none⟩ = some (.slice na (rest.length + 1) nk) := V7.out.cell 0
        have hwn : IntKind.i64.wrap (((rest.length + 1 : Nat) : Int) - 1) = (rest.length : Int) := by rw [IntKind.wrap_i64]; omega
        clear hHeld
        go_wp2_with fail
        exact E.out
      · have hxs : q < X1.heap.size := V.out.lt
        refine step_make rfl (.tmp 54) (.tmp 54) 33 rfl base 4 i4 (.bool false) 1 Try.underlying33 hi4 hz4 hs4 .i64 .i64 c (by rfl) (by rfl) (by rw [hb4]; omega) (by unfold maxLen; omega) HB.out ?_
        intro X2 hown1 hg1
        have hb : Hid (Below X1.heap.size X1 X2) := Lib.hid (below_grown hg1 (fun k h => by cases h) (Nat.le_refl _))
        have O4 : Hid (layBoolS.own X2 base [X1.heap.size] [.slice (some ⟨X1.heap.size, 0, none⟩) c c] (List.replicate c false)) := Lib.hid (rows_made (A := Lay.bool) hown1 rfl (bool_own.2 ⟨rfl, rfl⟩))
        have F4 : Hid (X1.heap.size ∉ fp5 ∧ q ≠ X1.heap.size) := Lib.hid ⟨fun hm => by have := (O5.out.blocks _ hm).2; omega, by omega⟩
        have F34 : Hid (g3 ≠ X1.heap.size) := Lib.hid (by have h9 := (layStringS.blocks O3.out g3 (by simp)).2; omega)
        refine hK.out _ _ (Lib.hid (hHeld.out.trans (hb.out.mono (by omega)))) (fun hHeld => ?_)
        clear hK K hown1 hg1 hxs
        replace V := Lib.hid (V.out.next hb.out)
        replace O5 := Lib.hid (O5.out.next hb.out)
        replace HB := Lib.hid (Nat.le_trans HB.out hb.out.size)
        replace O3 := Lib.hid (layStringS.next O3.out hb.out)
        clear hb
        generalize X1.heap.size = g4 at *
        try simp only [Act.put, List.getElem_toArray, List.getElem_cons_succ, List.getElem_cons_zero, List.setIfInBounds_toArray, List.set_cons_zero, List.set_cons_succ]
        refine wpAnyH_take (i := 14) (v := ?_) rfl (by kernel_rfl) (by kernel_rfl) (by kernel_rfl) (fun _ _ _ h => h) (Or.inl ⟨by kernel_rfl, ?_⟩) hHeld ?_
        rotate_left
        · intro X hX
          first | (go_simp; done) | (go_simp; with_reducible rfl)
        try simp only [Act.put, List.getElem_toArray, List.getElem_cons_succ, List.getElem_cons_zero, List.setIfInBounds_toArray, List.set_cons_zero, List.set_cons_succ]
        refine wpAnyH_ready (rs := [4, 15]) (by kernel_rfl) (by simp) ?_
        refine AllReadyH.cons rfl (fun K hK => ?_) (AllReadyH.cons rfl (fun K hK => ?_) AllReadyH.nil)
        · have y0_ : X2.cell? ⟨q, 0, none⟩ = some u5 := V.out.cell 0
          go_simp
          refine hK.out _ _ hHeld (fun hHeld => ?_)
          clear hK K y0_
          try simp only [Act.put, List.getElem_toArray, List.getElem_cons_succ, List.getElem_cons_zero, List.setIfInBounds_toArray, List.set_cons_zero, List.set_cons_succ]
          refine wpAnyH_ready (rs := [15]) (by kernel_rfl) (by simp) ?_
          refine AllReadyH.cons rfl (fun K hK => ?_) AllReadyH.nil
          go_simp
          have hxs : q < X2.heap.size := V.out.lt
          have hal : Below X2.heap.size X2 (X2.alloc (.cells #[.int .i64 a, .int .i64 d, .int .i64 (c : Nat), .slice (some ⟨g3, 0, none⟩) c c, .slice (some ⟨g4, 0, none⟩) c c, .int .i64 (now + 8)] HeldT)) := (Below.refl _ _).alloc (Nat.le_refl _) _
          refine hK.out _ _ (Lib.hid (hHeld.out.trans (hal.mono (by omega)))) (fun hHeld => ?_)
          clear hK K hxs
          have HC : Hid (∀ (j : Nat) (p : Value), [.int .i64 a, .int .i64 d, .int .i64 (c : Nat), .slice (some ⟨g3, 0, none⟩) c c, .slice (some ⟨g4, 0, none⟩) c c, .int .i64 (now + 8)][j]? = some p → (X2.alloc (.cells #[.int .i64 a, .int .i64 d, .int .i64 (c : Nat), .slice (some ⟨g3, 0, none⟩) c c, .slice (some ⟨g4, 0, none⟩) c c, .int .i64 (now + 8)] HeldT)).cell? ((⟨X2.heap.size, 0, none⟩ : Addr).add j) = some p) := Lib.hid (fun j p hj => lit_held X2 #[.int .i64 a, .int .i64 d, .int .i64 (c : Nat), .slice (some ⟨g3, 0, none⟩) c c, .slice (some ⟨g4, 0, none⟩) c c, .int .i64 (now + 8)] HeldT j p hj)
          have hb := Lib.hid hal
          clear hal
          replace V := Lib.hid (V.out.next hb.out)
          replace O5 := Lib.hid (O5.out.next hb.out)
          replace HB := Lib.hid (Nat.le_trans HB.out hb.out.size)
          replace O3 := Lib.hid (layStringS.next O3.out hb.out)
          replace O4 := Lib.hid (layBoolS.next O4.out hb.out)
          clear hb
          generalize (X2.alloc (.cells #[.int .i64 a, .int .i64 d, .int .i64 (c : Nat), .slice (some ⟨g3, 0, none⟩) c c, .slice (some ⟨g4, 0, none⟩) c c, .int .i64 (now + 8)] HeldT)) = X4 at *
          generalize X2.heap.size = gl at *
          try simp only [Act.put, List.getElem_toArray, List.getElem_cons_succ, List.getElem_cons_zero, List.setIfInBounds_toArray, List.set_cons_zero, List.set_cons_succ]
          refine wpAnyH_ready (rs := [16]) (by kernel_rfl) (by simp) ?_
          refine AllReadyH.cons rfl (fun K hK => ?_) AllReadyH.nil
          have HY : Hid (layHeld.own X4 base ([g3] ++ [g4]) [.int .i64 a, .int .i64 d, .int .i64 (c : Nat), .slice (some ⟨g3, 0, none⟩) c c, .slice (some ⟨g4, 0, none⟩) c c, .int .i64 (now + 8)] (newV a d (c : Nat) now)) := Lib.hid (layHeld_own.2 ⟨_, _, [g3], [g4], rfl, rfl, O3.out, O4.out⟩)
          have HDY : Hid (([g3] ++ [g4]).Nodup) := Lib.hid (by have := F34.out; simp; omega)
          have HNY : Hid (∀ k ∈ [g3] ++ [g4], k ∉ fp5) := Lib.hid (fun k hk => by simp at hk; rcases hk with rfl | rfl; exact F3.out.1; exact F4.out.1)
          refine step_pushR rfl (.tmp 48) (.tmp 59) 24 rfl base HeldT i0 _ 80 layHeld Try.underlying24 hi0 hz0 hs0 hb0 rfl (by omega) u5 fp5 rest (by rfl) O5.out HD5.out (newV a d (c : Nat) now) [.int .i64 a, .int .i64 d, .int .i64 (c : Nat), .slice (some ⟨g3, 0, none⟩) c c, .slice (some ⟨g4, 0, none⟩) c c, .int .i64 (now + 8)] ([g3] ++ [g4]) HY.out HDY.out HNY.out ⟨gl, 0, none⟩ (by rfl) HC.out (by omega) HB.out ?_
          rintro v1 X5 ⟨f6, o6, n6, s6⟩ hbe hch
          have hxs : q < X4.heap.size := V.out.lt
          have NQ6 : Hid (q ∉ f6) := Lib.hid (fun hm => by
            rcases s6 q hm with h9 | h9 | h9
            · exact NQ5.out h9
            · simp at h9; rcases h9 with h9 | h9
              · exact F3.out.2 h9
              · exact F4.out.2 h9
            · omega)
          have V6 : Hid (VarA q ShelfT #[u5] X5) := Lib.hid ⟨(hch.block q V.out.lt NQ5.out).trans V.out.row⟩
          have O6 := Lib.hid o6
          have N6 := Lib.hid n6
          refine hK.out _ _ (Lib.hid (hHeld.out.trans (hbe.mono hb1))) (fun hHeld => ?_)
          clear hK K HY HDY HNY HC O3 O4 F3 F4 F34 O5 V o6 n6 s6 hbe hch hxs HB
          try simp only [Act.put, List.getElem_toArray, List.getElem_cons_succ, List.getElem_cons_zero, List.setIfInBounds_toArray, List.set_cons_zero, List.set_cons_succ]
          refine wpAnyH_take (i := 17) (v := ?_) rfl (by kernel_rfl) (by kernel_rfl) (by kernel_rfl) (fun _ _ _ h => h) (Or.inl ⟨by kernel_rfl, ?_⟩) hHeld ?_
          rotate_left
          · intro X hX
            first | (go_simp; done) | (go_simp; with_reducible rfl)
          try simp only [Act.put, List.getElem_toArray, List.getElem_cons_succ, List.getElem_cons_zero, List.setIfInBounds_toArray, List.set_cons_zero, List.set_cons_succ]
          refine wpAnyH_take (i := 18) (v := ?_) rfl (by kernel_rfl) (by kernel_rfl) (by kernel_rfl) (fun _ _ _ h => h) (Or.inl ⟨by kernel_rfl, ?_⟩) hHeld ?_
          rotate_left
          · intro X hX
            first | (go_simp; done) | (go_simp; with_reducible rfl)
          try simp only [Act.put, List.getElem_toArray, List.getElem_cons_succ, List.getElem_cons_zero, List.setIfInBounds_toArray, List.set_cons_zero, List.set_cons_succ]
          refine wpAnyH_ready (rs := [19]) (by kernel_rfl) (by simp) ?_
          refine AllReadyH.cons rfl (fun K hK => ?_) AllReadyH.nil
          obtain ⟨na, nk, hv1⟩ : ∃ na nk, v1 = .slice na (rest.length + 1) nk := (by have h9 := rows_form (layHeldS.read O6.out); rw [List.length_append] at h9; exact h9)
          rw [hv1] at O6 ⊢
          have y0_ : X5.cell? ⟨q, 0, none⟩ = some u5 := V6.out.cell 0
          have g0_ := V6.out.free 0
          go_simp
          have hc : Only q X5 (X5.setCell ⟨q, 0, none⟩ (.slice na (rest.length + 1) nk)) := Only.setCell 0 _
          have hb9 := hHeld.out.trans (hc.below hb2 (by have := V6.out.lt; omega))
          have V7 : Hid (VarA q ShelfT #[.slice na (rest.length + 1) nk] (X5.setCell ⟨q, 0, none⟩ (.slice na (rest.length + 1) nk))) := Lib.hid (V6.out.set 0 _)
          have E : Hid (Q (.returned (.int .i64 (rest.length : Nat))) (X5.setCell ⟨q, 0, none⟩ (.slice na (rest.length + 1) nk))) := Lib.hid (HPG.out _ _ f6 _ rfl V7.out (layHeldS.keep O6.out (fun a ha => hc.block a (layHeldS.blocks O6.out a ha).2 (fun e => NQ6.out (e ▸ ha)))) N6.out NQ6.out hb9)
          refine hK.out _ _ (Lib.hid hb9) (fun hHeld => ?_)
          clear hK K y0_ g0_ hc hb9 O6 V6 N6 NQ6 hv1
          generalize (X5.setCell ⟨q, 0, none⟩ (.slice na (rest.length + 1) nk)) = X6 at *
          try simp only [Act.put, List.getElem_toArray, List.getElem_cons_succ, List.getElem_cons_zero, List.setIfInBounds_toArray, List.set_cons_zero, List.set_cons_succ]
          refine wpAnyH_done (by kernel_rfl) ?_ _
          have y0_ : X6.cell? ⟨q, 0, none⟩ = some (.slice na (rest.length + 1) nk) := V7.out.cell 0
          have hwn : IntKind.i64.wrap (((rest.length + 1 : Nat) : Int) - 1) = (rest.length : Int) := by rw [IntKind.wrap_i64]; omega
          clear hHeld
          go_wp2_with fail
          exact E.out
        · go_simp
          have hxs : q < X2.heap.size := V.out.lt
          have hal : Below X2.heap.size X2 (X2.alloc (.cells #[.int .i64 a, .int .i64 d, .int .i64 (c : Nat), .slice (some ⟨g3, 0, none⟩) c c, .slice (some ⟨g4, 0, none⟩) c c, .int .i64 (now + 8)] HeldT)) := (Below.refl _ _).alloc (Nat.le_refl _) _
          refine hK.out _ _ (Lib.hid (hHeld.out.trans (hal.mono (by omega)))) (fun hHeld => ?_)
          clear hK K hxs
          have HC : Hid (∀ (j : Nat) (p : Value), [.int .i64 a, .int .i64 d, .int .i64 (c : Nat), .slice (some ⟨g3, 0, none⟩) c c, .slice (some ⟨g4, 0, none⟩) c c, .int .i64 (now + 8)][j]? = some p → (X2.alloc (.cells #[.int .i64 a, .int .i64 d, .int .i64 (c : Nat), .slice (some ⟨g3, 0, none⟩) c c, .slice (some ⟨g4, 0, none⟩) c c, .int .i64 (now + 8)] HeldT)).cell? ((⟨X2.heap.size, 0, none⟩ : Addr).add j) = some p) := Lib.hid (fun j p hj => lit_held X2 #[.int .i64 a, .int .i64 d, .int .i64 (c : Nat), .slice (some ⟨g3, 0, none⟩) c c, .slice (some ⟨g4, 0, none⟩) c c, .int .i64 (now + 8)] HeldT j p hj)
          have hb := Lib.hid hal
          clear hal
          replace V := Lib.hid (V.out.next hb.out)
          replace O5 := Lib.hid (O5.out.next hb.out)
          replace HB := Lib.hid (Nat.le_trans HB.out hb.out.size)
          replace O3 := Lib.hid (layStringS.next O3.out hb.out)
          replace O4 := Lib.hid (layBoolS.next O4.out hb.out)
          clear hb
          generalize (X2.alloc (.cells #[.int .i64 a, .int .i64 d, .int .i64 (c : Nat), .slice (some ⟨g3, 0, none⟩) c c, .slice (some ⟨g4, 0, none⟩) c c, .int .i64 (now + 8)] HeldT)) = X3 at *
          generalize X2.heap.size = gl at *
          try simp only [Act.put, List.getElem_toArray, List.getElem_cons_succ, List.getElem_cons_zero, List.setIfInBounds_toArray, List.set_cons_zero, List.set_cons_succ]
          refine wpAnyH_ready (rs := [4]) (by kernel_rfl) (by simp) ?_
          refine AllReadyH.cons rfl (fun K hK => ?_) AllReadyH.nil
          have y0_ : X3.cell? ⟨q, 0, none⟩ = some u5 := V.out.cell 0
          go_simp
          refine hK.out _ _ hHeld (fun hHeld => ?_)
          clear hK K y0_
          try simp only [Act.put, List.getElem_toArray, List.getElem_cons_succ, List.getElem_cons_zero, List.setIfInBounds_toArray, List.set_cons_zero, List.set_cons_succ]
          refine wpAnyH_ready (rs := [16]) (by kernel_rfl) (by simp) ?_
          refine AllReadyH.cons rfl (fun K hK => ?_) AllReadyH.nil
          have HY : Hid (layHeld.own X3 base ([g3] ++ [g4]) [.int .i64 a, .int .i64 d, .int .i64 (c : Nat), .slice (some ⟨g3, 0, none⟩) c c, .slice (some ⟨g4, 0, none⟩) c c, .int .i64 (now + 8)] (newV a d (c : Nat) now)) := Lib.hid (layHeld_own.2 ⟨_, _, [g3], [g4], rfl, rfl, O3.out, O4.out⟩)
          have HDY : Hid (([g3] ++ [g4]).Nodup) := Lib.hid (by have := F34.out; simp; omega)
          have HNY : Hid (∀ k ∈ [g3] ++ [g4], k ∉ fp5) := Lib.hid (fun k hk => by simp at hk; rcases hk with rfl | rfl; exact F3.out.1; exact F4.out.1)
          refine step_pushR rfl (.tmp 48) (.tmp 59) 24 rfl base HeldT i0 _ 80 layHeld Try.underlying24 hi0 hz0 hs0 hb0 rfl (by omega) u5 fp5 rest (by rfl) O5.out HD5.out (newV a d (c : Nat) now) [.int .i64 a, .int .i64 d, .int .i64 (c : Nat), .slice (some ⟨g3, 0, none⟩) c c, .slice (some ⟨g4, 0, none⟩) c c, .int .i64 (now + 8)] ([g3] ++ [g4]) HY.out HDY.out HNY.out ⟨gl, 0, none⟩ (by rfl) HC.out (by omega) HB.out ?_
          rintro v1 X5 ⟨f6, o6, n6, s6⟩ hbe hch
          have hxs : q < X3.heap.size := V.out.lt
          have NQ6 : Hid (q ∉ f6) := Lib.hid (fun hm => by
            rcases s6 q hm with h9 | h9 | h9
            · exact NQ5.out h9
            · simp at h9; rcases h9 with h9 | h9
              · exact F3.out.2 h9
              · exact F4.out.2 h9
            · omega)
          have V6 : Hid (VarA q ShelfT #[u5] X5) := Lib.hid ⟨(hch.block q V.out.lt NQ5.out).trans V.out.row⟩
          have O6 := Lib.hid o6
          have N6 := Lib.hid n6
          refine hK.out _ _ (Lib.hid (hHeld.out.trans (hbe.mono hb1))) (fun hHeld => ?_)
          clear hK K HY HDY HNY HC O3 O4 F3 F4 F34 O5 V o6 n6 s6 hbe hch hxs HB
          try simp only [Act.put, List.getElem_toArray, List.getElem_cons_succ, List.getElem_cons_zero, List.setIfInBounds_toArray, List.set_cons_zero, List.set_cons_succ]
          refine wpAnyH_take (i := 17) (v := ?_) rfl (by kernel_rfl) (by kernel_rfl) (by kernel_rfl) (fun _ _ _ h => h) (Or.inl ⟨by kernel_rfl, ?_⟩) hHeld ?_
          rotate_left
          · intro X hX
            first | (go_simp; done) | (go_simp; with_reducible rfl)
          try simp only [Act.put, List.getElem_toArray, List.getElem_cons_succ, List.getElem_cons_zero, List.setIfInBounds_toArray, List.set_cons_zero, List.set_cons_succ]
          refine wpAnyH_take (i := 18) (v := ?_) rfl (by kernel_rfl) (by kernel_rfl) (by kernel_rfl) (fun _ _ _ h => h) (Or.inl ⟨by kernel_rfl, ?_⟩) hHeld ?_
          rotate_left
          · intro X hX
            first | (go_simp; done) | (go_simp; with_reducible rfl)
          try simp only [Act.put, List.getElem_toArray, List.getElem_cons_succ, List.getElem_cons_zero, List.setIfInBounds_toArray, List.set_cons_zero, List.set_cons_succ]
          refine wpAnyH_ready (rs := [19]) (by kernel_rfl) (by simp) ?_
          refine AllReadyH.cons rfl (fun K hK => ?_) AllReadyH.nil
          obtain ⟨na, nk, hv1⟩ : ∃ na nk, v1 = .slice na (rest.length + 1) nk := (by have h9 := rows_form (layHeldS.read O6.out); rw [List.length_append] at h9; exact h9)
          rw [hv1] at O6 ⊢
          have y0_ : X5.cell? ⟨q, 0, none⟩ = some u5 := V6.out.cell 0
          have g0_ := V6.out.free 0
          go_simp
          have hc : Only q X5 (X5.setCell ⟨q, 0, none⟩ (.slice na (rest.length + 1) nk)) := Only.setCell 0 _
          have hb9 := hHeld.out.trans (hc.below hb2 (by have := V6.out.lt; omega))
          have V7 : Hid (VarA q ShelfT #[.slice na (rest.length + 1) nk] (X5.setCell ⟨q, 0, none⟩ (.slice na (rest.length + 1) nk))) := Lib.hid (V6.out.set 0 _)
          have E : Hid (Q (.returned (.int .i64 (rest.length : Nat))) (X5.setCell ⟨q, 0, none⟩ (.slice na (rest.length + 1) nk))) := Lib.hid (HPG.out _ _ f6 _ rfl V7.out (layHeldS.keep O6.out (fun a ha => hc.block a (layHeldS.blocks O6.out a ha).2 (fun e => NQ6.out (e ▸ ha)))) N6.out NQ6.out hb9)
          refine hK.out _ _ (Lib.hid hb9) (fun hHeld => ?_)
          clear hK K y0_ g0_ hc hb9 O6 V6 N6 NQ6 hv1
          generalize (X5.setCell ⟨q, 0, none⟩ (.slice na (rest.length + 1) nk)) = X6 at *
          try simp only [Act.put, List.getElem_toArray, List.getElem_cons_succ, List.getElem_cons_zero, List.setIfInBounds_toArray, List.set_cons_zero, List.set_cons_succ]
          refine wpAnyH_done (by kernel_rfl) ?_ _
          have y0_ : X6.cell? ⟨q, 0, none⟩ = some (.slice na (rest.length + 1) nk) := V7.out.cell 0
          have hwn : IntKind.i64.wrap (((rest.length + 1 : Nat) : Int) - 1) = (rest.length : Int) := by rw [IntKind.wrap_i64]; omega
          clear hHeld
          go_wp2_with fail
          exact E.out
    · have hxs : q < X0.heap.size := V.out.lt
      refine step_make rfl (.tmp 54) (.tmp 54) 33 rfl base 4 i4 (.bool false) 1 Try.underlying33 hi4 hz4 hs4 .i64 .i64 c (by rfl) (by rfl) (by rw [hb4]; omega) (by unfold maxLen; omega) HB.out ?_
      intro X1 hown1 hg1
      have hb : Hid (Below X0.heap.size X0 X1) := Lib.hid (below_grown hg1 (fun k h => by cases h) (Nat.le_refl _))
      have O4 : Hid (layBoolS.own X1 base [X0.heap.size] [.slice (some ⟨X0.heap.size, 0, none⟩) c c] (List.replicate c false)) := Lib.hid (rows_made (A := Lay.bool) hown1 rfl (bool_own.2 ⟨rfl, rfl⟩))
      have F4 : Hid (X0.heap.size ∉ fp5 ∧ q ≠ X0.heap.size) := Lib.hid ⟨fun hm => by have := (O5.out.blocks _ hm).2; omega, by omega⟩
      refine hK.out _ _ (Lib.hid (hHeld.out.trans (hb.out.mono (by omega)))) (fun hHeld => ?_)
      clear hK K hown1 hg1 hxs
      replace V := Lib.hid (V.out.next hb.out)
      replace O5 := Lib.hid (O5.out.next hb.out)
      replace HB := Lib.hid (Nat.le_trans HB.out hb.out.size)
      clear hb
      generalize X0.heap.size = g4 at *
      try simp only [Act.put, List.getElem_toArray, List.getElem_cons_succ, List.getElem_cons_zero, List.setIfInBounds_toArray, List.set_cons_zero, List.set_cons_succ]
      refine wpAnyH_ready (rs := [4, 9]) (by kernel_rfl) (by simp) ?_
      refine AllReadyH.cons rfl (fun K hK => ?_) (AllReadyH.cons rfl (fun K hK => ?_) AllReadyH.nil)
      · have y0_ : X1.cell? ⟨q, 0, none⟩ = some u5 := V.out.cell 0
        go_simp
        refine hK.out _ _ hHeld (fun hHeld => ?_)
        clear hK K y0_
        try simp only [Act.put, List.getElem_toArray, List.getElem_cons_succ, List.getElem_cons_zero, List.setIfInBounds_toArray, List.set_cons_zero, List.set_cons_succ]
        refine wpAnyH_ready (rs := [9]) (by kernel_rfl) (by simp) ?_
        refine AllReadyH.cons rfl (fun K hK => ?_) AllReadyH.nil
        have hxs : q < X1.heap.size := V.out.lt
        refine step_make rfl (.tmp 52) (.tmp 52) 32 rfl base StringT i3 (.string ⟨#[]⟩) 1 Try.underlying32 hi3 hz3 hs3 .i64 .i64 c (by rfl) (by rfl) (by rw [hb3]; omega) (by unfold maxLen; omega) HB.out ?_
        intro X3 hown1 hg1
        have hb : Hid (Below X1.heap.size X1 X3) := Lib.hid (below_grown hg1 (fun k h => by cases h) (Nat.le_refl _))
        have O3 : Hid (layStringS.own X3 base [X1.heap.size] [.slice (some ⟨X1.heap.size, 0, none⟩) c c] (List.replicate c ⟨#[]⟩)) := Lib.hid (rows_made (A := layString) hown1 rfl (flatString.own _ _ _ _ (layString_rd.2 rfl)))
        have F3 : Hid (X1.heap.size ∉ fp5 ∧ q ≠ X1.heap.size) := Lib.hid ⟨fun hm => by have := (O5.out.blocks _ hm).2; omega, by omega⟩
        have F34 : Hid (g4 ≠ X1.heap.size) := Lib.hid (by have h9 := (layBoolS.blocks O4.out g4 (by simp)).2; omega)
        refine hK.out _ _ (Lib.hid (hHeld.out.trans (hb.out.mono (by omega)))) (fun hHeld => ?_)
        clear hK K hown1 hg1 hxs
        replace V := Lib.hid (V.out.next hb.out)
        replace O5 := Lib.hid (O5.out.next hb.out)
        replace HB := Lib.hid (Nat.le_trans HB.out hb.out.size)
        replace O4 := Lib.hid (layBoolS.next O4.out hb.out)
        clear hb
        generalize X1.heap.size = g3 at *
        try simp only [Act.put, List.getElem_toArray, List.getElem_cons_succ, List.getElem_cons_zero, List.setIfInBounds_toArray, List.set_cons_zero, List.set_cons_succ]
        refine wpAnyH_take (i := 14) (v := ?_) rfl (by kernel_rfl) (by kernel_rfl) (by kernel_rfl) (fun _ _ _ h => h) (Or.inl ⟨by kernel_rfl, ?_⟩) hHeld ?_
        rotate_left
        · intro X hX
          first | (go_simp; done) | (go_simp; with_reducible rfl)
        try simp only [Act.put, List.getElem_toArray, List.getElem_cons_succ, List.getElem_cons_zero, List.setIfInBounds_toArray, List.set_cons_zero, List.set_cons_succ]
        refine wpAnyH_ready (rs := [15]) (by kernel_rfl) (by simp) ?_
        refine AllReadyH.cons rfl (fun K hK => ?_) AllReadyH.nil
        go_simp
        have hxs : q < X3.heap.size := V.out.lt
        have hal : Below X3.heap.size X3 (X3.alloc (.cells #[.int .i64 a, .int .i64 d, .int .i64 (c : Nat), .slice (some ⟨g3, 0, none⟩) c c, .slice (some ⟨g4, 0, none⟩) c c, .int .i64 (now + 8)] HeldT)) := (Below.refl _ _).alloc (Nat.le_refl _) _
        refine hK.out _ _ (Lib.hid (hHeld.out.trans (hal.mono (by omega)))) (fun hHeld => ?_)
        clear hK K hxs
        have HC : Hid (∀ (j : Nat) (p : Value), [.int .i64 a, .int .i64 d, .int .i64 (c : Nat), .slice (some ⟨g3, 0, none⟩) c c, .slice (some ⟨g4, 0, none⟩) c c, .int .i64 (now + 8)][j]? = some p → (X3.alloc (.cells #[.int .i64 a, .int .i64 d, .int .i64 (c : Nat), .slice (some ⟨g3, 0, none⟩) c c, .slice (some ⟨g4, 0, none⟩) c c, .int .i64 (now + 8)] HeldT)).cell? ((⟨X3.heap.size, 0, none⟩ : Addr).add j) = some p) := Lib.hid (fun j p hj => lit_held X3 #[.int .i64 a, .int .i64 d, .int .i64 (c : Nat), .slice (some ⟨g3, 0, none⟩) c c, .slice (some ⟨g4, 0, none⟩) c c, .int .i64 (now + 8)] HeldT j p hj)
        have hb := Lib.hid hal
        clear hal
        replace V := Lib.hid (V.out.next hb.out)
        replace O5 := Lib.hid (O5.out.next hb.out)
        replace HB := Lib.hid (Nat.le_trans HB.out hb.out.size)
        replace O3 := Lib.hid (layStringS.next O3.out hb.out)
        replace O4 := Lib.hid (layBoolS.next O4.out hb.out)
        clear hb
        generalize (X3.alloc (.cells #[.int .i64 a, .int .i64 d, .int .i64 (c : Nat), .slice (some ⟨g3, 0, none⟩) c c, .slice (some ⟨g4, 0, none⟩) c c, .int .i64 (now + 8)] HeldT)) = X4 at *
        generalize X3.heap.size = gl at *
        try simp only [Act.put, List.getElem_toArray, List.getElem_cons_succ, List.getElem_cons_zero, List.setIfInBounds_toArray, List.set_cons_zero, List.set_cons_succ]
        refine wpAnyH_ready (rs := [16]) (by kernel_rfl) (by simp) ?_
        refine AllReadyH.cons rfl (fun K hK => ?_) AllReadyH.nil
        have HY : Hid (layHeld.own X4 base ([g3] ++ [g4]) [.int .i64 a, .int .i64 d, .int .i64 (c : Nat), .slice (some ⟨g3, 0, none⟩) c c, .slice (some ⟨g4, 0, none⟩) c c, .int .i64 (now + 8)] (newV a d (c : Nat) now)) := Lib.hid (layHeld_own.2 ⟨_, _, [g3], [g4], rfl, rfl, O3.out, O4.out⟩)
        have HDY : Hid (([g3] ++ [g4]).Nodup) := Lib.hid (by have := F34.out; simp; omega)
        have HNY : Hid (∀ k ∈ [g3] ++ [g4], k ∉ fp5) := Lib.hid (fun k hk => by simp at hk; rcases hk with rfl | rfl; exact F3.out.1; exact F4.out.1)
        refine step_pushR rfl (.tmp 48) (.tmp 59) 24 rfl base HeldT i0 _ 80 layHeld Try.underlying24 hi0 hz0 hs0 hb0 rfl (by omega) u5 fp5 rest (by rfl) O5.out HD5.out (newV a d (c : Nat) now) [.int .i64 a, .int .i64 d, .int .i64 (c : Nat), .slice (some ⟨g3, 0, none⟩) c c, .slice (some ⟨g4, 0, none⟩) c c, .int .i64 (now + 8)] ([g3] ++ [g4]) HY.out HDY.out HNY.out ⟨gl, 0, none⟩ (by rfl) HC.out (by omega) HB.out ?_
        rintro v1 X5 ⟨f6, o6, n6, s6⟩ hbe hch
        have hxs : q < X4.heap.size := V.out.lt
        have NQ6 : Hid (q ∉ f6) := Lib.hid (fun hm => by
          rcases s6 q hm with h9 | h9 | h9
          · exact NQ5.out h9
          · simp at h9; rcases h9 with h9 | h9
            · exact F3.out.2 h9
            · exact F4.out.2 h9
          · omega)
        have V6 : Hid (VarA q ShelfT #[u5] X5) := Lib.hid ⟨(hch.block q V.out.lt NQ5.out).trans V.out.row⟩
        have O6 := Lib.hid o6
        have N6 := Lib.hid n6
        refine hK.out _ _ (Lib.hid (hHeld.out.trans (hbe.mono hb1))) (fun hHeld => ?_)
        clear hK K HY HDY HNY HC O3 O4 F3 F4 F34 O5 V o6 n6 s6 hbe hch hxs HB
        try simp only [Act.put, List.getElem_toArray, List.getElem_cons_succ, List.getElem_cons_zero, List.setIfInBounds_toArray, List.set_cons_zero, List.set_cons_succ]
        refine wpAnyH_take (i := 17) (v := ?_) rfl (by kernel_rfl) (by kernel_rfl) (by kernel_rfl) (fun _ _ _ h => h) (Or.inl ⟨by kernel_rfl, ?_⟩) hHeld ?_
        rotate_left
        · intro X hX
          first | (go_simp; done) | (go_simp; with_reducible rfl)
        try simp only [Act.put, List.getElem_toArray, List.getElem_cons_succ, List.getElem_cons_zero, List.setIfInBounds_toArray, List.set_cons_zero, List.set_cons_succ]
        refine wpAnyH_take (i := 18) (v := ?_) rfl (by kernel_rfl) (by kernel_rfl) (by kernel_rfl) (fun _ _ _ h => h) (Or.inl ⟨by kernel_rfl, ?_⟩) hHeld ?_
        rotate_left
        · intro X hX
          first | (go_simp; done) | (go_simp; with_reducible rfl)
        try simp only [Act.put, List.getElem_toArray, List.getElem_cons_succ, List.getElem_cons_zero, List.setIfInBounds_toArray, List.set_cons_zero, List.set_cons_succ]
        refine wpAnyH_ready (rs := [19]) (by kernel_rfl) (by simp) ?_
        refine AllReadyH.cons rfl (fun K hK => ?_) AllReadyH.nil
        obtain ⟨na, nk, hv1⟩ : ∃ na nk, v1 = .slice na (rest.length + 1) nk := (by have h9 := rows_form (layHeldS.read O6.out); rw [List.length_append] at h9; exact h9)
        rw [hv1] at O6 ⊢
        have y0_ : X5.cell? ⟨q, 0, none⟩ = some u5 := V6.out.cell 0
        have g0_ := V6.out.free 0
        go_simp
        have hc : Only q X5 (X5.setCell ⟨q, 0, none⟩ (.slice na (rest.length + 1) nk)) := Only.setCell 0 _
        have hb9 := hHeld.out.trans (hc.below hb2 (by have := V6.out.lt; omega))
        have V7 : Hid (VarA q ShelfT #[.slice na (rest.length + 1) nk] (X5.setCell ⟨q, 0, none⟩ (.slice na (rest.length + 1) nk))) := Lib.hid (V6.out.set 0 _)
        have E : Hid (Q (.returned (.int .i64 (rest.length : Nat))) (X5.setCell ⟨q, 0, none⟩ (.slice na (rest.length + 1) nk))) := Lib.hid (HPG.out _ _ f6 _ rfl V7.out (layHeldS.keep O6.out (fun a ha => hc.block a (layHeldS.blocks O6.out a ha).2 (fun e => NQ6.out (e ▸ ha)))) N6.out NQ6.out hb9)
        refine hK.out _ _ (Lib.hid hb9) (fun hHeld => ?_)
        clear hK K y0_ g0_ hc hb9 O6 V6 N6 NQ6 hv1
        generalize (X5.setCell ⟨q, 0, none⟩ (.slice na (rest.length + 1) nk)) = X6 at *
        try simp only [Act.put, List.getElem_toArray, List.getElem_cons_succ, List.getElem_cons_zero, List.setIfInBounds_toArray, List.set_cons_zero, List.set_cons_succ]
        refine wpAnyH_done (by kernel_rfl) ?_ _
        have y0_ : X6.cell? ⟨q, 0, none⟩ = some (.slice na (rest.length + 1) nk) := V7.out.cell 0
        have hwn : IntKind.i64.wrap (((rest.length + 1 : Nat) : Int) - 1) = (rest.length : Int) := by rw [IntKind.wrap_i64]; omega
        clear hHeld
        go_wp2_with fail
        exact E.out
      · have hxs : q < X1.heap.size := V.out.lt
        refine step_make rfl (.tmp 52) (.tmp 52) 32 rfl base StringT i3 (.string ⟨#[]⟩) 1 Try.underlying32 hi3 hz3 hs3 .i64 .i64 c (by rfl) (by rfl) (by rw [hb3]; omega) (by unfold maxLen; omega) HB.out ?_
        intro X2 hown1 hg1
        have hb : Hid (Below X1.heap.size X1 X2) := Lib.hid (below_grown hg1 (fun k h => by cases h) (Nat.le_refl _))
        have O3 : Hid (layStringS.own X2 base [X1.heap.size] [.slice (some ⟨X1.heap.size, 0, none⟩) c c] (List.replicate c ⟨#[]⟩)) := Lib.hid (rows_made (A := layString) hown1 rfl (flatString.own _ _ _ _ (layString_rd.2 rfl)))
        have F3 : Hid (X1.heap.size ∉ fp5 ∧ q ≠ X1.heap.size) := Lib.hid ⟨fun hm => by have := (O5.out.blocks _ hm).2; omega, by omega⟩
        have F34 : Hid (g4 ≠ X1.heap.size) := Lib.hid (by have h9 := (layBoolS.blocks O4.out g4 (by simp)).2; omega)
        refine hK.out _ _ (Lib.hid (hHeld.out.trans (hb.out.mono (by omega)))) (fun hHeld => ?_)
        clear hK K hown1 hg1 hxs
        replace V := Lib.hid (V.out.next hb.out)
        replace O5 := Lib.hid (O5.out.next hb.out)
        replace HB := Lib.hid (Nat.le_trans HB.out hb.out.size)
        replace O4 := Lib.hid (layBoolS.next O4.out hb.out)
        clear hb
        generalize X1.heap.size = g3 at *
        try simp only [Act.put, List.getElem_toArray, List.getElem_cons_succ, List.getElem_cons_zero, List.setIfInBounds_toArray, List.set_cons_zero, List.set_cons_succ]
        refine wpAnyH_take (i := 14) (v := ?_) rfl (by kernel_rfl) (by kernel_rfl) (by kernel_rfl) (fun _ _ _ h => h) (Or.inl ⟨by kernel_rfl, ?_⟩) hHeld ?_
        rotate_left
        · intro X hX
          first | (go_simp; done) | (go_simp; with_reducible rfl)
        try simp only [Act.put, List.getElem_toArray, List.getElem_cons_succ, List.getElem_cons_zero, List.setIfInBounds_toArray, List.set_cons_zero, List.set_cons_succ]
        refine wpAnyH_ready (rs := [4, 15]) (by kernel_rfl) (by simp) ?_
        refine AllReadyH.cons rfl (fun K hK => ?_) (AllReadyH.cons rfl (fun K hK => ?_) AllReadyH.nil)
        · have y0_ : X2.cell? ⟨q, 0, none⟩ = some u5 := V.out.cell 0
          go_simp
          refine hK.out _ _ hHeld (fun hHeld => ?_)
          clear hK K y0_
          try simp only [Act.put, List.getElem_toArray, List.getElem_cons_succ, List.getElem_cons_zero, List.setIfInBounds_toArray, List.set_cons_zero, List.set_cons_succ]
          refine wpAnyH_ready (rs := [15]) (by kernel_rfl) (by simp) ?_
          refine AllReadyH.cons rfl (fun K hK => ?_) AllReadyH.nil
          go_simp
          have hxs : q < X2.heap.size := V.out.lt
          have hal : Below X2.heap.size X2 (X2.alloc (.cells #[.int .i64 a, .int .i64 d, .int .i64 (c : Nat), .slice (some ⟨g3, 0, none⟩) c c, .slice (some ⟨g4, 0, none⟩) c c, .int .i64 (now + 8)] HeldT)) := (Below.refl _ _).alloc (Nat.le_refl _) _
          refine hK.out _ _ (Lib.hid (hHeld.out.trans (hal.mono (by omega)))) (fun hHeld => ?_)
          clear hK K hxs
          have HC : Hid (∀ (j : Nat) (p : Value), [.int .i64 a, .int .i64 d, .int .i64 (c : Nat), .slice (some ⟨g3, 0, none⟩) c c, .slice (some ⟨g4, 0, none⟩) c c, .int .i64 (now + 8)][j]? = some p → (X2.alloc (.cells #[.int .i64 a, .int .i64 d, .int .i64 (c : Nat), .slice (some ⟨g3, 0, none⟩) c c, .slice (some ⟨g4, 0, none⟩) c c, .int .i64 (now + 8)] HeldT)).cell? ((⟨X2.heap.size, 0, none⟩ : Addr).add j) = some p) := Lib.hid (fun j p hj => lit_held X2 #[.int .i64 a, .int .i64 d, .int .i64 (c : Nat), .slice (some ⟨g3, 0, none⟩) c c, .slice (some ⟨g4, 0, none⟩) c c, .int .i64 (now + 8)] HeldT j p hj)
          have hb := Lib.hid hal
          clear hal
          replace V := Lib.hid (V.out.next hb.out)
          replace O5 := Lib.hid (O5.out.next hb.out)
          replace HB := Lib.hid (Nat.le_trans HB.out hb.out.size)
          replace O3 := Lib.hid (layStringS.next O3.out hb.out)
          replace O4 := Lib.hid (layBoolS.next O4.out hb.out)
          clear hb
          generalize (X2.alloc (.cells #[.int .i64 a, .int .i64 d, .int .i64 (c : Nat), .slice (some ⟨g3, 0, none⟩) c c, .slice (some ⟨g4, 0, none⟩) c c, .int .i64 (now + 8)] HeldT)) = X4 at *
          generalize X2.heap.size = gl at *
          try simp only [Act.put, List.getElem_toArray, List.getElem_cons_succ, List.getElem_cons_zero, List.setIfInBounds_toArray, List.set_cons_zero, List.set_cons_succ]
          refine wpAnyH_ready (rs := [16]) (by kernel_rfl) (by simp) ?_
          refine AllReadyH.cons rfl (fun K hK => ?_) AllReadyH.nil
          have HY : Hid (layHeld.own X4 base ([g3] ++ [g4]) [.int .i64 a, .int .i64 d, .int .i64 (c : Nat), .slice (some ⟨g3, 0, none⟩) c c, .slice (some ⟨g4, 0, none⟩) c c, .int .i64 (now + 8)] (newV a d (c : Nat) now)) := Lib.hid (layHeld_own.2 ⟨_, _, [g3], [g4], rfl, rfl, O3.out, O4.out⟩)
          have HDY : Hid (([g3] ++ [g4]).Nodup) := Lib.hid (by have := F34.out; simp; omega)
          have HNY : Hid (∀ k ∈ [g3] ++ [g4], k ∉ fp5) := Lib.hid (fun k hk => by simp at hk; rcases hk with rfl | rfl; exact F3.out.1; exact F4.out.1)
          refine step_pushR rfl (.tmp 48) (.tmp 59) 24 rfl base HeldT i0 _ 80 layHeld Try.underlying24 hi0 hz0 hs0 hb0 rfl (by omega) u5 fp5 rest (by rfl) O5.out HD5.out (newV a d (c : Nat) now) [.int .i64 a, .int .i64 d, .int .i64 (c : Nat), .slice (some ⟨g3, 0, none⟩) c c, .slice (some ⟨g4, 0, none⟩) c c, .int .i64 (now + 8)] ([g3] ++ [g4]) HY.out HDY.out HNY.out ⟨gl, 0, none⟩ (by rfl) HC.out (by omega) HB.out ?_
          rintro v1 X5 ⟨f6, o6, n6, s6⟩ hbe hch
          have hxs : q < X4.heap.size := V.out.lt
          have NQ6 : Hid (q ∉ f6) := Lib.hid (fun hm => by
            rcases s6 q hm with h9 | h9 | h9
            · exact NQ5.out h9
            · simp at h9; rcases h9 with h9 | h9
              · exact F3.out.2 h9
              · exact F4.out.2 h9
            · omega)
          have V6 : Hid (VarA q ShelfT #[u5] X5) := Lib.hid ⟨(hch.block q V.out.lt NQ5.out).trans V.out.row⟩
          have O6 := Lib.hid o6
          have N6 := Lib.hid n6
          refine hK.out _ _ (Lib.hid (hHeld.out.trans (hbe.mono hb1))) (fun hHeld => ?_)
          clear hK K HY HDY HNY HC O3 O4 F3 F4 F34 O5 V o6 n6 s6 hbe hch hxs HB
          try simp only [Act.put, List.getElem_toArray, List.getElem_cons_succ, List.getElem_cons_zero, List.setIfInBounds_toArray, List.set_cons_zero, List.set_cons_succ]
          refine wpAnyH_take (i := 17) (v := ?_) rfl (by kernel_rfl) (by kernel_rfl) (by kernel_rfl) (fun _ _ _ h => h) (Or.inl ⟨by kernel_rfl, ?_⟩) hHeld ?_
          rotate_left
          · intro X hX
            first | (go_simp; done) | (go_simp; with_reducible rfl)
          try simp only [Act.put, List.getElem_toArray, List.getElem_cons_succ, List.getElem_cons_zero, List.setIfInBounds_toArray, List.set_cons_zero, List.set_cons_succ]
          refine wpAnyH_take (i := 18) (v := ?_) rfl (by kernel_rfl) (by kernel_rfl) (by kernel_rfl) (fun _ _ _ h => h) (Or.inl ⟨by kernel_rfl, ?_⟩) hHeld ?_
          rotate_left
          · intro X hX
            first | (go_simp; done) | (go_simp; with_reducible rfl)
          try simp only [Act.put, List.getElem_toArray, List.getElem_cons_succ, List.getElem_cons_zero, List.setIfInBounds_toArray, List.set_cons_zero, List.set_cons_succ]
          refine wpAnyH_ready (rs := [19]) (by kernel_rfl) (by simp) ?_
          refine AllReadyH.cons rfl (fun K hK => ?_) AllReadyH.nil
          obtain ⟨na, nk, hv1⟩ : ∃ na nk, v1 = .slice na (rest.length + 1) nk := (by have h9 := rows_form (layHeldS.read O6.out); rw [List.length_append] at h9; exact h9)
          rw [hv1] at O6 ⊢
          have y0_ : X5.cell? ⟨q, 0, none⟩ = some u5 := V6.out.cell 0
          have g0_ := V6.out.free 0
          go_simp
          have hc : Only q X5 (X5.setCell ⟨q, 0, none⟩ (.slice na (rest.length + 1) nk)) := Only.setCell 0 _
          have hb9 := hHeld.out.trans (hc.below hb2 (by have := V6.out.lt; omega))
          have V7 : Hid (VarA q ShelfT #[.slice na (rest.length + 1) nk] (X5.setCell ⟨q, 0, none⟩ (.slice na (rest.length + 1) nk))) := Lib.hid (V6.out.set 0 _)
          have E : Hid (Q (.returned (.int .i64 (rest.length : Nat))) (X5.setCell ⟨q, 0, none⟩ (.slice na (rest.length + 1) nk))) := Lib.hid (HPG.out _ _ f6 _ rfl V7.out (layHeldS.keep O6.out (fun a ha => hc.block a (layHeldS.blocks O6.out a ha).2 (fun e => NQ6.out (e ▸ ha)))) N6.out NQ6.out hb9)
          refine hK.out _ _ (Lib.hid hb9) (fun hHeld => ?_)
          clear hK K y0_ g0_ hc hb9 O6 V6 N6 NQ6 hv1
          generalize (X5.setCell ⟨q, 0, none⟩ (.slice na (rest.length + 1) nk)) = X6 at *
          try simp only [Act.put, List.getElem_toArray, List.getElem_cons_succ, List.getElem_cons_zero, List.setIfInBounds_toArray, List.set_cons_zero, List.set_cons_succ]
          refine wpAnyH_done (by kernel_rfl) ?_ _
          have y0_ : X6.cell? ⟨q, 0, none⟩ = some (.slice na (rest.length + 1) nk) := V7.out.cell 0
          have hwn : IntKind.i64.wrap (((rest.length + 1 : Nat) : Int) - 1) = (rest.length : Int) := by rw [IntKind.wrap_i64]; omega
          clear hHeld
          go_wp2_with fail
          exact E.out
        · go_simp
          have hxs : q < X2.heap.size := V.out.lt
          have hal : Below X2.heap.size X2 (X2.alloc (.cells #[.int .i64 a, .int .i64 d, .int .i64 (c : Nat), .slice (some ⟨g3, 0, none⟩) c c, .slice (some ⟨g4, 0, none⟩) c c, .int .i64 (now + 8)] HeldT)) := (Below.refl _ _).alloc (Nat.le_refl _) _
          refine hK.out _ _ (Lib.hid (hHeld.out.trans (hal.mono (by omega)))) (fun hHeld => ?_)
          clear hK K hxs
          have HC : Hid (∀ (j : Nat) (p : Value), [.int .i64 a, .int .i64 d, .int .i64 (c : Nat), .slice (some ⟨g3, 0, none⟩) c c, .slice (some ⟨g4, 0, none⟩) c c, .int .i64 (now + 8)][j]? = some p → (X2.alloc (.cells #[.int .i64 a, .int .i64 d, .int .i64 (c : Nat), .slice (some ⟨g3, 0, none⟩) c c, .slice (some ⟨g4, 0, none⟩) c c, .int .i64 (now + 8)] HeldT)).cell? ((⟨X2.heap.size, 0, none⟩ : Addr).add j) = some p) := Lib.hid (fun j p hj => lit_held X2 #[.int .i64 a, .int .i64 d, .int .i64 (c : Nat), .slice (some ⟨g3, 0, none⟩) c c, .slice (some ⟨g4, 0, none⟩) c c, .int .i64 (now + 8)] HeldT j p hj)
          have hb := Lib.hid hal
          clear hal
          replace V := Lib.hid (V.out.next hb.out)
          replace O5 := Lib.hid (O5.out.next hb.out)
          replace HB := Lib.hid (Nat.le_trans HB.out hb.out.size)
          replace O3 := Lib.hid (layStringS.next O3.out hb.out)
          replace O4 := Lib.hid (layBoolS.next O4.out hb.out)
          clear hb
          generalize (X2.alloc (.cells #[.int .i64 a, .int .i64 d, .int .i64 (c : Nat), .slice (some ⟨g3, 0, none⟩) c c, .slice (some ⟨g4, 0, none⟩) c c, .int .i64 (now + 8)] HeldT)) = X3 at *
          generalize X2.heap.size = gl at *
          try simp only [Act.put, List.getElem_toArray, List.getElem_cons_succ, List.getElem_cons_zero, List.setIfInBounds_toArray, List.set_cons_zero, List.set_cons_succ]
          refine wpAnyH_ready (rs := [4]) (by kernel_rfl) (by simp) ?_
          refine AllReadyH.cons rfl (fun K hK => ?_) AllReadyH.nil
          have y0_ : X3.cell? ⟨q, 0, none⟩ = some u5 := V.out.cell 0
          go_simp
          refine hK.out _ _ hHeld (fun hHeld => ?_)
          clear hK K y0_
          try simp only [Act.put, List.getElem_toArray, List.getElem_cons_succ, List.getElem_cons_zero, List.setIfInBounds_toArray, List.set_cons_zero, List.set_cons_succ]
          refine wpAnyH_ready (rs := [16]) (by kernel_rfl) (by simp) ?_
          refine AllReadyH.cons rfl (fun K hK => ?_) AllReadyH.nil
          have HY : Hid (layHeld.own X3 base ([g3] ++ [g4]) [.int .i64 a, .int .i64 d, .int .i64 (c : Nat), .slice (some ⟨g3, 0, none⟩) c c, .slice (some ⟨g4, 0, none⟩) c c, .int .i64 (now + 8)] (newV a d (c : Nat) now)) := Lib.hid (layHeld_own.2 ⟨_, _, [g3], [g4], rfl, rfl, O3.out, O4.out⟩)
          have HDY : Hid (([g3] ++ [g4]).Nodup) := Lib.hid (by have := F34.out; simp; omega)
          have HNY : Hid (∀ k ∈ [g3] ++ [g4], k ∉ fp5) := Lib.hid (fun k hk => by simp at hk; rcases hk with rfl | rfl; exact F3.out.1; exact F4.out.1)
          refine step_pushR rfl (.tmp 48) (.tmp 59) 24 rfl base HeldT i0 _ 80 layHeld Try.underlying24 hi0 hz0 hs0 hb0 rfl (by omega) u5 fp5 rest (by rfl) O5.out HD5.out (newV a d (c : Nat) now) [.int .i64 a, .int .i64 d, .int .i64 (c : Nat), .slice (some ⟨g3, 0, none⟩) c c, .slice (some ⟨g4, 0, none⟩) c c, .int .i64 (now + 8)] ([g3] ++ [g4]) HY.out HDY.out HNY.out ⟨gl, 0, none⟩ (by rfl) HC.out (by omega) HB.out ?_
          rintro v1 X5 ⟨f6, o6, n6, s6⟩ hbe hch
          have hxs : q < X3.heap.size := V.out.lt
          have NQ6 : Hid (q ∉ f6) := Lib.hid (fun hm => by
            rcases s6 q hm with h9 | h9 | h9
            · exact NQ5.out h9
            · simp at h9; rcases h9 with h9 | h9
              · exact F3.out.2 h9
              · exact F4.out.2 h9
            · omega)
          have V6 : Hid (VarA q ShelfT #[u5] X5) := Lib.hid ⟨(hch.block q V.out.lt NQ5.out).trans V.out.row⟩
          have O6 := Lib.hid o6
          have N6 := Lib.hid n6
          refine hK.out _ _ (Lib.hid (hHeld.out.trans (hbe.mono hb1))) (fun hHeld => ?_)
          clear hK K HY HDY HNY HC O3 O4 F3 F4 F34 O5 V o6 n6 s6 hbe hch hxs HB
          try simp only [Act.put, List.getElem_toArray, List.getElem_cons_succ, List.getElem_cons_zero, List.setIfInBounds_toArray, List.set_cons_zero, List.set_cons_succ]
          refine wpAnyH_take (i := 17) (v := ?_) rfl (by kernel_rfl) (by kernel_rfl) (by kernel_rfl) (fun _ _ _ h => h) (Or.inl ⟨by kernel_rfl, ?_⟩) hHeld ?_
          rotate_left
          · intro X hX
            first | (go_simp; done) | (go_simp; with_reducible rfl)
          try simp only [Act.put, List.getElem_toArray, List.getElem_cons_succ, List.getElem_cons_zero, List.setIfInBounds_toArray, List.set_cons_zero, List.set_cons_succ]
          refine wpAnyH_take (i := 18) (v := ?_) rfl (by kernel_rfl) (by kernel_rfl) (by kernel_rfl) (fun _ _ _ h => h) (Or.inl ⟨by kernel_rfl, ?_⟩) hHeld ?_
          rotate_left
          · intro X hX
            first | (go_simp; done) | (go_simp; with_reducible rfl)
          try simp only [Act.put, List.getElem_toArray, List.getElem_cons_succ, List.getElem_cons_zero, List.setIfInBounds_toArray, List.set_cons_zero, List.set_cons_succ]
          refine wpAnyH_ready (rs := [19]) (by kernel_rfl) (by simp) ?_
          refine AllReadyH.cons rfl (fun K hK => ?_) AllReadyH.nil
          obtain ⟨na, nk, hv1⟩ : ∃ na nk, v1 = .slice na (rest.length + 1) nk := (by have h9 := rows_form (layHeldS.read O6.out); rw [List.length_append] at h9; exact h9)
          rw [hv1] at O6 ⊢
          have y0_ : X5.cell? ⟨q, 0, none⟩ = some u5 := V6.out.cell 0
          have g0_ := V6.out.free 0
          go_simp
          have hc : Only q X5 (X5.setCell ⟨q, 0, none⟩ (.slice na (rest.length + 1) nk)) := Only.setCell 0 _
          have hb9 := hHeld.out.trans (hc.below hb2 (by have := V6.out.lt; omega))
          have V7 : Hid (VarA q ShelfT #[.slice na (rest.length + 1) nk] (X5.setCell ⟨q, 0, none⟩ (.slice na (rest.length + 1) nk))) := Lib.hid (V6.out.set 0 _)
          have E : Hid (Q (.returned (.int .i64 (rest.length : Nat))) (X5.setCell ⟨q, 0, none⟩ (.slice na (rest.length + 1) nk))) := Lib.hid (HPG.out _ _ f6 _ rfl V7.out (layHeldS.keep O6.out (fun a ha => hc.block a (layHeldS.blocks O6.out a ha).2 (fun e => NQ6.out (e ▸ ha)))) N6.out NQ6.out hb9)
          refine hK.out _ _ (Lib.hid hb9) (fun hHeld => ?_)
          clear hK K y0_ g0_ hc hb9 O6 V6 N6 NQ6 hv1
          generalize (X5.setCell ⟨q, 0, none⟩ (.slice na (rest.length + 1) nk)) = X6 at *
          try simp only [Act.put, List.getElem_toArray, List.getElem_cons_succ, List.getElem_cons_zero, List.setIfInBounds_toArray, List.set_cons_zero, List.set_cons_succ]
          refine wpAnyH_done (by kernel_rfl) ?_ _
          have y0_ : X6.cell? ⟨q, 0, none⟩ = some (.slice na (rest.length + 1) nk) := V7.out.cell 0
          have hwn : IntKind.i64.wrap (((rest.length + 1 : Nat) : Int) - 1) = (rest.length : Int) := by rw [IntKind.wrap_i64]; omega
          clear hHeld
          go_wp2_with fail
          exact E.out
  have hn3 : ((l.length : Int) == 3) = false := by rw [beq_eq_false_iff_ne]; omega
  have HPG : Hid (∀ ys u fp' W', ys = l ++ [newV a d (c : Nat) now] → VarA q ShelfT #[u] W' → layHeldS.own W' base fp' [u] ys → fp'.Nodup → q ∉ fp' → Below b W W' → Q (.returned (.int .i64 (l.length : Nat))) W') := Lib.hid (fun ys u fp' W' h1 h2' h3' h4 h5 h6 => by
    rw [HQ.out]
    have hrg : restG l (-1) = l := by unfold restG; rw [if_neg (by omega), if_neg h3]
    exact ⟨_, ys, u, fp', rfl, .inr ⟨HNF.out, by rw [hrg], by rw [hrg]; exact h1⟩, h2', h3', h4, h5, h6⟩)
  go_upto_region 8 with fail
  clear v0 hn3 h3 HNF
  have hrl := hl
  generalize l = rest at *
  obtain ⟨u5, hu5⟩ : ∃ u, u = Value.slice la rest.length lc := ⟨_, rfl⟩
  rw [← hu5] at V O
  clear hu5
  have O5 : Hid (RowG HeldT layHeld X base fp u5 rest) := Lib.hid (.inl O.out)
  have HD5 := HD
  have NQ5 := NQ
  clear O HD NQ
  generalize X = X9 at *
  generalize fp = fp5 at *
  have E0 : Hid (Below b W X9.drew) := Lib.hid BB.out.drew
  replace V := Lib.hid V.out.drew
  replace O5 := Lib.hid (O5.out.next (Below.refl X9.heap.size X9).drew)
  replace HB : Hid (base ≤ X9.drew.heap.size) := HB
  go_wp2_with fail
  refine wp_region_held_drew (S := fun X => Hid (Below b W X)) (by kernel_rfl) E0 (fun hHeld => ?_)
  clear E0 BB
  generalize X9.drew = X0 at *
  refine wpAnyH_take (i := 0) (v := ?_) rfl (by kernel_rfl) (by kernel_rfl) (by kernel_rfl) (fun _ _ _ h => h) (Or.inl ⟨by kernel_rfl, ?_⟩) hHeld ?_
  rotate_left
  · intro X hX
    first | (go_simp; done) | (go_simp; with_reducible rfl)
  try simp only [Act.put, List.getElem_toArray, List.getElem_cons_zero, List.setIfInBounds_toArray, List.set_cons_zero, List.set_cons_succ]
  refine wpAnyH_take (i := 1) (v := ?_) rfl (by kernel_rfl) (by kernel_rfl) (by kernel_rfl) (fun _ _ _ h => h) (Or.inl ⟨by kernel_rfl, ?_⟩) hHeld ?_
  rotate_left
  · intro X hX
    first | (go_simp; done) | (go_simp; with_reducible rfl)
  try simp only [Act.put, List.getElem_toArray, List.getElem_cons_succ, List.getElem_cons_zero, List.setIfInBounds_toArray, List.set_cons_zero, List.set_cons_succ]
  refine wpAnyH_take (i := 2) (v := ?_) rfl (by kernel_rfl) (by kernel_rfl) (by kernel_rfl) (fun _ _ _ h => h) (Or.inl ⟨by kernel_rfl, ?_⟩) hHeld ?_
  rotate_left
  · intro X hX
    first | (go_simp; done) | (go_simp; with_reducible rfl)
  try simp only [Act.put, List.getElem_toArray, List.getElem_cons_succ, List.getElem_cons_zero, List.setIfInBounds_toArray, List.set_cons_zero, List.set_cons_succ]
  refine wpAnyH_take (i := 3) (v := ?_) rfl (by kernel_rfl) (by kernel_rfl) (by kernel_rfl) (fun _ _ _ h => h) (Or.inl ⟨by kernel_rfl, ?_⟩) hHeld ?_
  rotate_left
  · intro X hX
    first | (go_simp; done) | (go_simp; with_reducible rfl)
  try simp only [Act.put, List.getElem_toArray, List.getElem_cons_succ, List.getElem_cons_zero, List.setIfInBounds_toArray, List.set_cons_zero, List.set_cons_succ]
  refine wpAnyH_take (i := 5) (v := ?_) rfl (by kernel_rfl) (by kernel_rfl) (by kernel_rfl) (fun _ _ _ h => h) (Or.inl ⟨by kernel_rfl, ?_⟩) hHeld ?_
  rotate_left
  · intro X hX
    first | (go_simp; done) | (go_simp; with_reducible rfl)
  try simp only [Act.put, List.getElem_toArray, List.getElem_cons_succ, List.getElem_cons_zero, List.setIfInBounds_toArray, List.set_cons_zero, List.set_cons_succ]
  refine wpAnyH_take (i := 6) (v := ?_) rfl (by kernel_rfl) (by kernel_rfl) (by kernel_rfl) (fun _ _ _ h => h) (Or.inl ⟨by kernel_rfl, ?_⟩) hHeld ?_
  rotate_left
  · intro X hX
    first | (go_simp; done) | (go_simp; with_reducible rfl)
  try simp only [Act.put, List.getElem_toArray, List.getElem_cons_succ, List.getElem_cons_zero, List.setIfInBounds_toArray, List.set_cons_zero, List.set_cons_succ]
  refine wpAnyH_take (i := 7) (v := ?_) rfl (by kernel_rfl) (by kernel_rfl) (by kernel_rfl) (fun _ _ _ h => h) (Or.inl ⟨by kernel_rfl, ?_⟩) hHeld ?_
  rotate_left
  · intro X hX
    first | (go_simp; done) | (go_simp; with_reducible rfl)
  try simp only [Act.put, List.getElem_toArray, List.getElem_cons_succ, List.getElem_cons_zero, List.setIfInBounds_toArray, List.set_cons_zero, List.set_cons_succ]
  refine wpAnyH_take (i := 8) (v := ?_) rfl (by kernel_rfl) (by kernel_rfl) (by kernel_rfl) (fun _ _ _ h => h) (Or.inl ⟨by kernel_rfl, ?_⟩) hHeld ?_
  rotate_left
  · intro X hX
    first | (go_simp; done) | (go_simp; with_reducible rfl)
  try simp only [Act.put, List.getElem_toArray, List.getElem_cons_succ, List.getElem_cons_zero, List.setIfInBounds_toArray, List.set_cons_zero, List.set_cons_succ]
  refine wpAnyH_take (i := 10) (v := ?_) rfl (by kernel_rfl) (by kernel_rfl) (by kernel_rfl) (fun _ _ _ h => h) (Or.inl ⟨by kernel_rfl, ?_⟩) hHeld ?_
  rotate_left
  · intro X hX
    first | (go_simp; done) | (go_simp; with_reducible rfl)
  try simp only [Act.put, List.getElem_toArray, List.getElem_cons_succ, List.getElem_cons_zero, List.setIfInBounds_toArray, List.set_cons_zero, List.set_cons_succ]
  refine wpAnyH_take (i := 12) (v := ?_) rfl (by kernel_rfl) (by kernel_rfl) (by kernel_rfl) (fun _ _ _ h => h) (Or.inl ⟨by kernel_rfl, ?_⟩) hHeld ?_
  rotate_left
  · intro X hX
    first | (go_simp; done) | (go_simp; with_reducible rfl)
  try simp only [Act.put, List.getElem_toArray, List.getElem_cons_succ, List.getElem_cons_zero, List.setIfInBounds_toArray, List.set_cons_zero, List.set_cons_succ]
  refine wpAnyH_take (i := 13) (v := ?_) rfl (by kernel_rfl) (by kernel_rfl) (by kernel_rfl) (fun _ _ _ h => h) (Or.inl ⟨by kernel_rfl, ?_⟩) hHeld ?_
  rotate_left
  · intro X hX
    first | (go_simp; done) | (go_simp; with_reducible rfl)
  try simp only [Act.put, List.getElem_toArray, List.getElem_cons_succ, List.getElem_cons_zero, List.setIfInBounds_toArray, List.set_cons_zero, List.set_cons_succ]
  refine wpAnyH_ready (rs := [4, 9, 11]) (by kernel_rfl) (by simp) ?_
  refine AllReadyH.cons rfl (fun K hK => ?_) (AllReadyH.cons rfl (fun K hK => ?_) (AllReadyH.cons rfl (fun K hK => ?_) AllReadyH.nil))
  · have y0_ : X0.cell? ⟨q, 0, none⟩ = some u5 := V.out.cell 0
    go_simp
    refine hK.out _ _ hHeld (fun hHeld => ?_)
    clear hK K y0_
    try simp only [Act.put, List.getElem_toArray, List.getElem_cons_succ, List.getElem_cons_zero, List.setIfInBounds_toArray, List.set_cons_zero, List.set_cons_succ]
    refine wpAnyH_ready (rs := [9, 11]) (by kernel_rfl) (by simp) ?_
    refine AllReadyH.cons rfl (fun K hK => ?_) (AllReadyH.cons rfl (fun K hK => ?_) AllReadyH.nil)
    · have hxs : q < X0.heap.size := V.out.lt
      refine step_make rfl (.tmp 52) (.tmp 52) 32 rfl base StringT i3 (.string ⟨#[]⟩) 1 Try.underlying32 hi3 hz3 hs3 .i64 .i64 c (by rfl) (by rfl) (by rw [hb3]; omega) (by unfold maxLen; omega) HB.out ?_
      intro X2 hown1 hg1
      have hb : Hid (Below X0.heap.size X0 X2) := Lib.hid (below_grown hg1 (fun k h => by cases h) (Nat.le_refl _))
      have O3 : Hid (layStringS.own X2 base [X0.heap.size] [.slice (some ⟨X0.heap.size, 0, none⟩) c c] (List.replicate c ⟨#[]⟩)) := Lib.hid (rows_made (A := layString) hown1 rfl (flatString.own _ _ _ _ (layString_rd.2 rfl)))
      have F3 : Hid (X0.heap.size ∉ fp5 ∧ q ≠ X0.heap.size) := Lib.hid ⟨fun hm => by have := (O5.out.blocks _ hm).2; omega, by omega⟩
      refine hK.out _ _ (Lib.hid (hHeld.out.trans (hb.out.mono (by omega)))) (fun hHeld => ?_)
      clear hK K hown1 hg1 hxs
      replace V := Lib.hid (V.out.next hb.out)
      replace O5 := Lib.hid (O5.out.next hb.out)
      replace HB := Lib.hid (Nat.le_trans HB.out hb.out.size)
      clear hb
      generalize X0.heap.size = g3 at *
      try simp only [Act.put, List.getElem_toArray, List.getElem_cons_succ, List.getElem_cons_zero, List.setIfInBounds_toArray, List.set_cons_zero, List.set_cons_succ]
      refine wpAnyH_ready (rs := [11]) (by kernel_rfl) (by simp) ?_
      refine AllReadyH.cons rfl (fun K hK => ?_) AllReadyH.nil
      have hxs : q < X2.heap.size := V.out.lt
      refine step_make rfl (.tmp 54) (.tmp 54) 33 rfl base 4 i4 (.bool false) 1 Try.underlying33 hi4 hz4 hs4 .i64 .i64 c (by rfl) (by rfl) (by rw [hb4]; omega) (by unfold maxLen; omega) HB.out ?_
      intro X3 hown1 hg1
      have hb : Hid (Below X2.heap.size X2 X3) := Lib.hid (below_grown hg1 (fun k h => by cases h) (Nat.le_refl _))
      have O4 : Hid (layBoolS.own X3 base [X2.heap.size] [.slice (some ⟨X2.heap.size, 0, none⟩) c c] (List.replicate c false)) := Lib.hid (rows_made (A := Lay.bool) hown1 rfl (bool_own.2 ⟨rfl, rfl⟩))
      have F4 : Hid (X2.heap.size ∉ fp5 ∧ q ≠ X2.heap.size) := Lib.hid ⟨fun hm => by have := (O5.out.blocks _ hm).2; omega, by omega⟩
      have F34 : Hid (g3 ≠ X2.heap.size) := Lib.hid (by have h9 := (layStringS.blocks O3.out g3 (by simp)).2; omega)
      refine hK.out _ _ (Lib.hid (hHeld.out.trans (hb.out.mono (by omega)))) (fun hHeld => ?_)
      clear hK K hown1 hg1 hxs
      replace V := Lib.hid (V.out.next hb.out)
      replace O5 := Lib.hid (O5.out.next hb.out)
      replace HB := Lib.hid (Nat.le_trans HB.out hb.out.size)
      replace O3 := Lib.hid (layStringS.next O3.out hb.out)
      clear hb
      generalize X2.heap.size = g4 at *
      try simp only [Act.put, List.getElem_toArray, List.getElem_cons_succ, List.getElem_cons_zero, List.setIfInBounds_toArray, List.set_cons_zero, List.set_cons_succ]
      refine wpAnyH_take (i := 14) (v := ?_) rfl (by kernel_rfl) (by kernel_rfl) (by kernel_rfl) (fun _ _ _ h => h) (Or.inl ⟨by kernel_rfl, ?_⟩) hHeld ?_
      rotate_left
      · intro X hX
        first | (go_simp; done) | (go_simp; with_reducible rfl)
      try simp only [Act.put, List.getElem_toArray, List.getElem_cons_succ, List.getElem_cons_zero, List.setIfInBounds_toArray, List.set_cons_zero, List.set_cons_succ]
      refine wpAnyH_ready (rs := [15]) (by kernel_rfl) (by simp) ?_
      refine AllReadyH.cons rfl (fun K hK => ?_) AllReadyH.nil
      go_simp
      have hxs : q < X3.heap.size := V.out.lt
      have hal : Below X3.heap.size X3 (X3.alloc (.cells #[.int .i64 a, .int .i64 d, .int .i64 (c : Nat), .slice (some ⟨g3, 0, none⟩) c c, .slice (some ⟨g4, 0, none⟩) c c, .int .i64 (now + 8)] HeldT)) := (Below.refl _ _).alloc (Nat.le_refl _) _
      refine hK.out _ _ (Lib.hid (hHeld.out.trans (hal.mono (by omega)))) (fun hHeld => ?_)
      clear hK K hxs
      have HC : Hid (∀ (j : Nat) (p : Value), [.int .i64 a, .int .i64 d, .int .i64 (c : Nat), .slice (some ⟨g3, 0, none⟩) c c, .slice (some ⟨g4, 0, none⟩) c c, .int .i64 (now + 8)][j]? = some p → (X3.alloc (.cells #[.int .i64 a, .int .i64 d, .int .i64 (c : Nat), .slice (some ⟨g3, 0, none⟩) c c, .slice (some ⟨g4, 0, none⟩) c c, .int .i64 (now + 8)] HeldT)).cell? ((⟨X3.heap.size, 0, none⟩ : Addr).add j) = some p) := Lib.hid (fun j p hj => lit_held X3 #[.int .i64 a, .int .i64 d, .int .i64 (c : Nat), .slice (some ⟨g3, 0, none⟩) c c, .slice (some ⟨g4, 0, none⟩) c c, .int .i64 (now + 8)] HeldT j p hj)
      have hb := Lib.hid hal
      clear hal
      replace V := Lib.hid (V.out.next hb.out)
      replace O5 := Lib.hid (O5.out.next hb.out)
      replace HB := Lib.hid (Nat.le_trans HB.out hb.out.size)
      replace O3 := Lib.hid (layStringS.next O3.out hb.out)
      replace O4 := Lib.hid (layBoolS.next O4.out hb.out)
      clear hb
      generalize (X3.alloc (.cells #[.int .i64 a, .int .i64 d, .int .i64 (c : Nat), .slice (some ⟨g3, 0, none⟩) c c, .slice (some ⟨g4, 0, none⟩) c c, .int .i64 (now + 8)] HeldT)) = X4 at *
      generalize X3.heap.size = gl at *
      try simp only [Act.put, List.getElem_toArray, List.getElem_cons_succ, List.getElem_cons_zero, List.setIfInBounds_toArray, List.set_cons_zero, List.set_cons_succ]
      refine wpAnyH_ready (rs := [16]) (by kernel_rfl) (by simp) ?_
      refine AllReadyH.cons rfl (fun K hK => ?_) AllReadyH.nil
      have HY : Hid (layHeld.own X4 base ([g3] ++ [g4]) [.int .i64 a, .int .i64 d, .int .i64 (c : Nat), .slice (some ⟨g3, 0, none⟩) c c, .slice (some ⟨g4, 0, none⟩) c c, .int .i64 (now + 8)] (newV a d (c : Nat) now)) := Lib.hid (layHeld_own.2 ⟨_, _, [g3], [g4], rfl, rfl, O3.out, O4.out⟩)
      have HDY : Hid (([g3] ++ [g4]).Nodup) := Lib.hid (by have := F34.out; simp; omega)
      have HNY : Hid (∀ k ∈ [g3] ++ [g4], k ∉ fp5) := Lib.hid (fun k hk => by simp at hk; rcases hk with rfl | rfl; exact F3.out.1; exact F4.out.1)
      refine step_pushR rfl (.tmp 48) (.tmp 59) 24 rfl base HeldT i0 _ 80 layHeld Try.underlying24 hi0 hz0 hs0 hb0 rfl (by omega) u5 fp5 rest (by rfl) O5.out HD5.out (newV a d (c : Nat) now) [.int .i64 a, .int .i64 d, .int .i64 (c : Nat), .slice (some ⟨g3, 0, none⟩) c c, .slice (some ⟨g4, 0, none⟩) c c, .int .i64 (now + 8)] ([g3] ++ [g4]) HY.out HDY.out HNY.out ⟨gl, 0, none⟩ (by rfl) HC.out (by omega) HB.out ?_
      rintro v1 X5 ⟨f6, o6, n6, s6⟩ hbe hch
      have hxs : q < X4.heap.size := V.out.lt
      have NQ6 : Hid (q ∉ f6) := Lib.hid (fun hm => by
        rcases s6 q hm with h9 | h9 | h9
        · exact NQ5.out h9
        · simp at h9; rcases h9 with h9 | h9
          · exact F3.out.2 h9
          · exact F4.out.2 h9
        · omega)
      have V6 : Hid (VarA q ShelfT #[u5] X5) := Lib.hid ⟨(hch.block q V.out.lt NQ5.out).trans V.out.row⟩
      have O6 := Lib.hid o6
      have N6 := Lib.hid n6
      refine hK.out _ _ (Lib.hid (hHeld.out.trans (hbe.mono hb1))) (fun hHeld => ?_)
      clear hK K HY HDY HNY HC O3 O4 F3 F4 F34 O5 V o6 n6 s6 hbe hch hxs HB
      try simp only [Act.put, List.getElem_toArray, List.getElem_cons_succ, List.getElem_cons_zero, List.setIfInBounds_toArray, List.set_cons_zero, List.set_cons_succ]
      refine wpAnyH_take (i := 17) (v := ?_) rfl (by kernel_rfl) (by kernel_rfl) (by kernel_rfl) (fun _ _ _ h => h) (Or.inl ⟨by kernel_rfl, ?_⟩) hHeld ?_
      rotate_left
      · intro X hX
        first | (go_simp; done) | (go_simp; with_reducible rfl)
      try simp only [Act.put, List.getElem_toArray, List.getElem_cons_succ, List.getElem_cons_zero, List.setIfInBounds_toArray, List.set_cons_zero, List.set_cons_succ]
      refine wpAnyH_take (i := 18) (v := ?_) rfl (by kernel_rfl) (by kernel_rfl) (by kernel_rfl) (fun _ _ _ h => h) (Or.inl ⟨by kernel_rfl, ?_⟩) hHeld ?_
      rotate_left
      · intro X hX
        first | (go_simp; done) | (go_simp; with_reducible rfl)
      try simp only [Act.put, List.getElem_toArray, List.getElem_cons_succ, List.getElem_cons_zero, List.setIfInBounds_toArray, List.set_cons_zero, List.set_cons_succ]
      refine wpAnyH_ready (rs := [19]) (by kernel_rfl) (by simp) ?_
      refine AllReadyH.cons rfl (fun K hK => ?_) AllReadyH.nil
      obtain ⟨na, nk, hv1⟩ : ∃ na nk, v1 = .slice na (rest.length + 1) nk := (by have h9 := rows_form (layHeldS.read O6.out); rw [List.length_append] at h9; exact h9)
      rw [hv1] at O6 ⊢
      have y0_ : X5.cell? ⟨q, 0, none⟩ = some u5 := V6.out.cell 0
      have g0_ := V6.out.free 0
      go_simp
      have hc : Only q X5 (X5.setCell ⟨q, 0, none⟩ (.slice na (rest.length + 1) nk)) := Only.setCell 0 _
      have hb9 := hHeld.out.trans (hc.below hb2 (by have := V6.out.lt; omega))
      have V7 : Hid (VarA q ShelfT #[.slice na (rest.length + 1) nk] (X5.setCell ⟨q, 0, none⟩ (.slice na (rest.length + 1) nk))) := Lib.hid (V6.out.set 0 _)
      have E : Hid (Q (.returned (.int .i64 (rest.length : Nat))) (X5.setCell ⟨q, 0, none⟩ (.slice na (rest.length + 1) nk))) := Lib.hid (HPG.out _ _ f6 _ rfl V7.out (layHeldS.keep O6.out (fun a ha => hc.block a (layHeldS.blocks O6.out a ha).2 (fun e => NQ6.out (e ▸ ha)))) N6.out NQ6.out hb9)
      refine hK.out _ _ (Lib.hid hb9) (fun hHeld => ?_)
      clear hK K y0_ g0_ hc hb9 O6 V6 N6 NQ6 hv1
      generalize (X5.setCell ⟨q, 0, none⟩ (.slice na (rest.length + 1) nk)) = X6 at *
      try simp only [Act.put, List.getElem_toArray, List.getElem_cons_succ, List.getElem_cons_zero, List.setIfInBounds_toArray, List.set_cons_zero, List.set_cons_succ]
      refine wpAnyH_done (by kernel_rfl) ?_ _
      have y0_ : X6.cell? ⟨q, 0, none⟩ = some (.slice na (rest.length + 1) nk) := V7.out.cell 0
      have hwn : IntKind.i64.wrap (((rest.length + 1 : Nat) : Int) - 1) = (rest.length : Int) := by rw [IntKind.wrap_i64]; omega
      clear hHeld
      go_wp2_with fail
      exact E.out
    · have hxs : q < X0.heap.size := V.out.lt
      refine step_make rfl (.tmp 54) (.tmp 54) 33 rfl base 4 i4 (.bool false) 1 Try.underlying33 hi4 hz4 hs4 .i64 .i64 c (by rfl) (by rfl) (by rw [hb4]; omega) (by unfold maxLen; omega) HB.out ?_
      intro X2 hown1 hg1
      have hb : Hid (Below X0.heap.size X0 X2) := Lib.hid (below_grown hg1 (fun k h => by cases h) (Nat.le_refl _))
      have O4 : Hid (layBoolS.own X2 base [X0.heap.size] [.slice (some ⟨X0.heap.size, 0, none⟩) c c] (List.replicate c false)) := Lib.hid (rows_made (A := Lay.bool) hown1 rfl (bool_own.2 ⟨rfl, rfl⟩))
      have F4 : Hid (X0.heap.size ∉ fp5 ∧ q ≠ X0.heap.size) := Lib.hid ⟨fun hm => by have := (O5.out.blocks _ hm).2; omega, by omega⟩
      refine hK.out _ _ (Lib.hid (hHeld.out.trans (hb.out.mono (by omega)))) (fun hHeld => ?_)
      clear hK K hown1 hg1 hxs
      replace V := Lib.hid (V.out.next hb.out)
      replace O5 := Lib.hid (O5.out.next hb.out)
      replace HB := Lib.hid (Nat.le_trans HB.out hb.out.size)
      clear hb
      generalize X0.heap.size = g4 at *
      try simp only [Act.put, List.getElem_toArray, List.getElem_cons_succ, List.getElem_cons_zero, List.setIfInBounds_toArray, List.set_cons_zero, List.set_cons_succ]
      refine wpAnyH_ready (rs := [9]) (by kernel_rfl) (by simp) ?_
      refine AllReadyH.cons rfl (fun K hK => ?_) AllReadyH.nil
      have hxs : q < X2.heap.size := V.out.lt
      refine step_make rfl (.tmp 52) (.tmp 52) 32 rfl base StringT i3 (.string ⟨#[]⟩) 1 Try.underlying32 hi3 hz3 hs3 .i64 .i64 c (by rfl) (by rfl) (by rw [hb3]; omega) (by unfold maxLen; omega) HB.out ?_
      intro X3 hown1 hg1
      have hb : Hid (Below X2.heap.size X2 X3) := Lib.hid (below_grown hg1 (fun k h => by cases h) (Nat.le_refl _))
      have O3 : Hid (layStringS.own X3 base [X2.heap.size] [.slice (some ⟨X2.heap.size, 0, none⟩) c c] (List.replicate c ⟨#[]⟩)) := Lib.hid (rows_made (A := layString) hown1 rfl (flatString.own _ _ _ _ (layString_rd.2 rfl)))
      have F3 : Hid (X2.heap.size ∉ fp5 ∧ q ≠ X2.heap.size) := Lib.hid ⟨fun hm => by have := (O5.out.blocks _ hm).2; omega, by omega⟩
      have F34 : Hid (g4 ≠ X2.heap.size) := Lib.hid (by have h9 := (layBoolS.blocks O4.out g4 (by simp)).2; omega)
      refine hK.out _ _ (Lib.hid (hHeld.out.trans (hb.out.mono (by omega)))) (fun hHeld => ?_)
      clear hK K hown1 hg1 hxs
      replace V := Lib.hid (V.out.next hb.out)
      replace O5 := Lib.hid (O5.out.next hb.out)
      replace HB := Lib.hid (Nat.le_trans HB.out hb.out.size)
      replace O4 := Lib.hid (layBoolS.next O4.out hb.out)
      clear hb
      generalize X2.heap.size = g3 at *
      try simp only [Act.put, List.getElem_toArray, List.getElem_cons_succ, List.getElem_cons_zero, List.setIfInBounds_toArray, List.set_cons_zero, List.set_cons_succ]
      refine wpAnyH_take (i := 14) (v := ?_) rfl (by kernel_rfl) (by kernel_rfl) (by kernel_rfl) (fun _ _ _ h => h) (Or.inl ⟨by kernel_rfl, ?_⟩) hHeld ?_
      rotate_left
      · intro X hX
        first | (go_simp; done) | (go_simp; with_reducible rfl)
      try simp only [Act.put, List.getElem_toArray, List.getElem_cons_succ, List.getElem_cons_zero, List.setIfInBounds_toArray, List.set_cons_zero, List.set_cons_succ]
      refine wpAnyH_ready (rs := [15]) (by kernel_rfl) (by simp) ?_
      refine AllReadyH.cons rfl (fun K hK => ?_) AllReadyH.nil
      go_simp
      have hxs : q < X3.heap.size := V.out.lt
      have hal : Below X3.heap.size X3 (X3.alloc (.cells #[.int .i64 a, .int .i64 d, .int .i64 (c : Nat), .slice (some ⟨g3, 0, none⟩) c c, .slice (some ⟨g4, 0, none⟩) c c, .int .i64 (now + 8)] HeldT)) := (Below.refl _ _).alloc (Nat.le_refl _) _
      refine hK.out _ _ (Lib.hid (hHeld.out.trans (hal.mono (by omega)))) (fun hHeld => ?_)
      clear hK K hxs
      have HC : Hid (∀ (j : Nat) (p : Value), [.int .i64 a, .int .i64 d, .int .i64 (c : Nat), .slice (some ⟨g3, 0, none⟩) c c, .slice (some ⟨g4, 0, none⟩) c c, .int .i64 (now + 8)][j]? = some p → (X3.alloc (.cells #[.int .i64 a, .int .i64 d, .int .i64 (c : Nat), .slice (some ⟨g3, 0, none⟩) c c, .slice (some ⟨g4, 0, none⟩) c c, .int .i64 (now + 8)] HeldT)).cell? ((⟨X3.heap.size, 0, none⟩ : Addr).add j) = some p) := Lib.hid (fun j p hj => lit_held X3 #[.int .i64 a, .int .i64 d, .int .i64 (c : Nat), .slice (some ⟨g3, 0, none⟩) c c, .slice (some ⟨g4, 0, none⟩) c c, .int .i64 (now + 8)] HeldT j p hj)
      have hb := Lib.hid hal
      clear hal
      replace V := Lib.hid (V.out.next hb.out)
      replace O5 := Lib.hid (O5.out.next hb.out)
      replace HB := Lib.hid (Nat.le_trans HB.out hb.out.size)
      replace O3 := Lib.hid (layStringS.next O3.out hb.out)
      replace O4 := Lib.hid (layBoolS.next O4.out hb.out)
      clear hb
      generalize (X3.alloc (.cells #[.int .i64 a, .int .i64 d, .int .i64 (c : Nat), .slice (some ⟨g3, 0, none⟩) c c, .slice (some ⟨g4, 0, none⟩) c c, .int .i64 (now + 8)] HeldT)) = X4 at *
      generalize X3.heap.size = gl at *
      try simp only [Act.put, List.getElem_toArray, List.getElem_cons_succ, List.getElem_cons_zero, List.setIfInBounds_toArray, List.set_cons_zero, List.set_cons_succ]
      refine wpAnyH_ready (rs := [16]) (by kernel_rfl) (by simp) ?_
      refine AllReadyH.cons rfl (fun K hK => ?_) AllReadyH.nil
      have HY : Hid (layHeld.own X4 base ([g3] ++ [g4]) [.int .i64 a, .int .i64 d, .int .i64 (c : Nat), .slice (some ⟨g3, 0, none⟩) c c, .slice (some ⟨g4, 0, none⟩) c c, .int .i64 (now + 8)] (newV a d (c : Nat) now)) := Lib.hid (layHeld_own.2 ⟨_, _, [g3], [g4], rfl, rfl, O3.out, O4.out⟩)
      have HDY : Hid (([g3] ++ [g4]).Nodup) := Lib.hid (by have := F34.out; simp; omega)
      have HNY : Hid (∀ k ∈ [g3] ++ [g4], k ∉ fp5) := Lib.hid (fun k hk => by simp at hk; rcases hk with rfl | rfl; exact F3.out.1; exact F4.out.1)
      refine step_pushR rfl (.tmp 48) (.tmp 59) 24 rfl base HeldT i0 _ 80 layHeld Try.underlying24 hi0 hz0 hs0 hb0 rfl (by omega) u5 fp5 rest (by rfl) O5.out HD5.out (newV a d (c : Nat) now) [.int .i64 a, .int .i64 d, .int .i64 (c : Nat), .slice (some ⟨g3, 0, none⟩) c c, .slice (some ⟨g4, 0, none⟩) c c, .int .i64 (now + 8)] ([g3] ++ [g4]) HY.out HDY.out HNY.out ⟨gl, 0, none⟩ (by rfl) HC.out (by omega) HB.out ?_
      rintro v1 X5 ⟨f6, o6, n6, s6⟩ hbe hch
      have hxs : q < X4.heap.size := V.out.lt
      have NQ6 : Hid (q ∉ f6) := Lib.hid (fun hm => by
        rcases s6 q hm with h9 | h9 | h9
        · exact NQ5.out h9
        · simp at h9; rcases h9 with h9 | h9
          · exact F3.out.2 h9
          · exact F4.out.2 h9
        · omega)
      have V6 : Hid (VarA q ShelfT #[u5] X5) := Lib.hid ⟨(hch.block q V.out.lt NQ5.out).trans V.out.row⟩
      have O6 := Lib.hid o6
      have N6 := Lib.hid n6
      refine hK.out _ _ (Lib.hid (hHeld.out.trans (hbe.mono hb1))) (fun hHeld => ?_)
      clear hK K HY HDY HNY HC O3 O4 F3 F4 F34 O5 V o6 n6 s6 hbe hch hxs HB
      try simp only [Act.put, List.getElem_toArray, List.getElem_cons_succ, List.getElem_cons_zero, List.setIfInBounds_toArray, List.set_cons_zero, List.set_cons_succ]
      refine wpAnyH_take (i := 17) (v := ?_) rfl (by kernel_rfl) (by kernel_rfl) (by kernel_rfl) (fun _ _ _ h => h) (Or.inl ⟨by kernel_rfl, ?_⟩) hHeld ?_
      rotate_left
      · intro X hX
        first | (go_simp; done) | (go_simp; with_reducible rfl)
      try simp only [Act.put, List.getElem_toArray, List.getElem_cons_succ, List.getElem_cons_zero, List.setIfInBounds_toArray, List.set_cons_zero, List.set_cons_succ]
      refine wpAnyH_take (i := 18) (v := ?_) rfl (by kernel_rfl) (by kernel_rfl) (by kernel_rfl) (fun _ _ _ h => h) (Or.inl ⟨by kernel_rfl, ?_⟩) hHeld ?_
      rotate_left
      · intro X hX
        first | (go_simp; done) | (go_simp; with_reducible rfl)
      try simp only [Act.put, List.getElem_toArray, List.getElem_cons_succ, List.getElem_cons_zero, List.setIfInBounds_toArray, List.set_cons_zero, List.set_cons_succ]
      refine wpAnyH_ready (rs := [19]) (by kernel_rfl) (by simp) ?_
      refine AllReadyH.cons rfl (fun K hK => ?_) AllReadyH.nil
      obtain ⟨na, nk, hv1⟩ : ∃ na nk, v1 = .slice na (rest.length + 1) nk := (by have h9 := rows_form (layHeldS.read O6.out); rw [List.length_append] at h9; exact h9)
      rw [hv1] at O6 ⊢
      have y0_ : X5.cell? ⟨q, 0, none⟩ = some u5 := V6.out.cell 0
      have g0_ := V6.out.free 0
      go_simp
      have hc : Only q X5 (X5.setCell ⟨q, 0, none⟩ (.slice na (rest.length + 1) nk)) := Only.setCell 0 _
      have hb9 := hHeld.out.trans (hc.below hb2 (by have := V6.out.lt; omega))
      have V7 : Hid (VarA q ShelfT #[.slice na (rest.length + 1) nk] (X5.setCell ⟨q, 0, none⟩ (.slice na (rest.length + 1) nk))) := Lib.hid (V6.out.set 0 _)
      have E : Hid (Q (.returned (.int .i64 (rest.length : Nat))) (X5.setCell ⟨q, 0, none⟩ (.slice na (rest.length + 1) nk))) := Lib.hid (HPG.out _ _ f6 _ rfl V7.out (layHeldS.keep O6.out (fun a ha => hc.block a (layHeldS.blocks O6.out a ha).2 (fun e => NQ6.out (e ▸ ha)))) N6.out NQ6.out hb9)
      refine hK.out _ _ (Lib.hid hb9) (fun hHeld => ?_)
      clear hK K y0_ g0_ hc hb9 O6 V6 N6 NQ6 hv1
      generalize (X5.setCell ⟨q, 0, none⟩ (.slice na (rest.length + 1) nk)) = X6 at *
      try simp only [Act.put, List.getElem_toArray, List.getElem_cons_succ, List.getElem_cons_zero, List.setIfInBounds_toArray, List.set_cons_zero, List.set_cons_succ]
      refine wpAnyH_done (by kernel_rfl) ?_ _
      have y0_ : X6.cell? ⟨q, 0, none⟩ = some (.slice na (rest.length + 1) nk) := V7.out.cell 0
      have hwn : IntKind.i64.wrap (((rest.length + 1 : Nat) : Int) - 1) = (rest.length : Int) := by rw [IntKind.wrap_i64]; omega
      clear hHeld
      go_wp2_with fail
      exact E.out
  · have hxs : q < X0.heap.size := V.out.lt
    refine step_make rfl (.tmp 52) (.tmp 52) 32 rfl base StringT i3 (.string ⟨#[]⟩) 1 Try.underlying32 hi3 hz3 hs3 .i64 .i64 c (by rfl) (by rfl) (by rw [hb3]; omega) (by unfold maxLen; omega) HB.out ?_
    intro X1 hown1 hg1
    have hb : Hid (Below X0.heap.size X0 X1) := Lib.hid (below_grown hg1 (fun k h => by cases h) (Nat.le_refl _))
    have O3 : Hid (layStringS.own X1 base [X0.heap.size] [.slice (some ⟨X0.heap.size, 0, none⟩) c c] (List.replicate c ⟨#[]⟩)) := Lib.hid (rows_made (A := layString) hown1 rfl (flatString.own _ _ _ _ (layString_rd.2 rfl)))
    have F3 : Hid (X0.heap.size ∉ fp5 ∧ q ≠ X0.heap.size) := Lib.hid ⟨fun hm => by have := (O5.out.blocks _ hm).2; omega, by omega⟩
    refine hK.out _ _ (Lib.hid (hHeld.out.trans (hb.out.mono (by omega)))) (fun hHeld => ?_)
    clear hK K hown1 hg1 hxs
    replace V := Lib.hid (V.out.next hb.out)
    replace O5 := Lib.hid (O5.out.next hb.out)
    replace HB := Lib.hid (Nat.le_trans HB.out hb.out.size)
    clear hb
    generalize X0.heap.size = g3 at *
    try simp only [Act.put, List.getElem_toArray, List.getElem_cons_succ, List.getElem_cons_zero, List.setIfInBounds_toArray, List.set_cons_zero, List.set_cons_succ]
    refine wpAnyH_ready (rs := [4, 11]) (by kernel_rfl) (by simp) ?_
    refine AllReadyH.cons rfl (fun K hK => ?_) (AllReadyH.cons rfl (fun K hK => ?_) AllReadyH.nil)
    · have y0_ : X1.cell? ⟨q, 0, none⟩ = some u5 := V.out.cell 0
      go_simp
      refine hK.out _ _ hHeld (fun hHeld => ?_)
      clear hK K y0_
      try simp only [Act.put, List.getElem_toArray, List.getElem_cons_succ, List.getElem_cons_zero, List.setIfInBounds_toArray, List.set_cons_zero, List.set_cons_succ]
      refine wpAnyH_ready (rs := [11]) (by kernel_rfl) (by simp) ?_
      refine AllReadyH.cons rfl (fun K hK => ?_) AllReadyH.nil
      have hxs : q < X1.heap.size := V.out.lt
      refine step_make rfl (.tmp 54) (.tmp 54) 33 rfl base 4 i4 (.bool false) 1 Try.underlying33 hi4 hz4 hs4 .i64 .i64 c (by rfl) (by rfl) (by rw [hb4]; omega) (by unfold maxLen; omega) HB.out ?_
      intro X3 hown1 hg1
      have hb : Hid (Below X1.heap.size X1 X3) := Lib.hid (below_grown hg1 (fun k h => by cases h) (Nat.le_refl _))
      have O4 : Hid (layBoolS.own X3 base [X1.heap.size] [.slice (some ⟨X1.heap.size, 0, none⟩) c c] (List.replicate c false)) := Lib.hid (rows_made (A := Lay.bool) hown1 rfl (bool_own.2 ⟨rfl, rfl⟩))
      have F4 : Hid (X1.heap.size ∉ fp5 ∧ q ≠ X1.heap.size) := Lib.hid ⟨fun hm => by have := (O5.out.blocks _ hm).2; omega, by omega⟩
      have F34 : Hid (g3 ≠ X1.heap.size) := Lib.hid (by have h9 := (layStringS.blocks O3.out g3 (by simp)).2; omega)
      refine hK.out _ _ (Lib.hid (hHeld.out.trans (hb.out.mono (by omega)))) (fun hHeld => ?_)
      clear hK K hown1 hg1 hxs
      replace V := Lib.hid (V.out.next hb.out)
      replace O5 := Lib.hid (O5.out.next hb.out)
      replace HB := Lib.hid (Nat.le_trans HB.out hb.out.size)
      replace O3 := Lib.hid (layStringS.next O3.out hb.out)
      clear hb
      generalize X1.heap.size = g4 at *
      try simp only [Act.put, List.getElem_toArray, List.getElem_cons_succ, List.getElem_cons_zero, List.setIfInBounds_toArray, List.set_cons_zero, List.set_cons_succ]
      refine wpAnyH_take (i := 14) (v := ?_) rfl (by kernel_rfl) (by kernel_rfl) (by kernel_rfl) (fun _ _ _ h => h) (Or.inl ⟨by kernel_rfl, ?_⟩) hHeld ?_
      rotate_left
      · intro X hX
        first | (go_simp; done) | (go_simp; with_reducible rfl)
      try simp only [Act.put, List.getElem_toArray, List.getElem_cons_succ, List.getElem_cons_zero, List.setIfInBounds_toArray, List.set_cons_zero, List.set_cons_succ]
      refine wpAnyH_ready (rs := [15]) (by kernel_rfl) (by simp) ?_
      refine AllReadyH.cons rfl (fun K hK => ?_) AllReadyH.nil
      go_simp
      have hxs : q < X3.heap.size := V.out.lt
      have hal : Below X3.heap.size X3 (X3.alloc (.cells #[.int .i64 a, .int .i64 d, .int .i64 (c : Nat), .slice (some ⟨g3, 0, none⟩) c c, .slice (some ⟨g4, 0, none⟩) c c, .int .i64 (now + 8)] HeldT)) := (Below.refl _ _).alloc (Nat.le_refl _) _
      refine hK.out _ _ (Lib.hid (hHeld.out.trans (hal.mono (by omega)))) (fun hHeld => ?_)
      clear hK K hxs
      have HC : Hid (∀ (j : Nat) (p : Value), [.int .i64 a, .int .i64 d, .int .i64 (c : Nat), .slice (some ⟨g3, 0, none⟩) c c, .slice (some ⟨g4, 0, none⟩) c c, .int .i64 (now + 8)][j]? = some p → (X3.alloc (.cells #[.int .i64 a, .int .i64 d, .int .i64 (c : Nat), .slice (some ⟨g3, 0, none⟩) c c, .slice (some ⟨g4, 0, none⟩) c c, .int .i64 (now + 8)] HeldT)).cell? ((⟨X3.heap.size, 0, none⟩ : Addr).add j) = some p) := Lib.hid (fun j p hj => lit_held X3 #[.int .i64 a, .int .i64 d, .int .i64 (c : Nat), .slice (some ⟨g3, 0, none⟩) c c, .slice (some ⟨g4, 0, none⟩) c c, .int .i64 (now + 8)] HeldT j p hj)
      have hb := Lib.hid hal
      clear hal
      replace V := Lib.hid (V.out.next hb.out)
      replace O5 := Lib.hid (O5.out.next hb.out)
      replace HB := Lib.hid (Nat.le_trans HB.out hb.out.size)
      replace O3 := Lib.hid (layStringS.next O3.out hb.out)
      replace O4 := Lib.hid (layBoolS.next O4.out hb.out)
      clear hb
      generalize (X3.alloc (.cells #[.int .i64 a, .int .i64 d, .int .i64 (c : Nat), .slice (some ⟨g3, 0, none⟩) c c, .slice (some ⟨g4, 0, none⟩) c c, .int .i64 (now + 8)] HeldT)) = X4 at *
      generalize X3.heap.size = gl at *
      try simp only [Act.put, List.getElem_toArray, List.getElem_cons_succ, List.getElem_cons_zero, List.setIfInBounds_toArray, List.set_cons_zero, List.set_cons_succ]
      refine wpAnyH_ready (rs := [16]) (by kernel_rfl) (by simp) ?_
      refine AllReadyH.cons rfl (fun K hK => ?_) AllReadyH.nil
      have HY : Hid (layHeld.own X4 base ([g3] ++ [g4]) [.int .i64 a, .int .i64 d, .int .i64 (c : Nat), .slice (some ⟨g3, 0, none⟩) c c, .slice (some ⟨g4, 0, none⟩) c c, .int .i64 (now + 8)] (newV a d (c : Nat) now)) := Lib.hid (layHeld_own.2 ⟨_, _, [g3], [g4], rfl, rfl, O3.out, O4.out⟩)
      have HDY : Hid (([g3] ++ [g4]).Nodup) := Lib.hid (by have := F34.out; simp; omega)
      have HNY : Hid (∀ k ∈ [g3] ++ [g4], k ∉ fp5) := Lib.hid (fun k hk => by simp at hk; rcases hk with rfl | rfl; exact F3.out.1; exact F4.out.1)
      refine step_pushR rfl (.tmp 48) (.tmp 59) 24 rfl base HeldT i0 _ 80 layHeld Try.underlying24 hi0 hz0 hs0 hb0 rfl (by omega) u5 fp5 rest (by rfl) O5.out HD5.out (newV a d (c : Nat) now) [.int .i64 a, .int .i64 d, .int .i64 (c : Nat), .slice (some ⟨g3, 0, none⟩) c c, .slice (some ⟨g4, 0, none⟩) c c, .int .i64 (now + 8)] ([g3] ++ [g4]) HY.out HDY.out HNY.out ⟨gl, 0, none⟩ (by rfl) HC.out (by omega) HB.out ?_
      rintro v1 X5 ⟨f6, o6, n6, s6⟩ hbe hch
      have hxs : q < X4.heap.size := V.out.lt
      have NQ6 : Hid (q ∉ f6) := Lib.hid (fun hm => by
        rcases s6 q hm with h9 | h9 | h9
        · exact NQ5.out h9
        · simp at h9; rcases h9 with h9 | h9
          · exact F3.out.2 h9
          · exact F4.out.2 h9
        · omega)
      have V6 : Hid (VarA q ShelfT #[u5] X5) := Lib.hid ⟨(hch.block q V.out.lt NQ5.out).trans V.out.row⟩
      have O6 := Lib.hid o6
      have N6 := Lib.hid n6
      refine hK.out _ _ (Lib.hid (hHeld.out.trans (hbe.mono hb1))) (fun hHeld => ?_)
      clear hK K HY HDY HNY HC O3 O4 F3 F4 F34 O5 V o6 n6 s6 hbe hch hxs HB
      try simp only [Act.put, List.getElem_toArray, List.getElem_cons_succ, List.getElem_cons_zero, List.setIfInBounds_toArray, List.set_cons_zero, List.set_cons_succ]
      refine wpAnyH_take (i := 17) (v := ?_) rfl (by kernel_rfl) (by kernel_rfl) (by kernel_rfl) (fun _ _ _ h => h) (Or.inl ⟨by kernel_rfl, ?_⟩) hHeld ?_
      rotate_left
      · intro X hX
        first | (go_simp; done) | (go_simp; with_reducible rfl)
      try simp only [Act.put, List.getElem_toArray, List.getElem_cons_succ, List.getElem_cons_zero, List.setIfInBounds_toArray, List.set_cons_zero, List.set_cons_succ]
      refine wpAnyH_take (i := 18) (v := ?_) rfl (by kernel_rfl) (by kernel_rfl) (by kernel_rfl) (fun _ _ _ h => h) (Or.inl ⟨by kernel_rfl, ?_⟩) hHeld ?_
      rotate_left
      · intro X hX
        first | (go_simp; done) | (go_simp; with_reducible rfl)
      try simp only [Act.put, List.getElem_toArray, List.getElem_cons_succ, List.getElem_cons_zero, List.setIfInBounds_toArray, List.set_cons_zero, List.set_cons_succ]
      refine wpAnyH_ready (rs := [19]) (by kernel_rfl) (by simp) ?_
      refine AllReadyH.cons rfl (fun K hK => ?_) AllReadyH.nil
      obtain ⟨na, nk, hv1⟩ : ∃ na nk, v1 = .slice na (rest.length + 1) nk := (by have h9 := rows_form (layHeldS.read O6.out); rw [List.length_append] at h9; exact h9)
      rw [hv1] at O6 ⊢
      have y0_ : X5.cell? ⟨q, 0, none⟩ = some u5 := V6.out.cell 0
      have g0_ := V6.out.free 0
      go_simp
      have hc : Only q X5 (X5.setCell ⟨q, 0, none⟩ (.slice na (rest.length + 1) nk)) := Only.setCell 0 _
      have hb9 := hHeld.out.trans (hc.below hb2 (by have := V6.out.lt; omega))
      have V7 : Hid (VarA q ShelfT #[.slice na (rest.length + 1) nk] (X5.setCell ⟨q, 0, none⟩ (.slice na (rest.length + 1) nk))) := Lib.hid (V6.out.set 0 _)
      have E : Hid (Q (.returned (.int .i64 (rest.length : Nat))) (X5.setCell ⟨q, 0, none⟩ (.slice na (rest.length + 1) nk))) := Lib.hid (HPG.out _ _ f6 _ rfl V7.out (layHeldS.keep O6.out (fun a ha => hc.block a (layHeldS.blocks O6.out a ha).2 (fun e => NQ6.out (e ▸ ha)))) N6.out NQ6.out hb9)
      refine hK.out _ _ (Lib.hid hb9) (fun hHeld => ?_)
      clear hK K y0_ g0_ hc hb9 O6 V6 N6 NQ6 hv1
      generalize (X5.setCell ⟨q, 0, none⟩ (.slice na (rest.length + 1) nk)) = X6 at *
      try simp only [Act.put, List.getElem_toArray, List.getElem_cons_succ, List.getElem_cons_zero, List.setIfInBounds_toArray, List.set_cons_zero, List.set_cons_succ]
      refine wpAnyH_done (by kernel_rfl) ?_ _
      have y0_ : X6.cell? ⟨q, 0, none⟩ = some (.slice na (rest.length + 1) nk) := V7.out.cell 0
      have hwn : IntKind.i64.wrap (((rest.length + 1 : Nat) : Int) - 1) = (rest.length : Int) := by rw [IntKind.wrap_i64]; omega
      clear hHeld
      go_wp2_with fail
      exact E.out
    · have hxs : q < X1.heap.size := V.out.lt
      refine step_make rfl (.tmp 54) (.tmp 54) 33 rfl base 4 i4 (.bool false) 1 Try.underlying33 hi4 hz4 hs4 .i64 .i64 c (by rfl) (by rfl) (by rw [hb4]; omega) (by unfold maxLen; omega) HB.out ?_
      intro X2 hown1 hg1
      have hb : Hid (Below X1.heap.size X1 X2) := Lib.hid (below_grown hg1 (fun k h => by cases h) (Nat.le_refl _))
      have O4 : Hid (layBoolS.own X2 base [X1.heap.size] [.slice (some ⟨X1.heap.size, 0, none⟩) c c] (List.replicate c false)) := Lib.hid (rows_made (A := Lay.bool) hown1 rfl (bool_own.2 ⟨rfl, rfl⟩))
      have F4 : Hid (X1.heap.size ∉ fp5 ∧ q ≠ X1.heap.size) := Lib.hid ⟨fun hm => by have := (O5.out.blocks _ hm).2; omega, by omega⟩
      have F34 : Hid (g3 ≠ X1.heap.size) := Lib.hid (by have h9 := (layStringS.blocks O3.out g3 (by simp)).2; omega)
      refine hK.out _ _ (Lib.hid (hHeld.out.trans (hb.out.mono (by omega)))) (fun hHeld => ?_)
      clear hK K hown1 hg1 hxs
      replace V := Lib.hid (V.out.next hb.out)
      replace O5 := Lib.hid (O5.out.next hb.out)
      replace HB := Lib.hid (Nat.le_trans HB.out hb.out.size)
      replace O3 := Lib.hid (layStringS.next O3.out hb.out)
      clear hb
      generalize X1.heap.size = g4 at *
      try simp only [Act.put, List.getElem_toArray, List.getElem_cons_succ, List.getElem_cons_zero, List.setIfInBounds_toArray, List.set_cons_zero, List.set_cons_succ]
      refine wpAnyH_take (i := 14) (v := ?_) rfl (by kernel_rfl) (by kernel_rfl) (by kernel_rfl) (fun _ _ _ h => h) (Or.inl ⟨by kernel_rfl, ?_⟩) hHeld ?_
      rotate_left
      · intro X hX
        first | (go_simp; done) | (go_simp; with_reducible rfl)
      try simp only [Act.put, List.getElem_toArray, List.getElem_cons_succ, List.getElem_cons_zero, List.setIfInBounds_toArray, List.set_cons_zero, List.set_cons_succ]
      refine wpAnyH_ready (rs := [4, 15]) (by kernel_rfl) (by simp) ?_
      refine AllReadyH.cons rfl (fun K hK => ?_) (AllReadyH.cons rfl (fun K hK => ?_) AllReadyH.nil)
      · have y0_ : X2.cell? ⟨q, 0, none⟩ = some u5 := V.out.cell 0
        go_simp
        refine hK.out _ _ hHeld (fun hHeld => ?_)
        clear hK K y0_
        try simp only [Act.put, List.getElem_toArray, List.getElem_cons_succ, List.getElem_cons_zero, List.setIfInBounds_toArray, List.set_cons_zero, List.set_cons_succ]
        refine wpAnyH_ready (rs := [15]) (by kernel_rfl) (by simp) ?_
        refine AllReadyH.cons rfl (fun K hK => ?_) AllReadyH.nil
        go_simp
        have hxs : q < X2.heap.size := V.out.lt
        have hal : Below X2.heap.size X2 (X2.alloc (.cells #[.int .i64 a, .int .i64 d, .int .i64 (c : Nat), .slice (some ⟨g3, 0, none⟩) c c, .slice (some ⟨g4, 0, none⟩) c c, .int .i64 (now + 8)] HeldT)) := (Below.refl _ _).alloc (Nat.le_refl _) _
        refine hK.out _ _ (Lib.hid (hHeld.out.trans (hal.mono (by omega)))) (fun hHeld => ?_)
        clear hK K hxs
        have HC : Hid (∀ (j : Nat) (p : Value), [.int .i64 a, .int .i64 d, .int .i64 (c : Nat), .slice (some ⟨g3, 0, none⟩) c c, .slice (some ⟨g4, 0, none⟩) c c, .int .i64 (now + 8)][j]? = some p → (X2.alloc (.cells #[.int .i64 a, .int .i64 d, .int .i64 (c : Nat), .slice (some ⟨g3, 0, none⟩) c c, .slice (some ⟨g4, 0, none⟩) c c, .int .i64 (now + 8)] HeldT)).cell? ((⟨X2.heap.size, 0, none⟩ : Addr).add j) = some p) := Lib.hid (fun j p hj => lit_held X2 #[.int .i64 a, .int .i64 d, .int .i64 (c : Nat), .slice (some ⟨g3, 0, none⟩) c c, .slice (some ⟨g4, 0, none⟩) c c, .int .i64 (now + 8)] HeldT j p hj)
        have hb := Lib.hid hal
        clear hal
        replace V := Lib.hid (V.out.next hb.out)
        replace O5 := Lib.hid (O5.out.next hb.out)
        replace HB := Lib.hid (Nat.le_trans HB.out hb.out.size)
        replace O3 := Lib.hid (layStringS.next O3.out hb.out)
        replace O4 := Lib.hid (layBoolS.next O4.out hb.out)
        clear hb
        generalize (X2.alloc (.cells #[.int .i64 a, .int .i64 d, .int .i64 (c : Nat), .slice (some ⟨g3, 0, none⟩) c c, .slice (some ⟨g4, 0, none⟩) c c, .int .i64 (now + 8)] HeldT)) = X4 at *
        generalize X2.heap.size = gl at *
        try simp only [Act.put, List.getElem_toArray, List.getElem_cons_succ, List.getElem_cons_zero, List.setIfInBounds_toArray, List.set_cons_zero, List.set_cons_succ]
        refine wpAnyH_ready (rs := [16]) (by kernel_rfl) (by simp) ?_
        refine AllReadyH.cons rfl (fun K hK => ?_) AllReadyH.nil
        have HY : Hid (layHeld.own X4 base ([g3] ++ [g4]) [.int .i64 a, .int .i64 d, .int .i64 (c : Nat), .slice (some ⟨g3, 0, none⟩) c c, .slice (some ⟨g4, 0, none⟩) c c, .int .i64 (now + 8)] (newV a d (c : Nat) now)) := Lib.hid (layHeld_own.2 ⟨_, _, [g3], [g4], rfl, rfl, O3.out, O4.out⟩)
        have HDY : Hid (([g3] ++ [g4]).Nodup) := Lib.hid (by have := F34.out; simp; omega)
        have HNY : Hid (∀ k ∈ [g3] ++ [g4], k ∉ fp5) := Lib.hid (fun k hk => by simp at hk; rcases hk with rfl | rfl; exact F3.out.1; exact F4.out.1)
        refine step_pushR rfl (.tmp 48) (.tmp 59) 24 rfl base HeldT i0 _ 80 layHeld Try.underlying24 hi0 hz0 hs0 hb0 rfl (by omega) u5 fp5 rest (by rfl) O5.out HD5.out (newV a d (c : Nat) now) [.int .i64 a, .int .i64 d, .int .i64 (c : Nat), .slice (some ⟨g3, 0, none⟩) c c, .slice (some ⟨g4, 0, none⟩) c c, .int .i64 (now + 8)] ([g3] ++ [g4]) HY.out HDY.out HNY.out ⟨gl, 0, none⟩ (by rfl) HC.out (by omega) HB.out ?_
        rintro v1 X5 ⟨f6, o6, n6, s6⟩ hbe hch
        have hxs : q < X4.heap.size := V.out.lt
        have NQ6 : Hid (q ∉ f6) := Lib.hid (fun hm => by
          rcases s6 q hm with h9 | h9 | h9
          · exact NQ5.out h9
          · simp at h9; rcases h9 with h9 | h9
            · exact F3.out.2 h9
            · exact F4.out.2 h9
          · omega)
        have V6 : Hid (VarA q ShelfT #[u5] X5) := Lib.hid ⟨(hch.block q V.out.lt NQ5.out).trans V.out.row⟩
        have O6 := Lib.hid o6
        have N6 := Lib.hid n6
        refine hK.out _ _ (Lib.hid (hHeld.out.trans (hbe.mono hb1))) (fun hHeld => ?_)
        clear hK K HY HDY HNY HC O3 O4 F3 F4 F34 O5 V o6 n6 s6 hbe hch hxs HB
        try simp only [Act.put, List.getElem_toArray, List.getElem_cons_succ, List.getElem_cons_zero, List.setIfInBounds_toArray, List.set_cons_zero, List.set_cons_succ]
        refine wpAnyH_take (i := 17) (v := ?_) rfl (by kernel_rfl) (by kernel_rfl) (by kernel_rfl) (fun _ _ _ h => h) (Or.inl ⟨by kernel_rfl, ?_⟩) hHeld ?_
        rotate_left
        · intro X hX
          first | (go_simp; done) | (go_simp; with_reducible rfl)
        try simp only [Act.put, List.getElem_toArray, List.getElem_cons_succ, List.getElem_cons_zero, List.setIfInBounds_toArray, List.set_cons_zero, List.set_cons_succ]
        refine wpAnyH_take (i := 18) (v := ?_) rfl (by kernel_rfl) (by kernel_rfl) (by kernel_rfl) (fun _ _ _ h => h) (Or.inl ⟨by kernel_rfl, ?_⟩) hHeld ?_
        rotate_left
        · intro X hX
          first | (go_simp; done) | (go_simp; with_reducible rfl)
        try simp only [Act.put, List.getElem_toArray, List.getElem_cons_succ, List.getElem_cons_zero, List.setIfInBounds_toArray, List.set_cons_zero, List.set_cons_succ]
        refine wpAnyH_ready (rs := [19]) (by kernel_rfl) (by simp) ?_
        refine AllReadyH.cons rfl (fun K hK => ?_) AllReadyH.nil
        obtain ⟨na, nk, hv1⟩ : ∃ na nk, v1 = .slice na (rest.length + 1) nk := (by have h9 := rows_form (layHeldS.read O6.out); rw [List.length_append] at h9; exact h9)
        rw [hv1] at O6 ⊢
        have y0_ : X5.cell? ⟨q, 0, none⟩ = some u5 := V6.out.cell 0
        have g0_ := V6.out.free 0
        go_simp
        have hc : Only q X5 (X5.setCell ⟨q, 0, none⟩ (.slice na (rest.length + 1) nk)) := Only.setCell 0 _
        have hb9 := hHeld.out.trans (hc.below hb2 (by have := V6.out.lt; omega))
        have V7 : Hid (VarA q ShelfT #[.slice na (rest.length + 1) nk] (X5.setCell ⟨q, 0, none⟩ (.slice na (rest.length + 1) nk))) := Lib.hid (V6.out.set 0 _)
        have E : Hid (Q (.returned (.int .i64 (rest.length : Nat))) (X5.setCell ⟨q, 0, none⟩ (.slice na (rest.length + 1) nk))) := Lib.hid (HPG.out _ _ f6 _ rfl V7.out (layHeldS.keep O6.out (fun a ha => hc.block a (layHeldS.blocks O6.out a ha).2 (fun e => NQ6.out (e ▸ ha)))) N6.out NQ6.out hb9)
        refine hK.out _ _ (Lib.hid hb9) (fun hHeld => ?_)
        clear hK K y0_ g0_ hc hb9 O6 V6 N6 NQ6 hv1
        generalize (X5.setCell ⟨q, 0, none⟩ (.slice na (rest.length + 1) nk)) = X6 at *
        try simp only [Act.put, List.getElem_toArray, List.getElem_cons_succ, List.getElem_cons_zero, List.setIfInBounds_toArray, List.set_cons_zero, List.set_cons_succ]
        refine wpAnyH_done (by kernel_rfl) ?_ _
        have y0_ : X6.cell? ⟨q, 0, none⟩ = some (.slice na (rest.length + 1) nk) := V7.out.cell 0
        have hwn : IntKind.i64.wrap (((rest.length + 1 : Nat) : Int) - 1) = (rest.length : Int) := by rw [IntKind.wrap_i64]; omega
        clear hHeld
        go_wp2_with fail
        exact E.out
      · go_simp
        have hxs : q < X2.heap.size := V.out.lt
        have hal : Below X2.heap.size X2 (X2.alloc (.cells #[.int .i64 a, .int .i64 d, .int .i64 (c : Nat), .slice (some ⟨g3, 0, none⟩) c c, .slice (some ⟨g4, 0, none⟩) c c, .int .i64 (now + 8)] HeldT)) := (Below.refl _ _).alloc (Nat.le_refl _) _
        refine hK.out _ _ (Lib.hid (hHeld.out.trans (hal.mono (by omega)))) (fun hHeld => ?_)
        clear hK K hxs
        have HC : Hid (∀ (j : Nat) (p : Value), [.int .i64 a, .int .i64 d, .int .i64 (c : Nat), .slice (some ⟨g3, 0, none⟩) c c, .slice (some ⟨g4, 0, none⟩) c c, .int .i64 (now + 8)][j]? = some p → (X2.alloc (.cells #[.int .i64 a, .int .i64 d, .int .i64 (c : Nat), .slice (some ⟨g3, 0, none⟩) c c, .slice (some ⟨g4, 0, none⟩) c c, .int .i64 (now + 8)] HeldT)).cell? ((⟨X2.heap.size, 0, none⟩ : Addr).add j) = some p) := Lib.hid (fun j p hj => lit_held X2 #[.int .i64 a, .int .i64 d, .int .i64 (c : Nat), .slice (some ⟨g3, 0, none⟩) c c, .slice (some ⟨g4, 0, none⟩) c c, .int .i64 (now + 8)] HeldT j p hj)
        have hb := Lib.hid hal
        clear hal
        replace V := Lib.hid (V.out.next hb.out)
        replace O5 := Lib.hid (O5.out.next hb.out)
        replace HB := Lib.hid (Nat.le_trans HB.out hb.out.size)
        replace O3 := Lib.hid (layStringS.next O3.out hb.out)
        replace O4 := Lib.hid (layBoolS.next O4.out hb.out)
        clear hb
        generalize (X2.alloc (.cells #[.int .i64 a, .int .i64 d, .int .i64 (c : Nat), .slice (some ⟨g3, 0, none⟩) c c, .slice (some ⟨g4, 0, none⟩) c c, .int .i64 (now + 8)] HeldT)) = X3 at *
        generalize X2.heap.size = gl at *
        try simp only [Act.put, List.getElem_toArray, List.getElem_cons_succ, List.getElem_cons_zero, List.setIfInBounds_toArray, List.set_cons_zero, List.set_cons_succ]
        refine wpAnyH_ready (rs := [4]) (by kernel_rfl) (by simp) ?_
        refine AllReadyH.cons rfl (fun K hK => ?_) AllReadyH.nil
        have y0_ : X3.cell? ⟨q, 0, none⟩ = some u5 := V.out.cell 0
        go_simp
        refine hK.out _ _ hHeld (fun hHeld => ?_)
        clear hK K y0_
        try simp only [Act.put, List.getElem_toArray, List.getElem_cons_succ, List.getElem_cons_zero, List.setIfInBounds_toArray, List.set_cons_zero, List.set_cons_succ]
        refine wpAnyH_ready (rs := [16]) (by kernel_rfl) (by simp) ?_
        refine AllReadyH.cons rfl (fun K hK => ?_) AllReadyH.nil
        have HY : Hid (layHeld.own X3 base ([g3] ++ [g4]) [.int .i64 a, .int .i64 d, .int .i64 (c : Nat), .slice (some ⟨g3, 0, none⟩) c c, .slice (some ⟨g4, 0, none⟩) c c, .int .i64 (now + 8)] (newV a d (c : Nat) now)) := Lib.hid (layHeld_own.2 ⟨_, _, [g3], [g4], rfl, rfl, O3.out, O4.out⟩)
        have HDY : Hid (([g3] ++ [g4]).Nodup) := Lib.hid (by have := F34.out; simp; omega)
        have HNY : Hid (∀ k ∈ [g3] ++ [g4], k ∉ fp5) := Lib.hid (fun k hk => by simp at hk; rcases hk with rfl | rfl; exact F3.out.1; exact F4.out.1)
        refine step_pushR rfl (.tmp 48) (.tmp 59) 24 rfl base HeldT i0 _ 80 layHeld Try.underlying24 hi0 hz0 hs0 hb0 rfl (by omega) u5 fp5 rest (by rfl) O5.out HD5.out (newV a d (c : Nat) now) [.int .i64 a, .int .i64 d, .int .i64 (c : Nat), .slice (some ⟨g3, 0, none⟩) c c, .slice (some ⟨g4, 0, none⟩) c c, .int .i64 (now + 8)] ([g3] ++ [g4]) HY.out HDY.out HNY.out ⟨gl, 0, none⟩ (by rfl) HC.out (by omega) HB.out ?_
        rintro v1 X5 ⟨f6, o6, n6, s6⟩ hbe hch
        have hxs : q < X3.heap.size := V.out.lt
        have NQ6 : Hid (q ∉ f6) := Lib.hid (fun hm => by
          rcases s6 q hm with h9 | h9 | h9
          · exact NQ5.out h9
          · simp at h9; rcases h9 with h9 | h9
            · exact F3.out.2 h9
            · exact F4.out.2 h9
          · omega)
        have V6 : Hid (VarA q ShelfT #[u5] X5) := Lib.hid ⟨(hch.block q V.out.lt NQ5.out).trans V.out.row⟩
        have O6 := Lib.hid o6
        have N6 := Lib.hid n6
        refine hK.out _ _ (Lib.hid (hHeld.out.trans (hbe.mono hb1))) (fun hHeld => ?_)
        clear hK K HY HDY HNY HC O3 O4 F3 F4 F34 O5 V o6 n6 s6 hbe hch hxs HB
        try simp only [Act.put, List.getElem_toArray, List.getElem_cons_succ, List.getElem_cons_zero, List.setIfInBounds_toArray, List.set_cons_zero, List.set_cons_succ]
        refine wpAnyH_take (i := 17) (v := ?_) rfl (by kernel_rfl) (by kernel_rfl) (by kernel_rfl) (fun _ _ _ h => h) (Or.inl ⟨by kernel_rfl, ?_⟩) hHeld ?_
        rotate_left
        · intro X hX
          first | (go_simp; done) | (go_simp; with_reducible rfl)
        try simp only [Act.put, List.getElem_toArray, List.getElem_cons_succ, List.getElem_cons_zero, List.setIfInBounds_toArray, List.set_cons_zero, List.set_cons_succ]
        refine wpAnyH_take (i := 18) (v := ?_) rfl (by kernel_rfl) (by kernel_rfl) (by kernel_rfl) (fun _ _ _ h => h) (Or.inl ⟨by kernel_rfl, ?_⟩) hHeld ?_
        rotate_left
        · intro X hX
          first | (go_simp; done) | (go_simp; with_reducible rfl)
        try simp only [Act.put, List.getElem_toArray, List.getElem_cons_succ, List.getElem_cons_zero, List.setIfInBounds_toArray, List.set_cons_zero, List.set_cons_succ]
        refine wpAnyH_ready (rs := [19]) (by kernel_rfl) (by simp) ?_
        refine AllReadyH.cons rfl (fun K hK => ?_) AllReadyH.nil
        obtain ⟨na, nk, hv1⟩ : ∃ na nk, v1 = .slice na (rest.length + 1) nk := (by have h9 := rows_form (layHeldS.read O6.out); rw [List.length_append] at h9; exact h9)
        rw [hv1] at O6 ⊢
        have y0_ : X5.cell? ⟨q, 0, none⟩ = some u5 := V6.out.cell 0
        have g0_ := V6.out.free 0
        go_simp
        have hc : Only q X5 (X5.setCell ⟨q, 0, none⟩ (.slice na (rest.length + 1) nk)) := Only.setCell 0 _
        have hb9 := hHeld.out.trans (hc.below hb2 (by have := V6.out.lt; omega))
        have V7 : Hid (VarA q ShelfT #[.slice na (rest.length + 1) nk] (X5.setCell ⟨q, 0, none⟩ (.slice na (rest.length + 1) nk))) := Lib.hid (V6.out.set 0 _)
        have E : Hid (Q (.returned (.int .i64 (rest.length : Nat))) (X5.setCell ⟨q, 0, none⟩ (.slice na (rest.length + 1) nk))) := Lib.hid (HPG.out _ _ f6 _ rfl V7.out (layHeldS.keep O6.out (fun a ha => hc.block a (layHeldS.blocks O6.out a ha).2 (fun e => NQ6.out (e ▸ ha)))) N6.out NQ6.out hb9)
        refine hK.out _ _ (Lib.hid hb9) (fun hHeld => ?_)
        clear hK K y0_ g0_ hc hb9 O6 V6 N6 NQ6 hv1
        generalize (X5.setCell ⟨q, 0, none⟩ (.slice na (rest.length + 1) nk)) = X6 at *
        try simp only [Act.put, List.getElem_toArray, List.getElem_cons_succ, List.getElem_cons_zero, List.setIfInBounds_toArray, List.set_cons_zero, List.set_cons_succ]
        refine wpAnyH_done (by kernel_rfl) ?_ _
        have y0_ : X6.cell? ⟨q, 0, none⟩ = some (.slice na (rest.length + 1) nk) := V7.out.cell 0
        have hwn : IntKind.i64.wrap (((rest.length + 1 : Nat) : Int) - 1) = (rest.length : Int) := by rw [IntKind.wrap_i64]; omega
        clear hHeld
        go_wp2_with fail
        exact E.out
  · have hxs : q < X0.heap.size := V.out.lt
    refine step_make rfl (.tmp 54) (.tmp 54) 33 rfl base 4 i4 (.bool false) 1 Try.underlying33 hi4 hz4 hs4 .i64 .i64 c (by rfl) (by rfl) (by rw [hb4]; omega) (by unfold maxLen; omega) HB.out ?_
    intro X1 hown1 hg1
    have hb : Hid (Below X0.heap.size X0 X1) := Lib.hid (below_grown hg1 (fun k h => by cases h) (Nat.le_refl _))
    have O4 : Hid (layBoolS.own X1 base [X0.heap.size] [.slice (some ⟨X0.heap.size, 0, none⟩) c c] (List.replicate c false)) := Lib.hid (rows_made (A := Lay.bool) hown1 rfl (bool_own.2 ⟨rfl, rfl⟩))
    have F4 : Hid (X0.heap.size ∉ fp5 ∧ q ≠ X0.heap.size) := Lib.hid ⟨fun hm => by have := (O5.out.blocks _ hm).2; omega, by omega⟩
    refine hK.out _ _ (Lib.hid (hHeld.out.trans (hb.out.mono (by omega)))) (fun hHeld => ?_)
    clear hK K hown1 hg1 hxs
    replace V := Lib.hid (V.out.next hb.out)
    replace O5 := Lib.hid (O5.out.next hb.out)
    replace HB := Lib.hid (Nat.le_trans HB.out hb.out.size)
    clear hb
    generalize X0.heap.size = g4 at *
    try simp only [Act.put, List.getElem_toArray, List.getElem_cons_succ, List.getElem_cons_zero, List.setIfInBounds_toArray, List.set_cons_zero, List.set_cons_succ]
    refine wpAnyH_ready (rs := [4, 9]) (by kernel_rfl) (by simp) ?_
    refine AllReadyH.cons rfl (fun K hK => ?_) (AllReadyH.cons rfl (fun K hK => ?_) AllReadyH.nil)
    · have y0_ : X1.cell? ⟨q, 0, none⟩ = some u5 := V.out.cell 0
      go_simp
      refine hK.out _ _ hHeld (fun hHeld => ?_)
      clear hK K y0_
      try simp only [Act.put, List.getElem_toArray, List.getElem_cons_succ, List.getElem_cons_zero, List.setIfInBounds_toArray, List.set_cons_zero, List.set_cons_succ]
      refine wpAnyH_ready (rs := [9]) (by kernel_rfl) (by simp) ?_
      refine AllReadyH.cons rfl (fun K hK => ?_) AllReadyH.nil
      have hxs : q < X1.heap.size := V.out.lt
      refine step_make rfl (.tmp 52) (.tmp 52) 32 rfl base StringT i3 (.string ⟨#[]⟩) 1 Try.underlying32 hi3 hz3 hs3 .i64 .i64 c (by rfl) (by rfl) (by rw [hb3]; omega) (by unfold maxLen; omega) HB.out ?_
      intro X3 hown1 hg1
      have hb : Hid (Below X1.heap.size X1 X3) := Lib.hid (below_grown hg1 (fun k h => by cases h) (Nat.le_refl _))
      have O3 : Hid (layStringS.own X3 base [X1.heap.size] [.slice (some ⟨X1.heap.size, 0, none⟩) c c] (List.replicate c ⟨#[]⟩)) := Lib.hid (rows_made (A := layString) hown1 rfl (flatString.own _ _ _ _ (layString_rd.2 rfl)))
      have F3 : Hid (X1.heap.size ∉ fp5 ∧ q ≠ X1.heap.size) := Lib.hid ⟨fun hm => by have := (O5.out.blocks _ hm).2; omega, by omega⟩
      have F34 : Hid (g4 ≠ X1.heap.size) := Lib.hid (by have h9 := (layBoolS.blocks O4.out g4 (by simp)).2; omega)
      refine hK.out _ _ (Lib.hid (hHeld.out.trans (hb.out.mono (by omega)))) (fun hHeld => ?_)
      clear hK K hown1 hg1 hxs
      replace V := Lib.hid (V.out.next hb.out)
      replace O5 := Lib.hid (O5.out.next hb.out)
      replace HB := Lib.hid (Nat.le_trans HB.out hb.out.size)
      replace O4 := Lib.hid (layBoolS.next O4.out hb.out)
      clear hb
      generalize X1.heap.size = g3 at *
      try simp only [Act.put, List.getElem_toArray, List.getElem_cons_succ, List.getElem_cons_zero, List.setIfInBounds_toArray, List.set_cons_zero, List.set_cons_succ]
      refine wpAnyH_take (i := 14) (v := ?_) rfl (by kernel_rfl) (by kernel_rfl) (by kernel_rfl) (fun _ _ _ h => h) (Or.inl ⟨by kernel_rfl, ?_⟩) hHeld ?_
      rotate_left
      · intro X hX
        first | (go_simp; done) | (go_simp; with_reducible rfl)
      try simp only [Act.put, List.getElem_toArray, List.getElem_cons_succ, List.getElem_cons_zero, List.setIfInBounds_toArray, List.set_cons_zero, List.set_cons_succ]
      refine wpAnyH_ready (rs := [15]) (by kernel_rfl) (by simp) ?_
      refine AllReadyH.cons rfl (fun K hK => ?_) AllReadyH.nil
      go_simp
      have hxs : q < X3.heap.size := V.out.lt
      have hal : Below X3.heap.size X3 (X3.alloc (.cells #[.int .i64 a, .int .i64 d, .int .i64 (c : Nat), .slice (some ⟨g3, 0, none⟩) c c, .slice (some ⟨g4, 0, none⟩) c c, .int .i64 (now + 8)] HeldT)) := (Below.refl _ _).alloc (Nat.le_refl _) _
      refine hK.out _ _ (Lib.hid (hHeld.out.trans (hal.mono (by omega)))) (fun hHeld => ?_)
      clear hK K hxs
      have HC : Hid (∀ (j : Nat) (p : Value), [.int .i64 a, .int .i64 d, .int .i64 (c : Nat), .slice (some ⟨g3, 0, none⟩) c c, .slice (some ⟨g4, 0, none⟩) c c, .int .i64 (now + 8)][j]? = some p → (X3.alloc (.cells #[.int .i64 a, .int .i64 d, .int .i64 (c : Nat), .slice (some ⟨g3, 0, none⟩) c c, .slice (some ⟨g4, 0, none⟩) c c, .int .i64 (now + 8)] HeldT)).cell? ((⟨X3.heap.size, 0, none⟩ : Addr).add j) = some p) := Lib.hid (fun j p hj => lit_held X3 #[.int .i64 a, .int .i64 d, .int .i64 (c : Nat), .slice (some ⟨g3, 0, none⟩) c c, .slice (some ⟨g4, 0, none⟩) c c, .int .i64 (now + 8)] HeldT j p hj)
      have hb := Lib.hid hal
      clear hal
      replace V := Lib.hid (V.out.next hb.out)
      replace O5 := Lib.hid (O5.out.next hb.out)
      replace HB := Lib.hid (Nat.le_trans HB.out hb.out.size)
      replace O3 := Lib.hid (layStringS.next O3.out hb.out)
      replace O4 := Lib.hid (layBoolS.next O4.out hb.out)
      clear hb
      generalize (X3.alloc (.cells #[.int .i64 a, .int .i64 d, .int .i64 (c : Nat), .slice (some ⟨g3, 0, none⟩) c c, .slice (some ⟨g4, 0, none⟩) c c, .int .i64 (now + 8)] HeldT)) = X4 at *
      generalize X3.heap.size = gl at *
      try simp only [Act.put, List.getElem_toArray, List.getElem_cons_succ, List.getElem_cons_zero, List.setIfInBounds_toArray, List.set_cons_zero, List.set_cons_succ]
      refine wpAnyH_ready (rs := [16]) (by kernel_rfl) (by simp) ?_
      refine AllReadyH.cons rfl (fun K hK => ?_) AllReadyH.nil
      have HY : Hid (layHeld.own X4 base ([g3] ++ [g4]) [.int .i64 a, .int .i64 d, .int .i64 (c : Nat), .slice (some ⟨g3, 0, none⟩) c c, .slice (some ⟨g4, 0, none⟩) c c, .int .i64 (now + 8)] (newV a d (c : Nat) now)) := Lib.hid (layHeld_own.2 ⟨_, _, [g3], [g4], rfl, rfl, O3.out, O4.out⟩)
      have HDY : Hid (([g3] ++ [g4]).Nodup) := Lib.hid (by have := F34.out; simp; omega)
      have HNY : Hid (∀ k ∈ [g3] ++ [g4], k ∉ fp5) := Lib.hid (fun k hk => by simp at hk; rcases hk with rfl | rfl; exact F3.out.1; exact F4.out.1)
      refine step_pushR rfl (.tmp 48) (.tmp 59) 24 rfl base HeldT i0 _ 80 layHeld Try.underlying24 hi0 hz0 hs0 hb0 rfl (by omega) u5 fp5 rest (by rfl) O5.out HD5.out (newV a d (c : Nat) now) [.int .i64 a, .int .i64 d, .int .i64 (c : Nat), .slice (some ⟨g3, 0, none⟩) c c, .slice (some ⟨g4, 0, none⟩) c c, .int .i64 (now + 8)] ([g3] ++ [g4]) HY.out HDY.out HNY.out ⟨gl, 0, none⟩ (by rfl) HC.out (by omega) HB.out ?_
      rintro v1 X5 ⟨f6, o6, n6, s6⟩ hbe hch
      have hxs : q < X4.heap.size := V.out.lt
      have NQ6 : Hid (q ∉ f6) := Lib.hid (fun hm => by
        rcases s6 q hm with h9 | h9 | h9
        · exact NQ5.out h9
        · simp at h9; rcases h9 with h9 | h9
          · exact F3.out.2 h9
          · exact F4.out.2 h9
        · omega)
      have V6 : Hid (VarA q ShelfT #[u5] X5) := Lib.hid ⟨(hch.block q V.out.lt NQ5.out).trans V.out.row⟩
      have O6 := Lib.hid o6
      have N6 := Lib.hid n6
      refine hK.out _ _ (Lib.hid (hHeld.out.trans (hbe.mono hb1))) (fun hHeld => ?_)
      clear hK K HY HDY HNY HC O3 O4 F3 F4 F34 O5 V o6 n6 s6 hbe hch hxs HB
      try simp only [Act.put, List.getElem_toArray, List.getElem_cons_succ, List.getElem_cons_zero, List.setIfInBounds_toArray, List.set_cons_zero, List.set_cons_succ]
      refine wpAnyH_take (i := 17) (v := ?_) rfl (by kernel_rfl) (by kernel_rfl) (by kernel_rfl) (fun _ _ _ h => h) (Or.inl ⟨by kernel_rfl, ?_⟩) hHeld ?_
      rotate_left
      · intro X hX
        first | (go_simp; done) | (go_simp; with_reducible rfl)
      try simp only [Act.put, List.getElem_toArray, List.getElem_cons_succ, List.getElem_cons_zero, List.setIfInBounds_toArray, List.set_cons_zero, List.set_cons_succ]
      refine wpAnyH_take (i := 18) (v := ?_) rfl (by kernel_rfl) (by kernel_rfl) (by kernel_rfl) (fun _ _ _ h => h) (Or.inl ⟨by kernel_rfl, ?_⟩) hHeld ?_
      rotate_left
      · intro X hX
        first | (go_simp; done) | (go_simp; with_reducible rfl)
      try simp only [Act.put, List.getElem_toArray, List.getElem_cons_succ, List.getElem_cons_zero, List.setIfInBounds_toArray, List.set_cons_zero, List.set_cons_succ]
      refine wpAnyH_ready (rs := [19]) (by kernel_rfl) (by simp) ?_
      refine AllReadyH.cons rfl (fun K hK => ?_) AllReadyH.nil
      obtain ⟨na, nk, hv1⟩ : ∃ na nk, v1 = .slice na (rest.length + 1) nk := (by have h9 := rows_form (layHeldS.read O6.out); rw [List.length_append] at h9; exact h9)
      rw [hv1] at O6 ⊢
      have y0_ : X5.cell? ⟨q, 0, none⟩ = some u5 := V6.out.cell 0
      have g0_ := V6.out.free 0
      go_simp
      have hc : Only q X5 (X5.setCell ⟨q, 0, none⟩ (.slice na (rest.length + 1) nk)) := Only.setCell 0 _
      have hb9 := hHeld.out.trans (hc.below hb2 (by have := V6.out.lt; omega))
      have V7 : Hid (VarA q ShelfT #[.slice na (rest.length + 1) nk] (X5.setCell ⟨q, 0, none⟩ (.slice na (rest.length + 1) nk))) := Lib.hid (V6.out.set 0 _)
      have E : Hid (Q (.returned (.int .i64 (rest.length : Nat))) (X5.setCell ⟨q, 0, none⟩ (.slice na (rest.length + 1) nk))) := Lib.hid (HPG.out _ _ f6 _ rfl V7.out (layHeldS.keep O6.out (fun a ha => hc.block a (layHeldS.blocks O6.out a ha).2 (fun e => NQ6.out (e ▸ ha)))) N6.out NQ6.out hb9)
      refine hK.out _ _ (Lib.hid hb9) (fun hHeld => ?_)
      clear hK K y0_ g0_ hc hb9 O6 V6 N6 NQ6 hv1
      generalize (X5.setCell ⟨q, 0, none⟩ (.slice na (rest.length + 1) nk)) = X6 at *
      try simp only [Act.put, List.getElem_toArray, List.getElem_cons_succ, List.getElem_cons_zero, List.setIfInBounds_toArray, List.set_cons_zero, List.set_cons_succ]
      refine wpAnyH_done (by kernel_rfl) ?_ _
      have y0_ : X6.cell? ⟨q, 0, none⟩ = some (.slice na (rest.length + 1) nk) := V7.out.cell 0
      have hwn : IntKind.i64.wrap (((rest.length + 1 : Nat) : Int) - 1) = (rest.length : Int) := by rw [IntKind.wrap_i64]; omega
      clear hHeld
      go_wp2_with fail
      exact E.out
    · have hxs : q < X1.heap.size := V.out.lt
      refine step_make rfl (.tmp 52) (.tmp 52) 32 rfl base StringT i3 (.string ⟨#[]⟩) 1 Try.underlying32 hi3 hz3 hs3 .i64 .i64 c (by rfl) (by rfl) (by rw [hb3]; omega) (by unfold maxLen; omega) HB.out ?_
      intro X2 hown1 hg1
      have hb : Hid (Below X1.heap.size X1 X2) := Lib.hid (below_grown hg1 (fun k h => by cases h) (Nat.le_refl _))
      have O3 : Hid (layStringS.own X2 base [X1.heap.size] [.slice (some ⟨X1.heap.size, 0, none⟩) c c] (List.replicate c ⟨#[]⟩)) := Lib.hid (rows_made (A := layString) hown1 rfl (flatString.own _ _ _ _ (layString_rd.2 rfl)))
      have F3 : Hid (X1.heap.size ∉ fp5 ∧ q ≠ X1.heap.size) := Lib.hid ⟨fun hm => by have := (O5.out.blocks _ hm).2; omega, by omega⟩
      have F34 : Hid (g4 ≠ X1.heap.size) := Lib.hid (by have h9 := (layBoolS.blocks O4.out g4 (by simp)).2; omega)
      refine hK.out _ _ (Lib.hid (hHeld.out.trans (hb.out.mono (by omega)))) (fun hHeld => ?_)
      clear hK K hown1 hg1 hxs
      replace V := Lib.hid (V.out.next hb.out)
      replace O5 := Lib.hid (O5.out.next hb.out)
      replace HB := Lib.hid (Nat.le_trans HB.out hb.out.size)
      replace O4 := Lib.hid (layBoolS.next O4.out hb.out)
      clear hb
      generalize X1.heap.size = g3 at *
      try simp only [Act.put, List.getElem_toArray, List.getElem_cons_succ, List.getElem_cons_zero, List.setIfInBounds_toArray, List.set_cons_zero, List.set_cons_succ]
      refine wpAnyH_take (i := 14) (v := ?_) rfl (by kernel_rfl) (by kernel_rfl) (by kernel_rfl) (fun _ _ _ h => h) (Or.inl ⟨by kernel_rfl, ?_⟩) hHeld ?_
      rotate_left
      · intro X hX
        first | (go_simp; done) | (go_simp; with_reducible rfl)
      try simp only [Act.put, List.getElem_toArray, List.getElem_cons_succ, List.getElem_cons_zero, List.setIfInBounds_toArray, List.set_cons_zero, List.set_cons_succ]
      refine wpAnyH_ready (rs := [4, 15]) (by kernel_rfl) (by simp) ?_
      refine AllReadyH.cons rfl (fun K hK => ?_) (AllReadyH.cons rfl (fun K hK => ?_) AllReadyH.nil)
      · have y0_ : X2.cell? ⟨q, 0, none⟩ = some u5 := V.out.cell 0
        go_simp
        refine hK.out _ _ hHeld (fun hHeld => ?_)
        clear hK K y0_
        try simp only [Act.put, List.getElem_toArray, List.getElem_cons_succ, List.getElem_cons_zero, List.setIfInBounds_toArray, List.set_cons_zero, List.set_cons_succ]
        refine wpAnyH_ready (rs := [15]) (by kernel_rfl) (by simp) ?_
        refine AllReadyH.cons rfl (fun K hK => ?_) AllReadyH.nil
        go_simp
        have hxs : q < X2.heap.size := V.out.lt
        have hal : Below X2.heap.size X2 (X2.alloc (.cells #[.int .i64 a, .int .i64 d, .int .i64 (c : Nat), .slice (some ⟨g3, 0, none⟩) c c, .slice (some ⟨g4, 0, none⟩) c c, .int .i64 (now + 8)] HeldT)) := (Below.refl _ _).alloc (Nat.le_refl _) _
        refine hK.out _ _ (Lib.hid (hHeld.out.trans (hal.mono (by omega)))) (fun hHeld => ?_)
        clear hK K hxs
        have HC : Hid (∀ (j : Nat) (p : Value), [.int .i64 a, .int .i64 d, .int .i64 (c : Nat), .slice (some ⟨g3, 0, none⟩) c c, .slice (some ⟨g4, 0, none⟩) c c, .int .i64 (now + 8)][j]? = some p → (X2.alloc (.cells #[.int .i64 a, .int .i64 d, .int .i64 (c : Nat), .slice (some ⟨g3, 0, none⟩) c c, .slice (some ⟨g4, 0, none⟩) c c, .int .i64 (now + 8)] HeldT)).cell? ((⟨X2.heap.size, 0, none⟩ : Addr).add j) = some p) := Lib.hid (fun j p hj => lit_held X2 #[.int .i64 a, .int .i64 d, .int .i64 (c : Nat), .slice (some ⟨g3, 0, none⟩) c c, .slice (some ⟨g4, 0, none⟩) c c, .int .i64 (now + 8)] HeldT j p hj)
        have hb := Lib.hid hal
        clear hal
        replace V := Lib.hid (V.out.next hb.out)
        replace O5 := Lib.hid (O5.out.next hb.out)
        replace HB := Lib.hid (Nat.le_trans HB.out hb.out.size)
        replace O3 := Lib.hid (layStringS.next O3.out hb.out)
        replace O4 := Lib.hid (layBoolS.next O4.out hb.out)
        clear hb
        generalize (X2.alloc (.cells #[.int .i64 a, .int .i64 d, .int .i64 (c : Nat), .slice (some ⟨g3, 0, none⟩) c c, .slice (some ⟨g4, 0, none⟩) c c, .int .i64 (now + 8)] HeldT)) = X4 at *
        generalize X2.heap.size = gl at *
        try simp only [Act.put, List.getElem_toArray, List.getElem_cons_succ, List.getElem_cons_zero, List.setIfInBounds_toArray, List.set_cons_zero, List.set_cons_succ]
        refine wpAnyH_ready (rs := [16]) (by kernel_rfl) (by simp) ?_
        refine AllReadyH.cons rfl (fun K hK => ?_) AllReadyH.nil
        have HY : Hid (layHeld.own X4 base ([g3] ++ [g4]) [.int .i64 a, .int .i64 d, .int .i64 (c : Nat), .slice (some ⟨g3, 0, none⟩) c c, .slice (some ⟨g4, 0, none⟩) c c, .int .i64 (now + 8)] (newV a d (c : Nat) now)) := Lib.hid (layHeld_own.2 ⟨_, _, [g3], [g4], rfl, rfl, O3.out, O4.out⟩)
        have HDY : Hid (([g3] ++ [g4]).Nodup) := Lib.hid (by have := F34.out; simp; omega)
        have HNY : Hid (∀ k ∈ [g3] ++ [g4], k ∉ fp5) := Lib.hid (fun k hk => by simp at hk; rcases hk with rfl | rfl; exact F3.out.1; exact F4.out.1)
        refine step_pushR rfl (.tmp 48) (.tmp 59) 24 rfl base HeldT i0 _ 80 layHeld Try.underlying24 hi0 hz0 hs0 hb0 rfl (by omega) u5 fp5 rest (by rfl) O5.out HD5.out (newV a d (c : Nat) now) [.int .i64 a, .int .i64 d, .int .i64 (c : Nat), .slice (some ⟨g3, 0, none⟩) c c, .slice (some ⟨g4, 0, none⟩) c c, .int .i64 (now + 8)] ([g3] ++ [g4]) HY.out HDY.out HNY.out ⟨gl, 0, none⟩ (by rfl) HC.out (by omega) HB.out ?_
        rintro v1 X5 ⟨f6, o6, n6, s6⟩ hbe hch
        have hxs : q < X4.heap.size := V.out.lt
        have NQ6 : Hid (q ∉ f6) := Lib.hid (fun hm => by
          rcases s6 q hm with h9 | h9 | h9
          · exact NQ5.out h9
          · simp at h9; rcases h9 with h9 | h9
            · exact F3.out.2 h9
            · exact F4.out.2 h9
          · omega)
        have V6 : Hid (VarA q ShelfT #[u5] X5) := Lib.hid ⟨(hch.block q V.out.lt NQ5.out).trans V.out.row⟩
        have O6 := Lib.hid o6
        have N6 := Lib.hid n6
        refine hK.out _ _ (Lib.hid (hHeld.out.trans (hbe.mono hb1))) (fun hHeld => ?_)
        clear hK K HY HDY HNY HC O3 O4 F3 F4 F34 O5 V o6 n6 s6 hbe hch hxs HB
        try simp only [Act.put, List.getElem_toArray, List.getElem_cons_succ, List.getElem_cons_zero, List.setIfInBounds_toArray, List.set_cons_zero, List.set_cons_succ]
        refine wpAnyH_take (i := 17) (v := ?_) rfl (by kernel_rfl) (by kernel_rfl) (by kernel_rfl) (fun _ _ _ h => h) (Or.inl ⟨by kernel_rfl, ?_⟩) hHeld ?_
        rotate_left
        · intro X hX
          first | (go_simp; done) | (go_simp; with_reducible rfl)
        try simp only [Act.put, List.getElem_toArray, List.getElem_cons_succ, List.getElem_cons_zero, List.setIfInBounds_toArray, List.set_cons_zero, List.set_cons_succ]
        refine wpAnyH_take (i := 18) (v := ?_) rfl (by kernel_rfl) (by kernel_rfl) (by kernel_rfl) (fun _ _ _ h => h) (Or.inl ⟨by kernel_rfl, ?_⟩) hHeld ?_
        rotate_left
        · intro X hX
          first | (go_simp; done) | (go_simp; with_reducible rfl)
        try simp only [Act.put, List.getElem_toArray, List.getElem_cons_succ, List.getElem_cons_zero, List.setIfInBounds_toArray, List.set_cons_zero, List.set_cons_succ]
        refine wpAnyH_ready (rs := [19]) (by kernel_rfl) (by simp) ?_
        refine AllReadyH.cons rfl (fun K hK => ?_) AllReadyH.nil
        obtain ⟨na, nk, hv1⟩ : ∃ na nk, v1 = .slice na (rest.length + 1) nk := (by have h9 := rows_form (layHeldS.read O6.out); rw [List.length_append] at h9; exact h9)
        rw [hv1] at O6 ⊢
        have y0_ : X5.cell? ⟨q, 0, none⟩ = some u5 := V6.out.cell 0
        have g0_ := V6.out.free 0
        go_simp
        have hc : Only q X5 (X5.setCell ⟨q, 0, none⟩ (.slice na (rest.length + 1) nk)) := Only.setCell 0 _
        have hb9 := hHeld.out.trans (hc.below hb2 (by have := V6.out.lt; omega))
        have V7 : Hid (VarA q ShelfT #[.slice na (rest.length + 1) nk] (X5.setCell ⟨q, 0, none⟩ (.slice na (rest.length + 1) nk))) := Lib.hid (V6.out.set 0 _)
        have E : Hid (Q (.returned (.int .i64 (rest.length : Nat))) (X5.setCell ⟨q, 0, none⟩ (.slice na (rest.length + 1) nk))) := Lib.hid (HPG.out _ _ f6 _ rfl V7.out (layHeldS.keep O6.out (fun a ha => hc.block a (layHeldS.blocks O6.out a ha).2 (fun e => NQ6.out (e ▸ ha)))) N6.out NQ6.out hb9)
        refine hK.out _ _ (Lib.hid hb9) (fun hHeld => ?_)
        clear hK K y0_ g0_ hc hb9 O6 V6 N6 NQ6 hv1
        generalize (X5.setCell ⟨q, 0, none⟩ (.slice na (rest.length + 1) nk)) = X6 at *
        try simp only [Act.put, List.getElem_toArray, List.getElem_cons_succ, List.getElem_cons_zero, List.setIfInBounds_toArray, List.set_cons_zero, List.set_cons_succ]
        refine wpAnyH_done (by kernel_rfl) ?_ _
        have y0_ : X6.cell? ⟨q, 0, none⟩ = some (.slice na (rest.length + 1) nk) := V7.out.cell 0
        have hwn : IntKind.i64.wrap (((rest.length + 1 : Nat) : Int) - 1) = (rest.length : Int) := by rw [IntKind.wrap_i64]; omega
        clear hHeld
        go_wp2_with fail
        exact E.out
      · go_simp
        have hxs : q < X2.heap.size := V.out.lt
        have hal : Below X2.heap.size X2 (X2.alloc (.cells #[.int .i64 a, .int .i64 d, .int .i64 (c : Nat), .slice (some ⟨g3, 0, none⟩) c c, .slice (some ⟨g4, 0, none⟩) c c, .int .i64 (now + 8)] HeldT)) := (Below.refl _ _).alloc (Nat.le_refl _) _
        refine hK.out _ _ (Lib.hid (hHeld.out.trans (hal.mono (by omega)))) (fun hHeld => ?_)
        clear hK K hxs
        have HC : Hid (∀ (j : Nat) (p : Value), [.int .i64 a, .int .i64 d, .int .i64 (c : Nat), .slice (some ⟨g3, 0, none⟩) c c, .slice (some ⟨g4, 0, none⟩) c c, .int .i64 (now + 8)][j]? = some p → (X2.alloc (.cells #[.int .i64 a, .int .i64 d, .int .i64 (c : Nat), .slice (some ⟨g3, 0, none⟩) c c, .slice (some ⟨g4, 0, none⟩) c c, .int .i64 (now + 8)] HeldT)).cell? ((⟨X2.heap.size, 0, none⟩ : Addr).add j) = some p) := Lib.hid (fun j p hj => lit_held X2 #[.int .i64 a, .int .i64 d, .int .i64 (c : Nat), .slice (some ⟨g3, 0, none⟩) c c, .slice (some ⟨g4, 0, none⟩) c c, .int .i64 (now + 8)] HeldT j p hj)
        have hb := Lib.hid hal
        clear hal
        replace V := Lib.hid (V.out.next hb.out)
        replace O5 := Lib.hid (O5.out.next hb.out)
        replace HB := Lib.hid (Nat.le_trans HB.out hb.out.size)
        replace O3 := Lib.hid (layStringS.next O3.out hb.out)
        replace O4 := Lib.hid (layBoolS.next O4.out hb.out)
        clear hb
        generalize (X2.alloc (.cells #[.int .i64 a, .int .i64 d, .int .i64 (c : Nat), .slice (some ⟨g3, 0, none⟩) c c, .slice (some ⟨g4, 0, none⟩) c c, .int .i64 (now + 8)] HeldT)) = X3 at *
        generalize X2.heap.size = gl at *
        try simp only [Act.put, List.getElem_toArray, List.getElem_cons_succ, List.getElem_cons_zero, List.setIfInBounds_toArray, List.set_cons_zero, List.set_cons_succ]
        refine wpAnyH_ready (rs := [4]) (by kernel_rfl) (by simp) ?_
        refine AllReadyH.cons rfl (fun K hK => ?_) AllReadyH.nil
        have y0_ : X3.cell? ⟨q, 0, none⟩ = some u5 := V.out.cell 0
        go_simp
        refine hK.out _ _ hHeld (fun hHeld => ?_)
        clear hK K y0_
        try simp only [Act.put, List.getElem_toArray, List.getElem_cons_succ, List.getElem_cons_zero, List.setIfInBounds_toArray, List.set_cons_zero, List.set_cons_succ]
        refine wpAnyH_ready (rs := [16]) (by kernel_rfl) (by simp) ?_
        refine AllReadyH.cons rfl (fun K hK => ?_) AllReadyH.nil
        have HY : Hid (layHeld.own X3 base ([g3] ++ [g4]) [.int .i64 a, .int .i64 d, .int .i64 (c : Nat), .slice (some ⟨g3, 0, none⟩) c c, .slice (some ⟨g4, 0, none⟩) c c, .int .i64 (now + 8)] (newV a d (c : Nat) now)) := Lib.hid (layHeld_own.2 ⟨_, _, [g3], [g4], rfl, rfl, O3.out, O4.out⟩)
        have HDY : Hid (([g3] ++ [g4]).Nodup) := Lib.hid (by have := F34.out; simp; omega)
        have HNY : Hid (∀ k ∈ [g3] ++ [g4], k ∉ fp5) := Lib.hid (fun k hk => by simp at hk; rcases hk with rfl | rfl; exact F3.out.1; exact F4.out.1)
        refine step_pushR rfl (.tmp 48) (.tmp 59) 24 rfl base HeldT i0 _ 80 layHeld Try.underlying24 hi0 hz0 hs0 hb0 rfl (by omega) u5 fp5 rest (by rfl) O5.out HD5.out (newV a d (c : Nat) now) [.int .i64 a, .int .i64 d, .int .i64 (c : Nat), .slice (some ⟨g3, 0, none⟩) c c, .slice (some ⟨g4, 0, none⟩) c c, .int .i64 (now + 8)] ([g3] ++ [g4]) HY.out HDY.out HNY.out ⟨gl, 0, none⟩ (by rfl) HC.out (by omega) HB.out ?_
        rintro v1 X5 ⟨f6, o6, n6, s6⟩ hbe hch
        have hxs : q < X3.heap.size := V.out.lt
        have NQ6 : Hid (q ∉ f6) := Lib.hid (fun hm => by
          rcases s6 q hm with h9 | h9 | h9
          · exact NQ5.out h9
          · simp at h9; rcases h9 with h9 | h9
            · exact F3.out.2 h9
            · exact F4.out.2 h9
          · omega)
        have V6 : Hid (VarA q ShelfT #[u5] X5) := Lib.hid ⟨(hch.block q V.out.lt NQ5.out).trans V.out.row⟩
        have O6 := Lib.hid o6
        have N6 := Lib.hid n6
        refine hK.out _ _ (Lib.hid (hHeld.out.trans (hbe.mono hb1))) (fun hHeld => ?_)
        clear hK K HY HDY HNY HC O3 O4 F3 F4 F34 O5 V o6 n6 s6 hbe hch hxs HB
        try simp only [Act.put, List.getElem_toArray, List.getElem_cons_succ, List.getElem_cons_zero, List.setIfInBounds_toArray, List.set_cons_zero, List.set_cons_succ]
        refine wpAnyH_take (i := 17) (v := ?_) rfl (by kernel_rfl) (by kernel_rfl) (by kernel_rfl) (fun _ _ _ h => h) (Or.inl ⟨by kernel_rfl, ?_⟩) hHeld ?_
        rotate_left
        · intro X hX
          first | (go_simp; done) | (go_simp; with_reducible rfl)
        try simp only [Act.put, List.getElem_toArray, List.getElem_cons_succ, List.getElem_cons_zero, List.setIfInBounds_toArray, List.set_cons_zero, List.set_cons_succ]
        refine wpAnyH_take (i := 18) (v := ?_) rfl (by kernel_rfl) (by kernel_rfl) (by kernel_rfl) (fun _ _ _ h => h) (Or.inl ⟨by kernel_rfl, ?_⟩) hHeld ?_
        rotate_left
        · intro X hX
          first | (go_simp; done) | (go_simp; with_reducible rfl)
        try simp only [Act.put, List.getElem_toArray, List.getElem_cons_succ, List.getElem_cons_zero, List.setIfInBounds_toArray, List.set_cons_zero, List.set_cons_succ]
        refine wpAnyH_ready (rs := [19]) (by kernel_rfl) (by simp) ?_
        refine AllReadyH.cons rfl (fun K hK => ?_) AllReadyH.nil
        obtain ⟨na, nk, hv1⟩ : ∃ na nk, v1 = .slice na (rest.length + 1) nk := (by have h9 := rows_form (layHeldS.read O6.out); rw [List.length_append] at h9; exact h9)
        rw [hv1] at O6 ⊢
        have y0_ : X5.cell? ⟨q, 0, none⟩ = some u5 := V6.out.cell 0
        have g0_ := V6.out.free 0
        go_simp
        have hc : Only q X5 (X5.setCell ⟨q, 0, none⟩ (.slice na (rest.length + 1) nk)) := Only.setCell 0 _
        have hb9 := hHeld.out.trans (hc.below hb2 (by have := V6.out.lt; omega))
        have V7 : Hid (VarA q ShelfT #[.slice na (rest.length + 1) nk] (X5.setCell ⟨q, 0, none⟩ (.slice na (rest.length + 1) nk))) := Lib.hid (V6.out.set 0 _)
        have E : Hid (Q (.returned (.int .i64 (rest.length : Nat))) (X5.setCell ⟨q, 0, none⟩ (.slice na (rest.length + 1) nk))) := Lib.hid (HPG.out _ _ f6 _ rfl V7.out (layHeldS.keep O6.out (fun a ha => hc.block a (layHeldS.blocks O6.out a ha).2 (fun e => NQ6.out (e ▸ ha)))) N6.out NQ6.out hb9)
        refine hK.out _ _ (Lib.hid hb9) (fun hHeld => ?_)
        clear hK K y0_ g0_ hc hb9 O6 V6 N6 NQ6 hv1
        generalize (X5.setCell ⟨q, 0, none⟩ (.slice na (rest.length + 1) nk)) = X6 at *
        try simp only [Act.put, List.getElem_toArray, List.getElem_cons_succ, List.getElem_cons_zero, List.setIfInBounds_toArray, List.set_cons_zero, List.set_cons_succ]
        refine wpAnyH_done (by kernel_rfl) ?_ _
        have y0_ : X6.cell? ⟨q, 0, none⟩ = some (.slice na (rest.length + 1) nk) := V7.out.cell 0
        have hwn : IntKind.i64.wrap (((rest.length + 1 : Nat) : Int) - 1) = (rest.length : Int) := by rw [IntKind.wrap_i64]; omega
        clear hHeld
        go_wp2_with fail
        exact E.out
end Go.Proofs.Ythiicpbedgcmlaa
