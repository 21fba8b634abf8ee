/-
  The given TakeAll.
  The program's TakeAll.
-/
import Derived.Test.YtogninaejehinaeJ11
import Derived.Test.YtogninaejehinaeJ01
import Derived.Test.YtogninaejehinaeJ13
import Derived.Test.YtogninaejehinaeJ12
namespace Go.Proofs.Ytogninaejehinae
open Go.RowKit

theorem takes_len {l seen r : List Int} (h : TakesIs l seen r) : r.length ≤ l.length := by
  induction l generalizing seen r with
  | nil => rw [show r = [] from h]; simp
  | cons n l ih =>
    rcases h with ⟨_, s, t, _, ht, rfl⟩ | ⟨_, h⟩
    · have := ih ht
      simp only [List.length_cons]
      omega
    · have := ih h
      simp only [List.length_cons]
      omega
/-- Two rows of ints apart: what was seen, and what was taken. -/
structure TwoR (lo : Nat) (v u : Value) (f : List Nat) (seen out : List Int) (X : World) : Prop where
  s : layIntS.own X lo f [v] seen
  o : layIntS.own X lo (blk u) [u] out
  ap : ∀ g ∈ f, g ∉ blk u
theorem TwoR.next {lo : Nat} {v u : Value} {f : List Nat} {seen out : List Int} {X Y : World} (h : TwoR lo v u f seen out X) (hb : Below X.heap.size X Y) : TwoR lo v u f seen out Y := ⟨layIntS.next h.s hb, layIntS.next h.o hb, h.ap⟩

set_option maxRecDepth 100000 in
set_option maxHeartbeats 3200000 in
theorem specTakeAll_any (xs : List Int) (v : Value) (r : List Int) (hr : TakesIs xs [] r) (hl : xs.length ≤ 1048576) (w : World) (h : layIntS.rd w [v] xs) :
    Calls Try.prog 8 #[v] w fun e w' => OutS layIntS w r e w' := by
  obtain ⟨ao, cp, rfl⟩ := rows_form h
  obtain ⟨i0, hi0, hz0, hsz0, hby0⟩ := info_of infoInt
  have HR := Lib.hid h
  have HN := Lib.hid hr
  clear h hr
  obtain ⟨Q, HQ⟩ : ∃ Q : Ending → World → Prop, Hid (Q = fun e w' => OutS layIntS w r e w') := ⟨_, Lib.hid rfl⟩
  rw [← HQ.out]
  have e1 : (w.alloc (.cells #[] 3)).heap.size = w.heap.size + 1 := by simp
  have T0 : Hid (TwoR w.heap.size (.slice (some ⟨w.heap.size, 0, none⟩) 0 0) (.slice (some ⟨w.heap.size + 1, 0, none⟩) 0 0) [w.heap.size] [] [] ((w.alloc (.cells #[] 3)).alloc (.cells #[] 3))) := Lib.hid ⟨layIntS.next (flat_lit w _ (Nat.le_refl _)) ((Below.refl _ _).alloc (Nat.le_refl _) _), (by
    have h1 : layIntS.own ((w.alloc (.cells #[] 3)).alloc (.cells #[] 3)) w.heap.size [(w.alloc (.cells #[] 3)).heap.size] [.slice (some ⟨(w.alloc (.cells #[] 3)).heap.size, 0, none⟩) 0 0] [] := flat_lit (w.alloc (.cells #[] 3)) _ (by rw [e1]; omega)
    rw [e1] at h1
    exact h1), fun g hg hm => by
      rw [List.mem_singleton] at hg
      have : g = w.heap.size + 1 := by simpa [blk, Value.ownBlock] using hm
      omega⟩
  have B0 : Hid (Below w.heap.size w ((w.alloc (.cells #[] 3)).alloc (.cells #[] 3))) := Lib.hid (((Below.refl w.heap.size w).alloc (Nat.le_refl _) _).alloc (by rw [e1]; omega) _)
  clear e1
  go_enter Try.func8, Try.ntmps8
  go_upto_region 3 with fail
  generalize (w.alloc (.cells #[] 3)).alloc (.cells #[] 3) = Y1 at *
  go_wp2_with fail
  go_loopw [3, 4, 5] (fun s t c wr => ∃ (j : Nat) (f : List Nat) (seen out rest : List Int), j ≤ xs.length ∧ c = .int .i64 j ∧ Hid (TwoR w.heap.size s t f seen out wr) ∧ Hid (seen.length ≤ 6) ∧ Hid (out.length ≤ j) ∧ Hid (r = out ++ rest) ∧ Hid (TakesIs (xs.drop j) seen rest) ∧ Hid (Below w.heap.size w wr)) (fun _ _ c _ => xs.length - (intOf c).toNat)
  case atStart => exact ⟨0, _, [], [], r, Nat.zero_le _, rfl, T0, Lib.hid (by simp), Lib.hid (by simp), Lib.hid rfl, Lib.hid (by rw [List.drop_zero]; exact HN.out), B0⟩
  case round =>
    obtain ⟨j, f, seen, out, rest, hj, rfl, HT, HS6, HOJ, HRO, HTK, HB⟩ := hrel
    clear T0 B0
    obtain ⟨sa, sk, rfl⟩ := rows_form (layIntS.read HT.out.s)
    obtain ⟨oa, ok, rfl⟩ := rows_form (layIntS.read HT.out.o)
    by_cases hlt : j < xs.length
    · have hlt' : (j : Int) < (xs.length : Int) := by omega
      have HRW := layIntS.below HR.out HB.out
      obtain ⟨g2, off, c2, hv, hg2, c0⟩ := ints_get HRW j hlt
      simp only [Value.slice.injEq] at hv
      obtain ⟨rfl, -, rfl⟩ := hv
      have htk := HTK.out
      rw [List.drop_eq_getElem_cons hlt] at htk
      have hs6 : seen.length ≤ 6 := HS6.out
      clear HRW HTK
      generalize xs[j] = x at *
      by_cases hf : FreshP seen x
      · obtain ⟨s2, t2, hn2, ht2, hrest⟩ : ∃ s t, NoteIs seen x s ∧ TakesIs (xs.drop (j + 1)) s t ∧ rest = x :: t := by
          rcases htk with ⟨_, s, t, h1, h2, h3⟩ | ⟨h, _⟩
          · exact ⟨s, t, h1, h2, h3⟩
          · exact absurd hf h
        have HN2 := Lib.hid hn2
        have HT2 := Lib.hid ht2
        have HS2 : Hid (s2.length ≤ 6) := Lib.hid (note_right hf hn2).1.1
        have HR2 : Hid (r = (out ++ [x]) ++ t2) := Lib.hid (by rw [HRO.out, hrest]; simp)
        have K := Lib.hid (specIsFresh_bool seen x _ true ⟨fun _ => hf, fun _ => rfl⟩ (by omega) wr (layIntS.read HT.out.s))
        clear htk hn2 ht2 hrest hf
        go_wp2_with fail
        refine (K.out).mono ?_
        rintro e X1 ⟨rfl, hb⟩
        have HT1 := Lib.hid (HT.out.next hb)
        have HB1 := Lib.hid (HB.out.trans (hb.mono HB.out.size))
        have c1 : X1.cell? ⟨g2, off + j, none⟩ = some (.int .i64 x) := (hb.cell (p := ⟨g2, off + j, none⟩) (cell_size c0)).trans c0
        have hw1 : w.heap.size ≤ X1.heap.size := HB1.out.size
        have hg1 : g2 < w.heap.size := by
          have h9 := ints_at HR.out hlt rfl
          exact cell_size (p := ⟨g2, off + j, none⟩) h9
        have hol : out.length + 1 ≤ 1000000000 := by have := HOJ.out; omega
        clear hb K HT HB c0
        go_wp2_with (at_builtin; refine wpList_pushT X1 rfl _ _ 24 rfl w.heap.size 3 i0 _ 8 Lay.int flatIntN Try.underlying24 hi0 hz0 hsz0 hby0 rfl (by omega) (.slice oa out.length ok) (blk (.slice oa out.length ok)) out (by rfl) HT1.out.o x #[.int .i64 x] rfl (by rfl) hol hw1 ?_; intro v1 w3 hown1 hnn1 hbk hgr1 hbe1; have c3 : w3.cell? ⟨g2, off + j, none⟩ = some (.int .i64 x) := (hbe1.cell (p := ⟨g2, off + j, none⟩) hg1).trans c1)
        have hchg : Chg (blk (.slice oa out.length ok)) X1 w3 := Chg.grown hgr1 _ (fun k hk => by simp [blk, hk])
        have HT3 : Hid (TwoR w.heap.size (.slice sa seen.length sk) v1 f seen (out ++ [x]) w3) := Lib.hid ⟨layIntS.chg HT1.out.s hchg HT1.out.ap, hown1, fun g hg hm => by
          rcases hbk with h | h
          · rw [h] at hm
            exact HT1.out.ap g hg hm
          · have h1 := h g hm
            have h2 := (layIntS.blocks HT1.out.s g hg).2
            omega⟩
        have HB3 := Lib.hid (HB1.out.trans hbe1)
        have K2 := Lib.hid (specNoteSeen_any seen x _ s2 HN2.out (by omega) w3 (layIntS.read HT3.out.s))
        clear hown1 hnn1 hgr1 hbe1 hchg hbk HT1 HB1 c1 hg1
        obtain ⟨oa3, ok3, rfl⟩ := rows_form (layIntS.read HT3.out.o)
        go_wp2_with fail
        refine (K2.out).mono ?_
        rintro e X4 ⟨v4, f4, rfl, hd4, ho4, hb4⟩
        have HT4 : Hid (TwoR w.heap.size v4 (.slice oa3 (out ++ [x]).length ok3) f4 s2 (out ++ [x]) X4) := Lib.hid ⟨layIntS.lower ho4 HB3.out.size, layIntS.next HT3.out.o hb4, fun g hg hm => by
          have h1 := (layIntS.blocks ho4 g hg).1
          have h2 := (layIntS.blocks HT3.out.o g hm).2
          omega⟩
        have HB4 := Lib.hid (HB3.out.trans (hb4.mono HB3.out.size))
        have HOJ2 : Hid ((out ++ [x]).length ≤ j + 1) := Lib.hid (by rw [List.length_append]; have := HOJ.out; simp only [List.length_singleton]; omega)
        clear ho4 hb4 hd4 K2 HT3 HB3 c3
        go_wp2_with fail
        go_roundw
        case rel => exact ⟨j + 1, f4, s2, out ++ [x], t2, by omega, by go_num, (by rw [List.length_append] at HT4; exact HT4), HS2, HOJ2, HR2, HT2, HB4⟩
        case measure => simp [intOf]; omega
      · have HTK2 : Hid (TakesIs (xs.drop (j + 1)) seen rest) := Lib.hid (by
          rcases htk with ⟨h, _⟩ | ⟨_, h⟩
          · exact absurd h hf
          · exact h)
        have K := Lib.hid (specIsFresh_bool seen x _ false ⟨fun e => (by cases e), fun e => absurd e hf⟩ (by omega) wr (layIntS.read HT.out.s))
        clear htk hf
        go_wp2_with fail
        refine (K.out).mono ?_
        rintro e X1 ⟨rfl, hb⟩
        have HT1 := Lib.hid (HT.out.next hb)
        have HB1 := Lib.hid (HB.out.trans (hb.mono HB.out.size))
        have HOJ2 : Hid (out.length ≤ j + 1) := Lib.hid (by have := HOJ.out; omega)
        clear hb K HT HB c0
        go_wp2_with fail
        go_roundw
        case rel => exact ⟨j + 1, f, seen, out, rest, by omega, by go_num, HT1, HS6, HOJ2, HRO, HTK2, HB1⟩
        case measure => simp [intOf]; omega
    · have hlt' : ¬ ((j : Int) < (xs.length : Int)) := by omega
      obtain rfl : j = xs.length := by omega
      obtain rfl : r = out := by
        have h1 := HTK.out
        rw [List.drop_length] at h1
        rw [HRO.out, show rest = [] from h1, List.append_nil]
      have E : Hid (Q (.returned (.slice oa r.length ok)) wr) := by
        rw [HQ.out]
        exact Lib.hid ⟨_, _, rfl, blk_dup _, HT.out.o, HB.out⟩
      go_wp2_with fail
      exact E.out

end Go.Proofs.Ytogninaejehinae
namespace Go.Proofs.Ytogninaejehinae
open Go.RowKit

/-- The span in its variable, and the row of what was taken. -/
structure TA (w : World) (f : Int) (b : Nat) (g k : Nat) (out : List Int) (X : World) : Prop where
  v : VarP w.heap.size SpanT (.int .i64 f) (.int .u8 (b : Int)) X
  o : layIntS.own X (w.heap.size + 1) [g] [.slice (some ⟨g, 0, none⟩) out.length k] out
  below : Below w.heap.size w X
theorem TA.taken {w : World} {f f2 : Int} {b b2 : Nat} {g k : Nat} {out : List Int} {X Y : World} (h : TA w f b g k out X) (hv : VarP w.heap.size SpanT (.int .i64 f2) (.int .u8 (b2 : Int)) Y) (hc : Chg [w.heap.size] X Y) : TA w f2 b2 g k out Y :=
  ⟨hv, layIntS.chg h.o hc (fun q hq hm => by have := (layIntS.blocks h.o q hq).1; rw [List.mem_singleton.1 hm] at this; omega), h.below.trans (hc.below (fun q hq => by rw [List.mem_singleton.1 hq]; exact Nat.le_refl _) h.below.size)⟩
theorem TA.grown {w : World} {f : Int} {b : Nat} {g k g2 k2 : Nat} {out out2 : List Int} {X Y : World} (h : TA w f b g k out X) (ho : layIntS.own Y (w.heap.size + 1) [g2] [.slice (some ⟨g2, 0, none⟩) out2.length k2] out2) (hb : Below (w.heap.size + 1) X Y) : TA w f b g2 k2 out2 Y :=
  ⟨⟨by rw [hb.block w.heap.size (by omega)]; exact h.v.row⟩, ho, h.below.trans (hb.mono (Nat.le_succ _))⟩

set_option maxRecDepth 100000 in
set_option maxHeartbeats 3200000 in
theorem implTakeAll_any (xs : List Int) (v : Value) (r : List Int) (hr : TakesIs xs [] r) (hl : xs.length ≤ 1048576) (_hwf : ∀ x ∈ xs, IntZ x) (w : World) (h : layIntS.rd w [v] xs) :
    Calls Try.prog 6 #[v] w fun e w' => OutS layIntS w r e w' := by
  obtain ⟨ao, cp, rfl⟩ := rows_form h
  obtain ⟨i0, hi0, hz0, hsz0, hby0⟩ := info_of infoInt
  have HR := Lib.hid h
  have HN := Lib.hid hr
  clear h hr
  obtain ⟨Q, HQ⟩ : ∃ Q : Ending → World → Prop, Hid (Q = fun e w' => OutS layIntS w r e w') := ⟨_, Lib.hid rfl⟩
  rw [← HQ.out]
  have e1 : (w.alloc (.cells #[.int .i64 0, .int .u8 0] SpanT)).heap.size = w.heap.size + 1 := by simp
  have T0 : Hid (TA w 0 0 (w.heap.size + 1) 0 [] ((w.alloc (.cells #[.int .i64 0, .int .u8 0] SpanT)).alloc (.cells #[] 3))) := Lib.hid ⟨(VarP.new w SpanT _ _).next ((Below.refl _ _).alloc (Nat.le_refl _) _), (by
    have h1 : layIntS.own ((w.alloc (.cells #[.int .i64 0, .int .u8 0] SpanT)).alloc (.cells #[] 3)) (w.heap.size + 1) [(w.alloc (.cells #[.int .i64 0, .int .u8 0] SpanT)).heap.size] [.slice (some ⟨(w.alloc (.cells #[.int .i64 0, .int .u8 0] SpanT)).heap.size, 0, none⟩) 0 0] [] := flat_lit (w.alloc (.cells #[.int .i64 0, .int .u8 0] SpanT)) _ (by rw [e1]; omega)
    rw [e1] at h1
    exact h1), ((Below.refl w.heap.size w).alloc (Nat.le_refl _) _).alloc (by rw [e1]; omega) _⟩
  clear e1
  go_enter Try.func6, Try.ntmps6
  go_upto_region 3 with fail
  generalize (w.alloc (.cells #[.int .i64 0, .int .u8 0] SpanT)).alloc (.cells #[] 3) = Y1 at *
  go_wp2_with fail
  go_loopw [4, 11] (fun t c wr => ∃ (j g k b : Nat) (f : Int) (seen out rest : List Int), j ≤ xs.length ∧ c = .int .i64 j ∧ t = .slice (some ⟨g, 0, none⟩) out.length k ∧ Hid (TA w f b g k out wr) ∧ Hid (SeenP seen) ∧ Hid (SpanIs seen f b) ∧ Hid (out.length ≤ j) ∧ Hid (r = out ++ rest) ∧ Hid (TakesIs (xs.drop j) seen rest)) (fun _ c _ => xs.length - (intOf c).toNat)
  case atStart => exact ⟨0, w.heap.size + 1, 0, 0, 0, [], [], r, Nat.zero_le _, rfl, rfl, T0, Lib.hid seen_none, Lib.hid span_nil, Lib.hid (by simp), Lib.hid rfl, Lib.hid (by rw [List.drop_zero]; exact HN.out)⟩
  case round =>
    obtain ⟨j, g, k, b, f, seen, out, rest, hj, rfl, rfl, HT, HS, HI, HOJ, HRO, HTK⟩ := hrel
    clear T0
    by_cases hlt : j < xs.length
    · have hlt' : (j : Int) < (xs.length : Int) := by omega
      obtain ⟨g2, off, c2, hv, -, c0⟩ := ints_get (layIntS.below HR.out HT.out.below) j hlt
      simp only [Value.slice.injEq] at hv
      obtain ⟨rfl, -, rfl⟩ := hv
      have htk := HTK.out
      rw [List.drop_eq_getElem_cons hlt] at htk
      obtain ⟨hf0, hf1⟩ := span_range HS.out HI.out
      have hb6 := HI.out.lt
      clear HTK
      generalize xs[j] = x at *
      by_cases hf : FreshP seen x
      · obtain ⟨s2, t2, hn2, ht2, hrest⟩ : ∃ s t, NoteIs seen x s ∧ TakesIs (xs.drop (j + 1)) s t ∧ rest = x :: t := by
          rcases htk with ⟨_, s, t, h1, h2, h3⟩ | ⟨h, _⟩
          · exact ⟨s, t, h1, h2, h3⟩
          · exact absurd hf h
        have HT2 := Lib.hid ht2
        have HS2 : Hid (SeenP s2) := Lib.hid (note_right hf hn2).1
        have HI2 : Hid (SpanIs s2 (takeF f x) (takeB f b x)) := Lib.hid (span_take HI.out hf hn2)
        have HR2 : Hid (r = (out ++ [x]) ++ t2) := Lib.hid (by rw [HRO.out, hrest]; simp)
        have K := Lib.hid (take_yes w.heap.size f x b hf0 hf1 hb6 hf.2.1.1 hf.2.1.2 (by have := HI.out.top; have := hf.2.2.2; omega) (fun hlt => by
          have htop := HI.out.top
          have hfr := hf.2.2.2
          rw [Bool.eq_false_iff]
          intro he
          have h2 := (HI.out.bit _ (by omega)).1 he
          rw [show f - (((f - x).toNat : Nat) : Int) = x by omega] at h2
          exact hf.2.2.1 h2) wr HT.out.v)
        clear htk hn2 ht2 hrest hf HI HS
        generalize takeF f x = f2 at *
        generalize takeB f b x = b2 at *
        go_wp2_with fail
        refine (K.out).mono ?_
        rintro e X1 ⟨rfl, hv1, hch1⟩
        have HT1 := Lib.hid (HT.out.taken hv1 hch1)
        have hw1 : w.heap.size + 1 ≤ X1.heap.size := by have := HT1.out.v.row; have := lt_of_block this; omega
        have hol : out.length + 1 ≤ 1000000000 := by have := HOJ.out; omega
        clear hv1 hch1 K HT c0
        go_wp2_with (at_builtin; refine wpList_pushF X1 rfl _ _ 24 rfl (w.heap.size + 1) 3 i0 _ 8 Lay.int flatIntN Try.underlying24 hi0 hz0 hsz0 hby0 rfl (by omega) (.slice (some ⟨g, 0, none⟩) out.length k) [g] out (by rfl) HT1.out.o x #[.int .i64 x] rfl (by rfl) hol hw1 ?_; intro v1 w3 hown1 hnn1 hgr1 hbe1; obtain ⟨m1, mc1, rfl, hblk, _, _⟩ := flat_some flatIntN hown1 hnn1; rw [hblk] at hown1)
        have HT3 : Hid (TA w f2 b2 m1 mc1 (out ++ [x]) w3) := Lib.hid (HT1.out.grown hown1 hbe1)
        have HOJ2 : Hid ((out ++ [x]).length ≤ j + 1) := Lib.hid (by rw [List.length_append]; have := HOJ.out; simp only [List.length_singleton]; omega)
        clear hown1 hnn1 hgr1 hbe1 hblk HT1
        go_wp2_with fail
        go_roundw
        case rel => exact ⟨j + 1, m1, mc1, b2, f2, s2, out ++ [x], t2, by omega, by go_num, by rw [List.length_append]; rfl, HT3, HS2, HI2, HOJ2, HR2, HT2⟩
        case measure => simp [intOf]; omega
      · have HTK2 : Hid (TakesIs (xs.drop (j + 1)) seen rest) := Lib.hid (by
          rcases htk with ⟨h, _⟩ | ⟨_, h⟩
          · exact absurd h hf
          · exact h)
        have K := Lib.hid (take_no w.heap.size f x b hf0 hf1 hb6 (fun h3 => hf ((stand_fresh HS.out HI.out).1 h3)) wr HT.out.v)
        clear htk hf
        go_wp2_with fail
        refine (K.out).mono ?_
        rintro e X1 ⟨rfl, hv1, hch1⟩
        have HT1 := Lib.hid (HT.out.taken hv1 hch1)
        have HOJ2 : Hid (out.length ≤ j + 1) := Lib.hid (by have := HOJ.out; omega)
        clear hv1 hch1 K HT c0
        go_wp2_with fail
        go_roundw
        case rel => exact ⟨j + 1, g, k, b, f, seen, out, rest, by omega, by go_num, rfl, HT1, HS, HI, HOJ2, HRO, HTK2⟩
        case measure => simp [intOf]; omega
    · have hlt' : ¬ ((j : Int) < (xs.length : Int)) := by omega
      obtain rfl : j = xs.length := by omega
      obtain rfl : r = out := by
        have h1 := HTK.out
        rw [List.drop_length] at h1
        rw [HRO.out, show rest = [] from h1, List.append_nil]
      have E : Hid (Q (.returned (.slice (some ⟨g, 0, none⟩) r.length k)) wr) := by
        rw [HQ.out]
        exact Lib.hid ⟨_, [g], rfl, by simp, layIntS.lower HT.out.o (Nat.le_succ _), HT.out.below⟩
      go_wp2_with fail
      exact E.out

end Go.Proofs.Ytogninaejehinae
