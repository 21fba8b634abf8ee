/-
  The given round of a block, by what it answers.
-/
import Derived.Test.YtoaifgblbfdncabDoorJ23
namespace Go.Proofs.YtoaifgblbfdncabDoor
open Go.RowKit

/-- A place ahead of another one, as a number of its own. -/
theorem placeB (t j : Nat) (h : j ≤ t) (ht : t ≤ 1000) : ∃ m : Nat, (t : Int) - (j : Int) = (m : Int) ∧ IntKind.i64.wrap (m : Int) = (m : Int) ∧ Hid (m = t - j) :=
  ⟨t - j, by omega, by rw [IntKind.wrap_i64]; omega, rfl⟩

/-- A row of one's own; what was there ahead of w is as it was. -/
structure OwnG (w : World) (g cap n : Nat) (e : TypeId) (xs : List Nat) (X : World) : Prop where
  own : OwnW X w.heap.size e (.slice (some ⟨g, 0, none⟩) n cap) xs
  below : Below w.heap.size w X
theorem OwnG.next {w : World} {g cap n : Nat} {e : TypeId} {xs : List Nat} {X Y : World} (h : OwnG w g cap n e xs X) (hb : Below X.heap.size X Y) : OwnG w g cap n e xs Y :=
  ⟨h.own.below hb, h.below.trans (hb.mono h.below.size)⟩
/-- Four cells, and what is kept besides. -/
theorem four_next {g : Nat} {p1 p2 p3 p4 : Nat} {u1 u2 u3 u4 : Value} {R : World → Prop} {X Y : World} (hR : R X → R Y)
    (h : X.cell? ⟨g, p1, none⟩ = some u1 ∧ X.cell? ⟨g, p2, none⟩ = some u2 ∧ X.cell? ⟨g, p3, none⟩ = some u3 ∧ X.cell? ⟨g, p4, none⟩ = some u4 ∧ R X) (hb : Below X.heap.size X Y) :
    Y.cell? ⟨g, p1, none⟩ = some u1 ∧ Y.cell? ⟨g, p2, none⟩ = some u2 ∧ Y.cell? ⟨g, p3, none⟩ = some u3 ∧ Y.cell? ⟨g, p4, none⟩ = some u4 ∧ R Y := by
  have hg : g < X.heap.size := cell_size (p := ⟨g, p1, none⟩) h.1
  refine ⟨?_, ?_, ?_, ?_, hR h.2.2.2.2⟩
  · rw [hb.cell (p := ⟨g, p1, none⟩) hg]; exact h.1
  · rw [hb.cell (p := ⟨g, p2, none⟩) hg]; exact h.2.1
  · rw [hb.cell (p := ⟨g, p3, none⟩) hg]; exact h.2.2.1
  · rw [hb.cell (p := ⟨g, p4, none⟩) hg]; exact h.2.2.2.1
theorem four_of {w : World} {g cap n : Nat} {e : TypeId} {xs : List Nat} {X : World} (h : OwnG w g cap n e xs X) (hn : xs.length = n) {p1 p2 p3 p4 x1 x2 x3 x4 : Nat} (h1 : p1 < n) (h2 : p2 < n) (h3 : p3 < n) (h4 : p4 < n) (e1 : x1 = xs.getD p1 0) (e2 : x2 = xs.getD p2 0) (e3 : x3 = xs.getD p3 0) (e4 : x4 = xs.getD p4 0) :
    X.cell? ⟨g, p1, none⟩ = some (.int .u32 x1) ∧ X.cell? ⟨g, p2, none⟩ = some (.int .u32 x2) ∧ X.cell? ⟨g, p3, none⟩ = some (.int .u32 x3) ∧ X.cell? ⟨g, p4, none⟩ = some (.int .u32 x4) ∧ OwnG w g cap n e xs X := by
  subst e1 e2 e3 e4
  exact ⟨h.own.cell hn p1 h1, h.own.cell hn p2 h2, h.own.cell hn p3 h3, h.own.cell hn p4 h4, h⟩
theorem three_next {a1 a2 a3 : Addr} {u1 u2 u3 : Value} {R : World → Prop} {X Y : World} (hR : R X → R Y)
    (h : X.cell? a1 = some u1 ∧ X.cell? a2 = some u2 ∧ X.cell? a3 = some u3 ∧ R X) (hb : Below X.heap.size X Y) :
    Y.cell? a1 = some u1 ∧ Y.cell? a2 = some u2 ∧ Y.cell? a3 = some u3 ∧ R Y := by
  refine ⟨?_, ?_, ?_, hR h.2.2.2⟩
  · rw [hb.cell (p := a1) (cell_size (p := a1) h.1)]; exact h.1
  · rw [hb.cell (p := a2) (cell_size (p := a2) h.2.1)]; exact h.2.1
  · rw [hb.cell (p := a3) (cell_size (p := a3) h.2.2.1)]; exact h.2.2.1
theorem keep_three {P : Program} {f : FuncId} {args : Array Value} {r : Ending} {w : World} {g cap n : Nat} {e : TypeId} {xs : List Nat} (hc : ∀ X, Calls P f args X fun e X' => e = r ∧ Below X.heap.size X X') (a1 a2 a3 : Addr) (u1 u2 u3 : Value) (X : World)
    (h : X.cell? a1 = some u1 ∧ X.cell? a2 = some u2 ∧ X.cell? a3 = some u3 ∧ OwnG w g cap n e xs X) :
    Calls P f args X fun e' Y => e' = r ∧ Y.cell? a1 = some u1 ∧ Y.cell? a2 = some u2 ∧ Y.cell? a3 = some u3 ∧ OwnG w g cap n e xs Y :=
  (hc X).mono fun _ _ ⟨he, hb⟩ => ⟨he, three_next (fun k => k.next hb) h hb⟩

/-- A sum of words, as a number of its own. -/
theorem addW (x y : Nat) : ∃ z : Nat, IntKind.u32.wrap ((x : Int) + (y : Int)) = (z : Int) ∧ z < 4294967296 ∧ Hid (z = (x + y) % 4294967296) := ⟨(x + y) % 4294967296, by rw [IntKind.wrap_u32]; omega, Nat.mod_lt _ (by decide), rfl⟩
theorem andV (x y : Nat) (hx : x < 4294967296) (hy : y < 4294967296) : ∃ z : Nat, bits .and .u32 (x : Int) (y : Int) = (z : Int) ∧ z < 4294967296 ∧ Hid (z = x &&& y) :=
  ⟨x &&& y, andW x y hx hy, Nat.lt_of_le_of_lt Nat.and_le_right hy, rfl⟩
theorem xorV (x y : Nat) (hx : x < 4294967296) (hy : y < 4294967296) : ∃ z : Nat, bits .xor .u32 (x : Int) (y : Int) = (z : Int) ∧ z < 4294967296 ∧ Hid (z = x ^^^ y) :=
  ⟨x ^^^ y, xor_u32 x y hx hy, Nat.xor_lt_two_pow (n := 32) hx hy, rfl⟩

theorem keep_four {P : Program} {f : FuncId} {args : Array Value} {r : Ending} {w : World} {g cap n : Nat} {e : TypeId} {xs : List Nat} (hc : ∀ X, Calls P f args X fun e X' => e = r ∧ Below X.heap.size X X') (p1 p2 p3 p4 : Nat) (u1 u2 u3 u4 : Value) (X : World)
    (h : X.cell? ⟨g, p1, none⟩ = some u1 ∧ X.cell? ⟨g, p2, none⟩ = some u2 ∧ X.cell? ⟨g, p3, none⟩ = some u3 ∧ X.cell? ⟨g, p4, none⟩ = some u4 ∧ OwnG w g cap n e xs X) :
    Calls P f args X fun e' Y => e' = r ∧ Y.cell? ⟨g, p1, none⟩ = some u1 ∧ Y.cell? ⟨g, p2, none⟩ = some u2 ∧ Y.cell? ⟨g, p3, none⟩ = some u3 ∧ Y.cell? ⟨g, p4, none⟩ = some u4 ∧ OwnG w g cap n e xs Y :=
  (hc X).mono fun _ _ ⟨he, hb⟩ => ⟨he, four_next (fun k => k.next hb) h hb⟩

set_option maxRecDepth 100000 in
set_option maxHeartbeats 1600000 in
theorem specRound_any (gs cs gk ck : Nat) (st : List Nat) (hst : Words st) (hst8 : st.length = 8) (s : ByteArray) (hs : s.size = 64) (w : World)
    (hcs : ∀ j, j < 8 → w.cell? ⟨gs, j, none⟩ = some (.int .u32 (st.getD j 0 : Nat))) (hck : ∀ j, j < 64 → w.cell? ⟨gk, j, none⟩ = some (.int .u32 (kTab.getD j 0 : Nat))) (hgs : gs < w.heap.size) (hgk : gk < w.heap.size) :
    Calls Tryd.prog 49 #[.slice (some ⟨gs, 0, none⟩) 8 cs, .slice (some ⟨gk, 0, none⟩) 64 ck, .string s] w fun e w' => ∃ v, e = .returned v ∧ OwnW w' w.heap.size 57 v (roundOf st s.data.toList) ∧ Below w.heap.size w w' := by
  obtain ⟨i0, hi, hz0, hz1, hz2⟩ := info_parts infoWord
  have HCS := Lib.hid hcs
  have HCK := Lib.hid hck
  clear hcs hck
  have H1 := Lib.hid (specWords_any s (by omega))
  go_enter Tryd.func49, Tryd.ntmps49
  go_wp2_with fail
  refine (H1.out _).mono ?_
  rintro e w1 ⟨v, rfl, hown, hb1⟩
  have hl0 : (wordsOf s.data.toList).length = 16 := by rw [wordsOf_length]; simp; omega
  have hw0 := wordsOf_words s.data.toList
  obtain ⟨W0, HW0⟩ : ∃ W0, Hid (W0 = wordsOf s.data.toList) := ⟨_, rfl⟩
  rw [← HW0.out] at hown hl0 hw0
  have HO1 := Lib.hid hown
  have HB1 := Lib.hid hb1
  clear hown hb1 H1
  go_wp2_with fail
  go_loopw [7, 8] (fun v i wr => ∃ k : Nat, k ≤ 48 ∧ i = .int .i64 ((16 + k : Nat) : Int) ∧ OwnW wr w.heap.size 57 v (grow W0 k) ∧ Below w.heap.size w wr) (fun _ i _ => 64 - (intOf i).toNat)
  case atStart =>
    exact ⟨0, by omega, rfl, HO1.out, HB1.out⟩
  case round =>
    obtain ⟨k, hk, rfl, hown, hnx⟩ := hrel
    obtain ⟨t, ht, HT⟩ : ∃ t : Nat, t ≤ 64 ∧ Hid (t = 16 + k) := ⟨16 + k, by omega, rfl⟩
    rw [← HT.out]
    have hlen : (grow W0 k).length = t := by rw [grow_length, hl0, HT.out]
    have hwk := grow_words W0 hw0 k
    obtain ⟨xs, HXS⟩ : ∃ xs, Hid (xs = grow W0 k) := ⟨_, rfl⟩
    rw [← HXS.out] at hown hlen hwk
    obtain ⟨g, cap, rfl, hg0, hg1, hcell⟩ := hown.form (by rw [hlen, HT.out]; omega)
    rw [hlen] at hown hcell ⊢
    by_cases hlt : (t : Int) < 64
    · obtain ⟨p2, a2, b2, P2⟩ := placeB t 2 (by rw [HT.out]; omega) (by omega)
      obtain ⟨p7, a7, b7, P7⟩ := placeB t 7 (by rw [HT.out]; omega) (by omega)
      obtain ⟨p15, a15, b15, P15⟩ := placeB t 15 (by rw [HT.out]; omega) (by omega)
      obtain ⟨p16, a16, b16, P16⟩ := placeB t 16 (by rw [HT.out]; omega) (by omega)
      have d2 : (p2 : Int) < (t : Int) := by have := P2.out; have := HT.out; omega
      have d7 : (p7 : Int) < (t : Int) := by have := P7.out; have := HT.out; omega
      have d15 : (p15 : Int) < (t : Int) := by have := P15.out; have := HT.out; omega
      have d16 : (p16 : Int) < (t : Int) := by have := P16.out; have := HT.out; omega
      have a2' : (t : Int) - 2 = (p2 : Int) := a2
      have a7' : (t : Int) - 7 = (p7 : Int) := a7
      have a15' : (t : Int) - 15 = (p15 : Int) := a15
      have a16' : (t : Int) - 16 = (p16 : Int) := a16
      clear a2 a7 a15 a16
      have l2 := hwk.at p2
      have l7 := hwk.at p7
      have l15 := hwk.at p15
      have l16 := hwk.at p16
      have hz : nextW xs = (ss1 (xs.getD p2 0) + xs.getD p7 0 + ss0 (xs.getD p15 0) + xs.getD p16 0) % 4294967296 := by unfold nextW; rw [hlen, P2.out, P7.out, P15.out, P16.out]
      have HZ := Lib.hid hz
      clear hz
      obtain ⟨x2, X2⟩ : ∃ x, Hid (x = xs.getD p2 0) := ⟨_, rfl⟩
      obtain ⟨x7, X7⟩ : ∃ x, Hid (x = xs.getD p7 0) := ⟨_, rfl⟩
      obtain ⟨x15, X15⟩ : ∃ x, Hid (x = xs.getD p15 0) := ⟨_, rfl⟩
      obtain ⟨x16, X16⟩ : ∃ x, Hid (x = xs.getD p16 0) := ⟨_, rfl⟩
      rw [← X2.out] at l2 HZ
      rw [← X7.out] at l7 HZ
      rw [← X15.out] at l15 HZ
      rw [← X16.out] at l16 HZ
      have HF := Lib.hid (fun X (h : OwnG w g cap t 57 xs X) => four_of h hlen (show p2 < t by omega) (show p7 < t by omega) (show p15 < t by omega) (show p16 < t by omega) X2.out X7.out X15.out X16.out)
      have k2 : ∀ X, Calls Tryd.prog 65 #[.int .u32 (x2 : Nat), .int .u32 131072, .int .u32 524288, .int .u32 1024, .bool true] X fun e X' => e = .returned (.int .u32 (ss1 x2 : Nat)) ∧ Below X.heap.size X X' := specS_any x2 131072 524288 1024 true l2 (by unfold Halves; decide) (by unfold Halves; decide) (by unfold Halves; decide)
      have k15 : ∀ X, Calls Tryd.prog 65 #[.int .u32 (x15 : Nat), .int .u32 128, .int .u32 262144, .int .u32 8, .bool true] X fun e X' => e = .returned (.int .u32 (ss0 x15 : Nat)) ∧ Below X.heap.size X X' := specS_any x15 128 262144 8 true l15 (by unfold Halves; decide) (by unfold Halves; decide) (by unfold Halves; decide)
      have m2 := ss1_lt x2 l2
      have m15 := ss0_lt x15 l15
      generalize ss1 x2 = y2 at *
      generalize ss0 x15 = y15 at *
      have K2 := Lib.hid (keep_four (w := w) (g := g) (cap := cap) (n := t) (e := 57) (xs := xs) k2 p2 p7 p15 p16 (.int .u32 x2) (.int .u32 x7) (.int .u32 x15) (.int .u32 x16))
      have K15 := Lib.hid (keep_four (w := w) (g := g) (cap := cap) (n := t) (e := 57) (xs := xs) k15 p2 p7 p15 p16 (.int .u32 x2) (.int .u32 x7) (.int .u32 x15) (.int .u32 x16))
      have HY : Hid (((((y2 : Int) + (x7 : Int)) % 4294967296 + (y15 : Int)) % 4294967296 + (x16 : Int)) % 4294967296 = ((nextW xs : Nat) : Int)) := by
        show _ = _
        rw [HZ.out]
        omega
      have S0 := Lib.hid (show wr.cell? ⟨g, p2, none⟩ = some (.int .u32 x2) ∧ wr.cell? ⟨g, p7, none⟩ = some (.int .u32 x7) ∧ wr.cell? ⟨g, p15, none⟩ = some (.int .u32 x15) ∧ wr.cell? ⟨g, p16, none⟩ = some (.int .u32 x16) ∧ OwnG w g cap t 57 xs wr from HF.out _ ⟨hown, hnx⟩)
      clear k2 k15 hcell hown
      go_wp2_with fail
      go_region_held3 (fun X => X.cell? ⟨g, p2, none⟩ = some (.int .u32 x2) ∧ X.cell? ⟨g, p7, none⟩ = some (.int .u32 x7) ∧ X.cell? ⟨g, p15, none⟩ = some (.int .u32 x15) ∧ X.cell? ⟨g, p16, none⟩ = some (.int .u32 x16) ∧ OwnG w g cap t 57 xs X) (first | assumption | (exact ⟨by assumption, by assumption, by assumption, by assumption, by assumption⟩) | exact four_next (fun k => k.next ((Below.refl _ _).drew)) S0.out ((Below.refl _ _).drew) | (refine four_next (fun k => k.next ?_) (by assumption) ?_ <;> exact ((Below.refl _ _).alloc (Nat.le_refl _) _))) (first | (refine step_pushW rfl (.tmp 25) (.tmp 51) 71 rfl w.heap.size 57 i0 Tryd.underlying71 hi hz0 hz1 hz2 g cap t xs rfl hlen (OwnG.own (by assumption)) (nextW xs) _ rfl HY.out (by omega) (Below.size (OwnG.below (by assumption))) ?_; intro v' w5 hown5 hnx5 hold5; have hS5 := HF.out _ ⟨hold5, Below.trans (OwnG.below (by assumption)) hnx5⟩) | (go_at_call_of 65 (Value.int IntKind.u32 (x2 : Int)); refine (K2.out _ (by assumption)).mono ?_; rintro e v1 ⟨rfl, q1, q2, q3, q4, q5⟩) | (go_at_call_of 65 (Value.int IntKind.u32 (x15 : Int)); refine (K15.out _ (by assumption)).mono ?_; rintro e v1 ⟨rfl, q1, q2, q3, q4, q5⟩))
      all_goals
        go_wp2_with fail
        go_roundw
        case rel =>
          refine ⟨k + 1, by have := HT.out; omega, by have := HT.out; go_num, ?_, OwnG.below (And.right (And.right (And.right (And.right hS5))))⟩
          rw [grow, ← HXS.out]
          exact hown5
        case measure => simp [intOf]; omega
    · have hk48 : t = 64 := by have := HT.out; omega
      subst hk48
      have hkk : k = 48 := by have := HT.out; omega
      have HG : Hid (xs = grow W0 48) := by rw [← hkk]; exact HXS
      obtain ⟨w2, e2⟩ : ∃ w2, w2 = wr := ⟨_, rfl⟩
      subst e2
      have HCG := Lib.hid hcell
      have HN := Lib.hid hnx
      have hgs2 : gs < w2.heap.size := Nat.lt_of_lt_of_le hgs hnx.size
      have hgk2 : gk < w2.heap.size := Nat.lt_of_lt_of_le hgk hnx.size
      have hlit := OwnW.lit w2 w2.heap.size 57 (Nat.le_refl _)
      have hcs2 : ∀ j, j < 8 → (w2.alloc (.cells #[] 57)).cell? ⟨gs, j, none⟩ = some (.int .u32 (st.getD j 0 : Nat)) := fun j hj => by
        rw [World.cell?_alloc_lt w2 _ ⟨gs, j, none⟩ hgs2, hnx.cell (p := ⟨gs, j, none⟩) hgs]
        exact HCS.out j hj
      have HC2 := Lib.hid hcs2
      have hsz2 : w2.heap.size ≤ (w2.alloc (.cells #[] 57)).heap.size := by simp
      clear hcell hnx hown HXS hcs2 HT hkk
      go_wp2_with (at_builtin; refine wpList_joinW _ rfl _ _ 71 rfl w2.heap.size 57 i0 Tryd.underlying71 hi hz0 hz1 hz2 _ [] rfl hlit gs 8 cs st rfl hst8 HC2.out (by show 0 + 8 ≤ _; omega) hsz2 ?_)
      intro v' w3 hown3 hb3
      obtain ⟨gv, capv, rfl, hv0, hv1, hcellv⟩ := hown3.form (by omega)
      rw [hst8] at hown3 hcellv ⊢
      have HO3 := Lib.hid hown3
      have HB3 : Hid (Below w2.heap.size w2 w3) := Lib.hid (((Below.refl _ _).alloc (Nat.le_refl _) _).trans hb3)
      clear hown3 hb3 hcellv hlit hsz2 HC2
      go_wp2_with fail
      go_loopw [10] (fun i wx => ∃ m : Nat, m ≤ 64 ∧ i = .int .i64 (m : Int) ∧ OwnG w2 gv capv 8 57 (runE (Eight.of st) kTab xs m).toList wx) (fun i _ => 64 - (intOf i).toNat)
      case atStart =>
        exact ⟨0, by omega, rfl, by show OwnW w3 w2.heap.size _ _ (Eight.of st).toList; rw [toList_of st hst8]; exact HO3.out, HB3.out⟩
      case round =>
        obtain ⟨m, hm, rfl, hg⟩ := hrel
        by_cases hlt2 : (m : Int) < 64
        · have hV := runE_ok (Eight.of st) (Eight.of_ok hst) kTab xs m
          have hnext : (runE (Eight.of st) kTab xs (m + 1)) = stepE (runE (Eight.of st) kTab xs m) (kTab.getD m 0) (xs.getD m 0) := rfl
          have HNX := Lib.hid hnext
          clear hnext
          generalize runE (Eight.of st) kTab xs m = V at *
          obtain ⟨la, lb, lc, ld, le, lf, lg, lh⟩ := hV
          have hcv : ∀ j, j < 8 → wr.cell? ⟨gv, j, none⟩ = some (.int .u32 (V.toList.getD j 0 : Nat)) := hg.own.cell rfl
          have c4 : wr.cell? ⟨gv, 4, none⟩ = some (.int .u32 (V.e : Nat)) := hcv 4 (by omega)
          have c5 : wr.cell? ⟨gv, 5, none⟩ = some (.int .u32 (V.f : Nat)) := hcv 5 (by omega)
          have c6 : wr.cell? ⟨gv, 6, none⟩ = some (.int .u32 (V.g : Nat)) := hcv 6 (by omega)
          clear hcv
          obtain ⟨ne, hne, lne, NE⟩ : ∃ z : Nat, (4294967295 : Int) - (V.e : Int) = (z : Int) ∧ z < 4294967296 ∧ Hid (z = 4294967295 - V.e) := ⟨4294967295 - V.e, by omega, by omega, rfl⟩
          have hwne : IntKind.u32.wrap (ne : Int) = (ne : Int) := by rw [IntKind.wrap_u32]; omega
          obtain ⟨u1, hu1, lu1, U1⟩ := andV V.e V.f le lf
          obtain ⟨u2, hu2, lu2, U2⟩ := andV ne V.g lne lg
          obtain ⟨ch, hch, lch, CH⟩ := xorV u1 u2 lu1 lu2
          have HGX := Lib.hid hg
          clear hg
          go_wp2_with fail
          go_quiet (fail)
          have HG1 := Lib.hid (HGX.out.next (below_drewN (Below.refl _ wr) nq))
          generalize wr.drewN nq = X1 at HG1
          clear HGX c4 c5 c6 hne hwne hu1 hu2 hch
          have HC : Hid (ch = chO V.e V.f V.g) := by show ch = _; unfold chO; rw [CH.out, U1.out, U2.out, NE.out]
          clear NE U1 U2 CH lu1 lu2 lne
          have hgv8 : ∀ Y, OwnG w2 gv capv 8 57 V.toList Y → ∀ j, j < 8 → Y.cell? ⟨gv, j, none⟩ = some (.int .u32 (V.toList.getD j 0 : Nat)) := fun Y h => h.own.cell rfl
          have HV8 := Lib.hid hgv8
          have hkc : X1.cell? ⟨gk, m, none⟩ = some (.int .u32 (kTab.getD m 0 : Nat)) := by
            rw [HG1.out.below.cell (p := ⟨gk, m, none⟩) hgk2, HN.out.cell (p := ⟨gk, m, none⟩) hgk]
            exact HCK.out m (by omega)
          have hwc : X1.cell? ⟨g, m, none⟩ = some (.int .u32 (xs.getD m 0 : Nat)) := by
            rw [HG1.out.below.cell (p := ⟨g, m, none⟩) hg1]
            exact HCG.out m (by omega)
          have lkk := kTab_words.at m
          have lww := hwk.at m
          obtain ⟨kk, KK⟩ : ∃ kk, Hid (kk = kTab.getD m 0) := ⟨_, rfl⟩
          obtain ⟨ww, WW⟩ : ∃ ww, Hid (ww = xs.getD m 0) := ⟨_, rfl⟩
          rw [← KK.out] at hkc lkk HNX
          rw [← WW.out] at hwc lww HNX
          have k1 : ∀ X, Calls Tryd.prog 65 #[.int .u32 (V.e : Nat), .int .u32 64, .int .u32 2048, .int .u32 33554432, .bool false] X fun e X' => e = .returned (.int .u32 (bs1 V.e : Nat)) ∧ Below X.heap.size X X' := specS_any V.e 64 2048 33554432 false le (by unfold Halves; decide) (by unfold Halves; decide) (by unfold Halves; decide)
          have ls1 := bs1_lt V.e le
          obtain ⟨s1, S1⟩ : ∃ s1, Hid (s1 = bs1 V.e) := ⟨_, rfl⟩
          rw [← S1.out] at k1 ls1
          have K1 := Lib.hid (keep_three (w := w2) (g := gv) (cap := capv) (n := 8) (e := 57) (xs := V.toList) k1 ⟨gv, 7, none⟩ ⟨gk, m, none⟩ ⟨g, m, none⟩ (.int .u32 (V.h : Nat)) (.int .u32 kk) (.int .u32 ww))
          have S0 : Hid (X1.cell? ⟨gv, 7, none⟩ = some (.int .u32 (V.h : Nat)) ∧ X1.cell? ⟨gk, m, none⟩ = some (.int .u32 kk) ∧ X1.cell? ⟨g, m, none⟩ = some (.int .u32 ww) ∧ OwnG w2 gv capv 8 57 V.toList X1) := ⟨HV8.out X1 HG1.out 7 (by omega), hkc, hwc, HG1.out⟩
          obtain ⟨r1, hr1, lr1, R1⟩ := addW V.h s1
          obtain ⟨r2, hr2, lr2, R2⟩ := addW r1 ch
          obtain ⟨r3, hr3, lr3, R3⟩ := addW r2 kk
          obtain ⟨t1, ht1, lt1, T1⟩ := addW r3 ww
          have HT1 : Hid (t1 = t1Of V kk ww) := by
            show t1 = _
            unfold t1Of
            rw [T1.out, R3.out, R2.out, R1.out, S1.out, HC.out]
            simp only [Nat.mod_add_mod]
          clear k1 hkc hwc hgv8 KK WW R1 R2 R3 T1 S1 HC
          go_wp2_with fail
          go_cut [13] (fun v wy => v = .int .u32 (t1 : Int) ∧ Hid (OwnG w2 gv capv 8 57 V.toList wy))
          case first =>
            go_region_held3 (fun X => X.cell? ⟨gv, 7, none⟩ = some (.int .u32 (V.h : Nat)) ∧ X.cell? ⟨gk, m, none⟩ = some (.int .u32 kk) ∧ X.cell? ⟨g, m, none⟩ = some (.int .u32 ww) ∧ OwnG w2 gv capv 8 57 V.toList X) (first | assumption | (exact ⟨by assumption, by assumption, by assumption, by assumption⟩) | exact three_next (fun k => k.next ((Below.refl _ _).drew)) S0.out ((Below.refl _ _).drew)) (first | (go_at_call 65; refine (K1.out _ (by assumption)).mono ?_; rintro e v1 ⟨rfl, q1, q2, q3, q4⟩))
            all_goals
              go_wp2_with fail
              go_meet
              exact ⟨rfl, Lib.hid (by assumption)⟩
          case rest =>
            obtain ⟨rfl, HG2⟩ := hcut
            obtain ⟨X2, e2⟩ : ∃ X2, X2 = wc := ⟨_, rfl⟩
            subst e2
            have c0 : X2.cell? ⟨gv, 0, none⟩ = some (.int .u32 (V.a : Nat)) := HV8.out X2 HG2.out 0 (by omega)
            have c1 : X2.cell? ⟨gv, 1, none⟩ = some (.int .u32 (V.b : Nat)) := HV8.out X2 HG2.out 1 (by omega)
            have c2 : X2.cell? ⟨gv, 2, none⟩ = some (.int .u32 (V.c : Nat)) := HV8.out X2 HG2.out 2 (by omega)
            clear S0 K1 hr1 hr2 hr3 ht1 HG1
            obtain ⟨y1, hy1, ly1, Y1⟩ := andV V.a V.b la lb
            obtain ⟨y2, hy2, ly2, Y2⟩ := andV V.a V.c la lc
            obtain ⟨y3, hy3, ly3, Y3⟩ := andV V.b V.c lb lc
            obtain ⟨y4, hy4, ly4, Y4⟩ := xorV y1 y2 ly1 ly2
            obtain ⟨mj, hmj, lmj, MJ⟩ := xorV y4 y3 ly4 ly3
            go_wp2_with fail
            go_quiet (fail)
            have HG3 := Lib.hid (HG2.out.next (below_drewN (Below.refl _ X2) nq))
            generalize X2.drewN nq = X3 at HG3
            have HM : Hid (mj = majO V.a V.b V.c) := by show mj = _; unfold majO; rw [MJ.out, Y4.out, Y1.out, Y2.out, Y3.out]
            clear HG2 c0 c1 c2 hy1 hy2 hy3 hy4 hmj ly1 ly2 ly3 ly4 Y1 Y2 Y3 Y4 MJ
            have c0 : X3.cell? ⟨gv, 0, none⟩ = some (.int .u32 (V.a : Nat)) := HV8.out X3 HG3.out 0 (by omega)
            have k0 : ∀ X, Calls Tryd.prog 65 #[.int .u32 (V.a : Nat), .int .u32 4, .int .u32 8192, .int .u32 4194304, .bool false] X fun e X' => e = .returned (.int .u32 (bs0 V.a : Nat)) ∧ Below X.heap.size X X' := specS_any V.a 4 8192 4194304 false la (by unfold Halves; decide) (by unfold Halves; decide) (by unfold Halves; decide)
            obtain ⟨s0, S0⟩ : ∃ s0, Hid (s0 = bs0 V.a) := ⟨_, rfl⟩
            have ls0 := bs0_lt V.a la
            rw [← S0.out] at k0 ls0
            have K0 := Lib.hid k0
            obtain ⟨t2, ht2, lt2, T2⟩ := addW s0 mj
            have HT2 : Hid (t2 = t2Of V) := by show t2 = _; unfold t2Of; rw [T2.out, S0.out, HM.out]
            clear k0 S0 HM T2
            go_wp2_with fail
            refine (K0.out _).mono ?_
            rintro e X4 ⟨rfl, hb4⟩
            have HG4 := Lib.hid (HG3.out.next hb4)
            clear hb4 HG3 c0 K0
            go_wp2_with fail
            go_loopw [16] (fun i wy => ∃ j : Nat, j ≤ 7 ∧ i = .int .i64 (j : Int) ∧ OwnG w2 gv capv 8 57 (shf V j) wy) (fun i _ => (intOf i).toNat)
            case atStart =>
              exact ⟨7, by omega, rfl, HG4.out⟩
            case round =>
              obtain ⟨j, hj, rfl, hgj⟩ := hrel
              have hlj := shf_length V j
              by_cases hj0 : 0 < (j : Int)
              · obtain ⟨q, hq, hwq, HQ⟩ := placeB j 1 (by omega) (by omega)
                have hq' : (j : Int) - 1 = (q : Int) := hq
                have hq8 : (q : Int) < 8 := by omega
                have hj8 : (j : Int) < 8 := by omega
                have cq := hgj.own.cell hlj q (by omega)
                have cj := hgj.own.cell hlj j (by omega)
                have fj := hgj.own.free hlj j
                have lq := (shf_words V ⟨la, lb, lc, ld, le, lf, lg, lh⟩ j).at q
                have hst : (shf V j).set j ((shf V j).getD q 0) = shf V q := by
                  have := shf_step V q (by have := HQ.out; omega)
                  rw [show q + 1 = j by have := HQ.out; omega] at this
                  exact this
                have HST := Lib.hid hst
                have HGJ := Lib.hid hgj
                clear hq hst hgj
                generalize (shf V j).getD q 0 = x at *
                generalize (shf V j).getD j 0 = y at *
                go_wp2_with fail
                go_roundw
                case rel =>
                  refine ⟨q, by omega, by go_num, ?_, ?_⟩
                  · rw [← HST.out]
                    exact HGJ.out.own.set hlj j x
                  · exact HGJ.out.below.setCell (p := ⟨gv, j, none⟩) hv0 _
                case measure => simp [intOf]; omega
              · obtain rfl : j = 0 := by omega
                obtain ⟨nd, hnd, lnd, ND⟩ := addW V.d t1
                obtain ⟨na, hna, lna, NA⟩ := addW t1 t2
                have c4 : wr.cell? ⟨gv, 4, none⟩ = some (.int .u32 (V.d : Nat)) := hgj.own.cell rfl 4 (by omega)
                have f4 := hgj.own.free rfl 4
                have h5 := hgj.own.set rfl 4 nd
                have b5 := hgj.below.setCell (p := ⟨gv, 4, none⟩) hv0 (.int .u32 (nd : Int))
                have c0 : (wr.setCell ⟨gv, 4, none⟩ (.int .u32 (nd : Int))).cell? ⟨gv, 0, none⟩ = some (.int .u32 (V.a : Nat)) := h5.cell rfl 0 (by omega)
                have f0 := h5.free rfl 0
                have h6 := h5.set rfl 0 na
                have b6 := b5.setCell (p := ⟨gv, 0, none⟩) hv0 (.int .u32 (na : Int))
                have HG6 : Hid (OwnG w2 gv capv 8 57 (stepE V kk ww).toList ((wr.setCell ⟨gv, 4, none⟩ (.int .u32 (nd : Int))).setCell ⟨gv, 0, none⟩ (.int .u32 (na : Int)))) := by
                  refine ⟨?_, b6⟩
                  rw [← shf_end V kk ww, ← HT1.out, ← HT2.out, ← NA.out]
                  have e : ((shf V 0).getD 4 0 + t1) % 4294967296 = nd := by rw [ND.out]; rfl
                  rw [e]
                  exact h6
                clear h5 b5 h6 b6 hgj hlj
                go_wp2_with fail
                go_roundw
                case rel =>
                  refine ⟨m + 1, by omega, by go_num, ?_⟩
                  rw [HNX.out]
                  exact HG6.out
                case measure => simp [intOf]; omega
        · obtain rfl : m = 64 := by omega
          obtain ⟨w4, e4⟩ : ∃ w4, w4 = wr := ⟨_, rfl⟩
          subst e4
          have hV := runE_ok (Eight.of st) (Eight.of_ok hst) kTab xs 64
          obtain ⟨V, HV⟩ : ∃ V, Hid (V = runE (Eight.of st) kTab xs 64) := ⟨_, rfl⟩
          rw [← HV.out] at hg hV
          have hvw : Words V.toList := by
            intro x hx
            have h1 := hV.a; have h2 := hV.b; have h3 := hV.c; have h4 := hV.d; have h5 := hV.e; have h6 := hV.f; have h7 := hV.g; have h8 := hV.h
            unfold Eight.toList at hx
            simp at hx
            omega
          have HV4 := Lib.hid (hg.own.cell rfl)
          have HB4 := Lib.hid hg.below
          have hgv4 : gv < w4.heap.size := cell_size (p := ⟨gv, 0, none⟩) (hg.own.cell rfl 0 (by omega))
          have hgs4 : gs < w4.heap.size := Nat.lt_of_lt_of_le hgs2 hg.below.size
          have HS4 : Hid (∀ j, j < 8 → w4.cell? ⟨gs, j, none⟩ = some (.int .u32 (st.getD j 0 : Nat))) := fun j hj => by
            rw [HB4.out.cell (p := ⟨gs, j, none⟩) hgs2, HN.out.cell (p := ⟨gs, j, none⟩) hgs]
            exact HCS.out j hj
          clear hg hV
          go_wp2_with fail
          go_loopw [17, 18] (fun v i wy => ∃ j : Nat, j ≤ 8 ∧ i = .int .i64 (j : Int) ∧ OwnW wy w4.heap.size 57 v (addUp st V.toList j) ∧ Below w4.heap.size w4 wy) (fun _ i _ => 8 - (intOf i).toNat)
          case atStart =>
            exact ⟨0, by omega, rfl, OwnW.lit _ _ _ (Nat.le_refl _), (Below.refl _ _).alloc (Nat.le_refl _) _⟩
          case round =>
            obtain ⟨j, hj, rfl, hown, hnx⟩ := hrel
            by_cases hj8 : (j : Int) < 8
            · have x1 : wr.cell? ⟨gs, j, none⟩ = some (.int .u32 (st.getD j 0 : Nat)) := by rw [hnx.cell (p := ⟨gs, j, none⟩) hgs4]; exact HS4.out j (by omega)
              have x2 : wr.cell? ⟨gv, j, none⟩ = some (.int .u32 (V.toList.getD j 0 : Nat)) := by rw [hnx.cell (p := ⟨gv, j, none⟩) hgv4]; exact HV4.out j (by omega)
              have l1 := hst.at j
              have l2 := hvw.at j
              have HE := Lib.hid (addUp_succ st V.toList j)
              have hll := addUp_length st V.toList j
              have hgs5 : gs < wr.heap.size := Nat.lt_of_lt_of_le hgs4 hnx.size
              have hgv5 : gv < wr.heap.size := Nat.lt_of_lt_of_le hgv4 hnx.size
              have hsz := hnx.size
              have HN4 := Lib.hid hnx
              clear hnx
              generalize st.getD j 0 = x at *
              generalize V.toList.getD j 0 = y at *
              obtain ⟨z, hz, lz, ZZ⟩ := addW x y
              have hzz : ((x : Int) + (y : Int)) % 4294967296 = (z : Int) := by rw [← hz, IntKind.wrap_u32]
              rw [← ZZ.out] at HE
              go_wp2_with fail
              go_region_held3 (fun X => X.cell? ⟨gs, j, none⟩ = some (.int .u32 (x : Int)) ∧ X.cell? ⟨gv, j, none⟩ = some (.int .u32 (y : Int))) (go_keep) (first | (refine step_pushWd rfl (.tmp 151) (.tmp 161) 71 rfl w4.heap.size 57 i0 Tryd.underlying71 hi hz0 hz1 hz2 _ _ rfl hown z _ rfl rfl (by omega) hsz ?_; intro v' w5 hown5 hnx5; have k0 := (hnx5.cell (p := ⟨gs, j, none⟩) hgs4).trans x1; have k1 := (hnx5.cell (p := ⟨gv, j, none⟩) hgv4).trans x2))
              all_goals
                go_wp2_with fail
                go_roundw
                case rel =>
                  refine ⟨j + 1, by omega, by go_num, ?_, HN4.out.trans hnx5⟩
                  rw [HE.out]
                  exact hown5
                case measure => simp [intOf]; omega
            · obtain rfl : j = 8 := by omega
              have HO := Lib.hid hown
              have HN4 := Lib.hid hnx
              clear hown hnx
              go_wp2_with fail
              go_ret
              refine ⟨_, rfl, ?_, ?_⟩
              · unfold roundOf
                rw [← HW0.out, ← HG.out, ← HV.out]
                exact HO.out.mono (Nat.le_trans HN.out.size HB4.out.size)
              · exact HN.out.trans ((HB4.out.mono HN.out.size).trans (HN4.out.mono (Nat.le_trans HN.out.size HB4.out.size)))

end Go.Proofs.YtoaifgblbfdncabDoor
