/-
  Numbers drawn: a row of some that are below 16.
  The beginning of a row that can be read.
-/
import Derived.Test.YtogninaejehinaeJ08
import Derived.Test.YtogninaejehinaeJ10
import Derived.Test.YtogninaejehinaeJ15
import Derived.Deep.DeepCutAuto
namespace Go.Proofs.Ytogninaejehinae
open Go.RowKit

theorem flatIntT : Flat Lay.int := ⟨fun _ _ _ _ h => ⟨rfl, h⟩, fun _ _ _ _ _ h => h.1, fun _ _ _ _ h => h⟩
/-- The cursor, and a row of ints of the call's own. -/
structure DI (c : Nat) (a : Option Addr) (len cap : Nat) (w : World) (v : Value) (es : List Int) (X : World) : Prop where
  cur : Cur c a len cap X
  below : Below w.heap.size w X
  own : layIntS.own X (c + 1) (blk v) [v] es
  low : w.heap.size ≤ c
section
variable {c : Nat} {a : Option Addr} {len cap : Nat} {w : World} {v : Value} {es : List Int} {X Y : World}
theorem DI.next (h : DI c a len cap w v es X) (hb : Below X.heap.size X Y) : DI c a len cap w v es Y := ⟨h.cur.below hb, h.below.trans (hb.mono h.below.size), layIntS.next h.own hb, h.low⟩
theorem DI.step (h : DI c a len cap w v es X) (hc : Cur c a len cap Y) (ho : Only c X Y) : DI c a len cap w v es Y :=
  ⟨hc, h.below.trans (only_below ho h.low h.below.size), layIntS.chg h.own (only_chg ho) (fun g hg hm => by rw [List.mem_singleton] at hm; have := (layIntS.blocks h.own g hg).1; omega), h.low⟩
theorem DI.pushed {v' : Value} {x : Int} (h : DI c a len cap w v es X) (hown : layIntS.own Y (c + 1) (blk v') [v'] (es ++ [x])) (hb : Below (c + 1) X Y) : DI c a len cap w v' (es ++ [x]) Y := by
  have h1 := h.low
  exact ⟨h.cur.kept hb (by omega), h.below.trans (hb.mono (by omega)), hown, h.low⟩
end
/-- How a draw of numbers ends. -/
def DrewInts (w : World) (e : Ending) (w' : World) : Prop := ∃ (v : Value) (es : List Int), (es.length ≤ 20 ∧ ∀ x ∈ es, 0 ≤ x ∧ x ≤ 15) ∧ e = .returned v ∧ layIntS.rd w' [v] es ∧ Below w.heap.size w w'

set_option maxRecDepth 100000 in
set_option maxHeartbeats 1600000 in
theorem drawTakeAll_any (a : Option Addr) (len cap : Nat) (w : World) (H : Src a len w) :
    Calls Try.prog 13 #[.slice a len cap] w (DrewInts w) := by
  obtain ⟨i0, hi, hz0, hsz0, hby0⟩ := info_of infoInt
  have HS := Lib.hid H
  clear H
  obtain ⟨Q, HQ⟩ : ∃ Q : Ending → World → Prop, Hid (Q = DrewInts w) := ⟨_, Lib.hid rfl⟩
  rw [← HQ.out]
  go_enter Try.func13, Try.ntmps13
  go_wp2_with fail
  refine (new_any a len cap _ HS.out).mono ?_
  rintro e w1 ⟨c, rfl, hc, hcur, hb⟩
  have hcs : c < w1.heap.size := cell_size (p := ⟨c, 0, none⟩) hcur.c0
  have hal : Below w1.heap.size w1 (w1.alloc (.cells #[] 3)) := (Below.refl _ _).alloc (Nat.le_refl _) _
  have D0 : Hid (DI c a len cap w (.slice (some ⟨w1.heap.size, 0, none⟩) 0 0) [] (w1.alloc (.cells #[] 3))) := Lib.hid ⟨hcur.below hal, hb.trans (hal.mono hb.size), flat_lit w1 _ (by omega), hc⟩
  clear hcur hb hal hc hcs
  go_upto_region 3 with fail
  generalize w1.alloc (.cells #[] 3) = Y0 at *
  generalize (some ⟨w1.heap.size, 0, none⟩ : Option Addr) = ea at *
  go_wp2_with fail
  go_loopw [4, 5] (fun ev i wr => ∃ (k : Nat) (b : Option Addr) (d : Nat) (es : List Int), k ≤ 20 ∧ i = .int .i64 k ∧ ev = .slice b es.length d ∧ Hid (es.length = k ∧ ∀ x ∈ es, 0 ≤ x ∧ x ≤ 15) ∧ Hid (DI c a len cap w (.slice b es.length d) es wr)) (fun _ i _ => 20 - (intOf i).toNat)
  case atStart => exact ⟨0, ea, 0, [], by omega, rfl, rfl, Lib.hid ⟨rfl, by simp⟩, D0⟩
  case round =>
    clear D0
    obtain ⟨k, b, d, es, hk, rfl, rfl, HE, D1⟩ := hrel
    go_wp2_with fail
    refine (below_any 20 (by omega) (by omega) _ D1.out.cur).mono ?_
    rintro e w3 ⟨y, y0, y1, rfl, hc1, ho1⟩
    have D2 := Lib.hid (D1.out.step hc1 ho1)
    clear D1 hc1 ho1
    by_cases hlt : (k : Int) < y
    · go_wp2_with fail
      refine (below_any 16 (by omega) (by omega) _ D2.out.cur).mono ?_
      rintro e w4 ⟨t, t0, t1, rfl, hc1, ho1⟩
      have D4 := Lib.hid (D2.out.step hc1 ho1)
      have hws : c + 1 ≤ w4.heap.size := cell_size (p := ⟨c, 0, none⟩) hc1.c0
      have hl1 : es.length + 1 ≤ 1000000000 := by have := HE.out.1; omega
      clear D2 hc1 ho1
      go_wp2_with (at_builtin; refine wpList_pushF w4 rfl _ _ 24 rfl (c + 1) 3 i0 _ 8 Lay.int flatIntT Try.underlying24 hi hz0 hsz0 hby0 rfl (by omega) (.slice b es.length d) (blk (.slice b es.length d)) es (by rfl) D4.out.own t #[.int .i64 t] rfl (by rfl) hl1 hws ?_; intro v1 w5 hw1 hw2 hw3 hw4; obtain ⟨g5, c5, rfl, hbk, _, _⟩ := flat_some flatIntT hw1 hw2; have D6 := Lib.hid (D4.out.pushed hw1 hw4); clear hw1 hw2 hw3 hw4 hbk)
      have HN : Hid ((es ++ [t]).length = k + 1 ∧ ∀ x ∈ es ++ [t], 0 ≤ x ∧ x ≤ 15) := Lib.hid ⟨by have := HE.out.1; simp; omega, fun x hx => (List.mem_append.1 hx).elim (HE.out.2 x) (fun h => by rw [List.mem_singleton.1 h]; exact ⟨t0, by omega⟩)⟩
      go_roundw
      case rel => exact ⟨k + 1, some ⟨g5, 0, none⟩, c5, es ++ [t], by omega, by go_num, by rw [show (es ++ [t]).length = es.length + 1 by simp], HN, D6⟩
      case measure => simp [intOf]; omega
    · have HR : Hid (DrewInts w (.returned (.slice b es.length d)) w3) := Lib.hid ⟨_, es, ⟨by have := HE.out.1; omega, HE.out.2⟩, rfl, layIntS.read D2.out.own, D2.out.below⟩
      go_wp2_with fail
      rw [HQ.out]
      exact HR.out
theorem drawNumbers_any (a : Option Addr) (len cap : Nat) (w : World) (H : Src a len w) :
    Calls Try.prog 5 #[.slice a len cap] w (DrewInts w) := by
  have K := Lib.hid (drawTakeAll_any a len cap w H)
  clear H
  obtain ⟨Q, HQ⟩ : ∃ Q : Ending → World → Prop, Hid (Q = DrewInts w) := ⟨_, Lib.hid rfl⟩
  rw [← HQ.out]
  go_enter Try.func5, Try.ntmps5
  go_wp2_with fail
  refine (K.out).mono ?_
  rintro e w1 ⟨v, es, hl, rfl, hr, hb⟩
  have E : Hid (Q (.returned v) w1) := by
    rw [HQ.out]
    exact Lib.hid ⟨v, es, hl, rfl, hr, hb⟩
  clear hr hb
  go_wp2_with fail
  exact E.out

end Go.Proofs.Ytogninaejehinae
namespace Go.Proofs.Ytogninaejehinae
open Go.RowKit

/-- The beginning of a row that can be read. -/
theorem rows_take {α : Type} {e : TypeId} {A : Lay α} {w : World} {a : Option Addr} {n cap : Nat} {xs : List α} (h : (Lay.rows e A).rd w [.slice a n cap] xs) (j : Nat) (hj : j ≤ xs.length) : (Lay.rows e A).rd w [.slice a j cap] (xs.take j) := by
  obtain ⟨v', hv, h⟩ := h
  obtain rfl : Value.slice a n cap = v' := by simpa using hv
  have hl : (xs.take j).length = j := by rw [List.length_take]; omega
  rcases h with ⟨rfl, a', cap', h0, h1⟩ | ⟨g, off, cap', us, h0, hc, hg, hcell, hr⟩
  · simp only [List.length_nil, Nat.le_zero_eq] at hj
    subst hj
    simp only [Value.slice.injEq] at h0
    obtain ⟨rfl, -, rfl⟩ := h0
    exact ⟨_, rfl, .inl ⟨rfl, _, _, rfl, h1⟩⟩
  · simp only [Value.slice.injEq] at h0
    obtain ⟨rfl, -, rfl⟩ := h0
    have hs : ∀ {us : List Value} {xs : List α} (j : Nat), rdAll A w us xs → rdAll A w (us.take (j * A.k)) (xs.take j) := by
      intro us xs j hr
      induction xs generalizing us j with
      | nil => rw [show us = [] from hr]; simp [rdAll]
      | cons x xs ih =>
        obtain ⟨c, us', rfl, h1, h2⟩ := hr
        cases j with
        | zero => simp [rdAll]
        | succ j =>
          have hcl := A.len h1
          refine ⟨c, us'.take (j * A.k), ?_, h1, ih j h2⟩
          rw [List.take_append, hcl, List.take_of_length_le (by rw [hcl, Nat.add_mul, Nat.one_mul]; omega), Nat.add_mul, Nat.one_mul, Nat.add_sub_cancel]
    refine ⟨_, rfl, .inr ⟨g, off, cap, us.take (j * A.k), by rw [hl], by rw [hl]; omega, hg, fun i u hu => hcell i u ?_, hs j hr⟩⟩
    rw [List.getElem?_take] at hu
    split at hu
    · exact hu
    · cases hu

end Go.Proofs.Ytogninaejehinae
