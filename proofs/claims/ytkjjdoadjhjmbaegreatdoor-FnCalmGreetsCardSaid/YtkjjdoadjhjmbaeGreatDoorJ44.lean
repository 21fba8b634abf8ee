/-
  Seeds and events drawn.
  Seeds through a region that draws its order.
-/
import Derived.Test.YtkjjdoadjhjmbaeGreatDoorJ36
import Derived.Test.YtkjjdoadjhjmbaeGreatDoorJ39
import Derived.Test.YtkjjdoadjhjmbaeGreatDoorJ43
import Derived.Test.YtkjjdoadjhjmbaeGreatDoorJ34
import Derived.Test.YtkjjdoadjhjmbaeGreatDoorJ20
namespace Go.Proofs.YtkjjdoadjhjmbaeGreatDoor
open Go.RowKit

theorem flatIntE : Flat Lay.int := ⟨fun _ _ _ _ h => int_own.2 ⟨rfl, int_rd.1 h⟩, fun _ _ _ _ _ h => (int_own.1 h).1, fun _ _ _ _ h => int_rd.2 (int_rd.1 h)⟩
/-- How a draw of seeds ends. -/
def DrewFour (c : Nat) (a : Option Addr) (len cap : Nat) (w : World) (e : Ending) (w' : World) : Prop :=
  ∃ (g : Nat) (s0 s1 s2 s3 : ByteArray), (s0.size ≤ 2 ∧ s1.size ≤ 2 ∧ s2.size ≤ 2 ∧ s3.size ≤ 2) ∧ e = .returned (.slice (some ⟨g, 0, none⟩) 4 4) ∧ w.heap.size ≤ g ∧ VarA g StringT #[.string s0, .string s1, .string s2, .string s3] w' ∧ Cur c a len cap w' ∧ Only c w w'
set_option maxRecDepth 100000 in
set_option maxHeartbeats 800000 in
theorem fourSeeds_any {c : Nat} {a : Option Addr} {len cap : Nat} (w : World) (H : Cur c a len cap w) :
    Calls Tryz.prog 18 #[.pointer (some ⟨c, 0, none⟩)] w (DrewFour c a len cap w) := by
  have HC := Lib.hid H
  clear H
  obtain ⟨Q, HQ⟩ : ∃ Q : Ending → World → Prop, Hid (Q = DrewFour c a len cap w) := ⟨_, Lib.hid rfl⟩
  rw [← HQ.out]
  go_enter Tryz.func18, Tryz.ntmps18
  go_wp2_with fail
  refine (text_any 2 (by omega) _ HC.out).mono ?_
  rintro e w1 ⟨l, hl, rfl, hc1, ho1⟩
  have C1 := Lib.hid hc1
  have O1 := Lib.hid ho1
  obtain ⟨s0, S0, hs0⟩ : ∃ s : ByteArray, Hid (s = ⟨l.toArray⟩) ∧ s.size ≤ 2 := ⟨_, Lib.hid rfl, by show l.toArray.size ≤ 2; simp; omega⟩
  rw [← S0.out]
  clear hc1 ho1 hl S0 l HC
  go_wp2_with fail
  refine (text_any 2 (by omega) _ C1.out).mono ?_
  rintro e w2 ⟨l, hl, rfl, hc1, ho1⟩
  have C2 := Lib.hid hc1
  have O2 := Lib.hid (O1.out.trans ho1)
  obtain ⟨s1, S0, hs1⟩ : ∃ s : ByteArray, Hid (s = ⟨l.toArray⟩) ∧ s.size ≤ 2 := ⟨_, Lib.hid rfl, by show l.toArray.size ≤ 2; simp; omega⟩
  rw [← S0.out]
  clear hc1 ho1 hl S0 l C1 O1
  go_wp2_with fail
  refine (text_any 2 (by omega) _ C2.out).mono ?_
  rintro e w3 ⟨l, hl, rfl, hc1, ho1⟩
  have C3 := Lib.hid hc1
  have O3 := Lib.hid (O2.out.trans ho1)
  obtain ⟨s2, S0, hs2⟩ : ∃ s : ByteArray, Hid (s = ⟨l.toArray⟩) ∧ s.size ≤ 2 := ⟨_, Lib.hid rfl, by show l.toArray.size ≤ 2; simp; omega⟩
  rw [← S0.out]
  clear hc1 ho1 hl S0 l C2 O2
  go_wp2_with fail
  refine (text_any 2 (by omega) _ C3.out).mono ?_
  rintro e w4 ⟨l, hl, rfl, hc1, ho1⟩
  have C4 := Lib.hid hc1
  have O4 := Lib.hid (O3.out.trans ho1)
  obtain ⟨s3, S0, hs3⟩ : ∃ s : ByteArray, Hid (s = ⟨l.toArray⟩) ∧ s.size ≤ 2 := ⟨_, Lib.hid rfl, by show l.toArray.size ≤ 2; simp; omega⟩
  rw [← S0.out]
  clear hc1 ho1 hl S0 l C3 O3
  have hal : Below w4.heap.size w4 (w4.alloc (.cells #[.string s0, .string s1, .string s2, .string s3] StringT)) := (Below.refl _ _).alloc (Nat.le_refl _) _
  have HR : Hid (DrewFour c a len cap w (.returned (.slice (some ⟨w4.heap.size, 0, none⟩) 4 4)) (w4.alloc (.cells #[.string s0, .string s1, .string s2, .string s3] StringT))) := Lib.hid ⟨_, s0, s1, s2, s3, ⟨hs0, hs1, hs2, hs3⟩, rfl, O4.out.size, VarA.new w4 StringT _, C4.out.below hal, O4.out.trans (.of_below hal)⟩
  clear hal
  go_wp2_with fail
  rw [HQ.out]
  exact HR.out

/-- What is drawn so far: seeds in their block, events in a row. -/
structure DE (c : Nat) (a : Option Addr) (len cap : Nat) (w : World) (q : Nat) (s0 s1 s2 s3 : ByteArray) (v : Value) (es : List Int) (X : World) : Prop where
  cur : Cur c a len cap X
  below : Below w.heap.size w X
  seeds : VarA q StringT #[.string s0, .string s1, .string s2, .string s3] X
  own : layIntS.own X (c + 1) (blk v) [v] es
  low : w.heap.size ≤ c ∧ c < q
section
variable {c : Nat} {a : Option Addr} {len cap : Nat} {w : World} {q : Nat} {s0 s1 s2 s3 : ByteArray} {v : Value} {es : List Int} {X Y : World}
theorem DE.next (h : DE c a len cap w q s0 s1 s2 s3 v es X) (hb : Below X.heap.size X Y) : DE c a len cap w q s0 s1 s2 s3 v es Y := ⟨h.cur.below hb, h.below.trans (hb.mono h.below.size), h.seeds.next hb, layIntS.next h.own hb, h.low⟩
theorem DE.step (h : DE c a len cap w q s0 s1 s2 s3 v es X) (hc : Cur c a len cap Y) (ho : Only c X Y) : DE c a len cap w q s0 s1 s2 s3 v es Y :=
  ⟨hc, h.below.trans (only_below ho h.low.1 h.below.size), h.seeds.only ho (by have := h.low.2; omega), layIntS.chg h.own (only_chg ho) (fun g hg hm => by rw [List.mem_singleton] at hm; have := (layIntS.blocks h.own g hg).1; omega), h.low⟩
theorem DE.pushed {v' : Value} {x : Int} (h : DE c a len cap w q s0 s1 s2 s3 v es X) (hown : layIntS.own Y (c + 1) (blk v') [v'] (es ++ [x])) (hg : X.grownBy Y v.ownBlock) (hb : Below (c + 1) X Y) : DE c a len cap w q s0 s1 s2 s3 v' (es ++ [x]) Y := by
  have hchg : Chg (blk v) X Y := Chg.grown hg _ (fun k hk => by simp [blk, hk])
  have hq : q ∉ blk v := row_off flatIntE h.own h.seeds (by decide)
  have h1 := h.low.1
  exact ⟨h.cur.kept hb (by omega), h.below.trans (hb.mono (by omega)), ⟨(hchg.block q h.seeds.lt hq).trans h.seeds.row⟩, hown, h.low⟩
end
/-- How a draw of seeds and events ends. -/
def DrewSeeds (w : World) (e : Ending) (w' : World) : Prop :=
  ∃ (u v : Value) (s0 s1 s2 s3 : ByteArray) (es : List Int), (s0.size ≤ 2 ∧ s1.size ≤ 2 ∧ s2.size ≤ 2 ∧ s3.size ≤ 2) ∧ (es.length ≤ 60 ∧ ∀ x ∈ es, 0 ≤ x) ∧ e = .returned (.tuple #[u, v]) ∧ layStringS.rd w' [u] [s0, s1, s2, s3] ∧ layIntS.rd w' [v] es ∧ Below w.heap.size w w'
theorem four_rd {X : World} {q : Nat} {s0 s1 s2 s3 : ByteArray} (h : VarA q StringT #[.string s0, .string s1, .string s2, .string s3] X) : layStringS.rd X [.slice (some ⟨q, 0, none⟩) 4 4] [s0, s1, s2, s3] := by
  have h1 : X.ownsRow 0 StringT layString.k (.slice (some ⟨q, 0, none⟩) 4 4) 4 [.string s0, .string s1, .string s2, .string s3] :=
    ⟨rfl, .inr ⟨q, 4, #[.string s0, .string s1, .string s2, .string s3], rfl, Nat.zero_le _, h.row, Nat.le_refl _, by decide, rfl, rfl⟩⟩
  exact layStringS.read (flat_own (e := StringT) (A := layString) (xs := [s0, s1, s2, s3]) flatString h1 ⟨[_], _, rfl, layString_rd.2 rfl, [_], _, rfl, layString_rd.2 rfl, [_], _, rfl, layString_rd.2 rfl, [_], [], rfl, layString_rd.2 rfl, rfl⟩)
def drawEvents : List Int := [0, 1, 0, 1, 0, 1, 2, 3]
theorem drawEvents_in : ∀ x ∈ drawEvents, (0 : Int) ≤ x := by decide
set_option maxRecDepth 100000 in
set_option maxHeartbeats 1600000 in
theorem drawSeeds_any (a : Option Addr) (len cap : Nat) (w : World) (H : Src a len w) :
    Calls Tryz.prog 6 #[.slice a len cap] w (DrewSeeds w) := by
  obtain ⟨i0, hi, hz0, hsz0, hby0⟩ := info_of infoInt
  have HS := Lib.hid H
  clear H
  obtain ⟨Q, HQ⟩ : ∃ Q : Ending → World → Prop, Hid (Q = DrewSeeds w) := ⟨_, Lib.hid rfl⟩
  rw [← HQ.out]
  go_enter Tryz.func6, Tryz.ntmps6
  go_wp2_with fail
  refine (new_any a len cap _ HS.out).mono ?_
  rintro e w1 ⟨c, rfl, hc, hcur, hb⟩
  have C1 := Lib.hid hcur
  have B1 := Lib.hid hb
  have hcs : c < w1.heap.size := cell_size (p := ⟨c, 0, none⟩) hcur.c0
  clear hcur hb
  go_wp2_with fail
  refine (fourSeeds_any _ C1.out).mono ?_
  rintro e w2 ⟨q, s0, s1, s2, s3, hsz, rfl, hq, hv, hc2, ho2⟩
  have HZ := Lib.hid hsz
  have hal : Below w2.heap.size w2 (w2.alloc (.cells #[] 3)) := (Below.refl _ _).alloc (Nat.le_refl _) _
  have D0 : Hid (DE c a len cap w q s0 s1 s2 s3 (.slice (some ⟨w2.heap.size, 0, none⟩) 0 0) [] (w2.alloc (.cells #[] 3))) := Lib.hid ⟨hc2.below hal, (B1.out.trans (only_below ho2 hc B1.out.size)).trans (hal.mono (Nat.le_trans B1.out.size ho2.size)), hv.next hal, flat_lit w2 _ (Nat.le_trans hcs ho2.size), ⟨hc, by omega⟩⟩
  clear hsz hv hc2 ho2 hal hq B1 C1 hcs
  go_upto_region 4 with fail
  generalize w2.alloc (.cells #[] 3) = Y0 at *
  generalize (some ⟨w2.heap.size, 0, none⟩ : Option Addr) = ea at *
  go_wp2_with fail
  go_loopw [6, 7] (fun ev i wr => ∃ (k : Nat) (b : Option Addr) (d : Nat) (es : List Int), k ≤ 7 ∧ i = .int .i64 k ∧ ev = .slice b es.length d ∧ Hid (es.length = k ∧ ∀ x ∈ es, 0 ≤ x) ∧ DE c a len cap w q s0 s1 s2 s3 (.slice b es.length d) es wr) (fun _ i _ => 7 - (intOf i).toNat)
  case atStart => exact ⟨0, ea, 0, [], by omega, rfl, rfl, Lib.hid ⟨rfl, by simp⟩, D0.out⟩
  case round =>
    clear D0
    obtain ⟨k, b, d, es, hk, rfl, rfl, HE, hd⟩ := hrel
    have D1 := Lib.hid hd
    clear hd
    go_wp2_with fail
    refine (below_any 7 (by omega) (by omega) _ D1.out.cur).mono ?_
    rintro e w3 ⟨y, y0, y1, rfl, hc1, ho1⟩
    have D2 := Lib.hid (D1.out.step hc1 ho1)
    clear D1 hc1 ho1
    by_cases hlt : (k : Int) < y
    · have hal : Below w3.heap.size w3 (w3.alloc (.cells #[.int .i64 0, .int .i64 1, .int .i64 0, .int .i64 1, .int .i64 0, .int .i64 1, .int .i64 2, .int .i64 3] 3)) := (Below.refl _ _).alloc (Nat.le_refl _) _
      have hcw : c < w3.heap.size := cell_size (p := ⟨c, 0, none⟩) D2.out.cur.c0
      have D3 := Lib.hid (D2.out.next hal)
      clear hal
      go_wp2_with fail
      refine (pickInt_any w3.heap.size 8 drawEvents rfl (by omega) (by omega) (by omega) _ D3.out.cur ?_).mono ?_
      · intro j hj
        have h4 : j = 0 ∨ j = 1 ∨ j = 2 ∨ j = 3 ∨ j = 4 ∨ j = 5 ∨ j = 6 ∨ j = 7 := by omega
        rcases h4 with rfl | rfl | rfl | rfl | rfl | rfl | rfl | rfl <;> simp [drawEvents]
      rintro e w4 ⟨t, ht, rfl, hc1, ho1⟩
      have D4 := Lib.hid (D3.out.step hc1 ho1)
      have ht0 := drawEvents_in t ht
      have hws : c + 1 ≤ w4.heap.size := cell_size (p := ⟨c, 0, none⟩) hc1.c0
      have hl1 : es.length + 1 ≤ 1000000000 := by have := HE.out.1; omega
      clear D2 D3 hc1 ho1 ht
      go_wp2_with (at_builtin; refine wpList_pushF w4 rfl _ _ 25 rfl (c + 1) 3 i0 _ 8 Lay.int flatIntE Tryz.underlying25 hi hz0 hsz0 hby0 rfl (by omega) (.slice b es.length d) (blk (.slice b es.length d)) es (by rfl) D4.out.own t #[.int .i64 t] (int_rd.2 rfl) (by rfl) hl1 hws ?_; intro v1 w5 hw1 hw2 hw3 hw4; obtain ⟨g5, c5, rfl, hbk, _, _⟩ := flat_some flatIntE hw1 hw2; have D6 := Lib.hid (D4.out.pushed hw1 hw3 hw4); clear hw1 hw2 hw3 hw4 hbk)
      have HN : Hid ((es ++ [t]).length = k + 1 ∧ ∀ x ∈ es ++ [t], 0 ≤ x) := Lib.hid ⟨by have := HE.out.1; simp; omega, fun x hx => (List.mem_append.1 hx).elim (HE.out.2 x) (fun h => by rw [List.mem_singleton.1 h]; exact ht0)⟩
      go_roundw
      case rel => exact ⟨k + 1, some ⟨g5, 0, none⟩, c5, es ++ [t], by omega, by go_num, by rw [show (es ++ [t]).length = es.length + 1 by simp], HN, D6.out⟩
      case measure => simp [intOf]; omega
    · have HR : Hid (DrewSeeds w (.returned (.tuple #[.slice (some ⟨q, 0, none⟩) 4 4, .slice b es.length d])) w3) := Lib.hid ⟨_, _, s0, s1, s2, s3, es, HZ.out, ⟨by have := HE.out.1; omega, HE.out.2⟩, rfl, four_rd D2.out.seeds, layIntS.read D2.out.own, D2.out.below⟩
      go_wp2_with fail
      rw [HQ.out]
      exact HR.out

end Go.Proofs.YtkjjdoadjhjmbaeGreatDoor
namespace Go.Proofs.YtkjjdoadjhjmbaeGreatDoor
open Go.RowKit

section
variable {V X Y : World} {sg so : Nat} {s0 s1 s2 s3 : ByteArray}
theorem seeds_next (h : X.cell? ⟨sg, so, none⟩ = some (.string s0) ∧ X.cell? ⟨sg, so + 1, none⟩ = some (.string s1) ∧ X.cell? ⟨sg, so + 2, none⟩ = some (.string s2) ∧ X.cell? ⟨sg, so + 3, none⟩ = some (.string s3) ∧ Below V.heap.size V X) (hb : Below X.heap.size X Y) : Y.cell? ⟨sg, so, none⟩ = some (.string s0) ∧ Y.cell? ⟨sg, so + 1, none⟩ = some (.string s1) ∧ Y.cell? ⟨sg, so + 2, none⟩ = some (.string s2) ∧ Y.cell? ⟨sg, so + 3, none⟩ = some (.string s3) ∧ Below V.heap.size V Y := by
  obtain ⟨h0, h1, h2, h3, h4⟩ := h
  have hg : sg < X.heap.size := cell_size (p := ⟨sg, so, none⟩) h0
  exact ⟨by rw [hb.cell (p := ⟨sg, so, none⟩) hg]; exact h0, by rw [hb.cell (p := ⟨sg, so + 1, none⟩) hg]; exact h1, by rw [hb.cell (p := ⟨sg, so + 2, none⟩) hg]; exact h2, by rw [hb.cell (p := ⟨sg, so + 3, none⟩) hg]; exact h3, h4.trans (hb.mono h4.size)⟩
theorem seeds_drew (h : X.cell? ⟨sg, so, none⟩ = some (.string s0) ∧ X.cell? ⟨sg, so + 1, none⟩ = some (.string s1) ∧ X.cell? ⟨sg, so + 2, none⟩ = some (.string s2) ∧ X.cell? ⟨sg, so + 3, none⟩ = some (.string s3) ∧ Below V.heap.size V X) : X.drew.cell? ⟨sg, so, none⟩ = some (.string s0) ∧ X.drew.cell? ⟨sg, so + 1, none⟩ = some (.string s1) ∧ X.drew.cell? ⟨sg, so + 2, none⟩ = some (.string s2) ∧ X.drew.cell? ⟨sg, so + 3, none⟩ = some (.string s3) ∧ Below V.heap.size V X.drew := seeds_next h ((Below.refl _ X).drew)
theorem seeds_alloc (h : X.cell? ⟨sg, so, none⟩ = some (.string s0) ∧ X.cell? ⟨sg, so + 1, none⟩ = some (.string s1) ∧ X.cell? ⟨sg, so + 2, none⟩ = some (.string s2) ∧ X.cell? ⟨sg, so + 3, none⟩ = some (.string s3) ∧ Below V.heap.size V X) (o : Obj) : (X.alloc o).cell? ⟨sg, so, none⟩ = some (.string s0) ∧ (X.alloc o).cell? ⟨sg, so + 1, none⟩ = some (.string s1) ∧ (X.alloc o).cell? ⟨sg, so + 2, none⟩ = some (.string s2) ∧ (X.alloc o).cell? ⟨sg, so + 3, none⟩ = some (.string s3) ∧ Below V.heap.size V (X.alloc o) := seeds_next h ((Below.refl _ X).alloc (Nat.le_refl _) o)
theorem seeds_set (h : X.cell? ⟨sg, so, none⟩ = some (.string s0) ∧ X.cell? ⟨sg, so + 1, none⟩ = some (.string s1) ∧ X.cell? ⟨sg, so + 2, none⟩ = some (.string s2) ∧ X.cell? ⟨sg, so + 3, none⟩ = some (.string s3) ∧ Below V.heap.size V X) {G : Nat} (j : Nat) (hG : V.heap.size ≤ G) (h9 : sg < V.heap.size) (u : Value) : (X.setCell ⟨G, j, none⟩ u).cell? ⟨sg, so, none⟩ = some (.string s0) ∧ (X.setCell ⟨G, j, none⟩ u).cell? ⟨sg, so + 1, none⟩ = some (.string s1) ∧ (X.setCell ⟨G, j, none⟩ u).cell? ⟨sg, so + 2, none⟩ = some (.string s2) ∧ (X.setCell ⟨G, j, none⟩ u).cell? ⟨sg, so + 3, none⟩ = some (.string s3) ∧ Below V.heap.size V (X.setCell ⟨G, j, none⟩ u) := by
  obtain ⟨h0, h1, h2, h3, h4⟩ := h
  exact ⟨by rw [World.cell?_setCell_far _ _ _ _ (by show G ≠ sg; omega)]; exact h0, by rw [World.cell?_setCell_far _ _ _ _ (by show G ≠ sg; omega)]; exact h1, by rw [World.cell?_setCell_far _ _ _ _ (by show G ≠ sg; omega)]; exact h2, by rw [World.cell?_setCell_far _ _ _ _ (by show G ≠ sg; omega)]; exact h3, h4.setCell (p := ⟨G, j, none⟩) hG u⟩
theorem seeds_put7 (h : X.cell? ⟨sg, so, none⟩ = some (.string s0) ∧ X.cell? ⟨sg, so + 1, none⟩ = some (.string s1) ∧ X.cell? ⟨sg, so + 2, none⟩ = some (.string s2) ∧ X.cell? ⟨sg, so + 3, none⟩ = some (.string s3) ∧ Below V.heap.size V X) {G : Nat} (hG : V.heap.size ≤ G) (h9 : sg < V.heap.size) (u0 u1 u2 u3 u4 u5 u6 : Value) : (((((((X.setCell ⟨G, 0, none⟩ u0).setCell ⟨G, 1, none⟩ u1).setCell ⟨G, 2, none⟩ u2).setCell ⟨G, 3, none⟩ u3).setCell ⟨G, 4, none⟩ u4).setCell ⟨G, 5, none⟩ u5).setCell ⟨G, 6, none⟩ u6).cell? ⟨sg, so, none⟩ = some (.string s0) ∧ (((((((X.setCell ⟨G, 0, none⟩ u0).setCell ⟨G, 1, none⟩ u1).setCell ⟨G, 2, none⟩ u2).setCell ⟨G, 3, none⟩ u3).setCell ⟨G, 4, none⟩ u4).setCell ⟨G, 5, none⟩ u5).setCell ⟨G, 6, none⟩ u6).cell? ⟨sg, so + 1, none⟩ = some (.string s1) ∧ (((((((X.setCell ⟨G, 0, none⟩ u0).setCell ⟨G, 1, none⟩ u1).setCell ⟨G, 2, none⟩ u2).setCell ⟨G, 3, none⟩ u3).setCell ⟨G, 4, none⟩ u4).setCell ⟨G, 5, none⟩ u5).setCell ⟨G, 6, none⟩ u6).cell? ⟨sg, so + 2, none⟩ = some (.string s2) ∧ (((((((X.setCell ⟨G, 0, none⟩ u0).setCell ⟨G, 1, none⟩ u1).setCell ⟨G, 2, none⟩ u2).setCell ⟨G, 3, none⟩ u3).setCell ⟨G, 4, none⟩ u4).setCell ⟨G, 5, none⟩ u5).setCell ⟨G, 6, none⟩ u6).cell? ⟨sg, so + 3, none⟩ = some (.string s3) ∧ Below V.heap.size V (((((((X.setCell ⟨G, 0, none⟩ u0).setCell ⟨G, 1, none⟩ u1).setCell ⟨G, 2, none⟩ u2).setCell ⟨G, 3, none⟩ u3).setCell ⟨G, 4, none⟩ u4).setCell ⟨G, 5, none⟩ u5).setCell ⟨G, 6, none⟩ u6) := seeds_set (seeds_set (seeds_set (seeds_set (seeds_set (seeds_set (seeds_set h 0 hG h9 u0) 1 hG h9 u1) 2 hG h9 u2) 3 hG h9 u3) 4 hG h9 u4) 5 hG h9 u5) 6 hG h9 u6
end

theorem seeds_of {X : World} {u : Value} {s0 s1 s2 s3 : ByteArray} (h : layStringS.rd X [u] [s0, s1, s2, s3]) : ∃ sg so cap, u = .slice (some ⟨sg, so, none⟩) 4 cap ∧ sg < X.heap.size ∧ X.cell? ⟨sg, so, none⟩ = some (.string s0) ∧ X.cell? ⟨sg, so + 1, none⟩ = some (.string s1) ∧ X.cell? ⟨sg, so + 2, none⟩ = some (.string s2) ∧ X.cell? ⟨sg, so + 3, none⟩ = some (.string s3) := by
  obtain ⟨ao, cp, rfl⟩ := rows_form h
  obtain ⟨sg, so, cs, rfl, hsw, hr, hc⟩ := rows_elem h 0 s0 rfl
  rw [layString_rd] at hr
  subst hr
  refine ⟨sg, so, cp, rfl, hsw, (by have h9 := hc 0 _ rfl; rw [str_k] at h9; exact h9), ?_, ?_, ?_⟩
  · obtain ⟨g', o', cs, he, -, hr, hc⟩ := rows_elem h 1 s1 rfl
    simp only [Option.some.injEq, Addr.mk.injEq] at he
    obtain ⟨rfl, rfl, -⟩ := he
    rw [layString_rd] at hr
    subst hr
    have h9 := hc 0 _ rfl
    rw [str_k] at h9
    exact h9
  · obtain ⟨g', o', cs, he, -, hr, hc⟩ := rows_elem h 2 s2 rfl
    simp only [Option.some.injEq, Addr.mk.injEq] at he
    obtain ⟨rfl, rfl, -⟩ := he
    rw [layString_rd] at hr
    subst hr
    have h9 := hc 0 _ rfl
    rw [str_k] at h9
    exact h9
  · obtain ⟨g', o', cs, he, -, hr, hc⟩ := rows_elem h 3 s3 rfl
    simp only [Option.some.injEq, Addr.mk.injEq] at he
    obtain ⟨rfl, rfl, -⟩ := he
    rw [layString_rd] at hr
    subst hr
    have h9 := hc 0 _ rfl
    rw [str_k] at h9
    exact h9

end Go.Proofs.YtkjjdoadjhjmbaeGreatDoor
