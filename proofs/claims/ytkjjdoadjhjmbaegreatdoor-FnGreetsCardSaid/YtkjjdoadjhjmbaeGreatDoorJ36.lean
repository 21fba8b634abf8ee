/-
  Texts that are drawn: of drawn bytes; of one byte many times.
  A cursor laid over bytes.
  A number that is drawn for chapter 1: any int; the two draws that the law on numbers takes.
  Seeds and events drawn.
  'out = append(out, x)' as a step of a region that draws its order; no program is spoken of here.
-/
import Derived.Test.YtkjjdoadjhjmbaeGreatDoorJ35
import Derived.Deep.OwnRows
import Derived.Test.YtkjjdoadjhjmbaeGreatDoorJ28
import Derived.Test.YtkjjdoadjhjmbaeGreatDoorJ31
import Derived.Test.YtkjjdoadjhjmbaeGreatDoorJ26
import Derived.Test.YtkjjdoadjhjmbaeGreatDoorJ06
namespace Go.Proofs.YtkjjdoadjhjmbaeGreatDoor
open Go.RowKit

theorem infoByteD : (Tryz.prog.info? 5).map (fun i => (i.zero, i.size, i.bytes)) = some (some (.int .u8 0), 1, 1) := by kernel_rfl

theorem OwnB.only {c : Nat} {w w' : World} {base : Nat} {e : TypeId} {v : Value} {xs : List UInt8} (h : OwnB w base e v xs) (ho : Only c w w') (hc : c < base) : OwnB w' base e v xs := by
  have h' : w.ownsRow base e 1 v xs.length (Lib.byteCells xs) := h
  refine ⟨h'.1, ?_⟩
  rcases h'.2 with hn | ⟨g, cap, cur, hv, hb, hg, rest⟩
  · exact .inl hn
  · have hl : g < w.heap.size := by
      rcases Nat.lt_or_ge g w.heap.size with h2 | h2
      · exact h2
      · simp [Array.getElem?_eq_none h2] at hg
    exact .inr ⟨g, cap, cur, hv, hb, by rw [ho.block g hl (by omega)]; exact hg, rest⟩

/-- How a draw of a text ends. -/
def DrewText (n : Nat) (c : Nat) (a : Option Addr) (len cap : Nat) (w : World) (e : Ending) (w' : World) : Prop :=
  ∃ l : List UInt8, l.length = n ∧ e = .returned (.string ⟨l.toArray⟩) ∧ Cur c a len cap w' ∧ Only c w w'

theorem byte_num (x : Int) (h0 : 0 ≤ x) (h1 : x ≤ 255) : ∃ b : UInt8, x = (b.toNat : Int) := by
  refine ⟨UInt8.ofNat x.toNat, ?_⟩
  rw [UInt8.toNat_ofNat', Nat.mod_eq_of_lt (by omega)]
  omega

set_option maxRecDepth 100000 in
set_option maxHeartbeats 800000 in
theorem text_any {c : Nat} {a : Option Addr} {len cap : Nat} (n : Nat) (hn : n ≤ 5000) (w : World) (H : Cur c a len cap w) :
    Calls Tryz.prog 51 #[.pointer (some ⟨c, 0, none⟩), .int .i64 n] w (DrewText n c a len cap w) := by
  obtain ⟨i0, hi, hz0, hz1, hz2⟩ := info_parts infoByteD
  have hcs : c < w.heap.size := cell_size (p := ⟨c, 0, none⟩) H.c0
  have HC := Lib.hid H
  clear H
  have hn2 : (n : Int) ≤ 5000 := by omega
  go_enter Tryz.func51, Tryz.ntmps51
  go_wp2
  go_loopw [5, 6] (fun v i wr => ∃ (k : Nat) (l : List UInt8), k ≤ n ∧ l.length = k ∧ i = .int .i64 k ∧ OwnB wr w.heap.size 5 v l ∧ Cur c a len cap wr ∧ Only c w wr) (fun _ i _ => n - (intOf i).toNat)
  case atStart =>
    have hb := (Below.refl w.heap.size w).alloc (Nat.le_refl _) (.cells #[] 5)
    exact ⟨0, [], Nat.zero_le _, rfl, rfl, OwnB.lit _ _ _ (Nat.le_refl _), HC.out.below hb, .of_below hb⟩
  case round =>
    obtain ⟨k, l, hk, hl, rfl, hown, hc, ho⟩ := hrel
    have HC1 := Lib.hid hc
    have HO1 := Lib.hid ho
    have HW := Lib.hid hown
    have HL := Lib.hid hl
    clear hc ho hown hl HC
    by_cases hlt : (k : Int) < (n : Int)
    · go_wp2_with fail
      refine (byte_any _ HC1.out).mono ?_
      rintro e w1 ⟨x, x0, x1, rfl, hc2, ho2⟩
      have HC2 := Lib.hid hc2
      have HO2 := Lib.hid ho2
      obtain ⟨b, rfl⟩ := byte_num x x0 x1
      have hw2 := HW.out.only ho2 hcs
      have hsz := Nat.le_trans HO1.out.size ho2.size
      have hl2 := HL.out
      clear hc2 ho2
      go_wp2_with (at_builtin; refine wpList_push _ rfl _ _ 22 rfl w.heap.size 5 i0 Tryz.underlying22 hi hz0 hz1 hz2 _ _ rfl hw2 b _ rfl rfl (by omega) hsz ?_)
      intro v' w2 hown2 hnx2
      go_wp2
      go_roundw
      case rel => exact ⟨k + 1, l ++ [b], by omega, by simp [hl2], by go_num, hown2, HC2.out.kept hnx2 hcs, (HO1.out.trans HO2.out).behind hnx2⟩
      case measure => simp [intOf]; omega
    · have hcv := run_string_own (P := Tryz.prog) wr 22 9 5 Tryz.underlying22 Tryz.underlying5 Tryz.underlying9 _ HW.out
      go_wp2
      go_ret
      exact ⟨l, by have := HL.out; omega, rfl, HC1.out, HO1.out⟩

theorem set_getD (l : List UInt8) (k j : Nat) (b : UInt8) (hk : k < l.length) : (if j = k then Value.int .u8 (b.toNat : Nat) else .int .u8 ((l.getD j 0).toNat : Nat)) = .int .u8 (((l.set k b).getD j 0).toNat : Nat) := by
  by_cases h : j = k
  · subst h
    simp [hk]
  · rw [if_neg h]
    simp [Ne.symm h]
theorem row_at {w : World} {g n : Nat} {t : TypeId} {l : List UInt8} (h : w.rowIs g t n (fun j => .int .u8 ((l.getD j 0).toNat : Nat))) (hl : l.length = n) (j : Nat) (hj : j < l.length) : w.cell? ((⟨g, 0, none⟩ : Addr).add j) = some (.int .u8 (l[j].toNat : Nat)) := by
  have := h.cell (i := j) (by omega)
  have e : (⟨g, 0, none⟩ : Addr).add j = ⟨g, j, none⟩ := by unfold Addr.add; split <;> simp_all
  rw [e]
  simpa [hj] using this

end Go.Proofs.YtkjjdoadjhjmbaeGreatDoor
namespace Go.Proofs.YtkjjdoadjhjmbaeGreatDoor
open Go.RowKit

/-- How a cursor's making ends. -/
def DrewCur (a : Option Addr) (len cap : Nat) (w : World) (e : Ending) (w' : World) : Prop :=
  ∃ c : Nat, e = .returned (.pointer (some ⟨c, 0, none⟩)) ∧ w.heap.size ≤ c ∧ Cur c a len cap w' ∧ Below w.heap.size w w'

theorem drewCur_alloc (a : Option Addr) (len cap : Nat) (z : Int) (t : TypeId) (w : World) (H : Src a len w) :
    DrewCur a len cap w (.returned (.pointer (some ⟨w.heap.size, 0, none⟩))) (w.alloc (.cells #[.slice a len cap, .int .i64 0, .int .i64 z] t)) := by
  refine ⟨w.heap.size, rfl, Nat.le_refl _, ⟨H.few, by simp, ⟨0, Nat.zero_le _, by simp⟩, ⟨z, by simp⟩, by simp, by simp, fun j hj => ?_⟩, (Below.refl _ _).alloc (Nat.le_refl _) _⟩
  obtain ⟨b, off, x, ha, hs, hx, x0, x1⟩ := H.bytes j hj
  have hb := (Below.refl w.heap.size w).alloc (Nat.le_refl _) (.cells #[.slice a len cap, .int .i64 0, .int .i64 z] t)
  exact ⟨b, off, x, ha, hs, by rw [hb.cell (p := ⟨b, off + j, none⟩) hs]; exact hx, x0, x1⟩

set_option maxRecDepth 100000 in
set_option maxHeartbeats 800000 in
theorem new_any (a : Option Addr) (len cap : Nat) (w : World) (H : Src a len w) :
    Calls Tryz.prog 17 #[.slice a len cap] w (DrewCur a len cap w) := by
  have hlen := H.few
  have HS := Lib.hid H
  clear H
  go_enter Tryz.func17, Tryz.ntmps17
  go_wp2
  go_loopw [3, 4] (fun h i wr => ∃ k : Nat, ∃ z : Int, k ≤ len ∧ i = .int .i64 k ∧ h = .int .i64 z ∧ wr = w) (fun _ i _ => len - (intOf i).toNat)
  case atStart => exact ⟨0, _, Nat.zero_le _, rfl, rfl, rfl⟩
  case round =>
    obtain ⟨k, z, hk, rfl, rfl, rfl⟩ := hrel
    by_cases hlt : k < len
    · obtain ⟨b, off, x, rfl, hb, hx, x0, x1⟩ := HS.out.bytes k hlt
      have hlt2 : (k : Int) < (len : Int) := by omega
      by_cases h4 : (k : Int) < 4000
      · go_wp2
        go_roundw
        case rel => exact ⟨k + 1, _, by omega, by go_num, rfl, trivial⟩
        case measure => simp [intOf]; omega
      · go_wp2
        go_ret
        exact drewCur_alloc _ _ _ _ _ _ HS.out
    · go_wp2
      go_ret
      exact drewCur_alloc _ _ _ _ _ _ HS.out

end Go.Proofs.YtkjjdoadjhjmbaeGreatDoor
namespace Go.Proofs.YtkjjdoadjhjmbaeGreatDoor
open Go.RowKit

set_option maxRecDepth 100000 in
set_option maxHeartbeats 800000 in
theorem pickInt_any {c : Nat} {a : Option Addr} {len cap : Nat} (g n : Nat) (zs : List Int) (hz : zs.length = n) (h0 : 0 < n) (h1 : n ≤ 1000) (hg : c ≠ g) (w : World) (H : Cur c a len cap w) (hc : ∀ j, j < n → w.cell? ⟨g, j, none⟩ = some (.int .i64 (zs.getD j 0))) :
    Calls Tryz.prog 20 #[.pointer (some ⟨c, 0, none⟩), .slice (some ⟨g, 0, none⟩) n n] w fun e w' => ∃ x : Int, x ∈ zs ∧ e = .returned (.int .i64 x) ∧ Cur c a len cap w' ∧ Only c w w' := by
  have HC := Lib.hid H
  have HZ := Lib.hid hc
  have HL := Lib.hid hz
  clear H hc hz
  go_enter Tryz.func20, Tryz.ntmps20
  go_wp2_with fail
  refine (below_any (n : Int) (by omega) (by omega) _ HC.out).mono ?_
  rintro e w1 ⟨x, x0, x1, rfl, hc1, ho1⟩
  obtain ⟨k, rfl⟩ := Int.eq_ofNat_of_zero_le x0
  have hk : k < n := by omega
  have hk2 : (k : Int) < (n : Int) := by omega
  have hgs : g < w.heap.size := cell_size (p := ⟨g, k, none⟩) (HZ.out k hk)
  have hcell : w1.cell? ⟨g, k, none⟩ = some (.int .i64 (zs.getD k 0)) := by
    rw [ho1.cell (p := ⟨g, k, none⟩) hgs (fun e => hg e.symm)]
    exact HZ.out k hk
  have HM : Hid (zs.getD k 0 ∈ zs) := by
    have hl := HL.out
    show _ ∈ _
    rw [List.getD_eq_getElem?_getD, List.getElem?_eq_getElem (by omega)]
    exact List.getElem_mem _
  have HC1 := Lib.hid hc1
  have HO1 := Lib.hid ho1
  generalize zs.getD k 0 = z at hcell HM
  clear hc1 ho1
  go_wp2
  go_ret
  exact ⟨_, HM.out, rfl, HC1.out, HO1.out⟩

def numbers : List Int := [-1, 0, 127, 128, 16383, 16384, 1000000000, 1000000001, 9223372036854775807, -9223372036854775808]
theorem numbers_int (x : Int) (h : x ∈ numbers) : -9223372036854775808 ≤ x ∧ x ≤ 9223372036854775807 := by
  simp only [numbers, List.mem_cons, List.not_mem_nil, or_false] at h
  omega

end Go.Proofs.YtkjjdoadjhjmbaeGreatDoor
namespace Go.Proofs.YtkjjdoadjhjmbaeGreatDoor
open Go.RowKit

theorem flatIntE : Flat Lay.int := ⟨fun _ _ _ _ h => int_own.2 ⟨rfl, int_rd.1 h⟩, fun _ _ _ _ _ h => (int_own.1 h).1, fun _ _ _ _ h => int_rd.2 (int_rd.1 h)⟩
/-- How a draw of seeds ends. -/
def DrewFour (c : Nat) (a : Option Addr) (len cap : Nat) (w : World) (e : Ending) (w' : World) : Prop :=
  ∃ (g : Nat) (s0 s1 s2 s3 : ByteArray), (s0.size ≤ 2 ∧ s1.size ≤ 2 ∧ s2.size ≤ 2 ∧ s3.size ≤ 2) ∧ e = .returned (.slice (some ⟨g, 0, none⟩) 4 4) ∧ w.heap.size ≤ g ∧ VarA g StringT #[.string s0, .string s1, .string s2, .string s3] w' ∧ Cur c a len cap w' ∧ Only c w w'
set_option maxRecDepth 100000 in
set_option maxHeartbeats 800000 in
theorem fourSeeds_any {c : Nat} {a : Option Addr} {len cap : Nat} (w : World) (H : Cur c a len cap w) :
    Calls Tryz.prog 18 #[.pointer (some ⟨c, 0, none⟩)] w (DrewFour c a len cap w) := by
  have HC := Lib.hid H
  clear H
  obtain ⟨Q, HQ⟩ : ∃ Q : Ending → World → Prop, Hid (Q = DrewFour c a len cap w) := ⟨_, Lib.hid rfl⟩
  rw [← HQ.out]
  go_enter Tryz.func18, Tryz.ntmps18
  go_wp2_with fail
  refine (text_any 2 (by omega) _ HC.out).mono ?_
  rintro e w1 ⟨l, hl, rfl, hc1, ho1⟩
  have C1 := Lib.hid hc1
  have O1 := Lib.hid ho1
  obtain ⟨s0, S0, hs0⟩ : ∃ s : ByteArray, Hid (s = ⟨l.toArray⟩) ∧ s.size ≤ 2 := ⟨_, Lib.hid rfl, by show l.toArray.size ≤ 2; simp; omega⟩
  rw [← S0.out]
  clear hc1 ho1 hl S0 l HC
  go_wp2_with fail
  refine (text_any 2 (by omega) _ C1.out).mono ?_
  rintro e w2 ⟨l, hl, rfl, hc1, ho1⟩
  have C2 := Lib.hid hc1
  have O2 := Lib.hid (O1.out.trans ho1)
  obtain ⟨s1, S0, hs1⟩ : ∃ s : ByteArray, Hid (s = ⟨l.toArray⟩) ∧ s.size ≤ 2 := ⟨_, Lib.hid rfl, by show l.toArray.size ≤ 2; simp; omega⟩
  rw [← S0.out]
  clear hc1 ho1 hl S0 l C1 O1
  go_wp2_with fail
  refine (text_any 2 (by omega) _ C2.out).mono ?_
  rintro e w3 ⟨l, hl, rfl, hc1, ho1⟩
  have C3 := Lib.hid hc1
  have O3 := Lib.hid (O2.out.trans ho1)
  obtain ⟨s2, S0, hs2⟩ : ∃ s : ByteArray, Hid (s = ⟨l.toArray⟩) ∧ s.size ≤ 2 := ⟨_, Lib.hid rfl, by show l.toArray.size ≤ 2; simp; omega⟩
  rw [← S0.out]
  clear hc1 ho1 hl S0 l C2 O2
  go_wp2_with fail
  refine (text_any 2 (by omega) _ C3.out).mono ?_
  rintro e w4 ⟨l, hl, rfl, hc1, ho1⟩
  have C4 := Lib.hid hc1
  have O4 := Lib.hid (O3.out.trans ho1)
  obtain ⟨s3, S0, hs3⟩ : ∃ s : ByteArray, Hid (s = ⟨l.toArray⟩) ∧ s.size ≤ 2 := ⟨_, Lib.hid rfl, by show l.toArray.size ≤ 2; simp; omega⟩
  rw [← S0.out]
  clear hc1 ho1 hl S0 l C3 O3
  have hal : Below w4.heap.size w4 (w4.alloc (.cells #[.string s0, .string s1, .string s2, .string s3] StringT)) := (Below.refl _ _).alloc (Nat.le_refl _) _
  have HR : Hid (DrewFour c a len cap w (.returned (.slice (some ⟨w4.heap.size, 0, none⟩) 4 4)) (w4.alloc (.cells #[.string s0, .string s1, .string s2, .string s3] StringT))) := Lib.hid ⟨_, s0, s1, s2, s3, ⟨hs0, hs1, hs2, hs3⟩, rfl, O4.out.size, VarA.new w4 StringT _, C4.out.below hal, O4.out.trans (.of_below hal)⟩
  clear hal
  go_wp2_with fail
  rw [HQ.out]
  exact HR.out

/-- What is drawn so far: seeds in their block, events in a row. -/
structure DE (c : Nat) (a : Option Addr) (len cap : Nat) (w : World) (q : Nat) (s0 s1 s2 s3 : ByteArray) (v : Value) (es : List Int) (X : World) : Prop where
  cur : Cur c a len cap X
  below : Below w.heap.size w X
  seeds : VarA q StringT #[.string s0, .string s1, .string s2, .string s3] X
  own : layIntS.own X (c + 1) (blk v) [v] es
  low : w.heap.size ≤ c ∧ c < q
section
variable {c : Nat} {a : Option Addr} {len cap : Nat} {w : World} {q : Nat} {s0 s1 s2 s3 : ByteArray} {v : Value} {es : List Int} {X Y : World}
theorem DE.next (h : DE c a len cap w q s0 s1 s2 s3 v es X) (hb : Below X.heap.size X Y) : DE c a len cap w q s0 s1 s2 s3 v es Y := ⟨h.cur.below hb, h.below.trans (hb.mono h.below.size), h.seeds.next hb, layIntS.next h.own hb, h.low⟩
theorem DE.step (h : DE c a len cap w q s0 s1 s2 s3 v es X) (hc : Cur c a len cap Y) (ho : Only c X Y) : DE c a len cap w q s0 s1 s2 s3 v es Y :=
  ⟨hc, h.below.trans (only_below ho h.low.1 h.below.size), h.seeds.only ho (by have := h.low.2; omega), layIntS.chg h.own (only_chg ho) (fun g hg hm => by rw [List.mem_singleton] at hm; have := (layIntS.blocks h.own g hg).1; omega), h.low⟩
theorem DE.pushed {v' : Value} {x : Int} (h : DE c a len cap w q s0 s1 s2 s3 v es X) (hown : layIntS.own Y (c + 1) (blk v') [v'] (es ++ [x])) (hg : X.grownBy Y v.ownBlock) (hb : Below (c + 1) X Y) : DE c a len cap w q s0 s1 s2 s3 v' (es ++ [x]) Y := by
  have hchg : Chg (blk v) X Y := Chg.grown hg _ (fun k hk => by simp [blk, hk])
  have hq : q ∉ blk v := row_off flatIntE h.own h.seeds (by decide)
  have h1 := h.low.1
  exact ⟨h.cur.kept hb (by omega), h.below.trans (hb.mono (by omega)), ⟨(hchg.block q h.seeds.lt hq).trans h.seeds.row⟩, hown, h.low⟩
end
/-- How a draw of seeds and events ends. -/
def DrewSeeds (w : World) (e : Ending) (w' : World) : Prop :=
  ∃ (u v : Value) (s0 s1 s2 s3 : ByteArray) (es : List Int), (s0.size ≤ 2 ∧ s1.size ≤ 2 ∧ s2.size ≤ 2 ∧ s3.size ≤ 2) ∧ (es.length ≤ 60 ∧ ∀ x ∈ es, 0 ≤ x) ∧ e = .returned (.tuple #[u, v]) ∧ layStringS.rd w' [u] [s0, s1, s2, s3] ∧ layIntS.rd w' [v] es ∧ Below w.heap.size w w'
theorem four_rd {X : World} {q : Nat} {s0 s1 s2 s3 : ByteArray} (h : VarA q StringT #[.string s0, .string s1, .string s2, .string s3] X) : layStringS.rd X [.slice (some ⟨q, 0, none⟩) 4 4] [s0, s1, s2, s3] := by
  have h1 : X.ownsRow 0 StringT layString.k (.slice (some ⟨q, 0, none⟩) 4 4) 4 [.string s0, .string s1, .string s2, .string s3] :=
    ⟨rfl, .inr ⟨q, 4, #[.string s0, .string s1, .string s2, .string s3], rfl, Nat.zero_le _, h.row, Nat.le_refl _, by decide, rfl, rfl⟩⟩
  exact layStringS.read (flat_own (e := StringT) (A := layString) (xs := [s0, s1, s2, s3]) flatString h1 ⟨[_], _, rfl, layString_rd.2 rfl, [_], _, rfl, layString_rd.2 rfl, [_], _, rfl, layString_rd.2 rfl, [_], [], rfl, layString_rd.2 rfl, rfl⟩)
def drawEvents : List Int := [0, 1, 0, 1, 0, 1, 2, 3]
theorem drawEvents_in : ∀ x ∈ drawEvents, (0 : Int) ≤ x := by decide
set_option maxRecDepth 100000 in
set_option maxHeartbeats 1600000 in
theorem drawSeeds_any (a : Option Addr) (len cap : Nat) (w : World) (H : Src a len w) :
    Calls Tryz.prog 6 #[.slice a len cap] w (DrewSeeds w) := by
  obtain ⟨i0, hi, hz0, hsz0, hby0⟩ := info_of infoInt
  have HS := Lib.hid H
  clear H
  obtain ⟨Q, HQ⟩ : ∃ Q : Ending → World → Prop, Hid (Q = DrewSeeds w) := ⟨_, Lib.hid rfl⟩
  rw [← HQ.out]
  go_enter Tryz.func6, Tryz.ntmps6
  go_wp2_with fail
  refine (new_any a len cap _ HS.out).mono ?_
  rintro e w1 ⟨c, rfl, hc, hcur, hb⟩
  have C1 := Lib.hid hcur
  have B1 := Lib.hid hb
  have hcs : c < w1.heap.size := cell_size (p := ⟨c, 0, none⟩) hcur.c0
  clear hcur hb
  go_wp2_with fail
  refine (fourSeeds_any _ C1.out).mono ?_
  rintro e w2 ⟨q, s0, s1, s2, s3, hsz, rfl, hq, hv, hc2, ho2⟩
  have HZ := Lib.hid hsz
  have hal : Below w2.heap.size w2 (w2.alloc (.cells #[] 3)) := (Below.refl _ _).alloc (Nat.le_refl _) _
  have D0 : Hid (DE c a len cap w q s0 s1 s2 s3 (.slice (some ⟨w2.heap.size, 0, none⟩) 0 0) [] (w2.alloc (.cells #[] 3))) := Lib.hid ⟨hc2.below hal, (B1.out.trans (only_below ho2 hc B1.out.size)).trans (hal.mono (Nat.le_trans B1.out.size ho2.size)), hv.next hal, flat_lit w2 _ (Nat.le_trans hcs ho2.size), ⟨hc, by omega⟩⟩
  clear hsz hv hc2 ho2 hal hq B1 C1 hcs
  go_upto_region 4 with fail
  generalize w2.alloc (.cells #[] 3) = Y0 at *
  generalize (some ⟨w2.heap.size, 0, none⟩ : Option Addr) = ea at *
  go_wp2_with fail
  go_loopw [6, 7] (fun ev i wr => ∃ (k : Nat) (b : Option Addr) (d : Nat) (es : List Int), k ≤ 7 ∧ i = .int .i64 k ∧ ev = .slice b es.length d ∧ Hid (es.length = k ∧ ∀ x ∈ es, 0 ≤ x) ∧ DE c a len cap w q s0 s1 s2 s3 (.slice b es.length d) es wr) (fun _ i _ => 7 - (intOf i).toNat)
  case atStart => exact ⟨0, ea, 0, [], by omega, rfl, rfl, Lib.hid ⟨rfl, by simp⟩, D0.out⟩
  case round =>
    clear D0
    obtain ⟨k, b, d, es, hk, rfl, rfl, HE, hd⟩ := hrel
    have D1 := Lib.hid hd
    clear hd
    go_wp2_with fail
    refine (below_any 7 (by omega) (by omega) _ D1.out.cur).mono ?_
    rintro e w3 ⟨y, y0, y1, rfl, hc1, ho1⟩
    have D2 := Lib.hid (D1.out.step hc1 ho1)
    clear D1 hc1 ho1
    by_cases hlt : (k : Int) < y
    · have hal : Below w3.heap.size w3 (w3.alloc (.cells #[.int .i64 0, .int .i64 1, .int .i64 0, .int .i64 1, .int .i64 0, .int .i64 1, .int .i64 2, .int .i64 3] 3)) := (Below.refl _ _).alloc (Nat.le_refl _) _
      have hcw : c < w3.heap.size := cell_size (p := ⟨c, 0, none⟩) D2.out.cur.c0
      have D3 := Lib.hid (D2.out.next hal)
      clear hal
      go_wp2_with fail
      refine (pickInt_any w3.heap.size 8 drawEvents rfl (by omega) (by omega) (by omega) _ D3.out.cur ?_).mono ?_
      · intro j hj
        have h4 : j = 0 ∨ j = 1 ∨ j = 2 ∨ j = 3 ∨ j = 4 ∨ j = 5 ∨ j = 6 ∨ j = 7 := by omega
        rcases h4 with rfl | rfl | rfl | rfl | rfl | rfl | rfl | rfl <;> simp [drawEvents]
      rintro e w4 ⟨t, ht, rfl, hc1, ho1⟩
      have D4 := Lib.hid (D3.out.step hc1 ho1)
      have ht0 := drawEvents_in t ht
      have hws : c + 1 ≤ w4.heap.size := cell_size (p := ⟨c, 0, none⟩) hc1.c0
      have hl1 : es.length + 1 ≤ 1000000000 := by have := HE.out.1; omega
      clear D2 D3 hc1 ho1 ht
      go_wp2_with (at_builtin; refine wpList_pushF w4 rfl _ _ 25 rfl (c + 1) 3 i0 _ 8 Lay.int flatIntE Tryz.underlying25 hi hz0 hsz0 hby0 rfl (by omega) (.slice b es.length d) (blk (.slice b es.length d)) es (by rfl) D4.out.own t #[.int .i64 t] (int_rd.2 rfl) (by rfl) hl1 hws ?_; intro v1 w5 hw1 hw2 hw3 hw4; obtain ⟨g5, c5, rfl, hbk, _, _⟩ := flat_some flatIntE hw1 hw2; have D6 := Lib.hid (D4.out.pushed hw1 hw3 hw4); clear hw1 hw2 hw3 hw4 hbk)
      have HN : Hid ((es ++ [t]).length = k + 1 ∧ ∀ x ∈ es ++ [t], 0 ≤ x) := Lib.hid ⟨by have := HE.out.1; simp; omega, fun x hx => (List.mem_append.1 hx).elim (HE.out.2 x) (fun h => by rw [List.mem_singleton.1 h]; exact ht0)⟩
      go_roundw
      case rel => exact ⟨k + 1, some ⟨g5, 0, none⟩, c5, es ++ [t], by omega, by go_num, by rw [show (es ++ [t]).length = es.length + 1 by simp], HN, D6.out⟩
      case measure => simp [intOf]; omega
    · have HR : Hid (DrewSeeds w (.returned (.tuple #[.slice (some ⟨q, 0, none⟩) 4 4, .slice b es.length d])) w3) := Lib.hid ⟨_, _, s0, s1, s2, s3, es, HZ.out, ⟨by have := HE.out.1; omega, HE.out.2⟩, rfl, four_rd D2.out.seeds, layIntS.read D2.out.own, D2.out.below⟩
      go_wp2_with fail
      rw [HQ.out]
      exact HR.out

end Go.Proofs.YtkjjdoadjhjmbaeGreatDoor
namespace Go.Proofs.YtkjjdoadjhjmbaeGreatDoor
open Go.RowKit

/-- 'out = append(out, x)' as a step of a region that draws its order, over flat rows. -/
theorem step_pushOne {α : Type} {P : Program} {ops : Array Oper} {o : Oper} {a : Act} {W : World} {K : Act → World → Prop} {Q : Exit → Act → World → Prop} {E : Prop}
    (hg : o.guard = none) (s x : Operand) (t : TypeId) (hop : o.op = Op.call { callee := Callee.builtin Builtin.append, args := #[s, x], argTypes := #[t, t] })
    (base : Nat) (e : TypeId) (i : TypeInfo) (z : Value) (bytes : Nat) (A : Lay α) (hf : Flat A) (ht : P.underlying t = some (.slice e)) (hi : P.info? e = some i) (hz : i.zero = some z)
    (hsize : i.size = A.k) (hby : i.bytes = bytes) (hzs : z.cells.size = A.k) (hb1 : bytes ≤ 1000) (v : Value) (f : List Nat) (xs : List α) (hs : a.eval s = v) (hown : (Lay.rows e A).own W base f [v] xs)
    (y : α) (cs : List Value) (hcs : A.rd W cs y) (ad : Addr) (hx : a.eval x = .slice (some ad) 1 1) (hc : ∀ j u, cs[j]? = some u → W.cell? (ad.add j) = some u)
    (hlen : xs.length + 1 ≤ 1000000000) (hbase : base ≤ W.heap.size)
    (hK : ∀ v' w', (Lay.rows e A).own w' base (blk v') [v'] (xs ++ [y]) → v' ≠ .slice none 0 0 → Below base W w' → W.grownBy w' v.ownBlock → K (a.put o.dst v') w') :
    if Region.wanted o (yielded ops a.tmps) = true then Oper.wp P o a W K Q else E := by
  have hw : Region.wanted o (yielded ops a.tmps) = true := by simp [Region.wanted, hg]
  rw [if_pos hw]
  obtain ⟨us, h1, h2, rfl⟩ := flat_inv hf hown
  have hlt : ∀ k, v.ownBlock = some k → base ≤ k := fun k hk => (World.ownsRow.lt h1 k hk).1
  obtain ⟨v', w', hrun, r1, r2, r3⟩ := run_append_own (P := P) W base t o.type e i z A.k bytes ht hi hz hsize hby hzs A.pos v xs.length us h1 ad 1 1 cs (by rw [A.len hcs, Nat.one_mul]) hc (A.one hcs) (by unfold maxLen; omega)
    (by have h1 : (xs.length + 1) * bytes ≤ 1000000000 * 1000 := Nat.mul_le_mul hlen hb1
        omega) hbase
  unfold Oper.wp
  simp [execOp, hop, resolve, invoke, builtin, hs, hx, hrun, Result.andThen]
  refine hK v' w' ?_ (fun e => by have := (r3.1 e).2; omega) (below_grown r2 hlt hbase) r2
  have h6 : w'.ownsRow base e A.k v' (xs ++ [y]).length (us ++ cs) := by rw [List.length_append]; exact r1
  exact flat_own hf h6 (rdAll_join A (hf.all h2) ⟨cs, [], by simp, hf.any _ _ _ _ hcs, rfl⟩)
theorem lit_cells_one (X : World) (cs : Array Value) (e : TypeId) (j : Nat) (u : Value) (h : cs.toList[j]? = some u) : (X.alloc (.cells cs e)).drew.cell? ((⟨X.heap.size, 0, none⟩ : Addr).add j) = some u := by
  have e1 : (⟨X.heap.size, 0, none⟩ : Addr).add j = ⟨X.heap.size, j, none⟩ := by unfold Addr.add; split <;> simp_all
  show (X.alloc (.cells cs e)).cell? _ = _
  rw [e1, cell_of_row (X.alloc (.cells cs e)) X.heap.size j cs e (0, 0) (heap_alloc_new X _)]
  simpa using h
theorem lit_cells_at (X : World) (cs : Array Value) (e : TypeId) (j : Nat) (u : Value) (h : cs.toList[j]? = some u) : (X.alloc (.cells cs e)).cell? ((⟨X.heap.size, 0, none⟩ : Addr).add j) = some u := lit_cells_one X cs e j u h

end Go.Proofs.YtkjjdoadjhjmbaeGreatDoor
