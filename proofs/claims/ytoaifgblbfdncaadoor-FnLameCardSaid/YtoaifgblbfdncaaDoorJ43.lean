/-
  Texts that are drawn: of drawn bytes; of one byte many times.
  A cursor laid over bytes.
  Some texts drawn, and a seed.
  A drawn text for sums, and twelve drawn places.
-/
import Derived.Test.YtoaifgblbfdncaaDoorJ42
import Derived.Deep.OwnRows
namespace Go.Proofs.YtoaifgblbfdncaaDoor
open Go.RowKit

theorem infoByteD : (Tryd.prog.info? 5).map (fun i => (i.zero, i.size, i.bytes)) = some (some (.int .u8 0), 1, 1) := by kernel_rfl

theorem OwnB.only {c : Nat} {w w' : World} {base : Nat} {e : TypeId} {v : Value} {xs : List UInt8} (h : OwnB w base e v xs) (ho : Only c w w') (hc : c < base) : OwnB w' base e v xs := by
  have h' : w.ownsRow base e 1 v xs.length (Lib.byteCells xs) := h
  refine ⟨h'.1, ?_⟩
  rcases h'.2 with hn | ⟨g, cap, cur, hv, hb, hg, rest⟩
  · exact .inl hn
  · have hl : g < w.heap.size := by
      rcases Nat.lt_or_ge g w.heap.size with h2 | h2
      · exact h2
      · simp [Array.getElem?_eq_none h2] at hg
    exact .inr ⟨g, cap, cur, hv, hb, by rw [ho.block g hl (by omega)]; exact hg, rest⟩

/-- How a draw of a text ends. -/
def DrewText (n : Nat) (c : Nat) (a : Option Addr) (len cap : Nat) (w : World) (e : Ending) (w' : World) : Prop :=
  ∃ l : List UInt8, l.length = n ∧ e = .returned (.string ⟨l.toArray⟩) ∧ Cur c a len cap w' ∧ Only c w w'

theorem byte_num (x : Int) (h0 : 0 ≤ x) (h1 : x ≤ 255) : ∃ b : UInt8, x = (b.toNat : Int) := by
  refine ⟨UInt8.ofNat x.toNat, ?_⟩
  rw [UInt8.toNat_ofNat', Nat.mod_eq_of_lt (by omega)]
  omega

set_option maxRecDepth 100000 in
set_option maxHeartbeats 800000 in
theorem text_any {c : Nat} {a : Option Addr} {len cap : Nat} (n : Nat) (hn : n ≤ 5000) (w : World) (H : Cur c a len cap w) :
    Calls Tryd.prog 13 #[.pointer (some ⟨c, 0, none⟩), .int .i64 n] w (DrewText n c a len cap w) := by
  obtain ⟨i0, hi, hz0, hz1, hz2⟩ := info_parts infoByteD
  have hcs : c < w.heap.size := cell_size (p := ⟨c, 0, none⟩) H.c0
  have HC := Lib.hid H
  clear H
  have hn2 : (n : Int) ≤ 5000 := by omega
  go_enter Tryd.func13, Tryd.ntmps13
  go_wp2
  go_loopw [5, 6] (fun v i wr => ∃ (k : Nat) (l : List UInt8), k ≤ n ∧ l.length = k ∧ i = .int .i64 k ∧ OwnB wr w.heap.size 5 v l ∧ Cur c a len cap wr ∧ Only c w wr) (fun _ i _ => n - (intOf i).toNat)
  case atStart =>
    have hb := (Below.refl w.heap.size w).alloc (Nat.le_refl _) (.cells #[] 5)
    exact ⟨0, [], Nat.zero_le _, rfl, rfl, OwnB.lit _ _ _ (Nat.le_refl _), HC.out.below hb, .of_below hb⟩
  case round =>
    obtain ⟨k, l, hk, hl, rfl, hown, hc, ho⟩ := hrel
    have HC1 := Lib.hid hc
    have HO1 := Lib.hid ho
    have HW := Lib.hid hown
    have HL := Lib.hid hl
    clear hc ho hown hl HC
    by_cases hlt : (k : Int) < (n : Int)
    · go_wp2_with fail
      refine (byte_any _ HC1.out).mono ?_
      rintro e w1 ⟨x, x0, x1, rfl, hc2, ho2⟩
      have HC2 := Lib.hid hc2
      have HO2 := Lib.hid ho2
      obtain ⟨b, rfl⟩ := byte_num x x0 x1
      have hw2 := HW.out.only ho2 hcs
      have hsz := Nat.le_trans HO1.out.size ho2.size
      have hl2 := HL.out
      clear hc2 ho2
      go_wp2_with (at_builtin; refine wpList_push _ rfl _ _ 22 rfl w.heap.size 5 i0 Tryd.underlying22 hi hz0 hz1 hz2 _ _ rfl hw2 b _ rfl rfl (by omega) hsz ?_)
      intro v' w2 hown2 hnx2
      go_wp2
      go_roundw
      case rel => exact ⟨k + 1, l ++ [b], by omega, by simp [hl2], by go_num, hown2, HC2.out.kept hnx2 hcs, (HO1.out.trans HO2.out).behind hnx2⟩
      case measure => simp [intOf]; omega
    · have hcv := run_string_own (P := Tryd.prog) wr 22 9 5 Tryd.underlying22 Tryd.underlying5 Tryd.underlying9 _ HW.out
      go_wp2
      go_ret
      exact ⟨l, by have := HL.out; omega, rfl, HC1.out, HO1.out⟩

theorem set_getD (l : List UInt8) (k j : Nat) (b : UInt8) (hk : k < l.length) : (if j = k then Value.int .u8 (b.toNat : Nat) else .int .u8 ((l.getD j 0).toNat : Nat)) = .int .u8 (((l.set k b).getD j 0).toNat : Nat) := by
  by_cases h : j = k
  · subst h
    simp [hk]
  · rw [if_neg h]
    simp [Ne.symm h]
theorem row_at {w : World} {g n : Nat} {t : TypeId} {l : List UInt8} (h : w.rowIs g t n (fun j => .int .u8 ((l.getD j 0).toNat : Nat))) (hl : l.length = n) (j : Nat) (hj : j < l.length) : w.cell? ((⟨g, 0, none⟩ : Addr).add j) = some (.int .u8 (l[j].toNat : Nat)) := by
  have := h.cell (i := j) (by omega)
  have e : (⟨g, 0, none⟩ : Addr).add j = ⟨g, j, none⟩ := by unfold Addr.add; split <;> simp_all
  rw [e]
  simpa [hj] using this

end Go.Proofs.YtoaifgblbfdncaaDoor
namespace Go.Proofs.YtoaifgblbfdncaaDoor
open Go.RowKit

/-- How a cursor's making ends. -/
def DrewCur (a : Option Addr) (len cap : Nat) (w : World) (e : Ending) (w' : World) : Prop :=
  ∃ c : Nat, e = .returned (.pointer (some ⟨c, 0, none⟩)) ∧ w.heap.size ≤ c ∧ Cur c a len cap w' ∧ Below w.heap.size w w'

theorem drewCur_alloc (a : Option Addr) (len cap : Nat) (z : Int) (t : TypeId) (w : World) (H : Src a len w) :
    DrewCur a len cap w (.returned (.pointer (some ⟨w.heap.size, 0, none⟩))) (w.alloc (.cells #[.slice a len cap, .int .i64 0, .int .i64 z] t)) := by
  refine ⟨w.heap.size, rfl, Nat.le_refl _, ⟨H.few, by simp, ⟨0, Nat.zero_le _, by simp⟩, ⟨z, by simp⟩, by simp, by simp, fun j hj => ?_⟩, (Below.refl _ _).alloc (Nat.le_refl _) _⟩
  obtain ⟨b, off, x, ha, hs, hx, x0, x1⟩ := H.bytes j hj
  have hb := (Below.refl w.heap.size w).alloc (Nat.le_refl _) (.cells #[.slice a len cap, .int .i64 0, .int .i64 z] t)
  exact ⟨b, off, x, ha, hs, by rw [hb.cell (p := ⟨b, off + j, none⟩) hs]; exact hx, x0, x1⟩

set_option maxRecDepth 100000 in
set_option maxHeartbeats 800000 in
theorem new_any (a : Option Addr) (len cap : Nat) (w : World) (H : Src a len w) :
    Calls Tryd.prog 12 #[.slice a len cap] w (DrewCur a len cap w) := by
  have hlen := H.few
  have HS := Lib.hid H
  clear H
  go_enter Tryd.func12, Tryd.ntmps12
  go_wp2
  go_loopw [3, 4] (fun h i wr => ∃ k : Nat, ∃ z : Int, k ≤ len ∧ i = .int .i64 k ∧ h = .int .i64 z ∧ wr = w) (fun _ i _ => len - (intOf i).toNat)
  case atStart => exact ⟨0, _, Nat.zero_le _, rfl, rfl, rfl⟩
  case round =>
    obtain ⟨k, z, hk, rfl, rfl, rfl⟩ := hrel
    by_cases hlt : k < len
    · obtain ⟨b, off, x, rfl, hb, hx, x0, x1⟩ := HS.out.bytes k hlt
      have hlt2 : (k : Int) < (len : Int) := by omega
      by_cases h4 : (k : Int) < 4000
      · go_wp2
        go_roundw
        case rel => exact ⟨k + 1, _, by omega, by go_num, rfl, trivial⟩
        case measure => simp [intOf]; omega
      · go_wp2
        go_ret
        exact drewCur_alloc _ _ _ _ _ _ HS.out
    · go_wp2
      go_ret
      exact drewCur_alloc _ _ _ _ _ _ HS.out

end Go.Proofs.YtoaifgblbfdncaaDoor
namespace Go.Proofs.YtoaifgblbfdncaaDoor
open Go.RowKit

/-- The cursor, and a row of texts of the call's own. -/
structure DTx (c : Nat) (a : Option Addr) (len cap : Nat) (w : World) (v : Value) (es : List ByteArray) (X : World) : Prop where
  cur : Cur c a len cap X
  only : Only c w X
  own : layStringS.own X w.heap.size (blk v) [v] es
  low : c < w.heap.size
section
variable {c : Nat} {a : Option Addr} {len cap : Nat} {w : World} {v : Value} {es : List ByteArray} {X Y : World}
theorem DTx.step (h : DTx c a len cap w v es X) (hc : Cur c a len cap Y) (ho : Only c X Y) : DTx c a len cap w v es Y :=
  ⟨hc, h.only.trans ho, layStringS.chg h.own (only_chg ho) (fun g hg hm => by rw [List.mem_singleton] at hm; have := (layStringS.blocks h.own g hg).1; have := h.low; omega), h.low⟩
theorem DTx.pushed {v' : Value} {x : ByteArray} (h : DTx c a len cap w v es X) (hown : layStringS.own Y w.heap.size (blk v') [v'] (es ++ [x])) (hb : Below w.heap.size X Y) : DTx c a len cap w v' (es ++ [x]) Y :=
  ⟨h.cur.kept hb h.low, h.only.behind hb, hown, h.low⟩
end
/-- How a draw of texts ends. -/
def DrewTexts (c : Nat) (a : Option Addr) (len cap : Nat) (w : World) (e : Ending) (w' : World) : Prop := ∃ (v : Value) (es : List ByteArray), (es.length ≤ 8 ∧ ∀ x ∈ es, x.size ≤ 2) ∧ e = .returned v ∧ (∃ f, layStringS.own w' w.heap.size f [v] es) ∧ Cur c a len cap w' ∧ Only c w w'

set_option maxRecDepth 100000 in
set_option maxHeartbeats 1600000 in
theorem l14Texts_any {c : Nat} {a : Option Addr} {len cap : Nat} (w : World) (H : Cur c a len cap w) :
    Calls Tryd.prog 14 #[.pointer (some ⟨c, 0, none⟩)] w (DrewTexts c a len cap w) := by
  obtain ⟨i0, hi, hz0, hsz0, hby0⟩ := info_of infoString
  have hcs : c < w.heap.size := cell_size (p := ⟨c, 0, none⟩) H.c0
  have hal : Below w.heap.size w (w.alloc (.cells #[] StringT)) := (Below.refl _ _).alloc (Nat.le_refl _) _
  have D0 : Hid (DTx c a len cap w (.slice (some ⟨w.heap.size, 0, none⟩) 0 0) [] (w.alloc (.cells #[] StringT))) := Lib.hid ⟨H.below hal, .of_below hal, flat_lit w _ (Nat.le_refl _), hcs⟩
  clear H hal
  obtain ⟨Q, HQ⟩ : ∃ Q : Ending → World → Prop, Hid (Q = DrewTexts c a len cap w) := ⟨_, Lib.hid rfl⟩
  rw [← HQ.out]
  go_enter Tryd.func14, Tryd.ntmps14
  go_upto_region 2 with fail
  generalize w.alloc (.cells #[] StringT) = Y0 at *
  generalize (some ⟨w.heap.size, 0, none⟩ : Option Addr) = ea at *
  go_wp2_with fail
  go_loopw [3, 4] (fun ev i wr => ∃ (k : Nat) (b : Option Addr) (d : Nat) (es : List ByteArray), k ≤ 8 ∧ i = .int .i64 k ∧ ev = .slice b es.length d ∧ Hid (es.length = k ∧ ∀ x ∈ es, x.size ≤ 2) ∧ Hid (DTx c a len cap w (.slice b es.length d) es wr)) (fun _ i _ => 9 - (intOf i).toNat)
  case atStart => exact ⟨0, ea, 0, [], by omega, rfl, rfl, Lib.hid ⟨rfl, by simp⟩, D0⟩
  case round =>
    clear D0
    obtain ⟨k, b, d, es, hk, rfl, rfl, HE, D1⟩ := hrel
    go_wp2_with fail
    refine (below_any 9 (by omega) (by omega) _ D1.out.cur).mono ?_
    rintro e w3 ⟨y, y0, y1, rfl, hc1, ho1⟩
    have D2 := Lib.hid (D1.out.step hc1 ho1)
    clear D1 hc1 ho1
    by_cases hlt : (k : Int) < y
    · go_wp2_with fail
      refine (below_any 3 (by omega) (by omega) _ D2.out.cur).mono ?_
      rintro e w4 ⟨t, t0, t1, rfl, hc1, ho1⟩
      have D4 := Lib.hid (D2.out.step hc1 ho1)
      clear D2 hc1 ho1
      obtain ⟨nt, rfl⟩ := Int.eq_ofNat_of_zero_le t0
      go_wp2_with fail
      refine (text_any nt (by omega) _ D4.out.cur).mono ?_
      rintro e w5 ⟨l, hl2, rfl, hc1, ho1⟩
      have D5 := Lib.hid (D4.out.step hc1 ho1)
      obtain ⟨x, hx⟩ : ∃ x : ByteArray, x = ⟨l.toArray⟩ := ⟨_, rfl⟩
      have hxz : x.size ≤ 2 := by rw [hx]; show l.toArray.size ≤ 2; simp; omega
      rw [← hx]
      have hws : w.heap.size ≤ w5.heap.size := D5.out.only.size
      have hl1 : es.length + 1 ≤ 1000000000 := by have := HE.out.1; omega
      clear D4 hc1 ho1 hx hl2
      go_wp2_with (at_builtin; refine wpList_pushF w5 rfl _ _ 24 rfl w.heap.size StringT i0 _ 16 layString flatString Tryd.underlying24 hi hz0 hsz0 hby0 rfl (by omega) (.slice b es.length d) (blk (.slice b es.length d)) es (by rfl) D5.out.own x #[.string x] (layString_rd.2 rfl) (by rfl) hl1 hws ?_; intro v1 w6 hw1 hw2 hw3 hw4; obtain ⟨g5, c5, rfl, hbk, _, _⟩ := flat_some flatString hw1 hw2; have D6 := Lib.hid (D5.out.pushed hw1 hw4); clear hw1 hw2 hw3 hw4 hbk D5)
      have HN : Hid ((es ++ [x]).length = k + 1 ∧ ∀ z ∈ es ++ [x], z.size ≤ 2) := Lib.hid ⟨by have := HE.out.1; simp; omega, fun z hz => (List.mem_append.1 hz).elim (HE.out.2 z) (fun h => by rw [List.mem_singleton.1 h]; exact hxz)⟩
      go_roundw
      case rel => exact ⟨k + 1, some ⟨g5, 0, none⟩, c5, es ++ [x], by omega, by go_num, by rw [show (es ++ [x]).length = es.length + 1 by simp], HN, by simpa using D6⟩
      case measure => simp [intOf]; omega
    · have HR : Hid (DrewTexts c a len cap w (.returned (.slice b es.length d)) w3) := Lib.hid ⟨_, es, ⟨by have := HE.out.1; omega, HE.out.2⟩, rfl, ⟨_, D2.out.own⟩, D2.out.cur, D2.out.only⟩
      go_wp2_with fail
      rw [HQ.out]
      exact HR.out
/-- How a draw of a seed and texts ends. -/
def DrewBodies (w : World) (e : Ending) (w' : World) : Prop := ∃ (s : ByteArray) (v : Value) (es : List ByteArray), s.size ≤ 2 ∧ (es.length ≤ 8 ∧ ∀ x ∈ es, x.size ≤ 2) ∧ e = .returned (.tuple #[.string s, v]) ∧ layStringS.rd w' [v] es ∧ Below w.heap.size w w'
set_option maxRecDepth 100000 in
set_option maxHeartbeats 800000 in
theorem drawBodies_any (a : Option Addr) (len cap : Nat) (w : World) (H : Src a len w) :
    Calls Tryd.prog 5 #[.slice a len cap] w (DrewBodies w) := by
  have HS := Lib.hid H
  clear H
  obtain ⟨Q, HQ⟩ : ∃ Q : Ending → World → Prop, Hid (Q = DrewBodies w) := ⟨_, Lib.hid rfl⟩
  rw [← HQ.out]
  go_enter Tryd.func5, Tryd.ntmps5
  go_wp2_with fail
  refine (new_any a len cap _ HS.out).mono ?_
  rintro e w1 ⟨c, rfl, hc, hcur, hb⟩
  have HC := Lib.hid hcur
  have HB := Lib.hid hb
  clear hcur hb
  go_wp2_with fail
  refine (text_any 2 (by omega) _ HC.out).mono ?_
  rintro e w2 ⟨l, hl2, rfl, hc1, ho1⟩
  obtain ⟨s, hs⟩ : ∃ s : ByteArray, s = ⟨l.toArray⟩ := ⟨_, rfl⟩
  have hsz : s.size ≤ 2 := by rw [hs]; show l.toArray.size ≤ 2; simp; omega
  rw [← hs]
  replace HB := Lib.hid (HB.out.trans (ho1.below (by omega) HB.out.size))
  clear hs hl2 HC
  have HC := Lib.hid hc1
  clear hc1 ho1
  go_wp2_with fail
  refine (l14Texts_any _ HC.out).mono ?_
  rintro e w3 ⟨v, es, he, rfl, ⟨f, hf⟩, hc1, ho1⟩
  have E : Hid (Q (.returned (.tuple #[.string s, v])) w3) := by
    rw [HQ.out]
    exact Lib.hid ⟨s, v, es, hsz, he, rfl, layStringS.read hf, HB.out.trans (ho1.below (by omega) HB.out.size)⟩
  clear hf hc1 ho1 HC HB
  go_wp2_with fail
  exact E.out

end Go.Proofs.YtoaifgblbfdncaaDoor
namespace Go.Proofs.YtoaifgblbfdncaaDoor
open Go.RowKit

theorem infoIntP : (Tryd.prog.info? 3).map (fun i => (i.zero, i.size, i.bytes)) = some (some (.int .i64 0), 1, 8) := by kernel_rfl

/-- The slice value v is nil or the call's own (from block 'base' on), and holds these numbers. -/
def OwnI (w : World) (base : Nat) (e : TypeId) (v : Value) (zs : List Int) : Prop := w.ownsRow base e 1 v zs.length (zs.map (Value.int .i64))

theorem OwnI.lit (w : World) (base : Nat) (e : TypeId) (hb : base ≤ w.heap.size) : OwnI (w.alloc (.cells #[] e)) base e (.slice (some ⟨w.heap.size, 0, none⟩) 0 0) [] :=
  World.ownsRow_lit w #[] 0 hb (by decide) rfl

theorem OwnI.only {c : Nat} {w w' : World} {base : Nat} {e : TypeId} {v : Value} {xs : List Int} (h : OwnI w base e v xs) (ho : Only c w w') (hc : c < base) : OwnI w' base e v xs := by
  have h' : w.ownsRow base e 1 v xs.length (xs.map (Value.int .i64)) := h
  refine ⟨h'.1, ?_⟩
  rcases h'.2 with hn | ⟨g, cap, cur, hv, hb, hg, rest⟩
  · exact .inl hn
  · have hl : g < w.heap.size := by
      rcases Nat.lt_or_ge g w.heap.size with h2 | h2
      · exact h2
      · simp [Array.getElem?_eq_none h2] at hg
    exact .inr ⟨g, cap, cur, hv, hb, by rw [ho.block g hl (by omega)]; exact hg, rest⟩

theorem OwnI.form {w : World} {base : Nat} {e : TypeId} {v : Value} {xs : List Int} (h : OwnI w base e v xs) (h0 : 0 < xs.length) : ∃ g cap, v = .slice (some ⟨g, 0, none⟩) xs.length cap ∧ g < w.heap.size ∧
    ∀ j, j < xs.length → w.cell? ⟨g, j, none⟩ = some (.int .i64 (xs.getD j 0)) := by
  have h' : w.ownsRow base e 1 v xs.length (xs.map (Value.int .i64)) := h
  rcases h'.2 with ⟨rfl, hz⟩ | ⟨g, cap, cur, rfl, hb, hh, _, _, _, _⟩
  · omega
  · refine ⟨g, cap, rfl, lt_of_block hh, fun j hj => ?_⟩
    rw [h'.cellAt j (by omega)]
    simp [hj]

theorem push_cellsI (w : World) (e : TypeId) (z : Int) :
    ∀ j u, [Value.int .i64 z][j]? = some u → (w.alloc (.cells #[.int .i64 z] e)).cell? ((⟨w.heap.size, 0, none⟩ : Addr).add j) = some u := by
  intro j u hj
  match j, hj with
  | 0, hj => simp at hj; subst hj; simp [Addr.add]

/-- 'out = append(out, x)': out a row of numbers of the call's own. -/
theorem wpList_pushI {P : Program} (w : World) {ops : Array Oper} {rest : List Oper} {o : Oper} {a : Act} {Q : Exit → Act → World → Prop} (hgd : o.guard = none) (s x : Operand) (t : TypeId)
    (ho : o.op = .call { callee := .builtin .append, args := #[s, x], argTypes := #[t, t] })
    (base : Nat) (e : TypeId) (i : TypeInfo) (ht : P.underlying t = some (.slice e)) (hi : P.info? e = some i) (hz : i.zero = some (.int .i64 0))
    (hsize : i.size = 1) (hby : i.bytes = 8) (v : Value) (xs : List Int) (hs : a.eval s = v) (hown : OwnI w base e v xs)
    (z : Int) (hx : a.eval x = .slice (some ⟨w.heap.size, 0, none⟩) 1 1)
    (hlen : xs.length + 1 ≤ 1000000000) (hbase : base ≤ w.heap.size)
    (h : ∀ v' w', OwnI w' base e v' (xs ++ [z]) → Below base w w' → wpList P ops Q rest (a.put o.dst v') w') :
    wpList P ops Q (o :: rest) a (w.alloc (.cells #[.int .i64 z] e)) := by
  refine wpList_append_own (w.alloc (.cells #[.int .i64 z] e)) hgd s x t ho base e i (.int .i64 0) 1 8 ht hi hz hsize hby rfl (by decide) v xs.length (xs.map (Value.int .i64)) hs (World.ownsRow.alloc hown _) ⟨w.heap.size, 0, none⟩ 1 1 [.int .i64 z] hx rfl (push_cellsI w e z) (by intro u hu; simp at hu; subst hu; rfl) (by unfold maxLen; omega) (by omega) (by simp; omega) ?_
  intro v' w' h1 h2 _
  refine h v' w' ?_ ?_
  · unfold OwnI
    rw [List.length_append, List.map_append]
    exact h1
  · exact ((Below.refl base w).alloc hbase _).grown h2 (by simp; omega) (fun k hk => (World.ownsRow.lt hown k hk).1)

/-- How a draw of places ends. -/
def DrewPlaces (w : World) (e : Ending) (w' : World) : Prop :=
  ∃ (g cap : Nat) (zs : List Int), zs.length = 12 ∧ (∀ z ∈ zs, 0 ≤ z ∧ z ≤ 9999) ∧ e = .returned (.slice (some ⟨g, 0, none⟩) 12 cap) ∧ g < w'.heap.size ∧ (∀ j, j < 12 → w'.cell? ⟨g, j, none⟩ = some (.int .i64 (zs.getD j 0))) ∧ Below w.heap.size w w'

set_option maxRecDepth 100000 in
set_option maxHeartbeats 800000 in
theorem drawPlaces_any (a : Option Addr) (len cap : Nat) (w : World) (H : Src a len w) :
    Calls Tryd.prog 8 #[.slice a len cap] w (DrewPlaces w) := by
  obtain ⟨i0, hi, hz0, hz1, hz2⟩ := info_parts infoIntP
  have HS := Lib.hid H
  clear H
  go_enter Tryd.func8, Tryd.ntmps8
  go_wp2_with fail
  refine (new_any a len cap _ HS.out).mono ?_
  rintro e w1 ⟨c, rfl, hc, hcur, hb⟩
  have HC1 := Lib.hid hcur
  have HB1 := Lib.hid hb
  clear hcur hb
  go_wp2_with fail
  refine (byte_any _ HC1.out).mono ?_
  rintro e w2 ⟨x, x0, x1, rfl, hcur, ho⟩
  have HC2 := Lib.hid hcur
  have HB2 := Lib.hid (HB1.out.trans (ho.below hc HB1.out.size))
  have hcs : c < w2.heap.size := cell_size (p := ⟨c, 0, none⟩) hcur.c0
  clear hcur ho HC1 HB1
  go_wp2
  go_loopw [4, 5] (fun v i wr => ∃ (k : Nat) (zs : List Int), k ≤ 12 ∧ zs.length = k ∧ (∀ z ∈ zs, 0 ≤ z ∧ z ≤ 9999) ∧ i = .int .i64 k ∧ OwnI wr w2.heap.size 3 v zs ∧ Cur c a len cap wr ∧ Only c w2 wr) (fun _ i _ => 12 - (intOf i).toNat)
  case atStart =>
    have hb := (Below.refl w2.heap.size w2).alloc (Nat.le_refl _) (.cells #[] 3)
    exact ⟨0, [], Nat.zero_le _, rfl, fun z hz => (by cases hz), rfl, OwnI.lit _ _ _ (Nat.le_refl _), HC2.out.below hb, .of_below hb⟩
  case round =>
    obtain ⟨k, zs, hk, hl, hzs, rfl, hown, hc1, ho⟩ := hrel
    have HC1 := Lib.hid hc1
    have HO1 := Lib.hid ho
    have HW := Lib.hid hown
    have HL := Lib.hid hl
    have HZ := Lib.hid hzs
    clear hc1 ho hown hl hzs HC2
    by_cases hlt : (k : Int) < 12
    · go_wp2_with fail
      refine (below_any 10000 (by omega) (by omega) _ HC1.out).mono ?_
      rintro e w3 ⟨y, y0, y1, rfl, hc2, ho2⟩
      have HC2 := Lib.hid hc2
      have HO2 := Lib.hid ho2
      have hw2 := HW.out.only ho2 hcs
      have hsz := Nat.le_trans HO1.out.size ho2.size
      have hl2 := HL.out
      clear hc2 ho2
      go_wp2_with (at_builtin; refine wpList_pushI _ rfl _ _ 27 rfl w2.heap.size 3 i0 Tryd.underlying27 hi hz0 hz1 hz2 _ _ rfl hw2 _ rfl (by omega) hsz ?_)
      intro v' w4 hown2 hnx2
      go_wp2
      go_roundw
      case rel =>
        refine ⟨k + 1, zs ++ [y], by omega, by simp [hl2], fun z hz => ?_, by go_num, hown2, HC2.out.kept hnx2 hcs, (HO1.out.trans HO2.out).behind hnx2⟩
        rcases List.mem_append.1 hz with h | h
        · exact HZ.out z h
        · simp at h; subst h; omega
      case measure => simp [intOf]; omega
    · have hk12 : k = 12 := by omega
      obtain ⟨g, cp, rfl, hg, hcell⟩ := HW.out.form (by have := HL.out; omega)
      have HG := Lib.hid hcell
      clear hcell
      go_wp2
      go_ret
      refine ⟨g, cp, zs, by rw [HL.out, hk12], HZ.out, by rw [HL.out, hk12]; rfl, hg, fun j hj => HG.out j (by rw [HL.out, hk12]; exact hj), HB2.out.trans (HO1.out.below hc HB2.out.size)⟩

end Go.Proofs.YtoaifgblbfdncaaDoor
