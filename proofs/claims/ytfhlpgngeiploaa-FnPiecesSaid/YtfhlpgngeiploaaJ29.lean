/-
  Long texts that are drawn, with an id and a size.
  A drawn text for sums, and twelve drawn places.
-/
import Derived.Test.YtfhlpgngeiploaaJ28
import Derived.Deep.DeepCutAuto
namespace Go.Proofs.Ytfhlpgngeiploaa
open Go.RowKit

def longLens : List Int := [0, 10, 20, 40, 55, 90, 200]

set_option maxRecDepth 100000 in
set_option maxHeartbeats 1600000 in
theorem l20Long_any {c : Nat} {a : Option Addr} {len cap : Nat} (w : World) (H : Cur c a len cap w) :
    Calls Try.prog 24 #[.pointer (some ⟨c, 0, none⟩)] w fun e w' => ∃ s : ByteArray, s.size ≤ 208 ∧ e = .returned (.string s) ∧ Cur c a len cap w' ∧ Only c w w' := by
  obtain ⟨Q, HQ⟩ : ∃ Q : Ending → World → Prop, Hid (Q = fun e w' => ∃ s : ByteArray, s.size ≤ 208 ∧ e = .returned (.string s) ∧ Cur c a len cap w' ∧ Only c w w') := ⟨_, Lib.hid rfl⟩
  rw [← HQ.out]
  have HC := Lib.hid H
  have hcs : c < w.heap.size := cell_size (p := ⟨c, 0, none⟩) H.c0
  clear H
  go_enter Try.func24, Try.ntmps24
  go_wp2_with fail
  refine (below_any 9 (by omega) (by omega) _ HC.out).mono ?_
  rintro e w1 ⟨z, z0, z1, rfl, hc, ho⟩
  replace HC := Lib.hid hc
  have HO := Lib.hid ho
  clear hc ho
  obtain ⟨nt, rfl⟩ := Int.eq_ofNat_of_zero_le z0
  go_wp2_with fail
  refine (text_any nt (by omega) _ HC.out).mono ?_
  rintro e w2 ⟨l, hl, rfl, hc, ho⟩
  obtain ⟨t, ht⟩ : ∃ t : ByteArray, t = ⟨l.toArray⟩ := ⟨_, rfl⟩
  have hts : t.size ≤ 8 := by rw [ht]; show l.toArray.size ≤ 8; simp; omega
  rw [← ht]
  replace HC := Lib.hid hc
  replace HO := Lib.hid (HO.out.trans ho)
  have hc2 : c < w2.heap.size := cell_size (p := ⟨c, 0, none⟩) hc.c0
  have hal : Below w2.heap.size w2 (w2.alloc (.cells #[.int .i64 0, .int .i64 10, .int .i64 20, .int .i64 40, .int .i64 55, .int .i64 90, .int .i64 200] 3)) := (Below.refl _ _).alloc (Nat.le_refl _) _
  replace HC := Lib.hid (HC.out.below hal)
  replace HO := Lib.hid (HO.out.trans (.of_below hal))
  clear hc ho hal ht hl z0 z1
  go_wp2_with fail
  refine (pickInt_any w2.heap.size 7 longLens rfl (by omega) (by omega) (by omega) _ HC.out ?_).mono ?_
  · intro j hj
    have h4 : j = 0 ∨ j = 1 ∨ j = 2 ∨ j = 3 ∨ j = 4 ∨ j = 5 ∨ j = 6 := by omega
    rcases h4 with rfl | rfl | rfl | rfl | rfl | rfl | rfl <;> simp [longLens]
  rintro e w3 ⟨m, hm, rfl, hc, ho⟩
  replace HC := Lib.hid hc
  replace HO := Lib.hid (HO.out.trans ho)
  have hm2 : 0 ≤ m ∧ m ≤ 200 := by
    simp only [longLens, List.mem_cons, List.not_mem_nil, or_false] at hm
    omega
  obtain ⟨k, rfl⟩ := Int.eq_ofNat_of_zero_le hm2.1
  clear hc ho hm
  go_wp2_with fail
  refine (below_any 9 (by omega) (by omega) _ HC.out).mono ?_
  rintro e w4 ⟨y, y0, y1, rfl, hc, ho⟩
  replace HC := Lib.hid hc
  replace HO := Lib.hid (HO.out.trans ho)
  clear hc ho
  obtain ⟨b, hb⟩ := byte_num (65 + y) (by omega) (by omega)
  have hw2 : IntKind.u8.wrap (b.toNat : Int) = (b.toNat : Int) := by
    rw [IntKind.wrap_u8]
    have := b.toNat_lt
    omega
  have K := Lib.hid (long_any k (by omega) b w4)
  go_wp2_with fail
  refine (K.out).mono ?_
  rintro e w5 ⟨l2, hl2, rfl, hb2⟩
  obtain ⟨s, hs⟩ : ∃ s : ByteArray, s = ⟨l2.toArray⟩ := ⟨_, rfl⟩
  have hss : s.size ≤ 200 := by rw [hs]; show l2.toArray.size ≤ 200; simp; omega
  rw [← hs]
  have E : Hid (∀ u : ByteArray, u.size ≤ 208 → Q (.returned (.string u)) w5) := Lib.hid (by
    intro u hu
    rw [HQ.out]
    exact ⟨u, hu, rfl, HC.out.below hb2, HO.out.trans (.of_below hb2)⟩)
  have hu : (t ++ s).size ≤ 208 := by simp [ByteArray.size_append]; omega
  clear HC HO hb2 K hs hl2
  go_wp2_with fail
  exact E.out _ hu

set_option maxRecDepth 100000 in
set_option maxHeartbeats 800000 in
theorem drawLong_any (a : Option Addr) (len cap : Nat) (w : World) (H : Src a len w) :
    Calls Try.prog 8 #[.slice a len cap] w fun e w' => ∃ (s : ByteArray) (x k : Int), (s.size ≤ 208 ∧ (0 ≤ x ∧ x ≤ 255) ∧ (20 ≤ k ∧ k ≤ 59)) ∧ e = .returned (.tuple #[.string s, .int .i64 x, .int .i64 k]) ∧ Below w.heap.size w w' := by
  obtain ⟨Q, HQ⟩ : ∃ Q : Ending → World → Prop, Hid (Q = fun e w' => ∃ (s : ByteArray) (x k : Int), (s.size ≤ 208 ∧ (0 ≤ x ∧ x ≤ 255) ∧ (20 ≤ k ∧ k ≤ 59)) ∧ e = .returned (.tuple #[.string s, .int .i64 x, .int .i64 k]) ∧ Below w.heap.size w w') := ⟨_, Lib.hid rfl⟩
  rw [← HQ.out]
  have HS := Lib.hid H
  clear H
  go_enter Try.func8, Try.ntmps8
  go_wp2_with fail
  refine (new_any a len cap _ HS.out).mono ?_
  rintro e w1 ⟨c, rfl, hc, hcur, hb⟩
  have HC := Lib.hid hcur
  have B0 := Lib.hid hb
  clear hcur hb
  go_wp2_with fail
  refine (l20Long_any _ HC.out).mono ?_
  rintro e w2 ⟨s, hs, rfl, hcur, ho⟩
  replace HC := Lib.hid hcur
  replace B0 := Lib.hid (B0.out.trans (ho.below (by omega) B0.out.size))
  clear hcur ho
  go_wp2_with fail
  refine (below_any 256 (by omega) (by omega) _ HC.out).mono ?_
  rintro e w3 ⟨x, x0, x1, rfl, hcur, ho⟩
  replace HC := Lib.hid hcur
  replace B0 := Lib.hid (B0.out.trans (ho.below (by omega) B0.out.size))
  clear hcur ho
  go_wp2_with fail
  refine (below_any 40 (by omega) (by omega) _ HC.out).mono ?_
  rintro e w4 ⟨y, y0, y1, rfl, hcur, ho⟩
  replace B0 := Lib.hid (B0.out.trans (ho.below (by omega) B0.out.size))
  clear hcur ho HC HS
  have E : Hid (Q (.returned (.tuple #[.string s, .int .i64 x, .int .i64 (20 + y)])) w4) := Lib.hid (by
    rw [HQ.out]
    exact ⟨s, x, 20 + y, ⟨hs, ⟨x0, by omega⟩, by omega, by omega⟩, rfl, B0.out⟩)
  clear B0
  go_wp2_with fail
  exact bodyPost_ret (v := .tuple #[.string s, .int .i64 x, .int .i64 (20 + y)]) (by simp [results, Try.results8, go_sem]) rfl E.out

end Go.Proofs.Ytfhlpgngeiploaa
namespace Go.Proofs.Ytfhlpgngeiploaa
open Go.RowKit

theorem infoIntP : (Try.prog.info? 3).map (fun i => (i.zero, i.size, i.bytes)) = some (some (.int .i64 0), 1, 8) := by kernel_rfl

/-- The slice value v is nil or the call's own (from block 'base' on), and holds these numbers. -/
def OwnI (w : World) (base : Nat) (e : TypeId) (v : Value) (zs : List Int) : Prop := w.ownsRow base e 1 v zs.length (zs.map (Value.int .i64))

theorem OwnI.lit (w : World) (base : Nat) (e : TypeId) (hb : base ≤ w.heap.size) : OwnI (w.alloc (.cells #[] e)) base e (.slice (some ⟨w.heap.size, 0, none⟩) 0 0) [] :=
  World.ownsRow_lit w #[] 0 hb (by decide) rfl

theorem OwnI.only {c : Nat} {w w' : World} {base : Nat} {e : TypeId} {v : Value} {xs : List Int} (h : OwnI w base e v xs) (ho : Only c w w') (hc : c < base) : OwnI w' base e v xs := by
  have h' : w.ownsRow base e 1 v xs.length (xs.map (Value.int .i64)) := h
  refine ⟨h'.1, ?_⟩
  rcases h'.2 with hn | ⟨g, cap, cur, hv, hb, hg, rest⟩
  · exact .inl hn
  · have hl : g < w.heap.size := by
      rcases Nat.lt_or_ge g w.heap.size with h2 | h2
      · exact h2
      · simp [Array.getElem?_eq_none h2] at hg
    exact .inr ⟨g, cap, cur, hv, hb, by rw [ho.block g hl (by omega)]; exact hg, rest⟩

theorem OwnI.form {w : World} {base : Nat} {e : TypeId} {v : Value} {xs : List Int} (h : OwnI w base e v xs) (h0 : 0 < xs.length) : ∃ g cap, v = .slice (some ⟨g, 0, none⟩) xs.length cap ∧ g < w.heap.size ∧
    ∀ j, j < xs.length → w.cell? ⟨g, j, none⟩ = some (.int .i64 (xs.getD j 0)) := by
  have h' : w.ownsRow base e 1 v xs.length (xs.map (Value.int .i64)) := h
  rcases h'.2 with ⟨rfl, hz⟩ | ⟨g, cap, cur, rfl, hb, hh, _, _, _, _⟩
  · omega
  · refine ⟨g, cap, rfl, lt_of_block hh, fun j hj => ?_⟩
    rw [h'.cellAt j (by omega)]
    simp [hj]

theorem push_cellsI (w : World) (e : TypeId) (z : Int) :
    ∀ j u, [Value.int .i64 z][j]? = some u → (w.alloc (.cells #[.int .i64 z] e)).cell? ((⟨w.heap.size, 0, none⟩ : Addr).add j) = some u := by
  intro j u hj
  match j, hj with
  | 0, hj => simp at hj; subst hj; simp [Addr.add]

/-- 'out = append(out, x)': out a row of numbers of the call's own. -/
theorem wpList_pushI {P : Program} (w : World) {ops : Array Oper} {rest : List Oper} {o : Oper} {a : Act} {Q : Exit → Act → World → Prop} (hgd : o.guard = none) (s x : Operand) (t : TypeId)
    (ho : o.op = .call { callee := .builtin .append, args := #[s, x], argTypes := #[t, t] })
    (base : Nat) (e : TypeId) (i : TypeInfo) (ht : P.underlying t = some (.slice e)) (hi : P.info? e = some i) (hz : i.zero = some (.int .i64 0))
    (hsize : i.size = 1) (hby : i.bytes = 8) (v : Value) (xs : List Int) (hs : a.eval s = v) (hown : OwnI w base e v xs)
    (z : Int) (hx : a.eval x = .slice (some ⟨w.heap.size, 0, none⟩) 1 1)
    (hlen : xs.length + 1 ≤ 1000000000) (hbase : base ≤ w.heap.size)
    (h : ∀ v' w', OwnI w' base e v' (xs ++ [z]) → Below base w w' → wpList P ops Q rest (a.put o.dst v') w') :
    wpList P ops Q (o :: rest) a (w.alloc (.cells #[.int .i64 z] e)) := by
  refine wpList_append_own (w.alloc (.cells #[.int .i64 z] e)) hgd s x t ho base e i (.int .i64 0) 1 8 ht hi hz hsize hby rfl (by decide) v xs.length (xs.map (Value.int .i64)) hs (World.ownsRow.alloc hown _) ⟨w.heap.size, 0, none⟩ 1 1 [.int .i64 z] hx rfl (push_cellsI w e z) (by intro u hu; simp at hu; subst hu; rfl) (by unfold maxLen; omega) (by omega) (by simp; omega) ?_
  intro v' w' h1 h2 _
  refine h v' w' ?_ ?_
  · unfold OwnI
    rw [List.length_append, List.map_append]
    exact h1
  · exact ((Below.refl base w).alloc hbase _).grown h2 (by simp; omega) (fun k hk => (World.ownsRow.lt hown k hk).1)

/-- How a draw of places ends. -/
def DrewPlaces (w : World) (e : Ending) (w' : World) : Prop :=
  ∃ (g cap : Nat) (zs : List Int), zs.length = 12 ∧ (∀ z ∈ zs, 0 ≤ z ∧ z ≤ 9999) ∧ e = .returned (.slice (some ⟨g, 0, none⟩) 12 cap) ∧ g < w'.heap.size ∧ (∀ j, j < 12 → w'.cell? ⟨g, j, none⟩ = some (.int .i64 (zs.getD j 0))) ∧ Below w.heap.size w w'

set_option maxRecDepth 100000 in
set_option maxHeartbeats 800000 in
theorem drawPlaces_any (a : Option Addr) (len cap : Nat) (w : World) (H : Src a len w) :
    Calls Try.prog 12 #[.slice a len cap] w (DrewPlaces w) := by
  obtain ⟨i0, hi, hz0, hz1, hz2⟩ := info_parts infoIntP
  have HS := Lib.hid H
  clear H
  go_enter Try.func12, Try.ntmps12
  go_wp2_with fail
  refine (new_any a len cap _ HS.out).mono ?_
  rintro e w1 ⟨c, rfl, hc, hcur, hb⟩
  have HC1 := Lib.hid hcur
  have HB1 := Lib.hid hb
  clear hcur hb
  go_wp2_with fail
  refine (byte_any _ HC1.out).mono ?_
  rintro e w2 ⟨x, x0, x1, rfl, hcur, ho⟩
  have HC2 := Lib.hid hcur
  have HB2 := Lib.hid (HB1.out.trans (ho.below hc HB1.out.size))
  have hcs : c < w2.heap.size := cell_size (p := ⟨c, 0, none⟩) hcur.c0
  clear hcur ho HC1 HB1
  go_wp2
  go_loopw [4, 5] (fun v i wr => ∃ (k : Nat) (zs : List Int), k ≤ 12 ∧ zs.length = k ∧ (∀ z ∈ zs, 0 ≤ z ∧ z ≤ 9999) ∧ i = .int .i64 k ∧ OwnI wr w2.heap.size 3 v zs ∧ Cur c a len cap wr ∧ Only c w2 wr) (fun _ i _ => 12 - (intOf i).toNat)
  case atStart =>
    have hb := (Below.refl w2.heap.size w2).alloc (Nat.le_refl _) (.cells #[] 3)
    exact ⟨0, [], Nat.zero_le _, rfl, fun z hz => (by cases hz), rfl, OwnI.lit _ _ _ (Nat.le_refl _), HC2.out.below hb, .of_below hb⟩
  case round =>
    obtain ⟨k, zs, hk, hl, hzs, rfl, hown, hc1, ho⟩ := hrel
    have HC1 := Lib.hid hc1
    have HO1 := Lib.hid ho
    have HW := Lib.hid hown
    have HL := Lib.hid hl
    have HZ := Lib.hid hzs
    clear hc1 ho hown hl hzs HC2
    by_cases hlt : (k : Int) < 12
    · go_wp2_with fail
      refine (below_any 10000 (by omega) (by omega) _ HC1.out).mono ?_
      rintro e w3 ⟨y, y0, y1, rfl, hc2, ho2⟩
      have HC2 := Lib.hid hc2
      have HO2 := Lib.hid ho2
      have hw2 := HW.out.only ho2 hcs
      have hsz := Nat.le_trans HO1.out.size ho2.size
      have hl2 := HL.out
      clear hc2 ho2
      go_wp2_with (at_builtin; refine wpList_pushI _ rfl _ _ 30 rfl w2.heap.size 3 i0 Try.underlying30 hi hz0 hz1 hz2 _ _ rfl hw2 _ rfl (by omega) hsz ?_)
      intro v' w4 hown2 hnx2
      go_wp2
      go_roundw
      case rel =>
        refine ⟨k + 1, zs ++ [y], by omega, by simp [hl2], fun z hz => ?_, by go_num, hown2, HC2.out.kept hnx2 hcs, (HO1.out.trans HO2.out).behind hnx2⟩
        rcases List.mem_append.1 hz with h | h
        · exact HZ.out z h
        · simp at h; subst h; omega
      case measure => simp [intOf]; omega
    · have hk12 : k = 12 := by omega
      obtain ⟨g, cp, rfl, hg, hcell⟩ := HW.out.form (by have := HL.out; omega)
      have HG := Lib.hid hcell
      clear hcell
      go_wp2
      go_ret
      refine ⟨g, cp, zs, by rw [HL.out, hk12], HZ.out, by rw [HL.out, hk12]; rfl, hg, fun j hj => HG.out j (by rw [HL.out, hk12]; exact hj), HB2.out.trans (HO1.out.below hc HB2.out.size)⟩

end Go.Proofs.Ytfhlpgngeiploaa
