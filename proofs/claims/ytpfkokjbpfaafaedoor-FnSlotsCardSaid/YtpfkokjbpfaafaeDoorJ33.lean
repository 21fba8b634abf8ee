/-
  A drawn text for sums, and twelve drawn places.
  The program's SeenOk.
-/
import Derived.Test.YtpfkokjbpfaafaeDoorJ11
import Derived.Test.YtpfkokjbpfaafaeDoorJ31
import Derived.Test.YtpfkokjbpfaafaeDoorJ13
namespace Go.Proofs.YtpfkokjbpfaafaeDoor
open Go.RowKit

theorem infoIntP : (Tryd.prog.info? 3).map (fun i => (i.zero, i.size, i.bytes)) = some (some (.int .i64 0), 1, 8) := by kernel_rfl

/-- The slice value v is nil or the call's own (from block 'base' on), and holds these numbers. -/
def OwnI (w : World) (base : Nat) (e : TypeId) (v : Value) (zs : List Int) : Prop := w.ownsRow base e 1 v zs.length (zs.map (Value.int .i64))

theorem OwnI.lit (w : World) (base : Nat) (e : TypeId) (hb : base ≤ w.heap.size) : OwnI (w.alloc (.cells #[] e)) base e (.slice (some ⟨w.heap.size, 0, none⟩) 0 0) [] :=
  World.ownsRow_lit w #[] 0 hb (by decide) rfl

theorem OwnI.only {c : Nat} {w w' : World} {base : Nat} {e : TypeId} {v : Value} {xs : List Int} (h : OwnI w base e v xs) (ho : Only c w w') (hc : c < base) : OwnI w' base e v xs := by
  have h' : w.ownsRow base e 1 v xs.length (xs.map (Value.int .i64)) := h
  refine ⟨h'.1, ?_⟩
  rcases h'.2 with hn | ⟨g, cap, cur, hv, hb, hg, rest⟩
  · exact .inl hn
  · have hl : g < w.heap.size := by
      rcases Nat.lt_or_ge g w.heap.size with h2 | h2
      · exact h2
      · simp [Array.getElem?_eq_none h2] at hg
    exact .inr ⟨g, cap, cur, hv, hb, by rw [ho.block g hl (by omega)]; exact hg, rest⟩

theorem OwnI.form {w : World} {base : Nat} {e : TypeId} {v : Value} {xs : List Int} (h : OwnI w base e v xs) (h0 : 0 < xs.length) : ∃ g cap, v = .slice (some ⟨g, 0, none⟩) xs.length cap ∧ g < w.heap.size ∧
    ∀ j, j < xs.length → w.cell? ⟨g, j, none⟩ = some (.int .i64 (xs.getD j 0)) := by
  have h' : w.ownsRow base e 1 v xs.length (xs.map (Value.int .i64)) := h
  rcases h'.2 with ⟨rfl, hz⟩ | ⟨g, cap, cur, rfl, hb, hh, _, _, _, _⟩
  · omega
  · refine ⟨g, cap, rfl, lt_of_block hh, fun j hj => ?_⟩
    rw [h'.cellAt j (by omega)]
    simp [hj]

theorem push_cellsI (w : World) (e : TypeId) (z : Int) :
    ∀ j u, [Value.int .i64 z][j]? = some u → (w.alloc (.cells #[.int .i64 z] e)).cell? ((⟨w.heap.size, 0, none⟩ : Addr).add j) = some u := by
  intro j u hj
  match j, hj with
  | 0, hj => simp at hj; subst hj; simp [Addr.add]

/-- 'out = append(out, x)': out a row of numbers of the call's own. -/
theorem wpList_pushI {P : Program} (w : World) {ops : Array Oper} {rest : List Oper} {o : Oper} {a : Act} {Q : Exit → Act → World → Prop} (hgd : o.guard = none) (s x : Operand) (t : TypeId)
    (ho : o.op = .call { callee := .builtin .append, args := #[s, x], argTypes := #[t, t] })
    (base : Nat) (e : TypeId) (i : TypeInfo) (ht : P.underlying t = some (.slice e)) (hi : P.info? e = some i) (hz : i.zero = some (.int .i64 0))
    (hsize : i.size = 1) (hby : i.bytes = 8) (v : Value) (xs : List Int) (hs : a.eval s = v) (hown : OwnI w base e v xs)
    (z : Int) (hx : a.eval x = .slice (some ⟨w.heap.size, 0, none⟩) 1 1)
    (hlen : xs.length + 1 ≤ 1000000000) (hbase : base ≤ w.heap.size)
    (h : ∀ v' w', OwnI w' base e v' (xs ++ [z]) → Below base w w' → wpList P ops Q rest (a.put o.dst v') w') :
    wpList P ops Q (o :: rest) a (w.alloc (.cells #[.int .i64 z] e)) := by
  refine wpList_append_own (w.alloc (.cells #[.int .i64 z] e)) hgd s x t ho base e i (.int .i64 0) 1 8 ht hi hz hsize hby rfl (by decide) v xs.length (xs.map (Value.int .i64)) hs (World.ownsRow.alloc hown _) ⟨w.heap.size, 0, none⟩ 1 1 [.int .i64 z] hx rfl (push_cellsI w e z) (by intro u hu; simp at hu; subst hu; rfl) (by unfold maxLen; omega) (by omega) (by simp; omega) ?_
  intro v' w' h1 h2 _
  refine h v' w' ?_ ?_
  · unfold OwnI
    rw [List.length_append, List.map_append]
    exact h1
  · exact ((Below.refl base w).alloc hbase _).grown h2 (by simp; omega) (fun k hk => (World.ownsRow.lt hown k hk).1)

/-- How a draw of places ends. -/
def DrewPlaces (w : World) (e : Ending) (w' : World) : Prop :=
  ∃ (g cap : Nat) (zs : List Int), zs.length = 12 ∧ (∀ z ∈ zs, 0 ≤ z ∧ z ≤ 9999) ∧ e = .returned (.slice (some ⟨g, 0, none⟩) 12 cap) ∧ g < w'.heap.size ∧ (∀ j, j < 12 → w'.cell? ⟨g, j, none⟩ = some (.int .i64 (zs.getD j 0))) ∧ Below w.heap.size w w'

set_option maxRecDepth 100000 in
set_option maxHeartbeats 800000 in
theorem drawPlaces_any (a : Option Addr) (len cap : Nat) (w : World) (H : Src a len w) :
    Calls Tryd.prog 6 #[.slice a len cap] w (DrewPlaces w) := by
  obtain ⟨i0, hi, hz0, hz1, hz2⟩ := info_parts infoIntP
  have HS := Lib.hid H
  clear H
  go_enter Tryd.func6, Tryd.ntmps6
  go_wp2_with fail
  refine (new_any a len cap _ HS.out).mono ?_
  rintro e w1 ⟨c, rfl, hc, hcur, hb⟩
  have HC1 := Lib.hid hcur
  have HB1 := Lib.hid hb
  clear hcur hb
  go_wp2_with fail
  refine (byte_any _ HC1.out).mono ?_
  rintro e w2 ⟨x, x0, x1, rfl, hcur, ho⟩
  have HC2 := Lib.hid hcur
  have HB2 := Lib.hid (HB1.out.trans (ho.below hc HB1.out.size))
  have hcs : c < w2.heap.size := cell_size (p := ⟨c, 0, none⟩) hcur.c0
  clear hcur ho HC1 HB1
  go_wp2
  go_loopw [4, 5] (fun v i wr => ∃ (k : Nat) (zs : List Int), k ≤ 12 ∧ zs.length = k ∧ (∀ z ∈ zs, 0 ≤ z ∧ z ≤ 9999) ∧ i = .int .i64 k ∧ OwnI wr w2.heap.size 3 v zs ∧ Cur c a len cap wr ∧ Only c w2 wr) (fun _ i _ => 12 - (intOf i).toNat)
  case atStart =>
    have hb := (Below.refl w2.heap.size w2).alloc (Nat.le_refl _) (.cells #[] 3)
    exact ⟨0, [], Nat.zero_le _, rfl, fun z hz => (by cases hz), rfl, OwnI.lit _ _ _ (Nat.le_refl _), HC2.out.below hb, .of_below hb⟩
  case round =>
    obtain ⟨k, zs, hk, hl, hzs, rfl, hown, hc1, ho⟩ := hrel
    have HC1 := Lib.hid hc1
    have HO1 := Lib.hid ho
    have HW := Lib.hid hown
    have HL := Lib.hid hl
    have HZ := Lib.hid hzs
    clear hc1 ho hown hl hzs HC2
    by_cases hlt : (k : Int) < 12
    · go_wp2_with fail
      refine (below_any 10000 (by omega) (by omega) _ HC1.out).mono ?_
      rintro e w3 ⟨y, y0, y1, rfl, hc2, ho2⟩
      have HC2 := Lib.hid hc2
      have HO2 := Lib.hid ho2
      have hw2 := HW.out.only ho2 hcs
      have hsz := Nat.le_trans HO1.out.size ho2.size
      have hl2 := HL.out
      clear hc2 ho2
      go_wp2_with (at_builtin; refine wpList_pushI _ rfl _ _ 24 rfl w2.heap.size 3 i0 Tryd.underlying24 hi hz0 hz1 hz2 _ _ rfl hw2 _ rfl (by omega) hsz ?_)
      intro v' w4 hown2 hnx2
      go_wp2
      go_roundw
      case rel =>
        refine ⟨k + 1, zs ++ [y], by omega, by simp [hl2], fun z hz => ?_, by go_num, hown2, HC2.out.kept hnx2 hcs, (HO1.out.trans HO2.out).behind hnx2⟩
        rcases List.mem_append.1 hz with h | h
        · exact HZ.out z h
        · simp at h; subst h; omega
      case measure => simp [intOf]; omega
    · have hk12 : k = 12 := by omega
      obtain ⟨g, cp, rfl, hg, hcell⟩ := HW.out.form (by have := HL.out; omega)
      have HG := Lib.hid hcell
      clear hcell
      go_wp2
      go_ret
      refine ⟨g, cp, zs, by rw [HL.out, hk12], HZ.out, by rw [HL.out, hk12]; rfl, hg, fun j hj => HG.out j (by rw [HL.out, hk12]; exact hj), HB2.out.trans (HO1.out.below hc HB2.out.size)⟩

end Go.Proofs.YtpfkokjbpfaafaeDoor
namespace Go.Proofs.YtpfkokjbpfaafaeDoor
open Go.RowKit

/-- Right ones are few: no more than six are above the first less six. -/
theorem seenTo_few {xs : List Int} (h : SeenTo xs xs.length) : xs.length ≤ 6 := by
  have hd : DescZ xs := (desc_iff xs).2 fun i hi => (h (i + 1) hi hi).2.1 (by omega)
  have hm : ∀ x ∈ xs, topZ xs - 6 < x := fun x hx => by
    obtain ⟨i, hi, rfl⟩ := List.getElem_of_mem hx
    exact (h i hi hi).2.2
  have := desc_len hd hm
  omega
set_option maxRecDepth 100000 in
set_option maxHeartbeats 3200000 in
theorem implSeenOk_bool (xs : List Int) (v : Value) (b : Bool) (hb : b = true ↔ SeenP xs) (hl : xs.length ≤ 100000000) (_hwf : ∀ x ∈ xs, IntZ x) (w : World) (h : layIntS.rd w [v] xs) :
    Calls Tryd.prog 36 #[v] w fun e w' => e = .returned (.bool b) ∧ Below w.heap.size w w' := by
  rw [seenP_iff] at hb
  obtain ⟨ao, cp, rfl⟩ := rows_form h
  have HR := Lib.hid h
  have HB := Lib.hid hb
  have HF : Hid (¬ SeenTo xs xs.length → b = false) := Lib.hid (fun h => by
    cases b with
    | false => rfl
    | true => exact absurd (hb.1 rfl).1 h)
  clear h hb
  go_enter Tryd.func36, Tryd.ntmps36
  go_wp2_with fail
  go_loop [7] (fun c => ∃ j : Nat, j ≤ xs.length ∧ c = .int .i64 j ∧ Hid (SeenTo xs j)) (fun c => xs.length - (intOf c).toNat)
  case atStart => exact ⟨0, Nat.zero_le _, rfl, Lib.hid (fun i _ h => absurd h (by omega))⟩
  case round =>
    obtain ⟨j, hj, rfl, HA⟩ := hrel
    by_cases hlt : j < xs.length
    · have hlt' : (j : Int) < (xs.length : Int) := by omega
      have hl0 : (0 : Int) < (xs.length : Int) := by omega
      obtain ⟨g, off, c2, hv, -, c0⟩ := ints_get HR.out j hlt
      simp only [Value.slice.injEq] at hv
      obtain ⟨rfl, -, rfl⟩ := hv
      have d0 := ints_at HR.out (show 0 < xs.length by omega) rfl
      have d1 : w.cell? ⟨g, off, none⟩ = some (.int .i64 (xs[0]'(by omega))) := d0
      obtain ⟨p, hpe⟩ : ∃ p : Int, (hj2 : j - 1 < xs.length) → xs[j - 1] = p := ⟨xs.getD (j - 1) 0, fun h => by rw [List.getD_eq_getElem?_getD, List.getElem?_eq_getElem h]; rfl⟩
      have hpv : 0 < j → ∀ i : Nat, i = j - 1 → w.cell? ⟨g, off + i, none⟩ = some (.int .i64 p) := fun h0 i hi => by
        subst hi
        rw [← hpe (by omega)]
        exact ints_at HR.out (show j - 1 < xs.length by omega) rfl
      have htop : topZ xs = xs[0]'(by omega) := top_get (by omega)
      have hfirst : 0 < j → 1 ≤ xs[0]'(by omega) ∧ xs[0]'(by omega) ≤ 1000000000 := fun h0 => (HA.out 0 (by omega) h0).1
      have hzero : j = 0 → xs[0]'(by omega) = xs[j] := fun h0 => by subst h0; rfl
      have HX : Hid (¬ ((1 ≤ xs[j] ∧ xs[j] ≤ 1000000000) ∧ (0 < j → xs[j] < p) ∧ xs[0]'(by omega) - 6 < xs[j]) → b = false) := Lib.hid (fun h => HF.out fun hw => h (by rw [← htop]; have := hw j hlt hlt; exact ⟨this.1, fun h0 => by rw [← hpe (by omega)]; exact this.2.1 h0, this.2.2⟩))
      have HNX : Hid ((1 ≤ xs[j] ∧ xs[j] ≤ 1000000000) → (0 < j → xs[j] < p) → xs[0]'(by omega) - 6 < xs[j] → SeenTo xs (j + 1)) := Lib.hid (fun h1 h2 h3 => seenTo_next hlt HA.out h1 (fun h0 => by rw [hpe (by omega)]; exact h2 h0) (by rw [htop]; exact h3))
      clear htop hpe
      generalize (xs[0]'(by omega)) = t at *
      generalize xs[j] = x at *
      by_cases h1 : 1 ≤ x
      rotate_left
      · obtain rfl := HX.out (fun h => h1 h.1.1)
        have k1 : decide (x < 1) = true := decide_eq_true (by omega)
        clear HX HNX h1 hpv hfirst hzero
        go_wp2_with fail
        go_ret
        exact ⟨rfl, Below.refl _ _⟩
      have k1 : decide (x < 1) = false := decide_eq_false (by omega)
      by_cases h2 : x ≤ 1000000000
      rotate_left
      · obtain rfl := HX.out (fun h => h2 h.1.2)
        have k2 : decide (1000000000 < x) = true := decide_eq_true (by omega)
        clear HX HNX h1 h2 hpv hfirst hzero
        go_wp2_with fail
        go_ret
        exact ⟨rfl, Below.refl _ _⟩
      have k2 : decide (1000000000 < x) = false := decide_eq_false (by omega)
      have ht : 1 ≤ t ∧ t ≤ 1000000000 := by
        rcases Nat.eq_zero_or_pos j with h0 | h0
        · rw [hzero h0]; exact ⟨h1, h2⟩
        · exact hfirst h0
      have hwt : IntKind.i64.wrap (t - 6) = t - 6 := by rw [IntKind.wrap_i64]; omega
      by_cases hf : t - 6 < x
      rotate_left
      · obtain rfl := HX.out (fun h => hf h.2.2)
        have k3 : decide (x ≤ t - 6) = true := decide_eq_true (by omega)
        clear HX HNX h1 h2 hf hpv hfirst hzero
        go_wp2_with fail
        go_ret
        exact ⟨rfl, Below.refl _ _⟩
      have k3 : decide (x ≤ t - 6) = false := decide_eq_false (by omega)
      rcases Nat.eq_zero_or_pos j with h0 | h0
      · have h00 : ¬ ((0 : Int) < (j : Int)) := by omega
        have h01 : ¬ (0 < j) := by omega
        have HJ := Lib.hid (HNX.out ⟨h1, h2⟩ (fun h => absurd h (by omega)) hf)
        clear HX HNX hpv hfirst hzero h0
        go_wp2_with fail
        go_round
        case rel => exact ⟨j + 1, by omega, by go_num, HJ⟩
        case measure => simp [intOf]; omega
      · have h0' : (0 : Int) < (j : Int) := by omega
        obtain ⟨i, hi⟩ : ∃ i : Nat, i = j - 1 := ⟨_, rfl⟩
        have hwi : IntKind.i64.wrap ((j : Int) - 1) = (i : Int) := by rw [IntKind.wrap_i64]; omega
        have hil : (i : Int) < (xs.length : Int) := by omega
        have p0 := hpv h0 i hi
        clear hpv hfirst hzero hi
        by_cases hp : x < p
        rotate_left
        · obtain rfl := HX.out (fun h => hp (h.2.1 h0))
          have hp' : decide (p ≤ x) = true := decide_eq_true (by omega)
          clear HX HNX hp
          go_wp2_with fail
          go_ret
          exact ⟨rfl, Below.refl _ _⟩
        have hp' : decide (p ≤ x) = false := decide_eq_false (by omega)
        have HJ := Lib.hid (HNX.out ⟨h1, h2⟩ (fun _ => hp) hf)
        clear HX HNX
        go_wp2_with fail
        go_round
        case rel => exact ⟨j + 1, by omega, by go_num, HJ⟩
        case measure => simp [intOf]; omega
    · obtain rfl : j = xs.length := by omega
      have hge : ¬ ((xs.length : Int) < (xs.length : Int)) := by omega
      obtain rfl : b = true := HB.out.2 ⟨HA.out, seenTo_few HA.out⟩
      go_wp2_with fail
      go_ret
      exact ⟨rfl, Below.refl _ _⟩

end Go.Proofs.YtpfkokjbpfaafaeDoor
