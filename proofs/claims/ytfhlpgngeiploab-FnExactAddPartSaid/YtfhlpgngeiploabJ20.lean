/-
  Where one is held: the program's placeOf.
  Data that come as arguments, opened by their types: whatever is read of them lies as the lays say; no program is spoken of here.
  Numbers that are taken once, in plain words; no program is spoken of here.
  Right numbers that were seen, one behind another; no program is spoken of here.
-/
import Derived.Test.YtfhlpgngeiploabJ19
import Derived.Test.YtfhlpgngeiploabJ14
import Derived.Test.YtfhlpgngeiploabJ03
import Derived.ChangeSame
import Derived.ChangeMaps
import Derived.Deep.Slices
import Derived.Test.YtfhlpgngeiploabRows
namespace Go.Proofs.Ytfhlpgngeiploab
open Go.RowKit

/-- The first of From and Id, or none. -/
def PlaceIs (l : List HeldD) (a b : Int) (r : Int) : Prop := (∃ i : Nat, ∃ hi : i < l.length, r = (i : Int) ∧ SameV a b l[i] ∧ ∀ k, (hk : k < l.length) → k < i → ¬ SameV a b l[k]) ∨ (r = -1 ∧ ∀ x ∈ l, ¬ SameV a b x)
theorem placeIs_one {l : List HeldD} {a b r s : Int} (h : PlaceIs l a b r) (k : PlaceIs l a b s) : r = s := by
  rcases h with ⟨i, hi, rfl, h1, h2⟩ | ⟨rfl, h1⟩ <;> rcases k with ⟨j, hj, rfl, k1, k2⟩ | ⟨rfl, k1⟩
  · rcases Nat.lt_trichotomy i j with h9 | h9 | h9
    · exact absurd h1 (k2 i hi h9)
    · rw [h9]
    · exact absurd k1 (h2 j hj h9)
  · exact absurd h1 (k1 _ (List.getElem_mem hi))
  · exact absurd k1 (h1 _ (List.getElem_mem hj))
  · rfl

/-- Whether one is of From and Id. -/
theorem isOf_any (x0 x1 x2 : Int) (v3 v4 : Value) (x5 : Int) (q s : Nat) (a b : Int) (c : Bool) (hc : c = true ↔ (x0 = a ∧ x1 = b)) (w : World) (hq : w.cell? ⟨q, 0, none⟩ = some (.int .i64 a)) (hs : w.cell? ⟨s, 0, none⟩ = some (.int .i64 b)) :
    Calls Try.prog 45 #[.agg #[.int .i64 x0, .int .i64 x1, .int .i64 x2, v3, v4, .int .i64 x5], .pointer (some ⟨q, 0, none⟩), .pointer (some ⟨s, 0, none⟩)] w fun e w' => e = .returned (.bool c) ∧ Below w.heap.size w w' := by
  have A0 := Lib.hid (VarA.new w HeldT #[.int .i64 x0, .int .i64 x1, .int .i64 x2, v3, v4, .int .i64 x5])
  have B0 := Lib.hid ((Below.refl w.heap.size w).alloc (Nat.le_refl _) (.cells #[.int .i64 x0, .int .i64 x1, .int .i64 x2, v3, v4, .int .i64 x5] HeldT))
  have hq2 := (B0.out.cell (p := ⟨q, 0, none⟩) (cell_size hq)).trans hq
  have hs2 := (B0.out.cell (p := ⟨s, 0, none⟩) (cell_size hs)).trans hs
  go_enter Try.func45, Try.ntmps45
  go_upto_region 1 with fail
  generalize w.alloc (.cells #[.int .i64 x0, .int .i64 x1, .int .i64 x2, v3, v4, .int .i64 x5] HeldT) = X0 at *
  have c0 : X0.cell? ⟨w.heap.size, 0, none⟩ = some (.int .i64 x0) := A0.out.cell 0
  have c1 : X0.cell? ⟨w.heap.size, 1, none⟩ = some (.int .i64 x1) := A0.out.cell 1
  by_cases h0 : x0 = a
  rotate_left
  · have k0 : (x0 == a) = false := by rw [beq_eq_false_iff_ne]; exact h0
    obtain rfl : c = false := Bool.eq_false_iff.2 (fun e => h0 (hc.1 e).1)
    clear hc h0
    go_wp2_with fail
    go_ret
    exact ⟨rfl, B0.out⟩
  have k0 : (x0 == a) = true := by rw [beq_iff_eq]; exact h0
  by_cases h1 : x1 = b
  rotate_left
  · have k1 : (x1 == b) = false := by rw [beq_eq_false_iff_ne]; exact h1
    obtain rfl : c = false := Bool.eq_false_iff.2 (fun e => h1 (hc.1 e).2)
    clear hc h0 h1
    go_wp2_with fail
    go_ret
    exact ⟨rfl, B0.out⟩
  have k1 : (x1 == b) = true := by rw [beq_iff_eq]; exact h1
  obtain rfl : c = true := hc.2 ⟨h0, h1⟩
  clear hc h0 h1
  go_wp2_with fail
  go_ret
  exact ⟨rfl, B0.out⟩

set_option maxRecDepth 100000 in
set_option maxHeartbeats 1600000 in
theorem indexHeld_any (v : Value) (l : List HeldD) (a b r : Int) (hr : PlaceIs l a b r) (hl : l.length ≤ 100000000) (q s : Nat) (w : World) (h : layHeldS.rd w [v] l) (hq : w.cell? ⟨q, 0, none⟩ = some (.int .i64 a)) (hs : w.cell? ⟨s, 0, none⟩ = some (.int .i64 b)) :
    Calls Try.prog 44 #[v, .func (.func 45) #[] #[.pointer (some ⟨q, 0, none⟩), .pointer (some ⟨s, 0, none⟩)]] w fun e w' => e = .returned (.int .i64 r) ∧ Below w.heap.size w w' := by
  obtain ⟨ao, cp, rfl⟩ := rows_form h
  have HR := Lib.hid h
  have HP := Lib.hid hr
  have HQ := Lib.hid hq
  have HS := Lib.hid hs
  clear h hr hq hs
  go_enter Try.func44, Try.ntmps44
  go_wp2_with fail
  go_loopw [8] (fun c wr => ∃ j : Nat, j ≤ l.length ∧ c = .int .i64 j ∧ Hid (∀ k, (hk : k < l.length) → k < j → ¬ SameV a b l[k]) ∧ Hid (Below w.heap.size w wr)) (fun c _ => l.length - (intOf c).toNat)
  case atStart => exact ⟨0, Nat.zero_le _, rfl, Lib.hid (fun i _ h => absurd h (by omega)), Lib.hid (Below.refl _ _)⟩
  case round =>
    obtain ⟨j, hj, rfl, HA, HB⟩ := hrel
    by_cases hlt : j < l.length
    rotate_left
    · have hlt' : ¬ ((j : Int) < (l.length : Int)) := by omega
      obtain rfl : r = -1 := placeIs_one HP.out (.inr ⟨rfl, fun x hx => by
        obtain ⟨i, hi, rfl⟩ := List.getElem_of_mem hx
        exact HA.out i hi (by omega)⟩)
      clear HP HA
      go_wp2_with fail
      go_ret
      exact ⟨rfl, HB.out⟩
    have hlt' : (j : Int) < (l.length : Int) := by omega
    have HE : Hid (SameV a b l[j] → r = (j : Int)) := Lib.hid (fun h => placeIs_one HP.out (.inl ⟨j, hlt, rfl, h, HA.out⟩))
    have HNX : Hid (¬ SameV a b l[j] → ∀ k, (hk : k < l.length) → k < j + 1 → ¬ SameV a b l[k]) := Lib.hid (fun hx i hi h => by
      rcases Nat.lt_or_ge i j with h2 | h2
      · exact HA.out i hi h2
      · have : i = j := by omega
        subst this
        exact hx)
    obtain ⟨g, og, cs, rfl, hg, hr, hcl⟩ := rows_elem (layHeldS.below HR.out HB.out) j _ (List.getElem?_eq_getElem hlt)
    generalize l[j] = y at hr HE HNX
    obtain ⟨v3, v4, rfl, -, -⟩ := layHeld_rd.1 hr
    obtain ⟨y0, y1, y2, r3, r4, y5⟩ := y
    have d0 : wr.cell? ⟨g, og + j * 6, none⟩ = some (.int .i64 y0) := hcl 0 _ rfl
    have d1 : wr.cell? ⟨g, og + j * 6 + 1, none⟩ = some (.int .i64 y1) := hcl 1 _ rfl
    have d2 : wr.cell? ⟨g, og + j * 6 + 2, none⟩ = some (.int .i64 y2) := hcl 2 _ rfl
    have d3 : wr.cell? ⟨g, og + j * 6 + 3, none⟩ = some v3 := hcl 3 _ rfl
    have d4 : wr.cell? ⟨g, og + j * 6 + 4, none⟩ = some v4 := hcl 4 _ rfl
    have d5 : wr.cell? ⟨g, og + j * 6 + 5, none⟩ = some (.int .i64 y5) := hcl 5 _ rfl
    obtain ⟨c, hc⟩ : ∃ c : Bool, c = true ↔ (y0 = a ∧ y1 = b) := by
      by_cases h : y0 = a ∧ y1 = b
      · exact ⟨true, fun _ => h, fun _ => rfl⟩
      · exact ⟨false, fun e => (by cases e), fun e => absurd e h⟩
    have K := Lib.hid (isOf_any y0 y1 y2 v3 v4 y5 q s a b c hc wr ((HB.out.cell (p := ⟨q, 0, none⟩) (cell_size HQ.out)).trans HQ.out) ((HB.out.cell (p := ⟨s, 0, none⟩) (cell_size HS.out)).trans HS.out))
    clear hr hcl
    cases c with
    | true =>
      obtain rfl := HE.out (hc.1 rfl)
      clear hc HE HNX HP
      go_wp2_with fail
      refine K.out.mono ?_
      rintro e w1 ⟨rfl, hb1⟩
      have HB1 := Lib.hid (HB.out.trans (hb1.mono HB.out.size))
      clear hb1 K
      go_wp2_with fail
      go_ret
      exact ⟨rfl, HB1.out⟩
    | false =>
      have HN := Lib.hid (HNX.out (fun h => by cases hc.2 h))
      clear hc HE HNX
      go_wp2_with fail
      refine K.out.mono ?_
      rintro e w1 ⟨rfl, hb1⟩
      have HB1 := Lib.hid (HB.out.trans (hb1.mono HB.out.size))
      clear hb1 K
      go_wp2_with fail
      go_roundw
      case rel => exact ⟨j + 1, by omega, by go_num, HN, HB1⟩
      case measure => simp [intOf]; omega

theorem placeOf_any (p : Nat) (v : Value) (l : List HeldD) (a b r : Int) (hr : PlaceIs l a b r) (hl : l.length ≤ 100000000) (w : World) (hp : w.cell? ⟨p, 0, none⟩ = some v) (h : layHeldS.rd w [v] l) :
    Calls Try.prog 21 #[.pointer (some ⟨p, 0, none⟩), .int .i64 a, .int .i64 b] w fun e w' => e = .returned (.int .i64 r) ∧ Below w.heap.size w w' := by
  have e1 : (w.alloc (.cells #[.int .i64 a] 3)).heap.size = w.heap.size + 1 := by simp
  have h2 := VarA.new (w.alloc (.cells #[.int .i64 a] 3)) 3 #[.int .i64 b]
  rw [e1] at h2
  have B0 := Lib.hid (((Below.refl w.heap.size w).alloc (Nat.le_refl _) (.cells #[.int .i64 a] 3)).alloc (by simp) (.cells #[.int .i64 b] 3))
  have A1 := (VarA.new w 3 #[.int .i64 a]).alloc (.cells #[.int .i64 b] 3)
  have c1 : ((w.alloc (.cells #[.int .i64 a] 3)).alloc (.cells #[.int .i64 b] 3)).cell? ⟨w.heap.size, 0, none⟩ = some (.int .i64 a) := A1.cell 0
  have c2 : ((w.alloc (.cells #[.int .i64 a] 3)).alloc (.cells #[.int .i64 b] 3)).cell? ⟨w.heap.size + 1, 0, none⟩ = some (.int .i64 b) := h2.cell 0
  have hp2 := (B0.out.cell (p := ⟨p, 0, none⟩) (cell_size hp)).trans hp
  have hr2 := layHeldS.below h B0.out
  have K := Lib.hid (indexHeld_any v l a b r hr hl w.heap.size (w.heap.size + 1) _ hr2 c1 c2)
  clear h h2 A1 c1 c2 hr2 hp e1
  go_enter Try.func21, Try.ntmps21
  go_upto_region 1 with fail
  generalize ((w.alloc (.cells #[.int .i64 a] 3)).alloc (.cells #[.int .i64 b] 3)) = Y at *
  go_wp2_with fail
  refine K.out.mono ?_
  rintro e w1 ⟨rfl, hb1⟩
  have HB1 := Lib.hid (B0.out.trans (hb1.mono B0.out.size))
  clear hb1 K
  go_wp2_with fail
  go_ret
  exact ⟨rfl, HB1.out⟩

end Go.Proofs.Ytfhlpgngeiploab
namespace Go.Proofs.Ytfhlpgngeiploab
open Go.ChangeShapes Go.WideShapes Go.RowKit

section
variable {H : Type} (enc : TypeId × Value → H) (P : Program) (W : World)

/-- What is read at type t lies as A says, and G holds of it. -/
def Opens {α : Type} (A : Lay α) (t : TypeId) (G : α → Prop) : Prop := ∀ fuel cs d, DataW.trod enc P W 0 (fun _ => true) true fuel t cs = some d → ∃ x, A.rd W cs x ∧ G x
/-- The same of fields from a place on. -/
def OpensF {α : Type} (off : Nat) (fs : List Field) (A : Lay α) (G : α → Prop) : Prop :=
  ∀ cs : List Value, cs.length = off + A.k → (∀ f ∈ fs, ∃ n d, DataW.trod enc P W 0 (fun _ => true) true n f.type ((cs.drop f.offset).take (P.cellsOf f.type)) = some d) → ∃ x, A.rd W (cs.drop off) x ∧ G x

variable {enc P W}

theorem Opens.int {t : TypeId} (ht : P.underlying t = some (.int .i64)) : Opens enc P W Lay.int t (fun x => (Lit.int .i64 x).wf = true) := by
  intro fuel cs d h
  obtain ⟨a, e0, _, hw⟩ := DataW.trod_int ht h
  exact ⟨a, e0, hw⟩

theorem Opens.str {t : TypeId} (ht : P.underlying t = some .string) : Opens enc P W Lay.str t (fun x => x.size ≤ maxLen) := by
  intro fuel cs d h
  obtain ⟨a, e0, _, hw⟩ := DataW.trod_string ht h
  exact ⟨a, e0, hw⟩
theorem Opens.bool {t : TypeId} (ht : P.underlying t = some .bool) : Opens enc P W Lay.bool t (fun _ => True) := by
  intro fuel cs d h
  obtain ⟨a, e0, _⟩ := DataW.trod_bool ht h
  exact ⟨a, e0, trivial⟩

theorem OpensF.last {α : Type} {A : Lay α} {G : α → Prop} {off : Nat} {f : Field} (ho : f.offset = off) (hk : P.cellsOf f.type = A.k) (h : Opens enc P W A f.type G) : OpensF enc P W off [f] A G := by
  intro cs hl hf
  obtain ⟨n, d, hd⟩ := hf f List.mem_cons_self
  rw [ho, hk, List.take_of_length_le (by rw [List.length_drop]; omega)] at hd
  exact h n _ d hd
theorem OpensF.cons {α β : Type} {A : Lay α} {B : Lay β} {G : α → Prop} {K : β → Prop} {off : Nat} {f : Field} {fs : List Field} (ho : f.offset = off) (hk : P.cellsOf f.type = A.k) (h : Opens enc P W A f.type G) (hr : OpensF enc P W (off + A.k) fs B K) :
    OpensF enc P W off (f :: fs) (Lay.pair A B) (fun x => G x.1 ∧ K x.2) := by
  intro cs hl hf
  have hl' : cs.length = off + (A.k + B.k) := hl
  obtain ⟨n, d, hd⟩ := hf f List.mem_cons_self
  rw [ho, hk] at hd
  obtain ⟨x, hx, gx⟩ := h n _ d hd
  obtain ⟨y, hy, gy⟩ := hr cs (by omega) (fun f' hf' => hf f' (List.mem_cons_of_mem _ hf'))
  refine ⟨(x, y), ⟨_, _, ?_, hx, hy⟩, gx, gy⟩
  rw [← List.drop_drop, List.take_append_drop]
theorem Opens.struct {α : Type} {A : Lay α} {G : α → Prop} {t : TypeId} {fs : Array Field} (ht : P.underlying t = some (.struct fs)) (hk : P.cellsOf t = A.k) (h : OpensF enc P W 0 fs.toList A G) : Opens enc P W A t G := by
  intro fuel cs d hd
  obtain ⟨xs, n, _, _, hl, hlen, hp⟩ := DataW.trod_struct ht hd
  obtain ⟨x, hx, gx⟩ := h cs (by omega) (fun f hf => by
    obtain ⟨j, hj, e⟩ := List.getElem_of_mem hf
    have hj' : j < fs.size := by simpa using hj
    have := hp j f (by rw [Array.getElem?_eq_getElem hj']; simp at e; rw [e])
    exact ⟨n, xs[j]'(by omega), by rw [this, List.getElem?_eq_getElem (by omega)]⟩)
  exact ⟨x, by simpa using hx, gx⟩

theorem rows_build {α : Type} {A : Lay α} {g : Nat} : ∀ (n o : Nat) (f : Nat → List Value × α), (∀ i, i < n → A.rd W (f i).1 (f i).2 ∧ ∀ t u, (f i).1[t]? = some u → W.cell? ⟨g, o + (i * A.k + t), none⟩ = some u) →
    ∃ us, rdAll A W us ((List.range n).map fun i => (f i).2) ∧ ∀ i u, us[i]? = some u → W.cell? ⟨g, o + i, none⟩ = some u
  | 0, o, f, _ => ⟨[], rfl, fun i u h => by simp at h⟩
  | n + 1, o, f, h => by
    obtain ⟨us, h1, h2⟩ := rows_build n (o + A.k) (fun i => f (i + 1)) (fun i hi => by
      obtain ⟨q1, q2⟩ := h (i + 1) (by omega)
      refine ⟨q1, fun t u hu => ?_⟩
      have := q2 t u hu
      rw [show o + A.k + (i * A.k + t) = o + ((i + 1) * A.k + t) by rw [Nat.succ_mul]; omega]
      exact this)
    obtain ⟨q1, q2⟩ := h 0 (by omega)
    have hl := A.len q1
    refine ⟨(f 0).1 ++ us, ?_, fun i u hu => ?_⟩
    · rw [List.range_succ_eq_map, List.map_cons, List.map_map]
      exact ⟨_, _, rfl, q1, h1⟩
    · by_cases hi : i < A.k
      · rw [List.getElem?_append_left (by omega)] at hu
        have := q2 i u hu
        rwa [Nat.zero_mul, Nat.zero_add] at this
      · rw [List.getElem?_append_right (by omega), hl] at hu
        have := h2 (i - A.k) u hu
        rwa [show o + A.k + (i - A.k) = o + i by omega] at this

theorem Opens.rows {α : Type} {A : Lay α} {G : α → Prop} {t e' : TypeId} (e : TypeId) (ht : P.underlying t = some (.slice e')) (hk : P.cellsOf e' = A.k) (h : Opens enc P W A e' G) : Opens enc P W (Lay.rows e A) t (fun xs => xs.length ≤ maxLen ∧ ∀ x ∈ xs, G x) := by
  intro fuel cs d hd
  have hpos := A.pos
  rcases Deep.open_slice ht hd with ⟨rfl, _⟩ | ⟨a, len, cap, m, n, D, Pl, rfl, _, hl, hcm, hmm, _, hx⟩
  · exact ⟨[], ⟨_, rfl, .inl ⟨rfl, none, 0, rfl, fun _ => rfl⟩⟩, by simp, by simp⟩
  · have hlm : len ≤ m := by rw [hmm]; split <;> omega
    have each : ∀ i, i < len → ∃ q : List Value × α, (A.rd W q.1 q.2 ∧ ∀ s u, q.1[s]? = some u → W.cell? (a.add (i * A.k + s)) = some u) ∧ G q.2 := by
      intro i hi
      obtain ⟨cs', h1, h2⟩ := hx i (by omega)
      rw [hk] at h1
      obtain ⟨_, hlen, hcell⟩ := World.cells?_some h1
      obtain ⟨x, hxr, hg⟩ := h n cs' _ h2
      refine ⟨(cs', x), ⟨hxr, fun s u hu => ?_⟩, hg⟩
      have hs : s < A.k := by
        have k1 : s < cs'.length := (List.getElem?_eq_some_iff.1 hu).1
        have k2 : cs'.length = A.k := A.len hxr
        omega
      have := hcell s (by omega)
      rw [Deep.add_add] at this
      rw [this]
      exact hu
    by_cases h0 : len = 0
    · subst h0
      exact ⟨[], ⟨_, rfl, .inl ⟨rfl, some a, cap, rfl, fun h => by cases h⟩⟩, by simp, by simp⟩
    · haveI : Inhabited (List Value × α) := ⟨Classical.choose (each 0 (by omega))⟩
      obtain ⟨f, hq⟩ := Deep.choose_lt (α := List Value × α) each
      obtain ⟨b, off, spot⟩ := a
      obtain ⟨⟨r0, c0⟩, _⟩ := hq 0 (by omega)
      obtain ⟨u0, hu0⟩ : ∃ u, (f 0).1[0]? = some u := ⟨(f 0).1[0]'(by rw [A.len r0]; exact hpos), List.getElem?_eq_getElem _⟩
      have hc0 := c0 0 u0 hu0
      have hspot : spot = none := by simpa [Addr.add] using World.cell?_spot hc0
      subst hspot
      have hlt : b < W.heap.size := by
        have := World.block_lt_of_cell? W _ hc0
        simpa [Addr.add] using this
      obtain ⟨us, h1, h2⟩ := rows_build (g := b) len off f (fun i hi => by
        obtain ⟨⟨q1, q2⟩, _⟩ := hq i hi
        refine ⟨q1, fun s u hu => ?_⟩
        have := q2 s u hu
        rwa [add_plain] at this)
      refine ⟨(List.range len).map fun i => (f i).2, ⟨_, rfl, .inr ⟨b, off, cap, us, ?_, by simp; omega, hlt, h2, h1⟩⟩, ?_, fun x hx => ?_⟩
      · simp
      · simp
        omega
      · obtain ⟨i, hi, rfl⟩ := List.mem_map.1 hx
        exact (hq i (List.mem_range.1 hi)).2

/-- A struct as an argument. -/
theorem Opens.agg {α : Type} {A : Lay α} {G : α → Prop} {t : TypeId} {fs : Array Field} {r : Reach} {base : Nat} {v : Value} {d : DataW H} {p : List MemPlace} (h : Opens enc P W A t G) (ht : P.underlying t = some (.struct fs)) (hok : Value.okWide P W r base t v)
    (hd : DataW.Trod enc P W 0 (fun _ => true) true t v d p) : ∃ cs x, v = .agg cs.toArray ∧ A.rd W cs x ∧ G x := by
  obtain ⟨cs, rfl, _⟩ := okWide_struct ht hok
  obtain ⟨fuel, hf⟩ := hd
  obtain ⟨x, hx, hg⟩ := h fuel _ _ hf
  exact ⟨cs.toList, x, by simp, by simpa [Value.cells] using hx, hg⟩
/-- A slice as an argument. -/
theorem Opens.slice {α : Type} {A : Lay α} {G : α → Prop} {t e : TypeId} {r : Reach} {base : Nat} {v : Value} {d : DataW H} {p : List MemPlace} (h : Opens enc P W A t G) (ht : P.underlying t = some (.slice e)) (hok : Value.okWide P W r base t v)
    (hd : DataW.Trod enc P W 0 (fun _ => true) true t v d p) : ∃ x, A.rd W [v] x ∧ G x := by
  obtain ⟨a0, len0, cap0, rfl⟩ := okWide_slice ht hok
  obtain ⟨fuel, hf⟩ := hd
  obtain ⟨x, hx, hg⟩ := h fuel _ _ hf
  exact ⟨x, by simpa [Value.cells] using hx, hg⟩

end
end Go.Proofs.Ytfhlpgngeiploab
namespace Go.Proofs.Ytfhlpgngeiploab

end Go.Proofs.Ytfhlpgngeiploab
namespace Go.Proofs.Ytfhlpgngeiploab

/-- A number that an int holds. -/
def IntZ (x : Int) : Prop := -9223372036854775808 ≤ x ∧ x ≤ 9223372036854775807
end Go.Proofs.Ytfhlpgngeiploab
