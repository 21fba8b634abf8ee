/-
  Data that come as arguments, opened by their types: whatever is read of them lies as the lays say; no program is spoken of here.
  A packet as an argument, opened.
  A channel as an argument, opened.
-/
import Derived.Test.YthljmjbmmgligarJ04
import Derived.ChangeSame
import Derived.ChangeMaps
import Derived.Deep.Slices
import Derived.Test.YthljmjbmmgligarJ12
import Derived.Test.YthljmjbmmgligarJ40
namespace Go.Proofs.Ythljmjbmmgligar
open Go.ChangeShapes Go.WideShapes Go.RowKit

section
variable {H : Type} (enc : TypeId × Value → H) (P : Program) (W : World)

/-- What is read at type t lies as A says, and G holds of it. -/
def Opens {α : Type} (A : Lay α) (t : TypeId) (G : α → Prop) : Prop := ∀ fuel cs d, DataW.trod enc P W 0 (fun _ => true) true fuel t cs = some d → ∃ x, A.rd W cs x ∧ G x
/-- The same of fields from a place on. -/
def OpensF {α : Type} (off : Nat) (fs : List Field) (A : Lay α) (G : α → Prop) : Prop :=
  ∀ cs : List Value, cs.length = off + A.k → (∀ f ∈ fs, ∃ n d, DataW.trod enc P W 0 (fun _ => true) true n f.type ((cs.drop f.offset).take (P.cellsOf f.type)) = some d) → ∃ x, A.rd W (cs.drop off) x ∧ G x

variable {enc P W}

theorem Opens.int {t : TypeId} (ht : P.underlying t = some (.int .i64)) : Opens enc P W Lay.int t (fun x => (Lit.int .i64 x).wf = true) := by
  intro fuel cs d h
  obtain ⟨a, e0, _, hw⟩ := DataW.trod_int ht h
  exact ⟨a, e0, hw⟩

theorem Opens.str {t : TypeId} (ht : P.underlying t = some .string) : Opens enc P W Lay.str t (fun x => x.size ≤ maxLen) := by
  intro fuel cs d h
  obtain ⟨a, e0, _, hw⟩ := DataW.trod_string ht h
  exact ⟨a, e0, hw⟩
theorem Opens.bool {t : TypeId} (ht : P.underlying t = some .bool) : Opens enc P W Lay.bool t (fun _ => True) := by
  intro fuel cs d h
  obtain ⟨a, e0, _⟩ := DataW.trod_bool ht h
  exact ⟨a, e0, trivial⟩

theorem OpensF.last {α : Type} {A : Lay α} {G : α → Prop} {off : Nat} {f : Field} (ho : f.offset = off) (hk : P.cellsOf f.type = A.k) (h : Opens enc P W A f.type G) : OpensF enc P W off [f] A G := by
  intro cs hl hf
  obtain ⟨n, d, hd⟩ := hf f List.mem_cons_self
  rw [ho, hk, List.take_of_length_le (by rw [List.length_drop]; omega)] at hd
  exact h n _ d hd
theorem OpensF.cons {α β : Type} {A : Lay α} {B : Lay β} {G : α → Prop} {K : β → Prop} {off : Nat} {f : Field} {fs : List Field} (ho : f.offset = off) (hk : P.cellsOf f.type = A.k) (h : Opens enc P W A f.type G) (hr : OpensF enc P W (off + A.k) fs B K) :
    OpensF enc P W off (f :: fs) (Lay.pair A B) (fun x => G x.1 ∧ K x.2) := by
  intro cs hl hf
  have hl' : cs.length = off + (A.k + B.k) := hl
  obtain ⟨n, d, hd⟩ := hf f List.mem_cons_self
  rw [ho, hk] at hd
  obtain ⟨x, hx, gx⟩ := h n _ d hd
  obtain ⟨y, hy, gy⟩ := hr cs (by omega) (fun f' hf' => hf f' (List.mem_cons_of_mem _ hf'))
  refine ⟨(x, y), ⟨_, _, ?_, hx, hy⟩, gx, gy⟩
  rw [← List.drop_drop, List.take_append_drop]
theorem Opens.struct {α : Type} {A : Lay α} {G : α → Prop} {t : TypeId} {fs : Array Field} (ht : P.underlying t = some (.struct fs)) (hk : P.cellsOf t = A.k) (h : OpensF enc P W 0 fs.toList A G) : Opens enc P W A t G := by
  intro fuel cs d hd
  obtain ⟨xs, n, _, _, hl, hlen, hp⟩ := DataW.trod_struct ht hd
  obtain ⟨x, hx, gx⟩ := h cs (by omega) (fun f hf => by
    obtain ⟨j, hj, e⟩ := List.getElem_of_mem hf
    have hj' : j < fs.size := by simpa using hj
    have := hp j f (by rw [Array.getElem?_eq_getElem hj']; simp at e; rw [e])
    exact ⟨n, xs[j]'(by omega), by rw [this, List.getElem?_eq_getElem (by omega)]⟩)
  exact ⟨x, by simpa using hx, gx⟩

theorem rows_build {α : Type} {A : Lay α} {g : Nat} : ∀ (n o : Nat) (f : Nat → List Value × α), (∀ i, i < n → A.rd W (f i).1 (f i).2 ∧ ∀ t u, (f i).1[t]? = some u → W.cell? ⟨g, o + (i * A.k + t), none⟩ = some u) →
    ∃ us, rdAll A W us ((List.range n).map fun i => (f i).2) ∧ ∀ i u, us[i]? = some u → W.cell? ⟨g, o + i, none⟩ = some u
  | 0, o, f, _ => ⟨[], rfl, fun i u h => by simp at h⟩
  | n + 1, o, f, h => by
    obtain ⟨us, h1, h2⟩ := rows_build n (o + A.k) (fun i => f (i + 1)) (fun i hi => by
      obtain ⟨q1, q2⟩ := h (i + 1) (by omega)
      refine ⟨q1, fun t u hu => ?_⟩
      have := q2 t u hu
      rw [show o + A.k + (i * A.k + t) = o + ((i + 1) * A.k + t) by rw [Nat.succ_mul]; omega]
      exact this)
    obtain ⟨q1, q2⟩ := h 0 (by omega)
    have hl := A.len q1
    refine ⟨(f 0).1 ++ us, ?_, fun i u hu => ?_⟩
    · rw [List.range_succ_eq_map, List.map_cons, List.map_map]
      exact ⟨_, _, rfl, q1, h1⟩
    · by_cases hi : i < A.k
      · rw [List.getElem?_append_left (by omega)] at hu
        have := q2 i u hu
        rwa [Nat.zero_mul, Nat.zero_add] at this
      · rw [List.getElem?_append_right (by omega), hl] at hu
        have := h2 (i - A.k) u hu
        rwa [show o + A.k + (i - A.k) = o + i by omega] at this

theorem Opens.rows {α : Type} {A : Lay α} {G : α → Prop} {t e' : TypeId} (e : TypeId) (ht : P.underlying t = some (.slice e')) (hk : P.cellsOf e' = A.k) (h : Opens enc P W A e' G) : Opens enc P W (Lay.rows e A) t (fun xs => xs.length ≤ maxLen ∧ ∀ x ∈ xs, G x) := by
  intro fuel cs d hd
  have hpos := A.pos
  rcases Deep.open_slice ht hd with ⟨rfl, _⟩ | ⟨a, len, cap, m, n, D, Pl, rfl, _, hl, hcm, hmm, _, hx⟩
  · exact ⟨[], ⟨_, rfl, .inl ⟨rfl, none, 0, rfl, fun _ => rfl⟩⟩, by simp, by simp⟩
  · have hlm : len ≤ m := by rw [hmm]; split <;> omega
    have each : ∀ i, i < len → ∃ q : List Value × α, (A.rd W q.1 q.2 ∧ ∀ s u, q.1[s]? = some u → W.cell? (a.add (i * A.k + s)) = some u) ∧ G q.2 := by
      intro i hi
      obtain ⟨cs', h1, h2⟩ := hx i (by omega)
      rw [hk] at h1
      obtain ⟨_, hlen, hcell⟩ := World.cells?_some h1
      obtain ⟨x, hxr, hg⟩ := h n cs' _ h2
      refine ⟨(cs', x), ⟨hxr, fun s u hu => ?_⟩, hg⟩
      have hs : s < A.k := by
        have k1 : s < cs'.length := (List.getElem?_eq_some_iff.1 hu).1
        have k2 : cs'.length = A.k := A.len hxr
        omega
      have := hcell s (by omega)
      rw [Deep.add_add] at this
      rw [this]
      exact hu
    by_cases h0 : len = 0
    · subst h0
      exact ⟨[], ⟨_, rfl, .inl ⟨rfl, some a, cap, rfl, fun h => by cases h⟩⟩, by simp, by simp⟩
    · haveI : Inhabited (List Value × α) := ⟨Classical.choose (each 0 (by omega))⟩
      obtain ⟨f, hq⟩ := Deep.choose_lt (α := List Value × α) each
      obtain ⟨b, off, spot⟩ := a
      obtain ⟨⟨r0, c0⟩, _⟩ := hq 0 (by omega)
      obtain ⟨u0, hu0⟩ : ∃ u, (f 0).1[0]? = some u := ⟨(f 0).1[0]'(by rw [A.len r0]; exact hpos), List.getElem?_eq_getElem _⟩
      have hc0 := c0 0 u0 hu0
      have hspot : spot = none := by simpa [Addr.add] using World.cell?_spot hc0
      subst hspot
      have hlt : b < W.heap.size := by
        have := World.block_lt_of_cell? W _ hc0
        simpa [Addr.add] using this
      obtain ⟨us, h1, h2⟩ := rows_build (g := b) len off f (fun i hi => by
        obtain ⟨⟨q1, q2⟩, _⟩ := hq i hi
        refine ⟨q1, fun s u hu => ?_⟩
        have := q2 s u hu
        rwa [add_plain] at this)
      refine ⟨(List.range len).map fun i => (f i).2, ⟨_, rfl, .inr ⟨b, off, cap, us, ?_, by simp; omega, hlt, h2, h1⟩⟩, ?_, fun x hx => ?_⟩
      · simp
      · simp
        omega
      · obtain ⟨i, hi, rfl⟩ := List.mem_map.1 hx
        exact (hq i (List.mem_range.1 hi)).2

/-- A struct as an argument. -/
theorem Opens.agg {α : Type} {A : Lay α} {G : α → Prop} {t : TypeId} {fs : Array Field} {r : Reach} {base : Nat} {v : Value} {d : DataW H} {p : List MemPlace} (h : Opens enc P W A t G) (ht : P.underlying t = some (.struct fs)) (hok : Value.okWide P W r base t v)
    (hd : DataW.Trod enc P W 0 (fun _ => true) true t v d p) : ∃ cs x, v = .agg cs.toArray ∧ A.rd W cs x ∧ G x := by
  obtain ⟨cs, rfl, _⟩ := okWide_struct ht hok
  obtain ⟨fuel, hf⟩ := hd
  obtain ⟨x, hx, hg⟩ := h fuel _ _ hf
  exact ⟨cs.toList, x, by simp, by simpa [Value.cells] using hx, hg⟩
/-- A slice as an argument. -/
theorem Opens.slice {α : Type} {A : Lay α} {G : α → Prop} {t e : TypeId} {r : Reach} {base : Nat} {v : Value} {d : DataW H} {p : List MemPlace} (h : Opens enc P W A t G) (ht : P.underlying t = some (.slice e)) (hok : Value.okWide P W r base t v)
    (hd : DataW.Trod enc P W 0 (fun _ => true) true t v d p) : ∃ x, A.rd W [v] x ∧ G x := by
  obtain ⟨a0, len0, cap0, rfl⟩ := okWide_slice ht hok
  obtain ⟨fuel, hf⟩ := hd
  obtain ⟨x, hx, hg⟩ := h fuel _ _ hf
  exact ⟨x, by simpa [Value.cells] using hx, hg⟩

end
end Go.Proofs.Ythljmjbmmgligar
namespace Go.Proofs.Ythljmjbmmgligar
open Go.ChangeShapes Go.WideShapes Go.RowKit

def wfP (x : Int) : Prop := (Lit.int .i64 x).wf = true
def layPkA : Lay (Int × Int × Int × Int × Int × List Int × ByteArray) := .pair .int (.pair .int (.pair .int (.pair .int (.pair .int (.pair layIntS .str)))))
theorem layPkA_rd {w : World} {cs : List Value} {x : Int × Int × Int × Int × Int × List Int × ByteArray} (h : layPkA.rd w cs x) : ∃ v, cs = [.int .i64 x.1, .int .i64 x.2.1, .int .i64 x.2.2.1, .int .i64 x.2.2.2.1, .int .i64 x.2.2.2.2.1, v, .string x.2.2.2.2.2.2] ∧ layIntS.rd w [v] x.2.2.2.2.2.1 := by
  obtain ⟨c1, d1, rfl, rfl, c2, d2, rfl, rfl, c3, d3, rfl, rfl, c4, d4, rfl, rfl, c5, d5, rfl, rfl, c6, d6, rfl, ⟨v, rfl, h6⟩, rfl⟩ := h
  exact ⟨v, rfl, ⟨v, rfl, h6⟩⟩
set_option maxRecDepth 100000 in
theorem opensPkA {H : Type} (enc : TypeId × Value → H) (W : World) : Opens enc Try.prog W layPkA LPkT (fun x => wfP x.1 ∧ wfP x.2.1 ∧ wfP x.2.2.1 ∧ wfP x.2.2.2.1 ∧ wfP x.2.2.2.2.1 ∧ (x.2.2.2.2.2.1.length ≤ maxLen ∧ ∀ y ∈ x.2.2.2.2.2.1, wfP y) ∧ x.2.2.2.2.2.2.size ≤ maxLen) := by
  refine Opens.struct (A := layPkA) Try.underlying50 (by kernel_rfl) ?_
  refine OpensF.cons (A := Lay.int) (B := .pair .int (.pair .int (.pair .int (.pair .int (.pair layIntS .str))))) (G := wfP) (K := fun x => wfP x.1 ∧ wfP x.2.1 ∧ wfP x.2.2.1 ∧ wfP x.2.2.2.1 ∧ (x.2.2.2.2.1.length ≤ maxLen ∧ ∀ y ∈ x.2.2.2.2.1, wfP y) ∧ x.2.2.2.2.2.size ≤ maxLen) rfl (by kernel_rfl) (Opens.int Try.underlying3) ?_
  refine OpensF.cons (A := Lay.int) (B := .pair .int (.pair .int (.pair .int (.pair layIntS .str)))) (G := wfP) (K := fun x => wfP x.1 ∧ wfP x.2.1 ∧ wfP x.2.2.1 ∧ (x.2.2.2.1.length ≤ maxLen ∧ ∀ y ∈ x.2.2.2.1, wfP y) ∧ x.2.2.2.2.size ≤ maxLen) rfl (by kernel_rfl) (Opens.int Try.underlying3) ?_
  refine OpensF.cons (A := Lay.int) (B := .pair .int (.pair .int (.pair layIntS .str))) (G := wfP) (K := fun x => wfP x.1 ∧ wfP x.2.1 ∧ (x.2.2.1.length ≤ maxLen ∧ ∀ y ∈ x.2.2.1, wfP y) ∧ x.2.2.2.size ≤ maxLen) rfl (by kernel_rfl) (Opens.int Try.underlying3) ?_
  refine OpensF.cons (A := Lay.int) (B := .pair .int (.pair layIntS .str)) (G := wfP) (K := fun x => wfP x.1 ∧ (x.2.1.length ≤ maxLen ∧ ∀ y ∈ x.2.1, wfP y) ∧ x.2.2.size ≤ maxLen) rfl (by kernel_rfl) (Opens.int Try.underlying3) ?_
  refine OpensF.cons (A := Lay.int) (B := .pair layIntS .str) (G := wfP) (K := fun x => (x.1.length ≤ maxLen ∧ ∀ y ∈ x.1, wfP y) ∧ x.2.size ≤ maxLen) rfl (by kernel_rfl) (Opens.int Try.underlying3) ?_
  refine OpensF.cons (A := layIntS) (B := .str) (G := fun y => y.length ≤ maxLen ∧ ∀ z ∈ y, wfP z) (K := fun x => x.size ≤ maxLen) rfl (by kernel_rfl) (Opens.rows 3 Try.underlying25 (by kernel_rfl) (Opens.int Try.underlying3)) ?_
  exact OpensF.last (A := Lay.str) rfl (by kernel_rfl) (Opens.str Try.underlying9)
set_option maxRecDepth 100000 in
theorem open_packet {H : Type} {enc : TypeId × Value → H} {W : World} {r : Reach} {base : Nat} {v : Value} {d : DataW H} {p : List MemPlace} (hok : Value.okWide Try.prog W r base LPkT v) (h : DataW.Trod enc Try.prog W 0 (fun _ => true) true LPkT v d p) :
    ∃ (op key fr dst num : Int) (u : Value) (xs : List Int) (body : ByteArray), v = .agg #[.int .i64 op, .int .i64 key, .int .i64 fr, .int .i64 dst, .int .i64 num, u, .string body] ∧ layIntS.rd W [u] xs ∧ xs.length ≤ maxLen ∧ body.size ≤ maxLen := by
  obtain ⟨cs, x, rfl, hx, hg⟩ := Opens.agg (opensPkA enc W) Try.underlying50 hok h
  obtain ⟨u, rfl, h2⟩ := layPkA_rd hx
  exact ⟨_, _, _, _, _, u, _, _, rfl, h2, hg.2.2.2.2.2.1.1, hg.2.2.2.2.2.2⟩

end Go.Proofs.Ythljmjbmmgligar
namespace Go.Proofs.Ythljmjbmmgligar
open Go.ChangeShapes Go.WideShapes Go.RowKit

abbrev LChT : TypeId := 36
abbrev LPnT : TypeId := 96
abbrev LErT : TypeId := 98
def PG (z : PendingD) : Prop := wfP z.1 ∧ z.2.1.size ≤ maxLen ∧ wfP z.2.2.1 ∧ wfP z.2.2.2
def EG (z : EarlyD) : Prop := wfP z.1 ∧ z.2.size ≤ maxLen
def SG (y : List ByteArray) : Prop := y.length ≤ maxLen ∧ ∀ z ∈ y, z.size ≤ maxLen
def PSG (y : List PendingD) : Prop := y.length ≤ maxLen ∧ ∀ z ∈ y, PG z
def ESG (y : List EarlyD) : Prop := y.length ≤ maxLen ∧ ∀ z ∈ y, EG z
def ISG (y : List Int) : Prop := y.length ≤ maxLen ∧ ∀ z ∈ y, wfP z
set_option maxRecDepth 100000 in
theorem opensPnA {H : Type} (enc : TypeId × Value → H) (W : World) : Opens enc Try.prog W layPending LPnT PG := by
  refine Opens.struct (A := layPending) Try.underlying96 (by kernel_rfl) ?_
  refine OpensF.cons (A := Lay.int) (B := .pair .str (.pair .int .int)) (G := wfP) (K := fun x => x.1.size ≤ maxLen ∧ wfP x.2.1 ∧ wfP x.2.2) rfl (by kernel_rfl) (Opens.int Try.underlying3) ?_
  refine OpensF.cons (A := Lay.str) (B := .pair .int .int) (G := fun x => x.size ≤ maxLen) (K := fun x => wfP x.1 ∧ wfP x.2) rfl (by kernel_rfl) (Opens.str Try.underlying9) ?_
  refine OpensF.cons (A := Lay.int) (B := .int) (G := wfP) (K := wfP) rfl (by kernel_rfl) (Opens.int Try.underlying3) ?_
  exact OpensF.last (A := Lay.int) rfl (by kernel_rfl) (Opens.int Try.underlying3)
set_option maxRecDepth 100000 in
theorem opensErA {H : Type} (enc : TypeId × Value → H) (W : World) : Opens enc Try.prog W layEarly LErT EG := by
  refine Opens.struct (A := layEarly) Try.underlying98 (by kernel_rfl) ?_
  refine OpensF.cons (A := Lay.int) (B := .str) (G := wfP) (K := fun x => x.size ≤ maxLen) rfl (by kernel_rfl) (Opens.int Try.underlying3) ?_
  exact OpensF.last (A := Lay.str) rfl (by kernel_rfl) (Opens.str Try.underlying9)
set_option maxRecDepth 100000 in
theorem opensChA {H : Type} (enc : TypeId × Value → H) (W : World) : Opens enc Try.prog W layChan LChT (fun x => wfP x.1 ∧ wfP x.2.1 ∧ wfP x.2.2.1 ∧ SG x.2.2.2.1 ∧ PSG x.2.2.2.2.1 ∧ wfP x.2.2.2.2.2.1 ∧ ESG x.2.2.2.2.2.2.1 ∧ ISG x.2.2.2.2.2.2.2.1 ∧ SG x.2.2.2.2.2.2.2.2) := by
  refine Opens.struct (A := layChan) Try.underlying36 (by kernel_rfl) ?_
  refine OpensF.cons (A := Lay.int) (B := .pair Lay.int (.pair Lay.int (.pair layStringS (.pair layPendingS (.pair Lay.int (.pair layEarlyS (.pair layIntS layStringS))))))) (G := wfP) (K := fun x => wfP x.1 ∧ wfP x.2.1 ∧ SG x.2.2.1 ∧ PSG x.2.2.2.1 ∧ wfP x.2.2.2.2.1 ∧ ESG x.2.2.2.2.2.1 ∧ ISG x.2.2.2.2.2.2.1 ∧ SG x.2.2.2.2.2.2.2) rfl (by kernel_rfl) (Opens.int Try.underlying3) ?_
  refine OpensF.cons (A := Lay.int) (B := .pair Lay.int (.pair layStringS (.pair layPendingS (.pair Lay.int (.pair layEarlyS (.pair layIntS layStringS)))))) (G := wfP) (K := fun x => wfP x.1 ∧ SG x.2.1 ∧ PSG x.2.2.1 ∧ wfP x.2.2.2.1 ∧ ESG x.2.2.2.2.1 ∧ ISG x.2.2.2.2.2.1 ∧ SG x.2.2.2.2.2.2) rfl (by kernel_rfl) (Opens.int Try.underlying3) ?_
  refine OpensF.cons (A := Lay.int) (B := .pair layStringS (.pair layPendingS (.pair Lay.int (.pair layEarlyS (.pair layIntS layStringS))))) (G := wfP) (K := fun x => SG x.1 ∧ PSG x.2.1 ∧ wfP x.2.2.1 ∧ ESG x.2.2.2.1 ∧ ISG x.2.2.2.2.1 ∧ SG x.2.2.2.2.2) rfl (by kernel_rfl) (Opens.int Try.underlying3) ?_
  refine OpensF.cons (A := layStringS) (B := .pair layPendingS (.pair Lay.int (.pair layEarlyS (.pair layIntS layStringS)))) (G := SG) (K := fun x => PSG x.1 ∧ wfP x.2.1 ∧ ESG x.2.2.1 ∧ ISG x.2.2.2.1 ∧ SG x.2.2.2.2) rfl (by kernel_rfl) (Opens.rows 9 Try.underlying22 (by kernel_rfl) (Opens.str Try.underlying9)) ?_
  refine OpensF.cons (A := layPendingS) (B := .pair Lay.int (.pair layEarlyS (.pair layIntS layStringS))) (G := PSG) (K := fun x => wfP x.1 ∧ ESG x.2.1 ∧ ISG x.2.2.1 ∧ SG x.2.2.2) rfl (by kernel_rfl) (Opens.rows PendingT Try.underlying33 (by kernel_rfl) (opensPnA enc W)) ?_
  refine OpensF.cons (A := Lay.int) (B := .pair layEarlyS (.pair layIntS layStringS)) (G := wfP) (K := fun x => ESG x.1 ∧ ISG x.2.1 ∧ SG x.2.2) rfl (by kernel_rfl) (Opens.int Try.underlying3) ?_
  refine OpensF.cons (A := layEarlyS) (B := .pair layIntS layStringS) (G := ESG) (K := fun x => ISG x.1 ∧ SG x.2) rfl (by kernel_rfl) (Opens.rows EarlyT Try.underlying34 (by kernel_rfl) (opensErA enc W)) ?_
  refine OpensF.cons (A := layIntS) (B := layStringS) (G := ISG) (K := fun x => SG x) rfl (by kernel_rfl) (Opens.rows 3 Try.underlying25 (by kernel_rfl) (Opens.int Try.underlying3)) ?_
  exact OpensF.last (A := layStringS) rfl (by kernel_rfl) (Opens.rows 9 Try.underlying22 (by kernel_rfl) (Opens.str Try.underlying9))
set_option maxRecDepth 100000 in
theorem open_chan {H : Type} {enc : TypeId × Value → H} {W : World} {r : Reach} {base : Nat} {v : Value} {d : DataW H} {p : List MemPlace} (hok : Value.okWide Try.prog W r base LChT v) (h : DataW.Trod enc Try.prog W 0 (fun _ => true) true LChT v d p) :
    ∃ (n0 n1 n2 n5 : Int) (v3 v4 v6 v7 v8 : Value) (p3 : List ByteArray) (p4 : List PendingD) (p6 : List EarlyD) (p7 : List Int) (p8 : List ByteArray), v = .agg #[.int .i64 n0, .int .i64 n1, .int .i64 n2, v3, v4, .int .i64 n5, v6, v7, v8] ∧ ChanRd v3 v4 v6 v7 v8 p3 p4 p6 p7 p8 W ∧ RoomString p3 ∧ RoomPending p4 ∧ RoomEarly p6 ∧ RoomInt p7 ∧ RoomString p8 := by
  obtain ⟨cs, x, rfl, hx, hg⟩ := Opens.agg (opensChA enc W) Try.underlying36 hok h
  obtain ⟨v3, v4, v6, v7, v8, rfl, h3, h4, h6, h7, h8⟩ := layChan_rd.1 hx
  obtain ⟨_, _, _, g3, g4, _, g6, g7, g8⟩ := hg
  have hm : maxLen ≤ 9223372036854775807 := by unfold maxLen; omega
  exact ⟨_, _, _, _, v3, v4, v6, v7, v8, _, _, _, _, _, rfl, ⟨h3, h4, h6, h7, h8⟩, ⟨Nat.le_trans g3.1 hm, fun z hz => Nat.le_trans (g3.2 z hz) hm⟩, ⟨Nat.le_trans g4.1 hm, fun z hz => Nat.le_trans (g4.2 z hz).2.1 hm⟩, ⟨Nat.le_trans g6.1 hm, fun z hz => Nat.le_trans (g6.2 z hz).2 hm⟩, Nat.le_trans g7.1 hm, ⟨Nat.le_trans g8.1 hm, fun z hz => Nat.le_trans (g8.2 z hz) hm⟩⟩

end Go.Proofs.Ythljmjbmmgligar
