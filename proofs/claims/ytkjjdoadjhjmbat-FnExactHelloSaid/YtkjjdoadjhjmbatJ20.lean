/-
  The exact law on Hello, out of one answer that both give.
  Data that come as arguments, opened by their types: whatever is read of them lies as the lays say; no program is spoken of here.
-/
import Derived.Test.YtkjjdoadjhjmbatJ10
import Derived.Test.YtkjjdoadjhjmbatJ08
import Derived.ChangeSame
import Derived.ChangeMaps
import Derived.Deep.Slices
namespace Go.Proofs.Ytkjjdoadjhjmbat
open Go.RowKit

set_option maxRecDepth 100000 in
set_option maxHeartbeats 3200000 in
/-- The exact law on Hello, out of one answer that both give. -/
theorem lawHelloF (L : World → Prop) (stays : ∀ X Y, L X → Below X.heap.size X Y → L Y) (x0 x1 x2 x3 x4 : Int) (x5 x6 : ByteArray) (r5 : x5.size ≤ 9223372036854775807) (r6 : x6.size ≤ 9223372036854775807) (y0 y1 y2 y3 y4 : Int) (y5 y6 t : ByteArray)
    (hI : FitsGreeter x5 x6 → ∀ X : World, L X → Calls Try.prog 16 #[.agg #[.int .i64 x0, .int .i64 x1, .int .i64 x2, .int .i64 x3, .int .i64 x4, .string x5, .string x6]] X fun e Y => e = .returned (.tuple #[.agg #[.int .i64 y0, .int .i64 y1, .int .i64 y2, .int .i64 y3, .int .i64 y4, .string y5, .string y6], .string t]) ∧ Below X.heap.size X Y)
    (hS : FitsGreeter x5 x6 → ∀ X : World, Calls Try.prog 14 #[.agg #[.int .i64 x0, .int .i64 x1, .int .i64 x2, .int .i64 x3, .int .i64 x4, .string x5, .string x6]] X fun e Y => e = .returned (.tuple #[.agg #[.int .i64 y0, .int .i64 y1, .int .i64 y2, .int .i64 y3, .int .i64 y4, .string y5, .string y6], .string t]) ∧ Below X.heap.size X Y)
    (w : World) (ht : L w) :
    Calls Try.prog 4 #[.agg #[.int .i64 x0, .int .i64 x1, .int .i64 x2, .int .i64 x3, .int .i64 x4, .string x5, .string x6]] w fun e w' => e = .returned (.bool true) ∧ Below w.heap.size w w' := by
  have HI0 := Lib.hid hI
  have HT0 : Hid (∀ X, Below w.heap.size w X → L X) := fun X hX => stays w X ht hX
  have HS0 := Lib.hid hS
  have HT := Lib.hid (toGreeter_any x0 x1 x2 x3 x4 x5 x6)
  have htt : (t.toList == t.toList) = true := by simp
  have A := Lib.hid (VarA.new w LGrT #[.int .i64 x0, .int .i64 x1, .int .i64 x2, .int .i64 x3, .int .i64 x4, .string x5, .string x6])
  have B := Lib.hid ((Below.refl w.heap.size w).alloc (Nat.le_refl _) (.cells #[.int .i64 x0, .int .i64 x1, .int .i64 x2, .int .i64 x3, .int .i64 x4, .string x5, .string x6] LGrT))
  clear hI hS ht stays
  go_enter Try.func4, Try.ntmps4
  go_upto_region 1 with fail
  generalize w.alloc (.cells #[.int .i64 x0, .int .i64 x1, .int .i64 x2, .int .i64 x3, .int .i64 x4, .string x5, .string x6] LGrT) = Y0 at *
  have c0 : Y0.cell? ⟨w.heap.size, 0, none⟩ = some (.int .i64 x0) := A.out.cell 0
  have c1 : Y0.cell? ⟨w.heap.size, 1, none⟩ = some (.int .i64 x1) := A.out.cell 1
  have c2 : Y0.cell? ⟨w.heap.size, 2, none⟩ = some (.int .i64 x2) := A.out.cell 2
  have c3 : Y0.cell? ⟨w.heap.size, 3, none⟩ = some (.int .i64 x3) := A.out.cell 3
  have c4 : Y0.cell? ⟨w.heap.size, 4, none⟩ = some (.int .i64 x4) := A.out.cell 4
  have c5 : Y0.cell? ⟨w.heap.size, 5, none⟩ = some (.string x5) := A.out.cell 5
  have c6 : Y0.cell? ⟨w.heap.size, 6, none⟩ = some (.string x6) := A.out.cell 6
  have KZ := Lib.hid (szGreeter_any x0 x1 x2 x3 x4 x5 x6 1048576 (by omega) (by omega) r5 r6 Y0)
  go_wp2_with fail
  refine (KZ.out).mono ?_
  rintro e Y1 ⟨⟨z, rfl, hz⟩, hb⟩
  replace A := Lib.hid (A.out.next hb)
  replace B := Lib.hid (B.out.trans (hb.mono B.out.size))
  clear hb KZ c0 c1 c2 c3 c4 c5 c6
  rcases hz with rfl | ⟨hz0, hz1, hf⟩
  · go_wp2_with fail
    go_ret
    exact ⟨rfl, B.out⟩
  have hz2 : ¬ (z < 0) := by omega
  have HI := Lib.hid (HI0.out hf)
  have HS := Lib.hid (HS0.out hf)
  clear hf HI0 HS0
  have c0 : Y1.cell? ⟨w.heap.size, 0, none⟩ = some (.int .i64 x0) := A.out.cell 0
  have c1 : Y1.cell? ⟨w.heap.size, 1, none⟩ = some (.int .i64 x1) := A.out.cell 1
  have c2 : Y1.cell? ⟨w.heap.size, 2, none⟩ = some (.int .i64 x2) := A.out.cell 2
  have c3 : Y1.cell? ⟨w.heap.size, 3, none⟩ = some (.int .i64 x3) := A.out.cell 3
  have c4 : Y1.cell? ⟨w.heap.size, 4, none⟩ = some (.int .i64 x4) := A.out.cell 4
  have c5 : Y1.cell? ⟨w.heap.size, 5, none⟩ = some (.string x5) := A.out.cell 5
  have c6 : Y1.cell? ⟨w.heap.size, 6, none⟩ = some (.string x6) := A.out.cell 6
  go_wp2_with fail
  refine (HT.out _).mono ?_
  rintro e Y2 ⟨rfl, hb⟩
  replace A := Lib.hid (A.out.next hb)
  replace B := Lib.hid (B.out.trans (hb.mono B.out.size))
  clear hb c0 c1 c2 c3 c4 c5 c6
  go_wp2_with fail
  refine (HS.out _).mono ?_
  rintro e Y3 ⟨rfl, hb⟩
  replace A := Lib.hid (A.out.next hb)
  replace B := Lib.hid (B.out.trans (hb.mono B.out.size))
  clear hb
  have hal : Below Y3.heap.size Y3 (Y3.alloc (.cells #[.int .i64 y0, .int .i64 y1, .int .i64 y2, .int .i64 y3, .int .i64 y4, .string y5, .string y6] GreeterT)) := (Below.refl _ _).alloc (Nat.le_refl _) _
  have U := Lib.hid (VarA.new Y3 GreeterT #[.int .i64 y0, .int .i64 y1, .int .i64 y2, .int .i64 y3, .int .i64 y4, .string y5, .string y6])
  replace A := Lib.hid (A.out.next hal)
  replace B := Lib.hid (B.out.trans (hal.mono B.out.size))
  clear hal
  go_upto_region 6 with fail
  generalize Y3.alloc (.cells #[.int .i64 y0, .int .i64 y1, .int .i64 y2, .int .i64 y3, .int .i64 y4, .string y5, .string y6] GreeterT) = Z1 at *
  generalize Y3.heap.size = gu at *
  have c0 : Z1.cell? ⟨w.heap.size, 0, none⟩ = some (.int .i64 x0) := A.out.cell 0
  have c1 : Z1.cell? ⟨w.heap.size, 1, none⟩ = some (.int .i64 x1) := A.out.cell 1
  have c2 : Z1.cell? ⟨w.heap.size, 2, none⟩ = some (.int .i64 x2) := A.out.cell 2
  have c3 : Z1.cell? ⟨w.heap.size, 3, none⟩ = some (.int .i64 x3) := A.out.cell 3
  have c4 : Z1.cell? ⟨w.heap.size, 4, none⟩ = some (.int .i64 x4) := A.out.cell 4
  have c5 : Z1.cell? ⟨w.heap.size, 5, none⟩ = some (.string x5) := A.out.cell 5
  have c6 : Z1.cell? ⟨w.heap.size, 6, none⟩ = some (.string x6) := A.out.cell 6
  go_wp2_with fail
  refine (HT.out _).mono ?_
  rintro e Y5 ⟨rfl, hb⟩
  replace A := Lib.hid (A.out.next hb)
  replace B := Lib.hid (B.out.trans (hb.mono B.out.size))
  replace U := Lib.hid (U.out.next hb)
  clear hb c0 c1 c2 c3 c4 c5 c6
  go_wp2_with fail
  refine (HI.out _ (HT0.out _ B.out)).mono ?_
  rintro e Y6 ⟨rfl, hb⟩
  replace A := Lib.hid (A.out.next hb)
  replace B := Lib.hid (B.out.trans (hb.mono B.out.size))
  replace U := Lib.hid (U.out.next hb)
  clear hb
  have hal : Below Y6.heap.size Y6 (Y6.alloc (.cells #[.int .i64 y0, .int .i64 y1, .int .i64 y2, .int .i64 y3, .int .i64 y4, .string y5, .string y6] GreeterT)) := (Below.refl _ _).alloc (Nat.le_refl _) _
  have V := Lib.hid (VarA.new Y6 GreeterT #[.int .i64 y0, .int .i64 y1, .int .i64 y2, .int .i64 y3, .int .i64 y4, .string y5, .string y6])
  replace A := Lib.hid (A.out.next hal)
  replace B := Lib.hid (B.out.trans (hal.mono B.out.size))
  replace U := Lib.hid (U.out.next hal)
  clear hal
  go_upto_region 7 with fail
  generalize Y6.alloc (.cells #[.int .i64 y0, .int .i64 y1, .int .i64 y2, .int .i64 y3, .int .i64 y4, .string y5, .string y6] GreeterT) = Z2 at *
  generalize Y6.heap.size = gv at *
  have d0 : Z2.cell? ⟨gu, 0, none⟩ = some (.int .i64 y0) := U.out.cell 0
  have d1 : Z2.cell? ⟨gu, 1, none⟩ = some (.int .i64 y1) := U.out.cell 1
  have d2 : Z2.cell? ⟨gu, 2, none⟩ = some (.int .i64 y2) := U.out.cell 2
  have d3 : Z2.cell? ⟨gu, 3, none⟩ = some (.int .i64 y3) := U.out.cell 3
  have d4 : Z2.cell? ⟨gu, 4, none⟩ = some (.int .i64 y4) := U.out.cell 4
  have d5 : Z2.cell? ⟨gu, 5, none⟩ = some (.string y5) := U.out.cell 5
  have d6 : Z2.cell? ⟨gu, 6, none⟩ = some (.string y6) := U.out.cell 6
  have e0 : Z2.cell? ⟨gv, 0, none⟩ = some (.int .i64 y0) := V.out.cell 0
  have e1 : Z2.cell? ⟨gv, 1, none⟩ = some (.int .i64 y1) := V.out.cell 1
  have e2 : Z2.cell? ⟨gv, 2, none⟩ = some (.int .i64 y2) := V.out.cell 2
  have e3 : Z2.cell? ⟨gv, 3, none⟩ = some (.int .i64 y3) := V.out.cell 3
  have e4 : Z2.cell? ⟨gv, 4, none⟩ = some (.int .i64 y4) := V.out.cell 4
  have e5 : Z2.cell? ⟨gv, 5, none⟩ = some (.string y5) := V.out.cell 5
  have e6 : Z2.cell? ⟨gv, 6, none⟩ = some (.string y6) := V.out.cell 6
  have KE := Lib.hid (eqGreeter_same y0 y1 y2 y3 y4 y5 y6 Z2)
  go_wp2_with fail
  refine (KE.out).mono ?_
  rintro e Z3 ⟨rfl, hb⟩
  replace B := Lib.hid (B.out.trans (hb.mono B.out.size))
  clear hb
  go_wp2_with fail
  go_ret
  exact ⟨rfl, B.out⟩

end Go.Proofs.Ytkjjdoadjhjmbat
namespace Go.Proofs.Ytkjjdoadjhjmbat
open Go.ChangeShapes Go.WideShapes Go.RowKit

section
variable {H : Type} (enc : TypeId × Value → H) (P : Program) (W : World)

/-- What is read at type t lies as A says, and G holds of it. -/
def Opens {α : Type} (A : Lay α) (t : TypeId) (G : α → Prop) : Prop := ∀ fuel cs d, DataW.trod enc P W 0 (fun _ => true) true fuel t cs = some d → ∃ x, A.rd W cs x ∧ G x
/-- The same of fields from a place on. -/
def OpensF {α : Type} (off : Nat) (fs : List Field) (A : Lay α) (G : α → Prop) : Prop :=
  ∀ cs : List Value, cs.length = off + A.k → (∀ f ∈ fs, ∃ n d, DataW.trod enc P W 0 (fun _ => true) true n f.type ((cs.drop f.offset).take (P.cellsOf f.type)) = some d) → ∃ x, A.rd W (cs.drop off) x ∧ G x

variable {enc P W}

theorem Opens.int {t : TypeId} (ht : P.underlying t = some (.int .i64)) : Opens enc P W Lay.int t (fun x => (Lit.int .i64 x).wf = true) := by
  intro fuel cs d h
  obtain ⟨a, e0, _, hw⟩ := DataW.trod_int ht h
  exact ⟨a, e0, hw⟩

theorem Opens.str {t : TypeId} (ht : P.underlying t = some .string) : Opens enc P W Lay.str t (fun x => x.size ≤ maxLen) := by
  intro fuel cs d h
  obtain ⟨a, e0, _, hw⟩ := DataW.trod_string ht h
  exact ⟨a, e0, hw⟩
theorem Opens.bool {t : TypeId} (ht : P.underlying t = some .bool) : Opens enc P W Lay.bool t (fun _ => True) := by
  intro fuel cs d h
  obtain ⟨a, e0, _⟩ := DataW.trod_bool ht h
  exact ⟨a, e0, trivial⟩

theorem OpensF.last {α : Type} {A : Lay α} {G : α → Prop} {off : Nat} {f : Field} (ho : f.offset = off) (hk : P.cellsOf f.type = A.k) (h : Opens enc P W A f.type G) : OpensF enc P W off [f] A G := by
  intro cs hl hf
  obtain ⟨n, d, hd⟩ := hf f List.mem_cons_self
  rw [ho, hk, List.take_of_length_le (by rw [List.length_drop]; omega)] at hd
  exact h n _ d hd
theorem OpensF.cons {α β : Type} {A : Lay α} {B : Lay β} {G : α → Prop} {K : β → Prop} {off : Nat} {f : Field} {fs : List Field} (ho : f.offset = off) (hk : P.cellsOf f.type = A.k) (h : Opens enc P W A f.type G) (hr : OpensF enc P W (off + A.k) fs B K) :
    OpensF enc P W off (f :: fs) (Lay.pair A B) (fun x => G x.1 ∧ K x.2) := by
  intro cs hl hf
  have hl' : cs.length = off + (A.k + B.k) := hl
  obtain ⟨n, d, hd⟩ := hf f List.mem_cons_self
  rw [ho, hk] at hd
  obtain ⟨x, hx, gx⟩ := h n _ d hd
  obtain ⟨y, hy, gy⟩ := hr cs (by omega) (fun f' hf' => hf f' (List.mem_cons_of_mem _ hf'))
  refine ⟨(x, y), ⟨_, _, ?_, hx, hy⟩, gx, gy⟩
  rw [← List.drop_drop, List.take_append_drop]
theorem Opens.struct {α : Type} {A : Lay α} {G : α → Prop} {t : TypeId} {fs : Array Field} (ht : P.underlying t = some (.struct fs)) (hk : P.cellsOf t = A.k) (h : OpensF enc P W 0 fs.toList A G) : Opens enc P W A t G := by
  intro fuel cs d hd
  obtain ⟨xs, n, _, _, hl, hlen, hp⟩ := DataW.trod_struct ht hd
  obtain ⟨x, hx, gx⟩ := h cs (by omega) (fun f hf => by
    obtain ⟨j, hj, e⟩ := List.getElem_of_mem hf
    have hj' : j < fs.size := by simpa using hj
    have := hp j f (by rw [Array.getElem?_eq_getElem hj']; simp at e; rw [e])
    exact ⟨n, xs[j]'(by omega), by rw [this, List.getElem?_eq_getElem (by omega)]⟩)
  exact ⟨x, by simpa using hx, gx⟩

theorem rows_build {α : Type} {A : Lay α} {g : Nat} : ∀ (n o : Nat) (f : Nat → List Value × α), (∀ i, i < n → A.rd W (f i).1 (f i).2 ∧ ∀ t u, (f i).1[t]? = some u → W.cell? ⟨g, o + (i * A.k + t), none⟩ = some u) →
    ∃ us, rdAll A W us ((List.range n).map fun i => (f i).2) ∧ ∀ i u, us[i]? = some u → W.cell? ⟨g, o + i, none⟩ = some u
  | 0, o, f, _ => ⟨[], rfl, fun i u h => by simp at h⟩
  | n + 1, o, f, h => by
    obtain ⟨us, h1, h2⟩ := rows_build n (o + A.k) (fun i => f (i + 1)) (fun i hi => by
      obtain ⟨q1, q2⟩ := h (i + 1) (by omega)
      refine ⟨q1, fun t u hu => ?_⟩
      have := q2 t u hu
      rw [show o + A.k + (i * A.k + t) = o + ((i + 1) * A.k + t) by rw [Nat.succ_mul]; omega]
      exact this)
    obtain ⟨q1, q2⟩ := h 0 (by omega)
    have hl := A.len q1
    refine ⟨(f 0).1 ++ us, ?_, fun i u hu => ?_⟩
    · rw [List.range_succ_eq_map, List.map_cons, List.map_map]
      exact ⟨_, _, rfl, q1, h1⟩
    · by_cases hi : i < A.k
      · rw [List.getElem?_append_left (by omega)] at hu
        have := q2 i u hu
        rwa [Nat.zero_mul, Nat.zero_add] at this
      · rw [List.getElem?_append_right (by omega), hl] at hu
        have := h2 (i - A.k) u hu
        rwa [show o + A.k + (i - A.k) = o + i by omega] at this

theorem Opens.rows {α : Type} {A : Lay α} {G : α → Prop} {t e' : TypeId} (e : TypeId) (ht : P.underlying t = some (.slice e')) (hk : P.cellsOf e' = A.k) (h : Opens enc P W A e' G) : Opens enc P W (Lay.rows e A) t (fun xs => xs.length ≤ maxLen ∧ ∀ x ∈ xs, G x) := by
  intro fuel cs d hd
  have hpos := A.pos
  rcases Deep.open_slice ht hd with ⟨rfl, _⟩ | ⟨a, len, cap, m, n, D, Pl, rfl, _, hl, hcm, hmm, _, hx⟩
  · exact ⟨[], ⟨_, rfl, .inl ⟨rfl, none, 0, rfl, fun _ => rfl⟩⟩, by simp, by simp⟩
  · have hlm : len ≤ m := by rw [hmm]; split <;> omega
    have each : ∀ i, i < len → ∃ q : List Value × α, (A.rd W q.1 q.2 ∧ ∀ s u, q.1[s]? = some u → W.cell? (a.add (i * A.k + s)) = some u) ∧ G q.2 := by
      intro i hi
      obtain ⟨cs', h1, h2⟩ := hx i (by omega)
      rw [hk] at h1
      obtain ⟨_, hlen, hcell⟩ := World.cells?_some h1
      obtain ⟨x, hxr, hg⟩ := h n cs' _ h2
      refine ⟨(cs', x), ⟨hxr, fun s u hu => ?_⟩, hg⟩
      have hs : s < A.k := by
        have k1 : s < cs'.length := (List.getElem?_eq_some_iff.1 hu).1
        have k2 : cs'.length = A.k := A.len hxr
        omega
      have := hcell s (by omega)
      rw [Deep.add_add] at this
      rw [this]
      exact hu
    by_cases h0 : len = 0
    · subst h0
      exact ⟨[], ⟨_, rfl, .inl ⟨rfl, some a, cap, rfl, fun h => by cases h⟩⟩, by simp, by simp⟩
    · haveI : Inhabited (List Value × α) := ⟨Classical.choose (each 0 (by omega))⟩
      obtain ⟨f, hq⟩ := Deep.choose_lt (α := List Value × α) each
      obtain ⟨b, off, spot⟩ := a
      obtain ⟨⟨r0, c0⟩, _⟩ := hq 0 (by omega)
      obtain ⟨u0, hu0⟩ : ∃ u, (f 0).1[0]? = some u := ⟨(f 0).1[0]'(by rw [A.len r0]; exact hpos), List.getElem?_eq_getElem _⟩
      have hc0 := c0 0 u0 hu0
      have hspot : spot = none := by simpa [Addr.add] using World.cell?_spot hc0
      subst hspot
      have hlt : b < W.heap.size := by
        have := World.block_lt_of_cell? W _ hc0
        simpa [Addr.add] using this
      obtain ⟨us, h1, h2⟩ := rows_build (g := b) len off f (fun i hi => by
        obtain ⟨⟨q1, q2⟩, _⟩ := hq i hi
        refine ⟨q1, fun s u hu => ?_⟩
        have := q2 s u hu
        rwa [add_plain] at this)
      refine ⟨(List.range len).map fun i => (f i).2, ⟨_, rfl, .inr ⟨b, off, cap, us, ?_, by simp; omega, hlt, h2, h1⟩⟩, ?_, fun x hx => ?_⟩
      · simp
      · simp
        omega
      · obtain ⟨i, hi, rfl⟩ := List.mem_map.1 hx
        exact (hq i (List.mem_range.1 hi)).2

/-- A struct as an argument. -/
theorem Opens.agg {α : Type} {A : Lay α} {G : α → Prop} {t : TypeId} {fs : Array Field} {r : Reach} {base : Nat} {v : Value} {d : DataW H} {p : List MemPlace} (h : Opens enc P W A t G) (ht : P.underlying t = some (.struct fs)) (hok : Value.okWide P W r base t v)
    (hd : DataW.Trod enc P W 0 (fun _ => true) true t v d p) : ∃ cs x, v = .agg cs.toArray ∧ A.rd W cs x ∧ G x := by
  obtain ⟨cs, rfl, _⟩ := okWide_struct ht hok
  obtain ⟨fuel, hf⟩ := hd
  obtain ⟨x, hx, hg⟩ := h fuel _ _ hf
  exact ⟨cs.toList, x, by simp, by simpa [Value.cells] using hx, hg⟩
/-- A slice as an argument. -/
theorem Opens.slice {α : Type} {A : Lay α} {G : α → Prop} {t e : TypeId} {r : Reach} {base : Nat} {v : Value} {d : DataW H} {p : List MemPlace} (h : Opens enc P W A t G) (ht : P.underlying t = some (.slice e)) (hok : Value.okWide P W r base t v)
    (hd : DataW.Trod enc P W 0 (fun _ => true) true t v d p) : ∃ x, A.rd W [v] x ∧ G x := by
  obtain ⟨a0, len0, cap0, rfl⟩ := okWide_slice ht hok
  obtain ⟨fuel, hf⟩ := hd
  obtain ⟨x, hx, hg⟩ := h fuel _ _ hf
  exact ⟨x, by simpa [Value.cells] using hx, hg⟩

end
end Go.Proofs.Ytkjjdoadjhjmbat
