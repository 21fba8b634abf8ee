/-
  Data that come as arguments, opened by their types: whatever is read of them lies as the lays say; no program is spoken of here.
  The exact laws on TurnOk and BeginsWith, out of one answer that both give.
  Turns, and rows of texts, as arguments, opened.
-/
import Derived.Test.YtcdgbojmjnkeoasJ04
import Derived.ChangeSame
import Derived.ChangeMaps
import Derived.Deep.Slices
import Derived.Test.YtcdgbojmjnkeoasJ05
import Derived.Test.YtcdgbojmjnkeoasJ07
namespace Go.Proofs.Ytcdgbojmjnkeoas
open Go.ChangeShapes Go.WideShapes Go.RowKit

section
variable {H : Type} (enc : TypeId × Value → H) (P : Program) (W : World)

/-- What is read at type t lies as A says, and G holds of it. -/
def Opens {α : Type} (A : Lay α) (t : TypeId) (G : α → Prop) : Prop := ∀ fuel cs d, DataW.trod enc P W 0 (fun _ => true) true fuel t cs = some d → ∃ x, A.rd W cs x ∧ G x
/-- The same of fields from a place on. -/
def OpensF {α : Type} (off : Nat) (fs : List Field) (A : Lay α) (G : α → Prop) : Prop :=
  ∀ cs : List Value, cs.length = off + A.k → (∀ f ∈ fs, ∃ n d, DataW.trod enc P W 0 (fun _ => true) true n f.type ((cs.drop f.offset).take (P.cellsOf f.type)) = some d) → ∃ x, A.rd W (cs.drop off) x ∧ G x

variable {enc P W}

theorem Opens.int {t : TypeId} (ht : P.underlying t = some (.int .i64)) : Opens enc P W Lay.int t (fun x => (Lit.int .i64 x).wf = true) := by
  intro fuel cs d h
  obtain ⟨a, e0, _, hw⟩ := DataW.trod_int ht h
  exact ⟨a, e0, hw⟩

theorem Opens.str {t : TypeId} (ht : P.underlying t = some .string) : Opens enc P W Lay.str t (fun x => x.size ≤ maxLen) := by
  intro fuel cs d h
  obtain ⟨a, e0, _, hw⟩ := DataW.trod_string ht h
  exact ⟨a, e0, hw⟩
theorem Opens.bool {t : TypeId} (ht : P.underlying t = some .bool) : Opens enc P W Lay.bool t (fun _ => True) := by
  intro fuel cs d h
  obtain ⟨a, e0, _⟩ := DataW.trod_bool ht h
  exact ⟨a, e0, trivial⟩

theorem OpensF.last {α : Type} {A : Lay α} {G : α → Prop} {off : Nat} {f : Field} (ho : f.offset = off) (hk : P.cellsOf f.type = A.k) (h : Opens enc P W A f.type G) : OpensF enc P W off [f] A G := by
  intro cs hl hf
  obtain ⟨n, d, hd⟩ := hf f List.mem_cons_self
  rw [ho, hk, List.take_of_length_le (by rw [List.length_drop]; omega)] at hd
  exact h n _ d hd
theorem OpensF.cons {α β : Type} {A : Lay α} {B : Lay β} {G : α → Prop} {K : β → Prop} {off : Nat} {f : Field} {fs : List Field} (ho : f.offset = off) (hk : P.cellsOf f.type = A.k) (h : Opens enc P W A f.type G) (hr : OpensF enc P W (off + A.k) fs B K) :
    OpensF enc P W off (f :: fs) (Lay.pair A B) (fun x => G x.1 ∧ K x.2) := by
  intro cs hl hf
  have hl' : cs.length = off + (A.k + B.k) := hl
  obtain ⟨n, d, hd⟩ := hf f List.mem_cons_self
  rw [ho, hk] at hd
  obtain ⟨x, hx, gx⟩ := h n _ d hd
  obtain ⟨y, hy, gy⟩ := hr cs (by omega) (fun f' hf' => hf f' (List.mem_cons_of_mem _ hf'))
  refine ⟨(x, y), ⟨_, _, ?_, hx, hy⟩, gx, gy⟩
  rw [← List.drop_drop, List.take_append_drop]
theorem Opens.struct {α : Type} {A : Lay α} {G : α → Prop} {t : TypeId} {fs : Array Field} (ht : P.underlying t = some (.struct fs)) (hk : P.cellsOf t = A.k) (h : OpensF enc P W 0 fs.toList A G) : Opens enc P W A t G := by
  intro fuel cs d hd
  obtain ⟨xs, n, _, _, hl, hlen, hp⟩ := DataW.trod_struct ht hd
  obtain ⟨x, hx, gx⟩ := h cs (by omega) (fun f hf => by
    obtain ⟨j, hj, e⟩ := List.getElem_of_mem hf
    have hj' : j < fs.size := by simpa using hj
    have := hp j f (by rw [Array.getElem?_eq_getElem hj']; simp at e; rw [e])
    exact ⟨n, xs[j]'(by omega), by rw [this, List.getElem?_eq_getElem (by omega)]⟩)
  exact ⟨x, by simpa using hx, gx⟩

theorem rows_build {α : Type} {A : Lay α} {g : Nat} : ∀ (n o : Nat) (f : Nat → List Value × α), (∀ i, i < n → A.rd W (f i).1 (f i).2 ∧ ∀ t u, (f i).1[t]? = some u → W.cell? ⟨g, o + (i * A.k + t), none⟩ = some u) →
    ∃ us, rdAll A W us ((List.range n).map fun i => (f i).2) ∧ ∀ i u, us[i]? = some u → W.cell? ⟨g, o + i, none⟩ = some u
  | 0, o, f, _ => ⟨[], rfl, fun i u h => by simp at h⟩
  | n + 1, o, f, h => by
    obtain ⟨us, h1, h2⟩ := rows_build n (o + A.k) (fun i => f (i + 1)) (fun i hi => by
      obtain ⟨q1, q2⟩ := h (i + 1) (by omega)
      refine ⟨q1, fun t u hu => ?_⟩
      have := q2 t u hu
      rw [show o + A.k + (i * A.k + t) = o + ((i + 1) * A.k + t) by rw [Nat.succ_mul]; omega]
      exact this)
    obtain ⟨q1, q2⟩ := h 0 (by omega)
    have hl := A.len q1
    refine ⟨(f 0).1 ++ us, ?_, fun i u hu => ?_⟩
    · rw [List.range_succ_eq_map, List.map_cons, List.map_map]
      exact ⟨_, _, rfl, q1, h1⟩
    · by_cases hi : i < A.k
      · rw [List.getElem?_append_left (by omega)] at hu
        have := q2 i u hu
        rwa [Nat.zero_mul, Nat.zero_add] at this
      · rw [List.getElem?_append_right (by omega), hl] at hu
        have := h2 (i - A.k) u hu
        rwa [show o + A.k + (i - A.k) = o + i by omega] at this

theorem Opens.rows {α : Type} {A : Lay α} {G : α → Prop} {t e' : TypeId} (e : TypeId) (ht : P.underlying t = some (.slice e')) (hk : P.cellsOf e' = A.k) (h : Opens enc P W A e' G) : Opens enc P W (Lay.rows e A) t (fun xs => xs.length ≤ maxLen ∧ ∀ x ∈ xs, G x) := by
  intro fuel cs d hd
  have hpos := A.pos
  rcases Deep.open_slice ht hd with ⟨rfl, _⟩ | ⟨a, len, cap, m, n, D, Pl, rfl, _, hl, hcm, hmm, _, hx⟩
  · exact ⟨[], ⟨_, rfl, .inl ⟨rfl, none, 0, rfl, fun _ => rfl⟩⟩, by simp, by simp⟩
  · have hlm : len ≤ m := by rw [hmm]; split <;> omega
    have each : ∀ i, i < len → ∃ q : List Value × α, (A.rd W q.1 q.2 ∧ ∀ s u, q.1[s]? = some u → W.cell? (a.add (i * A.k + s)) = some u) ∧ G q.2 := by
      intro i hi
      obtain ⟨cs', h1, h2⟩ := hx i (by omega)
      rw [hk] at h1
      obtain ⟨_, hlen, hcell⟩ := World.cells?_some h1
      obtain ⟨x, hxr, hg⟩ := h n cs' _ h2
      refine ⟨(cs', x), ⟨hxr, fun s u hu => ?_⟩, hg⟩
      have hs : s < A.k := by
        have k1 : s < cs'.length := (List.getElem?_eq_some_iff.1 hu).1
        have k2 : cs'.length = A.k := A.len hxr
        omega
      have := hcell s (by omega)
      rw [Deep.add_add] at this
      rw [this]
      exact hu
    by_cases h0 : len = 0
    · subst h0
      exact ⟨[], ⟨_, rfl, .inl ⟨rfl, some a, cap, rfl, fun h => by cases h⟩⟩, by simp, by simp⟩
    · haveI : Inhabited (List Value × α) := ⟨Classical.choose (each 0 (by omega))⟩
      obtain ⟨f, hq⟩ := Deep.choose_lt (α := List Value × α) each
      obtain ⟨b, off, spot⟩ := a
      obtain ⟨⟨r0, c0⟩, _⟩ := hq 0 (by omega)
      obtain ⟨u0, hu0⟩ : ∃ u, (f 0).1[0]? = some u := ⟨(f 0).1[0]'(by rw [A.len r0]; exact hpos), List.getElem?_eq_getElem _⟩
      have hc0 := c0 0 u0 hu0
      have hspot : spot = none := by simpa [Addr.add] using World.cell?_spot hc0
      subst hspot
      have hlt : b < W.heap.size := by
        have := World.block_lt_of_cell? W _ hc0
        simpa [Addr.add] using this
      obtain ⟨us, h1, h2⟩ := rows_build (g := b) len off f (fun i hi => by
        obtain ⟨⟨q1, q2⟩, _⟩ := hq i hi
        refine ⟨q1, fun s u hu => ?_⟩
        have := q2 s u hu
        rwa [add_plain] at this)
      refine ⟨(List.range len).map fun i => (f i).2, ⟨_, rfl, .inr ⟨b, off, cap, us, ?_, by simp; omega, hlt, h2, h1⟩⟩, ?_, fun x hx => ?_⟩
      · simp
      · simp
        omega
      · obtain ⟨i, hi, rfl⟩ := List.mem_map.1 hx
        exact (hq i (List.mem_range.1 hi)).2

/-- A struct as an argument. -/
theorem Opens.agg {α : Type} {A : Lay α} {G : α → Prop} {t : TypeId} {fs : Array Field} {r : Reach} {base : Nat} {v : Value} {d : DataW H} {p : List MemPlace} (h : Opens enc P W A t G) (ht : P.underlying t = some (.struct fs)) (hok : Value.okWide P W r base t v)
    (hd : DataW.Trod enc P W 0 (fun _ => true) true t v d p) : ∃ cs x, v = .agg cs.toArray ∧ A.rd W cs x ∧ G x := by
  obtain ⟨cs, rfl, _⟩ := okWide_struct ht hok
  obtain ⟨fuel, hf⟩ := hd
  obtain ⟨x, hx, hg⟩ := h fuel _ _ hf
  exact ⟨cs.toList, x, by simp, by simpa [Value.cells] using hx, hg⟩
/-- A slice as an argument. -/
theorem Opens.slice {α : Type} {A : Lay α} {G : α → Prop} {t e : TypeId} {r : Reach} {base : Nat} {v : Value} {d : DataW H} {p : List MemPlace} (h : Opens enc P W A t G) (ht : P.underlying t = some (.slice e)) (hok : Value.okWide P W r base t v)
    (hd : DataW.Trod enc P W 0 (fun _ => true) true t v d p) : ∃ x, A.rd W [v] x ∧ G x := by
  obtain ⟨a0, len0, cap0, rfl⟩ := okWide_slice ht hok
  obtain ⟨fuel, hf⟩ := hd
  obtain ⟨x, hx, hg⟩ := h fuel _ _ hf
  exact ⟨x, by simpa [Value.cells] using hx, hg⟩

end
end Go.Proofs.Ytcdgbojmjnkeoas
namespace Go.Proofs.Ytcdgbojmjnkeoas
open Go.RowKit

abbrev LTnT : TypeId := 23
set_option maxRecDepth 100000 in
set_option maxHeartbeats 1600000 in
/-- The exact law on TurnOk, out of one answer that both give. -/
theorem lawTurnOkF (n0 n1 n2 : Int) (b : Bool)
    (hI : ∀ X : World, Calls Try.prog 8 #[.agg #[.int .i64 n0, .int .i64 n1, .int .i64 n2]] X fun e Y => e = .returned (.bool b) ∧ Below X.heap.size X Y)
    (hS : ∀ X : World, Calls Try.prog 6 #[.agg #[.int .i64 n0, .int .i64 n1, .int .i64 n2]] X fun e Y => e = .returned (.bool b) ∧ Below X.heap.size X Y)
    (w : World) :
    Calls Try.prog 3 #[.agg #[.int .i64 n0, .int .i64 n1, .int .i64 n2]] w fun e w' => e = .returned (.bool true) ∧ Below w.heap.size w w' := by
  have HI := Lib.hid hI
  have HS := Lib.hid hS
  have HT := Lib.hid (toTurn_any n0 n1 n2)
  have hbb : (b != b) = false := by cases b <;> rfl
  have A0 := Lib.hid (VarA.new w LTnT #[.int .i64 n0, .int .i64 n1, .int .i64 n2])
  have B0 := Lib.hid ((Below.refl w.heap.size w).alloc (Nat.le_refl _) (.cells #[.int .i64 n0, .int .i64 n1, .int .i64 n2] LTnT))
  clear hI hS
  go_enter Try.func3, Try.ntmps3
  go_upto_region 1 with fail
  generalize w.alloc (.cells #[.int .i64 n0, .int .i64 n1, .int .i64 n2] LTnT) = Y0 at *
  have c0 : Y0.cell? ⟨w.heap.size, 0, none⟩ = some (.int .i64 n0) := A0.out.cell 0
  have c1 : Y0.cell? ⟨w.heap.size, 1, none⟩ = some (.int .i64 n1) := A0.out.cell 1
  have c2 : Y0.cell? ⟨w.heap.size, 2, none⟩ = some (.int .i64 n2) := A0.out.cell 2
  go_wp2_with fail
  refine (HT.out _).mono ?_
  rintro e Y1 ⟨rfl, hb⟩
  replace A0 := Lib.hid (A0.out.next hb)
  replace B0 := Lib.hid (B0.out.trans (hb.mono B0.out.size))
  clear hb c0 c1 c2
  go_wp2_with fail
  refine (HS.out _).mono ?_
  rintro e Y2 ⟨rfl, hb⟩
  replace A0 := Lib.hid (A0.out.next hb)
  replace B0 := Lib.hid (B0.out.trans (hb.mono B0.out.size))
  clear hb
  have c0 : Y2.cell? ⟨w.heap.size, 0, none⟩ = some (.int .i64 n0) := A0.out.cell 0
  have c1 : Y2.cell? ⟨w.heap.size, 1, none⟩ = some (.int .i64 n1) := A0.out.cell 1
  have c2 : Y2.cell? ⟨w.heap.size, 2, none⟩ = some (.int .i64 n2) := A0.out.cell 2
  go_wp2_with fail
  refine (HT.out _).mono ?_
  rintro e Y3 ⟨rfl, hb⟩
  replace B0 := Lib.hid (B0.out.trans (hb.mono B0.out.size))
  clear hb c0 c1 c2 A0
  go_wp2_with fail
  refine (HI.out _).mono ?_
  rintro e Y4 ⟨rfl, hb⟩
  replace B0 := Lib.hid (B0.out.trans (hb.mono B0.out.size))
  clear hb
  go_wp2_with fail
  go_ret
  exact ⟨rfl, B0.out⟩

set_option maxRecDepth 100000 in
set_option maxHeartbeats 3200000 in
/-- The exact law on BeginsWith, out of one answer that both give. -/
theorem lawBeginsWithF (va vb : Value) (ps bs : List ByteArray) (ka : RoomString ps) (kb : RoomString bs) (b : Bool)
    (hI : FitsString ps → FitsString bs → ∀ (u v : Value) (X : World), layStringS.rd X [u] ps → layStringS.rd X [v] bs → Calls Try.prog 12 #[u, v] X fun e Y => e = .returned (.bool b) ∧ Below X.heap.size X Y)
    (hS : FitsString ps → FitsString bs → ∀ (u v : Value) (X : World), layStringS.rd X [u] ps → layStringS.rd X [v] bs → Calls Try.prog 10 #[u, v] X fun e Y => e = .returned (.bool b) ∧ Below X.heap.size X Y)
    (w : World) (ha : layStringS.rd w [va] ps) (hb : layStringS.rd w [vb] bs) :
    Calls Try.prog 4 #[va, vb] w fun e w' => e = .returned (.bool true) ∧ Below w.heap.size w w' := by
  obtain ⟨aa, ca, rfl⟩ := rows_form ha
  obtain ⟨ab, cb, rfl⟩ := rows_form hb
  have HA := Lib.hid ha
  have HB := Lib.hid hb
  have HI0 := Lib.hid hI
  have HS0 := Lib.hid hS
  have hbb : (b != b) = false := by cases b <;> rfl
  clear hI hS ha hb
  have KZ := Lib.hid (szStringS_any _ ps 1048576 (by omega) (by omega) ka w HA.out)
  go_enter Try.func4, Try.ntmps4
  go_wp2_with fail
  refine (KZ.out).mono ?_
  rintro e Y1 ⟨⟨z, rfl, hz⟩, hb⟩
  have B := Lib.hid hb
  clear hb KZ
  rcases hz with rfl | ⟨hz0, hz1, hfa⟩
  · go_wp2_with fail
    go_ret
    exact ⟨rfl, B.out⟩
  have hz2 : ¬ (z < 0) := by omega
  have FA := Lib.hid hfa
  have KZ := Lib.hid (szStringS_any _ bs z (by omega) (by omega) kb Y1 (layStringS.below HB.out B.out))
  clear hfa
  go_wp2_with fail
  refine (KZ.out).mono ?_
  rintro e Y2 ⟨⟨z', rfl, hz'⟩, hb⟩
  replace B := Lib.hid (B.out.trans (hb.mono B.out.size))
  clear hb KZ
  rcases hz' with rfl | ⟨hz0', hz1', hfb⟩
  · go_wp2_with fail
    go_ret
    exact ⟨rfl, B.out⟩
  have hz3 : ¬ (z' < 0) := by omega
  have FB := Lib.hid hfb
  clear hfb hz0 hz1 hz0' hz1'
  have HI := Lib.hid (HI0.out FA.out FB.out)
  have HS := Lib.hid (HS0.out FA.out FB.out)
  have TA : Hid (∀ X, Below w.heap.size w X → Calls Try.prog 11 #[.slice aa ps.length ca] X fun e Y => OutS layStringS X ps e Y) := Lib.hid (fun X hX => toStringS_any _ ps FA.out.1 X (layStringS.below HA.out hX))
  have TB : Hid (∀ X, Below w.heap.size w X → Calls Try.prog 11 #[.slice ab bs.length cb] X fun e Y => OutS layStringS X bs e Y) := Lib.hid (fun X hX => toStringS_any _ bs FB.out.1 X (layStringS.below HB.out hX))
  go_wp2_with fail
  refine (TA.out _ B.out).mono ?_
  rintro e Y3 ⟨v3, f3, rfl, -, o3, hb⟩
  obtain ⟨a3, c3, rfl⟩ := rows_form (layStringS.read o3)
  have R3 := Lib.hid (layStringS.read o3)
  replace B := Lib.hid (B.out.trans (hb.mono B.out.size))
  clear hb o3 f3
  go_wp2_with fail
  refine (TB.out _ B.out).mono ?_
  rintro e Y4 ⟨v4, f4, rfl, -, o4, hb⟩
  obtain ⟨a4, c4, rfl⟩ := rows_form (layStringS.read o4)
  have R4 := Lib.hid (layStringS.read o4)
  replace R3 := Lib.hid (layStringS.below R3.out hb)
  replace B := Lib.hid (B.out.trans (hb.mono B.out.size))
  have KS := Lib.hid (HS.out _ _ Y4 R3.out R4.out)
  clear hb o4 f4
  go_wp2_with fail
  refine (KS.out).mono ?_
  rintro e Y5 ⟨rfl, hb⟩
  replace B := Lib.hid (B.out.trans (hb.mono B.out.size))
  clear hb KS R3 R4
  go_wp2_with fail
  refine (TA.out _ B.out).mono ?_
  rintro e Y6 ⟨v5, f5, rfl, -, o5, hb⟩
  obtain ⟨a5, c5, rfl⟩ := rows_form (layStringS.read o5)
  have R5 := Lib.hid (layStringS.read o5)
  replace B := Lib.hid (B.out.trans (hb.mono B.out.size))
  clear hb o5 f5
  go_wp2_with fail
  refine (TB.out _ B.out).mono ?_
  rintro e Y7 ⟨v6, f6, rfl, -, o6, hb⟩
  obtain ⟨a6, c6, rfl⟩ := rows_form (layStringS.read o6)
  have R6 := Lib.hid (layStringS.read o6)
  replace R5 := Lib.hid (layStringS.below R5.out hb)
  replace B := Lib.hid (B.out.trans (hb.mono B.out.size))
  have KI := Lib.hid (HI.out _ _ Y7 R5.out R6.out)
  clear hb o6 f6
  go_wp2_with fail
  refine (KI.out).mono ?_
  rintro e Y8 ⟨rfl, hb⟩
  replace R5 := Lib.hid (layStringS.below R5.out hb)
  replace R6 := Lib.hid (layStringS.below R6.out hb)
  replace B := Lib.hid (B.out.trans (hb.mono B.out.size))
  clear hb KI
  go_wp2_with fail
  refine (TA.out _ B.out).mono ?_
  rintro e Y9 ⟨v7, f7, rfl, -, o7, hb⟩
  obtain ⟨a7, c7, rfl⟩ := rows_form (layStringS.read o7)
  have R7 := Lib.hid (layStringS.read o7)
  replace R5 := Lib.hid (layStringS.below R5.out hb)
  replace R6 := Lib.hid (layStringS.below R6.out hb)
  replace B := Lib.hid (B.out.trans (hb.mono B.out.size))
  have KE := Lib.hid (eqStringS_same _ _ ps (by have := FA.out.1; omega) Y9 R5.out R7.out)
  clear hb o7 f7
  go_wp2_with fail
  refine (KE.out).mono ?_
  rintro e Z1 ⟨rfl, hb⟩
  replace R6 := Lib.hid (layStringS.below R6.out hb)
  replace B := Lib.hid (B.out.trans (hb.mono B.out.size))
  clear hb KE R5 R7
  go_wp2_with fail
  refine (TB.out _ B.out).mono ?_
  rintro e Z2 ⟨v8, f8, rfl, -, o8, hb⟩
  obtain ⟨a8, c8, rfl⟩ := rows_form (layStringS.read o8)
  have R8 := Lib.hid (layStringS.read o8)
  replace R6 := Lib.hid (layStringS.below R6.out hb)
  replace B := Lib.hid (B.out.trans (hb.mono B.out.size))
  have KE := Lib.hid (eqStringS_same _ _ bs (by have := FB.out.1; omega) Z2 R6.out R8.out)
  clear hb o8 f8
  go_wp2_with fail
  refine (KE.out).mono ?_
  rintro e Z3 ⟨rfl, hb⟩
  replace B := Lib.hid (B.out.trans (hb.mono B.out.size))
  clear hb KE R6 R8
  go_wp2_with fail
  go_ret
  exact ⟨rfl, B.out⟩

end Go.Proofs.Ytcdgbojmjnkeoas
namespace Go.Proofs.Ytcdgbojmjnkeoas
open Go.ChangeShapes Go.WideShapes Go.RowKit

set_option maxRecDepth 100000 in
theorem opensTnA {H : Type} (enc : TypeId × Value → H) (W : World) : Opens enc Try.prog W layTurn LTnT (fun x => (Lit.int .i64 x.1).wf = true ∧ (Lit.int .i64 x.2.1).wf = true ∧ (Lit.int .i64 x.2.2).wf = true) := by
  refine Opens.struct (A := layTurn) Try.underlying23 (by kernel_rfl) ?_
  refine OpensF.cons (A := Lay.int) (B := .pair .int .int) (G := fun x => (Lit.int .i64 x).wf = true) (K := fun x => (Lit.int .i64 x.1).wf = true ∧ (Lit.int .i64 x.2).wf = true) rfl (by kernel_rfl) (Opens.int Try.underlying3) ?_
  refine OpensF.cons (A := Lay.int) (B := .int) (G := fun x => (Lit.int .i64 x).wf = true) (K := fun x => (Lit.int .i64 x).wf = true) rfl (by kernel_rfl) (Opens.int Try.underlying3) ?_
  exact OpensF.last (A := Lay.int) rfl (by kernel_rfl) (Opens.int Try.underlying3)
set_option maxRecDepth 100000 in
theorem open_turn {H : Type} {enc : TypeId × Value → H} {W : World} {r : Reach} {base : Nat} {v : Value} {d : DataW H} {p : List MemPlace} (hok : Value.okWide Try.prog W r base LTnT v) (h : DataW.Trod enc Try.prog W 0 (fun _ => true) true LTnT v d p) :
    ∃ (n0 n1 n2 : Int), v = .agg #[.int .i64 n0, .int .i64 n1, .int .i64 n2] ∧ (Lit.int .i64 n0).wf = true ∧ (Lit.int .i64 n1).wf = true ∧ (Lit.int .i64 n2).wf = true := by
  obtain ⟨cs, x, rfl, hx, hg⟩ := Opens.agg (opensTnA enc W) Try.underlying23 hok h
  obtain rfl := layTurn_rd.1 hx
  exact ⟨_, _, _, rfl, hg⟩
set_option maxRecDepth 100000 in
theorem open_texts {H : Type} {enc : TypeId × Value → H} {W : World} {r : Reach} {base : Nat} {v : Value} {d : DataW H} {p : List MemPlace} (hok : Value.okWide Try.prog W r base 28 v) (h : DataW.Trod enc Try.prog W 0 (fun _ => true) true 28 v d p) :
    ∃ (ws : List ByteArray), layStringS.rd W [v] ws ∧ RoomString ws := by
  obtain ⟨x, hx, hg⟩ := Opens.slice (Opens.rows (A := layString) 9 Try.underlying28 (by kernel_rfl) (Opens.str (enc := enc) (W := W) Try.underlying9)) Try.underlying28 hok h
  have hm : maxLen ≤ 9223372036854775807 := by unfold maxLen; omega
  exact ⟨x, hx, Nat.le_trans hg.1 hm, fun z hz => Nat.le_trans (hg.2 z hz) hm⟩

end Go.Proofs.Ytcdgbojmjnkeoas
