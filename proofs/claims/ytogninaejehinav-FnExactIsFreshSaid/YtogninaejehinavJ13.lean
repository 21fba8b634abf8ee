/-
  A row of ints laid anew.
  The exact laws on SeenOk and IsFresh, out of one answer that both give.
  Data that come as arguments, opened by their types: whatever is read of them lies as the lays say; no program is spoken of here.
  Rows of ints as arguments, opened.
-/
import Derived.Test.YtogninaejehinavJ12
import Derived.Test.YtogninaejehinavJ07
import Derived.ChangeSame
import Derived.ChangeMaps
import Derived.Deep.Slices
import Derived.Test.YtogninaejehinavJ08
import Derived.Test.YtogninaejehinavJ01
import Derived.OpenShut
namespace Go.Proofs.Ytogninaejehinav
open Go.RowKit

theorem fill_next (xs : List Int) (j : Nat) (h : j < xs.length) : (xs.take j ++ List.replicate (xs.length - j) (0 : Int)).set j xs[j] = xs.take (j + 1) ++ List.replicate (xs.length - (j + 1)) 0 := by
  have hl : (xs.take j).length = j := by rw [List.length_take]; omega
  rw [List.set_append_right _ _ (by omega), hl, Nat.sub_self, show xs.length - j = (xs.length - (j + 1)) + 1 by omega, List.replicate_succ, List.set_cons_zero]
  have hta : xs.take (j + 1) = xs.take j ++ [xs[j]] := by rw [List.take_add_one, List.getElem?_eq_getElem h]; rfl
  rw [hta, List.append_assoc]
  rfl

set_option maxRecDepth 100000 in
set_option maxHeartbeats 800000 in
theorem toIntS_any (v : Value) (xs : List Int) (hl : xs.length ≤ 1048576) (w : World) (hs : layIntS.rd w [v] xs) :
    Calls Try.prog 15 #[v] w fun e w' => OutS layIntS w xs e w' := by
  obtain ⟨i0, hi, hz0, hsz0, hby0⟩ := info_of infoInt
  obtain ⟨a, cap, rfl⟩ := rows_form hs
  have HS := Lib.hid hs
  clear hs
  go_enter Try.func15, Try.ntmps15
  go_wp2_with (at_make; refine wpList_make_full _ rfl _ _ 22 rfl w.heap.size 3 i0 (.int .i64 0) 1 Try.underlying22 hi hz0 hsz0 .i64 .i64 _ _ xs.length rfl rfl rfl rfl (by rw [hby0]; omega) (by unfold maxLen; omega) (Nat.le_refl _) ?_)
  intro w1 hown1 hg1
  have hown : layIntS.own w1 w.heap.size [w.heap.size] [.slice (some ⟨w.heap.size, 0, none⟩) xs.length xs.length] (List.replicate xs.length 0) := rows_made (cs := #[.int .i64 0]) (by rw [show xs.length * Lay.int.k = xs.length from Nat.mul_one _]; exact hown1) rfl (int_own.2 ⟨rfl, rfl⟩)
  have hbel : Below w.heap.size w w1 := below_grown hg1 (fun k h => by cases h) (Nat.le_refl _)
  clear hown1 hg1
  go_wp2_with fail
  go_loopw [4] (fun c wr => ∃ j : Nat, j ≤ xs.length ∧ c = .int .i64 j ∧ layIntS.own wr w.heap.size [w.heap.size] [.slice (some ⟨w.heap.size, 0, none⟩) xs.length xs.length] (xs.take j ++ List.replicate (xs.length - j) 0) ∧ Below w.heap.size w wr) (fun c _ => xs.length - (intOf c).toNat)
  case atStart => exact ⟨0, Nat.zero_le _, rfl, by simpa using hown, hbel⟩
  case round =>
    obtain ⟨j, hj, rfl, hown2, hb2⟩ := hrel
    have HO := Lib.hid hown2
    have HB := Lib.hid hb2
    clear hown2 hb2 hown hbel
    by_cases hlt : j < xs.length
    · have hlt' : (j : Int) < (xs.length : Int) := by omega
      have hlen : j < (xs.take j ++ List.replicate (xs.length - j) (0 : Int)).length := by rw [List.length_append, List.length_take, List.length_replicate]; omega
      obtain ⟨g, off, cap', hv, hg, hcell⟩ := ints_get (layIntS.below HS.out HB.out) j hlt
      simp only [Value.slice.injEq] at hv
      obtain ⟨rfl, -, rfl⟩ := hv
      obtain ⟨g', cap'', hv', _, _, _, hc', hf', hown3, hchg⟩ := ints_put HO.out (by simp) j hlen xs[j]
      simp only [Value.slice.injEq, Option.some.injEq, Addr.mk.injEq, and_true] at hv'
      obtain ⟨rfl, -, -⟩ := hv'
      rw [fill_next xs j hlt] at hown3
      have HP := Lib.hid hown3
      have HB3 := Lib.hid (HB.out.trans (hchg.below (b := w.heap.size) (by simp) HB.out.size))
      generalize xs[j] = x at *
      generalize (xs.take j ++ List.replicate (xs.length - j) (0 : Int))[j] = y0 at hc'
      clear hown3 hchg hlen
      go_wp2_with fail
      go_roundw
      case rel => exact ⟨j + 1, by omega, by go_num, HP.out, HB3.out⟩
      case measure => simp [intOf]; omega
    · have hlt' : ¬ ((j : Int) < (xs.length : Int)) := by omega
      have hke : j = xs.length := by omega
      have hfin : xs.take j ++ List.replicate (xs.length - j) (0 : Int) = xs := by subst hke; simp
      have HO2 := HO.out
      rw [hfin] at HO2
      have HO3 := Lib.hid HO2
      clear HO2 HO
      go_wp2_with fail
      go_ret
      exact ⟨_, _, rfl, by simp, HO3.out, HB.out⟩

end Go.Proofs.Ytogninaejehinav
namespace Go.Proofs.Ytogninaejehinav
open Go.RowKit

set_option maxRecDepth 100000 in
set_option maxHeartbeats 1600000 in
theorem lawSeenOkF (va : Value) (xs : List Int) (b : Bool) (hI : xs.length ≤ 1048576 → ∀ (u : Value) (X : World), layIntS.rd X [u] xs → Calls Try.prog 16 #[u] X fun e Y => e = .returned (.bool b) ∧ Below X.heap.size X Y) (hS : xs.length ≤ 1048576 → ∀ (u : Value) (X : World), layIntS.rd X [u] xs → Calls Try.prog 14 #[u] X fun e Y => e = .returned (.bool b) ∧ Below X.heap.size X Y) (w : World) (ha : layIntS.rd w [va] xs) :
    Calls Try.prog 4 #[va] w fun e w' => e = .returned (.bool true) ∧ Below w.heap.size w w' := by
  obtain ⟨aa, ca, rfl⟩ := rows_form ha
  have HA := Lib.hid ha
  have HI0 := Lib.hid hI
  have HS0 := Lib.hid hS
  have hbb : (b != b) = false := by cases b <;> rfl
  clear hI hS ha
  go_enter Try.func4, Try.ntmps4
  by_cases hbig : xs.length ≤ 1048576
  rotate_left
  · have hbi : (1048576 : Int) < (xs.length : Int) := by omega
    go_wp2_with fail
    go_ret
    exact ⟨rfl, Below.refl _ _⟩
  have hbi : ¬ ((1048576 : Int) < (xs.length : Int)) := by omega
  have HI := Lib.hid (HI0.out hbig)
  have HS := Lib.hid (HS0.out hbig)
  have TA : Hid (∀ X, Below w.heap.size w X → Calls Try.prog 15 #[.slice aa xs.length ca] X fun e Y => OutS layIntS X xs e Y) := Lib.hid (fun X hX => toIntS_any _ xs hbig X (layIntS.below HA.out hX))
  clear HI0 HS0
  go_wp2_with fail
  refine (TA.out _ (Below.refl _ _)).mono ?_
  rintro e Y3 ⟨v3, f3, rfl, -, o3, hb⟩
  obtain ⟨a3, c3, rfl⟩ := rows_form (layIntS.read o3)
  have B := Lib.hid hb
  have KS := Lib.hid (HS.out _ Y3 (layIntS.read o3))
  clear hb o3 f3
  go_wp2_with fail
  refine (KS.out).mono ?_
  rintro e Y5 ⟨rfl, hb⟩
  replace B := Lib.hid (B.out.trans (hb.mono B.out.size))
  clear hb KS
  go_wp2_with fail
  refine (TA.out _ B.out).mono ?_
  rintro e Y6 ⟨v5, f5, rfl, -, o5, hb⟩
  obtain ⟨a5, c5, rfl⟩ := rows_form (layIntS.read o5)
  have R5 := Lib.hid (layIntS.read o5)
  replace B := Lib.hid (B.out.trans (hb.mono B.out.size))
  have KI := Lib.hid (HI.out _ Y6 R5.out)
  clear hb o5 f5
  go_wp2_with fail
  refine (KI.out).mono ?_
  rintro e Y8 ⟨rfl, hb⟩
  replace R5 := Lib.hid (layIntS.below R5.out hb)
  replace B := Lib.hid (B.out.trans (hb.mono B.out.size))
  clear hb KI
  go_wp2_with fail
  refine (TA.out _ B.out).mono ?_
  rintro e Y9 ⟨v7, f7, rfl, -, o7, hb⟩
  obtain ⟨a7, c7, rfl⟩ := rows_form (layIntS.read o7)
  have KE := Lib.hid (eqIntS_same _ _ xs (by omega) Y9 (layIntS.below R5.out hb) (layIntS.read o7))
  replace B := Lib.hid (B.out.trans (hb.mono B.out.size))
  clear hb o7 f7
  go_wp2_with fail
  refine (KE.out).mono ?_
  rintro e YA ⟨rfl, hb⟩
  replace B := Lib.hid (B.out.trans (hb.mono B.out.size))
  clear hb KE
  go_wp2_with fail
  go_ret
  exact ⟨rfl, B.out⟩

set_option maxRecDepth 100000 in
set_option maxHeartbeats 1600000 in
theorem lawIsFreshF (va : Value) (xs : List Int) (n : Int) (b : Bool) (hI : xs.length ≤ 1048576 → ∀ (u : Value) (X : World), layIntS.rd X [u] xs → Calls Try.prog 19 #[u, .int .i64 n] X fun e Y => e = .returned (.bool b) ∧ Below X.heap.size X Y) (hS : xs.length ≤ 1048576 → ∀ (u : Value) (X : World), layIntS.rd X [u] xs → Calls Try.prog 18 #[u, .int .i64 n] X fun e Y => e = .returned (.bool b) ∧ Below X.heap.size X Y) (w : World) (ha : layIntS.rd w [va] xs) :
    Calls Try.prog 5 #[va, .int .i64 n] w fun e w' => e = .returned (.bool true) ∧ Below w.heap.size w w' := by
  obtain ⟨aa, ca, rfl⟩ := rows_form ha
  have HA := Lib.hid ha
  have HI0 := Lib.hid hI
  have HS0 := Lib.hid hS
  have hbb : (b != b) = false := by cases b <;> rfl
  clear hI hS ha
  go_enter Try.func5, Try.ntmps5
  by_cases hbig : xs.length ≤ 1048576
  rotate_left
  · have hbi : (1048576 : Int) < (xs.length : Int) := by omega
    go_wp2_with fail
    go_ret
    exact ⟨rfl, Below.refl _ _⟩
  have hbi : ¬ ((1048576 : Int) < (xs.length : Int)) := by omega
  have HI := Lib.hid (HI0.out hbig)
  have HS := Lib.hid (HS0.out hbig)
  have TA : Hid (∀ X, Below w.heap.size w X → Calls Try.prog 15 #[.slice aa xs.length ca] X fun e Y => OutS layIntS X xs e Y) := Lib.hid (fun X hX => toIntS_any _ xs hbig X (layIntS.below HA.out hX))
  clear HI0 HS0
  go_wp2_with fail
  refine (TA.out _ (Below.refl _ _)).mono ?_
  rintro e Y3 ⟨v3, f3, rfl, -, o3, hb⟩
  obtain ⟨a3, c3, rfl⟩ := rows_form (layIntS.read o3)
  have B := Lib.hid hb
  have KS := Lib.hid (HS.out _ Y3 (layIntS.read o3))
  clear hb o3 f3
  go_wp2_with fail
  refine (KS.out).mono ?_
  rintro e Y5 ⟨rfl, hb⟩
  replace B := Lib.hid (B.out.trans (hb.mono B.out.size))
  clear hb KS
  go_wp2_with fail
  refine (TA.out _ B.out).mono ?_
  rintro e Y6 ⟨v5, f5, rfl, -, o5, hb⟩
  obtain ⟨a5, c5, rfl⟩ := rows_form (layIntS.read o5)
  have R5 := Lib.hid (layIntS.read o5)
  replace B := Lib.hid (B.out.trans (hb.mono B.out.size))
  have KI := Lib.hid (HI.out _ Y6 R5.out)
  clear hb o5 f5
  go_wp2_with fail
  refine (KI.out).mono ?_
  rintro e Y8 ⟨rfl, hb⟩
  replace R5 := Lib.hid (layIntS.below R5.out hb)
  replace B := Lib.hid (B.out.trans (hb.mono B.out.size))
  clear hb KI
  go_wp2_with fail
  refine (TA.out _ B.out).mono ?_
  rintro e Y9 ⟨v7, f7, rfl, -, o7, hb⟩
  obtain ⟨a7, c7, rfl⟩ := rows_form (layIntS.read o7)
  have KE := Lib.hid (eqIntS_same _ _ xs (by omega) Y9 (layIntS.below R5.out hb) (layIntS.read o7))
  replace B := Lib.hid (B.out.trans (hb.mono B.out.size))
  clear hb o7 f7
  go_wp2_with fail
  refine (KE.out).mono ?_
  rintro e YA ⟨rfl, hb⟩
  replace B := Lib.hid (B.out.trans (hb.mono B.out.size))
  clear hb KE
  go_wp2_with fail
  go_ret
  exact ⟨rfl, B.out⟩

end Go.Proofs.Ytogninaejehinav
namespace Go.Proofs.Ytogninaejehinav
open Go.ChangeShapes Go.WideShapes Go.RowKit

section
variable {H : Type} (enc : TypeId × Value → H) (P : Program) (W : World)

/-- What is read at type t lies as A says, and G holds of it. -/
def Opens {α : Type} (A : Lay α) (t : TypeId) (G : α → Prop) : Prop := ∀ fuel cs d, DataW.trod enc P W 0 (fun _ => true) true fuel t cs = some d → ∃ x, A.rd W cs x ∧ G x
/-- The same of fields from a place on. -/
def OpensF {α : Type} (off : Nat) (fs : List Field) (A : Lay α) (G : α → Prop) : Prop :=
  ∀ cs : List Value, cs.length = off + A.k → (∀ f ∈ fs, ∃ n d, DataW.trod enc P W 0 (fun _ => true) true n f.type ((cs.drop f.offset).take (P.cellsOf f.type)) = some d) → ∃ x, A.rd W (cs.drop off) x ∧ G x

variable {enc P W}

theorem Opens.int {t : TypeId} (ht : P.underlying t = some (.int .i64)) : Opens enc P W Lay.int t (fun x => (Lit.int .i64 x).wf = true) := by
  intro fuel cs d h
  obtain ⟨a, e0, _, hw⟩ := DataW.trod_int ht h
  exact ⟨a, e0, hw⟩

theorem Opens.str {t : TypeId} (ht : P.underlying t = some .string) : Opens enc P W Lay.str t (fun x => x.size ≤ maxLen) := by
  intro fuel cs d h
  obtain ⟨a, e0, _, hw⟩ := DataW.trod_string ht h
  exact ⟨a, e0, hw⟩
theorem Opens.bool {t : TypeId} (ht : P.underlying t = some .bool) : Opens enc P W Lay.bool t (fun _ => True) := by
  intro fuel cs d h
  obtain ⟨a, e0, _⟩ := DataW.trod_bool ht h
  exact ⟨a, e0, trivial⟩

theorem OpensF.last {α : Type} {A : Lay α} {G : α → Prop} {off : Nat} {f : Field} (ho : f.offset = off) (hk : P.cellsOf f.type = A.k) (h : Opens enc P W A f.type G) : OpensF enc P W off [f] A G := by
  intro cs hl hf
  obtain ⟨n, d, hd⟩ := hf f List.mem_cons_self
  rw [ho, hk, List.take_of_length_le (by rw [List.length_drop]; omega)] at hd
  exact h n _ d hd
theorem OpensF.cons {α β : Type} {A : Lay α} {B : Lay β} {G : α → Prop} {K : β → Prop} {off : Nat} {f : Field} {fs : List Field} (ho : f.offset = off) (hk : P.cellsOf f.type = A.k) (h : Opens enc P W A f.type G) (hr : OpensF enc P W (off + A.k) fs B K) :
    OpensF enc P W off (f :: fs) (Lay.pair A B) (fun x => G x.1 ∧ K x.2) := by
  intro cs hl hf
  have hl' : cs.length = off + (A.k + B.k) := hl
  obtain ⟨n, d, hd⟩ := hf f List.mem_cons_self
  rw [ho, hk] at hd
  obtain ⟨x, hx, gx⟩ := h n _ d hd
  obtain ⟨y, hy, gy⟩ := hr cs (by omega) (fun f' hf' => hf f' (List.mem_cons_of_mem _ hf'))
  refine ⟨(x, y), ⟨_, _, ?_, hx, hy⟩, gx, gy⟩
  rw [← List.drop_drop, List.take_append_drop]
theorem Opens.struct {α : Type} {A : Lay α} {G : α → Prop} {t : TypeId} {fs : Array Field} (ht : P.underlying t = some (.struct fs)) (hk : P.cellsOf t = A.k) (h : OpensF enc P W 0 fs.toList A G) : Opens enc P W A t G := by
  intro fuel cs d hd
  obtain ⟨xs, n, _, _, hl, hlen, hp⟩ := DataW.trod_struct ht hd
  obtain ⟨x, hx, gx⟩ := h cs (by omega) (fun f hf => by
    obtain ⟨j, hj, e⟩ := List.getElem_of_mem hf
    have hj' : j < fs.size := by simpa using hj
    have := hp j f (by rw [Array.getElem?_eq_getElem hj']; simp at e; rw [e])
    exact ⟨n, xs[j]'(by omega), by rw [this, List.getElem?_eq_getElem (by omega)]⟩)
  exact ⟨x, by simpa using hx, gx⟩

theorem rows_build {α : Type} {A : Lay α} {g : Nat} : ∀ (n o : Nat) (f : Nat → List Value × α), (∀ i, i < n → A.rd W (f i).1 (f i).2 ∧ ∀ t u, (f i).1[t]? = some u → W.cell? ⟨g, o + (i * A.k + t), none⟩ = some u) →
    ∃ us, rdAll A W us ((List.range n).map fun i => (f i).2) ∧ ∀ i u, us[i]? = some u → W.cell? ⟨g, o + i, none⟩ = some u
  | 0, o, f, _ => ⟨[], rfl, fun i u h => by simp at h⟩
  | n + 1, o, f, h => by
    obtain ⟨us, h1, h2⟩ := rows_build n (o + A.k) (fun i => f (i + 1)) (fun i hi => by
      obtain ⟨q1, q2⟩ := h (i + 1) (by omega)
      refine ⟨q1, fun t u hu => ?_⟩
      have := q2 t u hu
      rw [show o + A.k + (i * A.k + t) = o + ((i + 1) * A.k + t) by rw [Nat.succ_mul]; omega]
      exact this)
    obtain ⟨q1, q2⟩ := h 0 (by omega)
    have hl := A.len q1
    refine ⟨(f 0).1 ++ us, ?_, fun i u hu => ?_⟩
    · rw [List.range_succ_eq_map, List.map_cons, List.map_map]
      exact ⟨_, _, rfl, q1, h1⟩
    · by_cases hi : i < A.k
      · rw [List.getElem?_append_left (by omega)] at hu
        have := q2 i u hu
        rwa [Nat.zero_mul, Nat.zero_add] at this
      · rw [List.getElem?_append_right (by omega), hl] at hu
        have := h2 (i - A.k) u hu
        rwa [show o + A.k + (i - A.k) = o + i by omega] at this

theorem Opens.rows {α : Type} {A : Lay α} {G : α → Prop} {t e' : TypeId} (e : TypeId) (ht : P.underlying t = some (.slice e')) (hk : P.cellsOf e' = A.k) (h : Opens enc P W A e' G) : Opens enc P W (Lay.rows e A) t (fun xs => xs.length ≤ maxLen ∧ ∀ x ∈ xs, G x) := by
  intro fuel cs d hd
  have hpos := A.pos
  rcases Deep.open_slice ht hd with ⟨rfl, _⟩ | ⟨a, len, cap, m, n, D, Pl, rfl, _, hl, hcm, hmm, _, hx⟩
  · exact ⟨[], ⟨_, rfl, .inl ⟨rfl, none, 0, rfl, fun _ => rfl⟩⟩, by simp, by simp⟩
  · have hlm : len ≤ m := by rw [hmm]; split <;> omega
    have each : ∀ i, i < len → ∃ q : List Value × α, (A.rd W q.1 q.2 ∧ ∀ s u, q.1[s]? = some u → W.cell? (a.add (i * A.k + s)) = some u) ∧ G q.2 := by
      intro i hi
      obtain ⟨cs', h1, h2⟩ := hx i (by omega)
      rw [hk] at h1
      obtain ⟨_, hlen, hcell⟩ := World.cells?_some h1
      obtain ⟨x, hxr, hg⟩ := h n cs' _ h2
      refine ⟨(cs', x), ⟨hxr, fun s u hu => ?_⟩, hg⟩
      have hs : s < A.k := by
        have k1 : s < cs'.length := (List.getElem?_eq_some_iff.1 hu).1
        have k2 : cs'.length = A.k := A.len hxr
        omega
      have := hcell s (by omega)
      rw [Deep.add_add] at this
      rw [this]
      exact hu
    by_cases h0 : len = 0
    · subst h0
      exact ⟨[], ⟨_, rfl, .inl ⟨rfl, some a, cap, rfl, fun h => by cases h⟩⟩, by simp, by simp⟩
    · haveI : Inhabited (List Value × α) := ⟨Classical.choose (each 0 (by omega))⟩
      obtain ⟨f, hq⟩ := Deep.choose_lt (α := List Value × α) each
      obtain ⟨b, off, spot⟩ := a
      obtain ⟨⟨r0, c0⟩, _⟩ := hq 0 (by omega)
      obtain ⟨u0, hu0⟩ : ∃ u, (f 0).1[0]? = some u := ⟨(f 0).1[0]'(by rw [A.len r0]; exact hpos), List.getElem?_eq_getElem _⟩
      have hc0 := c0 0 u0 hu0
      have hspot : spot = none := by simpa [Addr.add] using World.cell?_spot hc0
      subst hspot
      have hlt : b < W.heap.size := by
        have := World.block_lt_of_cell? W _ hc0
        simpa [Addr.add] using this
      obtain ⟨us, h1, h2⟩ := rows_build (g := b) len off f (fun i hi => by
        obtain ⟨⟨q1, q2⟩, _⟩ := hq i hi
        refine ⟨q1, fun s u hu => ?_⟩
        have := q2 s u hu
        rwa [add_plain] at this)
      refine ⟨(List.range len).map fun i => (f i).2, ⟨_, rfl, .inr ⟨b, off, cap, us, ?_, by simp; omega, hlt, h2, h1⟩⟩, ?_, fun x hx => ?_⟩
      · simp
      · simp
        omega
      · obtain ⟨i, hi, rfl⟩ := List.mem_map.1 hx
        exact (hq i (List.mem_range.1 hi)).2

/-- A struct as an argument. -/
theorem Opens.agg {α : Type} {A : Lay α} {G : α → Prop} {t : TypeId} {fs : Array Field} {r : Reach} {base : Nat} {v : Value} {d : DataW H} {p : List MemPlace} (h : Opens enc P W A t G) (ht : P.underlying t = some (.struct fs)) (hok : Value.okWide P W r base t v)
    (hd : DataW.Trod enc P W 0 (fun _ => true) true t v d p) : ∃ cs x, v = .agg cs.toArray ∧ A.rd W cs x ∧ G x := by
  obtain ⟨cs, rfl, _⟩ := okWide_struct ht hok
  obtain ⟨fuel, hf⟩ := hd
  obtain ⟨x, hx, hg⟩ := h fuel _ _ hf
  exact ⟨cs.toList, x, by simp, by simpa [Value.cells] using hx, hg⟩
/-- A slice as an argument. -/
theorem Opens.slice {α : Type} {A : Lay α} {G : α → Prop} {t e : TypeId} {r : Reach} {base : Nat} {v : Value} {d : DataW H} {p : List MemPlace} (h : Opens enc P W A t G) (ht : P.underlying t = some (.slice e)) (hok : Value.okWide P W r base t v)
    (hd : DataW.Trod enc P W 0 (fun _ => true) true t v d p) : ∃ x, A.rd W [v] x ∧ G x := by
  obtain ⟨a0, len0, cap0, rfl⟩ := okWide_slice ht hok
  obtain ⟨fuel, hf⟩ := hd
  obtain ⟨x, hx, hg⟩ := h fuel _ _ hf
  exact ⟨x, by simpa [Value.cells] using hx, hg⟩

end
end Go.Proofs.Ytogninaejehinav
namespace Go.Proofs.Ytogninaejehinav
open Go.ChangeShapes Go.WideShapes Go.RowKit

set_option maxRecDepth 100000 in
theorem open_row {H : Type} {enc : TypeId × Value → H} {W : World} {r : Reach} {base : Nat} {v : Value} {d : DataW H} {p : List MemPlace} (hok : Value.okWide Try.prog W r base 22 v) (h : DataW.Trod enc Try.prog W 0 (fun _ => true) true 22 v d p) :
    ∃ (xs : List Int), layIntS.rd W [v] xs ∧ xs.length ≤ 9223372036854775807 ∧ ∀ x ∈ xs, IntZ x := by
  obtain ⟨x, hx, hg⟩ := Opens.slice (Opens.rows (A := Lay.int) 3 Try.underlying22 (by kernel_rfl) (Opens.int (enc := enc) (W := W) Try.underlying3)) Try.underlying22 hok h
  have hm : maxLen ≤ 9223372036854775807 := by unfold maxLen; omega
  exact ⟨x, hx, Nat.le_trans hg.1 hm, fun z hz => bounds_i64 (hg.2 z hz)⟩

end Go.Proofs.Ytogninaejehinav
