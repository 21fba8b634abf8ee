/-
  Data that come as arguments, opened by their types: whatever is read of them lies as the lays say; no program is spoken of here.
  Numbers that are taken once, in plain words; no program is spoken of here.
  Right numbers that were seen, one behind another; no program is spoken of here.
  A shelf as an argument, opened.
  A right shelf is small.
  What the law on shelves asks of the program.
  The program's copy of a row of texts.
  Rows and variables of different types lie apart; no program is spoken of here.
-/
import Derived.Test.YthiicpbedgcmlaaJ03
import Derived.ChangeSame
import Derived.ChangeMaps
import Derived.Deep.Slices
import Derived.Test.YthiicpbedgcmlaaRows
import Derived.Test.YthiicpbedgcmlaaJ08
import Derived.OpenShut
import Derived.Test.YthiicpbedgcmlaaJ06
import Derived.Test.YthiicpbedgcmlaaJ05
import Derived.Test.YthiicpbedgcmlaaJ09
import Derived.Test.YthiicpbedgcmlaaJ04
namespace Go.Proofs.Ythiicpbedgcmlaa
open Go.ChangeShapes Go.WideShapes Go.RowKit

section
variable {H : Type} (enc : TypeId × Value → H) (P : Program) (W : World)

/-- What is read at type t lies as A says, and G holds of it. -/
def Opens {α : Type} (A : Lay α) (t : TypeId) (G : α → Prop) : Prop := ∀ fuel cs d, DataW.trod enc P W 0 (fun _ => true) true fuel t cs = some d → ∃ x, A.rd W cs x ∧ G x
/-- The same of fields from a place on. -/
def OpensF {α : Type} (off : Nat) (fs : List Field) (A : Lay α) (G : α → Prop) : Prop :=
  ∀ cs : List Value, cs.length = off + A.k → (∀ f ∈ fs, ∃ n d, DataW.trod enc P W 0 (fun _ => true) true n f.type ((cs.drop f.offset).take (P.cellsOf f.type)) = some d) → ∃ x, A.rd W (cs.drop off) x ∧ G x

variable {enc P W}

theorem Opens.int {t : TypeId} (ht : P.underlying t = some (.int .i64)) : Opens enc P W Lay.int t (fun x => (Lit.int .i64 x).wf = true) := by
  intro fuel cs d h
  obtain ⟨a, e0, _, hw⟩ := DataW.trod_int ht h
  exact ⟨a, e0, hw⟩

theorem Opens.str {t : TypeId} (ht : P.underlying t = some .string) : Opens enc P W Lay.str t (fun x => x.size ≤ maxLen) := by
  intro fuel cs d h
  obtain ⟨a, e0, _, hw⟩ := DataW.trod_string ht h
  exact ⟨a, e0, hw⟩
theorem Opens.bool {t : TypeId} (ht : P.underlying t = some .bool) : Opens enc P W Lay.bool t (fun _ => True) := by
  intro fuel cs d h
  obtain ⟨a, e0, _⟩ := DataW.trod_bool ht h
  exact ⟨a, e0, trivial⟩

theorem OpensF.cons {α β : Type} {A : Lay α} {B : Lay β} {G : α → Prop} {K : β → Prop} {off : Nat} {f : Field} {fs : List Field} (ho : f.offset = off) (hk : P.cellsOf f.type = A.k) (h : Opens enc P W A f.type G) (hr : OpensF enc P W (off + A.k) fs B K) :
    OpensF enc P W off (f :: fs) (Lay.pair A B) (fun x => G x.1 ∧ K x.2) := by
  intro cs hl hf
  have hl' : cs.length = off + (A.k + B.k) := hl
  obtain ⟨n, d, hd⟩ := hf f List.mem_cons_self
  rw [ho, hk] at hd
  obtain ⟨x, hx, gx⟩ := h n _ d hd
  obtain ⟨y, hy, gy⟩ := hr cs (by omega) (fun f' hf' => hf f' (List.mem_cons_of_mem _ hf'))
  refine ⟨(x, y), ⟨_, _, ?_, hx, hy⟩, gx, gy⟩
  rw [← List.drop_drop, List.take_append_drop]
theorem Opens.struct {α : Type} {A : Lay α} {G : α → Prop} {t : TypeId} {fs : Array Field} (ht : P.underlying t = some (.struct fs)) (hk : P.cellsOf t = A.k) (h : OpensF enc P W 0 fs.toList A G) : Opens enc P W A t G := by
  intro fuel cs d hd
  obtain ⟨xs, n, _, _, hl, hlen, hp⟩ := DataW.trod_struct ht hd
  obtain ⟨x, hx, gx⟩ := h cs (by omega) (fun f hf => by
    obtain ⟨j, hj, e⟩ := List.getElem_of_mem hf
    have hj' : j < fs.size := by simpa using hj
    have := hp j f (by rw [Array.getElem?_eq_getElem hj']; simp at e; rw [e])
    exact ⟨n, xs[j]'(by omega), by rw [this, List.getElem?_eq_getElem (by omega)]⟩)
  exact ⟨x, by simpa using hx, gx⟩

theorem rows_build {α : Type} {A : Lay α} {g : Nat} : ∀ (n o : Nat) (f : Nat → List Value × α), (∀ i, i < n → A.rd W (f i).1 (f i).2 ∧ ∀ t u, (f i).1[t]? = some u → W.cell? ⟨g, o + (i * A.k + t), none⟩ = some u) →
    ∃ us, rdAll A W us ((List.range n).map fun i => (f i).2) ∧ ∀ i u, us[i]? = some u → W.cell? ⟨g, o + i, none⟩ = some u
  | 0, o, f, _ => ⟨[], rfl, fun i u h => by simp at h⟩
  | n + 1, o, f, h => by
    obtain ⟨us, h1, h2⟩ := rows_build n (o + A.k) (fun i => f (i + 1)) (fun i hi => by
      obtain ⟨q1, q2⟩ := h (i + 1) (by omega)
      refine ⟨q1, fun t u hu => ?_⟩
      have := q2 t u hu
      rw [show o + A.k + (i * A.k + t) = o + ((i + 1) * A.k + t) by rw [Nat.succ_mul]; omega]
      exact this)
    obtain ⟨q1, q2⟩ := h 0 (by omega)
    have hl := A.len q1
    refine ⟨(f 0).1 ++ us, ?_, fun i u hu => ?_⟩
    · rw [List.range_succ_eq_map, List.map_cons, List.map_map]
      exact ⟨_, _, rfl, q1, h1⟩
    · by_cases hi : i < A.k
      · rw [List.getElem?_append_left (by omega)] at hu
        have := q2 i u hu
        rwa [Nat.zero_mul, Nat.zero_add] at this
      · rw [List.getElem?_append_right (by omega), hl] at hu
        have := h2 (i - A.k) u hu
        rwa [show o + A.k + (i - A.k) = o + i by omega] at this

theorem Opens.rows {α : Type} {A : Lay α} {G : α → Prop} {t e' : TypeId} (e : TypeId) (ht : P.underlying t = some (.slice e')) (hk : P.cellsOf e' = A.k) (h : Opens enc P W A e' G) : Opens enc P W (Lay.rows e A) t (fun xs => xs.length ≤ maxLen ∧ ∀ x ∈ xs, G x) := by
  intro fuel cs d hd
  have hpos := A.pos
  rcases Deep.open_slice ht hd with ⟨rfl, _⟩ | ⟨a, len, cap, m, n, D, Pl, rfl, _, hl, hcm, hmm, _, hx⟩
  · exact ⟨[], ⟨_, rfl, .inl ⟨rfl, none, 0, rfl, fun _ => rfl⟩⟩, by simp, by simp⟩
  · have hlm : len ≤ m := by rw [hmm]; split <;> omega
    have each : ∀ i, i < len → ∃ q : List Value × α, (A.rd W q.1 q.2 ∧ ∀ s u, q.1[s]? = some u → W.cell? (a.add (i * A.k + s)) = some u) ∧ G q.2 := by
      intro i hi
      obtain ⟨cs', h1, h2⟩ := hx i (by omega)
      rw [hk] at h1
      obtain ⟨_, hlen, hcell⟩ := World.cells?_some h1
      obtain ⟨x, hxr, hg⟩ := h n cs' _ h2
      refine ⟨(cs', x), ⟨hxr, fun s u hu => ?_⟩, hg⟩
      have hs : s < A.k := by
        have k1 : s < cs'.length := (List.getElem?_eq_some_iff.1 hu).1
        have k2 : cs'.length = A.k := A.len hxr
        omega
      have := hcell s (by omega)
      rw [Deep.add_add] at this
      rw [this]
      exact hu
    by_cases h0 : len = 0
    · subst h0
      exact ⟨[], ⟨_, rfl, .inl ⟨rfl, some a, cap, rfl, fun h => by cases h⟩⟩, by simp, by simp⟩
    · haveI : Inhabited (List Value × α) := ⟨Classical.choose (each 0 (by omega))⟩
      obtain ⟨f, hq⟩ := Deep.choose_lt (α := List Value × α) each
      obtain ⟨b, off, spot⟩ := a
      obtain ⟨⟨r0, c0⟩, _⟩ := hq 0 (by omega)
      obtain ⟨u0, hu0⟩ : ∃ u, (f 0).1[0]? = some u := ⟨(f 0).1[0]'(by rw [A.len r0]; exact hpos), List.getElem?_eq_getElem _⟩
      have hc0 := c0 0 u0 hu0
      have hspot : spot = none := by simpa [Addr.add] using World.cell?_spot hc0
      subst hspot
      have hlt : b < W.heap.size := by
        have := World.block_lt_of_cell? W _ hc0
        simpa [Addr.add] using this
      obtain ⟨us, h1, h2⟩ := rows_build (g := b) len off f (fun i hi => by
        obtain ⟨⟨q1, q2⟩, _⟩ := hq i hi
        refine ⟨q1, fun s u hu => ?_⟩
        have := q2 s u hu
        rwa [add_plain] at this)
      refine ⟨(List.range len).map fun i => (f i).2, ⟨_, rfl, .inr ⟨b, off, cap, us, ?_, by simp; omega, hlt, h2, h1⟩⟩, ?_, fun x hx => ?_⟩
      · simp
      · simp
        omega
      · obtain ⟨i, hi, rfl⟩ := List.mem_map.1 hx
        exact (hq i (List.mem_range.1 hi)).2

/-- A struct as an argument. -/
theorem Opens.agg {α : Type} {A : Lay α} {G : α → Prop} {t : TypeId} {fs : Array Field} {r : Reach} {base : Nat} {v : Value} {d : DataW H} {p : List MemPlace} (h : Opens enc P W A t G) (ht : P.underlying t = some (.struct fs)) (hok : Value.okWide P W r base t v)
    (hd : DataW.Trod enc P W 0 (fun _ => true) true t v d p) : ∃ cs x, v = .agg cs.toArray ∧ A.rd W cs x ∧ G x := by
  obtain ⟨cs, rfl, _⟩ := okWide_struct ht hok
  obtain ⟨fuel, hf⟩ := hd
  obtain ⟨x, hx, hg⟩ := h fuel _ _ hf
  exact ⟨cs.toList, x, by simp, by simpa [Value.cells] using hx, hg⟩
/-- A slice as an argument. -/
theorem Opens.slice {α : Type} {A : Lay α} {G : α → Prop} {t e : TypeId} {r : Reach} {base : Nat} {v : Value} {d : DataW H} {p : List MemPlace} (h : Opens enc P W A t G) (ht : P.underlying t = some (.slice e)) (hok : Value.okWide P W r base t v)
    (hd : DataW.Trod enc P W 0 (fun _ => true) true t v d p) : ∃ x, A.rd W [v] x ∧ G x := by
  obtain ⟨a0, len0, cap0, rfl⟩ := okWide_slice ht hok
  obtain ⟨fuel, hf⟩ := hd
  obtain ⟨x, hx, hg⟩ := h fuel _ _ hf
  exact ⟨x, by simpa [Value.cells] using hx, hg⟩

end
end Go.Proofs.Ythiicpbedgcmlaa
namespace Go.Proofs.Ythiicpbedgcmlaa

end Go.Proofs.Ythiicpbedgcmlaa
namespace Go.Proofs.Ythiicpbedgcmlaa

/-- A number that an int holds. -/
def IntZ (x : Int) : Prop := -9223372036854775808 ≤ x ∧ x ≤ 9223372036854775807
end Go.Proofs.Ythiicpbedgcmlaa
namespace Go.Proofs.Ythiicpbedgcmlaa
open Go.ChangeShapes Go.WideShapes Go.RowKit

/-- What is held in an argument. -/
structure HdG (x : HeldD) : Prop where
  i0 : IntZ x.1
  i1 : IntZ x.2.1
  i2 : IntZ x.2.2.1
  i5 : IntZ x.2.2.2.2.2
end Go.Proofs.Ythiicpbedgcmlaa
namespace Go.Proofs.Ythiicpbedgcmlaa
open Go.RowKit

theorem parts_right : ∀ (xs : List HeldD), (∀ x ∈ xs, HeldP x) → partsN xs ≤ 30 * xs.length
  | [], _ => by simp [partsN]
  | x :: xs, h => by
    have k := parts_right xs (fun y hy => h y (List.mem_cons_of_mem _ hy))
    obtain ⟨⟨_, _, h2, h3, h4, _⟩, _⟩ := h x List.mem_cons_self
    have e : partsN (x :: xs) = x.2.2.2.1.length + x.2.2.2.2.1.length + partsN xs := rfl
    rw [e, List.length_cons]
    omega
theorem right_fits {xs : List HeldD} (h : ShelfP xs) : FitsHeldS xs ∧ ∀ x ∈ xs, HdG x := by
  obtain ⟨h1, h2, _⟩ := h
  have h3 := parts_right xs h2
  refine ⟨⟨by omega, fun x hx => ?_, by omega⟩, fun x hx => ?_⟩
  · obtain ⟨⟨_, _, a2, a3, a4, _, a6⟩, _⟩ := h2 x hx
    refine ⟨⟨by omega, fun p hp => ?_⟩, by unfold FitsBool; omega⟩
    obtain ⟨i, hi, rfl⟩ := List.mem_iff_getElem.1 hp
    have := (a6 i _ (List.getElem?_eq_getElem hi)).1
    omega
  · obtain ⟨⟨a0, a1, a2, _, _, a5, _⟩, _⟩ := h2 x hx
    exact ⟨⟨by omega, by omega⟩, ⟨by omega, by omega⟩, ⟨by omega, by omega⟩, ⟨by omega, by omega⟩⟩

end Go.Proofs.Ythiicpbedgcmlaa
namespace Go.Proofs.Ythiicpbedgcmlaa
open Go.RowKit

/-- The program's contracts. -/
structure ShelfFns : Prop where
  add : ∀ (v : Value) (xs : List HeldD) (a : Int) (t : ByteArray) (now : Int) (ys : List HeldD) (whole : ByteArray) (done : Bool), AddIs xs a t now ys whole done → FitsHeldS xs → (∀ x ∈ xs, HdG x) → t.size ≤ 1048576 → ∀ X : World, layHeldS.rd X [v] xs → Calls Try.prog 6 #[.agg #[v], .int .i64 a, .string t, .int .i64 now] X (AddMade X ys whole done)
  tidy : ∀ (v : Value) (xs : List HeldD) (now : Int), FitsHeldS xs → (∀ x ∈ xs, HdG x) → IntZ now → ∀ X : World, layHeldS.rd X [v] xs → Calls Try.prog 8 #[.agg #[v], .int .i64 now] X (ShelfMade X (tidyV xs now))
  ok : ∀ (v : Value) (xs : List HeldD) (b : Bool), (b = true ↔ ShelfP xs) → FitsHeldS xs → (∀ x ∈ xs, HdG x) → ∀ X : World, layHeldS.rd X [v] xs → Calls Try.prog 9 #[.agg #[v]] X fun e Y => e = .returned (.bool b) ∧ Below X.heap.size X Y

end Go.Proofs.Ythiicpbedgcmlaa
namespace Go.Proofs.Ythiicpbedgcmlaa
open Go.RowKit

/-- What the library's Clone gives. -/
def CloneGives : Prop := ∀ (s : ByteArray) (w : World), s.size ≤ 1048576 → Calls Try.prog 37 #[.string s] w fun e w' => e = .returned (.string s) ∧ Below w.heap.size w w'
/-- A row is handed back, of the call's own. -/
def CopyS {α : Type} (A : Lay (List α)) (w : World) (xs : List α) (e : Ending) (w' : World) : Prop := ∃ (g k : Nat), e = .returned (.slice (some ⟨g, 0, none⟩) xs.length k) ∧ A.own w' w.heap.size [g] [.slice (some ⟨g, 0, none⟩) xs.length k] xs ∧ Below w.heap.size w w'

set_option maxRecDepth 100000 in
set_option maxHeartbeats 1600000 in
theorem copyOfTexts_any (HG : CloneGives) (v : Value) (xs : List ByteArray) (hl : xs.length ≤ 1048576) (hsz : ∀ x ∈ xs, x.size ≤ 1048576) (w : World) (h : layStringS.rd w [v] xs) :
    Calls Try.prog 40 #[v] w (CopyS layStringS w xs) := by
  obtain ⟨a, cap, rfl⟩ := rows_form h
  obtain ⟨i0, hi0, hz0, hsz0, hby0⟩ := info_of infoString
  have HS := Lib.hid h
  have HC := Lib.hid HG
  have HZ := Lib.hid hsz
  clear h HG hsz
  go_enter Try.func40, Try.ntmps40
  go_wp2_with (at_make; refine wpList_make_own _ rfl _ _ 32 rfl w.heap.size StringT i0 (.string ⟨#[]⟩) 1 Try.underlying32 hi0 hz0 hsz0 .i64 .i64 _ xs.length rfl rfl rfl (by rw [hby0]; omega) (by unfold maxLen; omega) (Nat.le_refl _) ?_)
  intro w1 hown1 hg1
  have O1 : Hid (layStringS.own w1 w.heap.size [w.heap.size] [.slice (some ⟨w.heap.size, 0, none⟩) 0 xs.length] []) := flat_own flatString hown1 rfl
  have B1 : Hid (Below w.heap.size w w1) := below_grown hg1 (fun k h => by cases h) (Nat.le_refl _)
  clear hown1 hg1
  go_wp2_with fail
  go_loopw [3, 11] (fun t c wr => ∃ (j g k : Nat) (ys : List ByteArray), j ≤ xs.length ∧ c = .int .i64 j ∧ t = .slice (some ⟨g, 0, none⟩) ys.length k ∧ Hid (ys = xs.take j) ∧ Hid (layStringS.own wr w.heap.size [g] [.slice (some ⟨g, 0, none⟩) ys.length k] ys) ∧ Hid (Below w.heap.size w wr)) (fun _ c _ => xs.length - (intOf c).toNat)
  case atStart => exact ⟨0, w.heap.size, xs.length, [], Nat.zero_le _, rfl, rfl, Lib.hid rfl, O1, B1⟩
  case round =>
    obtain ⟨j, g, k, ys, hj, rfl, rfl, HY, HO, HB⟩ := hrel
    clear O1 B1
    by_cases hlt : j < xs.length
    · have hlt' : (j : Int) < (xs.length : Int) := by omega
      have hx := List.getElem?_eq_getElem hlt
      obtain ⟨g', off, cs, rfl, hg', hr, hc⟩ := rows_elem (layStringS.below HS.out HB.out) j _ hx
      have hmem : xs[j] ∈ xs := List.getElem_mem hlt
      have hsx := HZ.out _ hmem
      have hta : Hid (xs.take (j + 1) = ys ++ [xs[j]]) := by rw [HY.out, List.take_add_one, hx]; exact Lib.hid rfl
      have hyl : Hid (ys.length = j) := by rw [HY.out, List.length_take]; exact Lib.hid (by omega)
      clear hmem
      generalize xs[j] = x at hr hta hsx hx
      rw [layString_rd] at hr
      subst hr
      have c0 : wr.cell? ⟨g', off + j * 1, none⟩ = some (.string x) := hc 0 _ rfl
      rw [Nat.mul_one] at c0
      clear hc hx
      go_wp2_with fail
      refine (HC.out x wr hsx).mono ?_
      rintro e w2 ⟨rfl, hb2⟩
      have HO2 := Lib.hid (layStringS.next HO.out hb2)
      have HB2 := Lib.hid (HB.out.trans (hb2.mono HB.out.size))
      have hw2 : w.heap.size ≤ w2.heap.size := HB2.out.size
      have hyl2 : ys.length + 1 ≤ 1000000000 := by rw [hyl.out]; omega
      clear hb2 c0
      go_wp2_with (at_builtin; refine wpList_pushF w2 rfl _ _ 32 rfl w.heap.size StringT i0 _ 16 layString flatString Try.underlying32 hi0 hz0 hsz0 hby0 rfl (by omega) (.slice (some ⟨g, 0, none⟩) ys.length k) [g] ys (by rfl) HO2.out x #[.string x] (layString_rd.2 rfl) (by rfl) hyl2 hw2 ?_; intro v1 w3 hown1 hnn1 hgr1 hbe1; obtain ⟨m1, mc1, rfl, hblk, _, _⟩ := flat_some flatString hown1 hnn1; rw [hblk] at hown1)
      have HO3 := Lib.hid hown1
      have HB3 := Lib.hid (HB2.out.trans hbe1)
      clear hown1 hnn1 hgr1 hbe1 hblk hyl2
      go_wp2_with fail
      go_roundw
      case rel => exact ⟨j + 1, m1, mc1, ys ++ [x], by omega, by go_num, by rw [List.length_append]; rfl, Lib.hid hta.out.symm, HO3, HB3⟩
      case measure => simp [intOf]; omega
    · have hlt' : ¬ ((j : Int) < (xs.length : Int)) := by omega
      have hje : j = xs.length := by omega
      subst hje
      have hye : ys = xs := by rw [HY.out, List.take_length]
      subst hye
      go_wp2_with fail
      go_ret
      exact ⟨g, k, rfl, HO.out, HB.out⟩

end Go.Proofs.Ythiicpbedgcmlaa
namespace Go.Proofs.Ythiicpbedgcmlaa
open Go.RowKit

theorem VarA.next' {r : Nat} {t : TypeId} {cs : Array Value} {X Y : World} {b : Nat} (h : VarA r t cs X) (hb : Below b X Y) (hr : r < b) : VarA r t cs Y := ⟨(hb.block r hr).trans h.row⟩

end Go.Proofs.Ythiicpbedgcmlaa
