/-
  Data that is opened, in plain words: by the main keys, by the lame ones, or not.
  The given NextKeys.
  The given PairSlots.
  The program's contracts that the laws of data ask.
  Arrays of words of 32 bits as variables; no program is spoken of here.
-/
import Derived.Test.YtoaifgblbfdncaaDoorJ13
import Derived.Test.YtoaifgblbfdncaaDoorJ11
import Derived.Test.YtoaifgblbfdncaaDoorJ07
import Derived.Test.YtoaifgblbfdncaaDoorJ09
import Derived.Deep.WholeRow
namespace Go.Proofs.YtoaifgblbfdncaaDoor
open Go.RowKit

/-- The main keys are asked. -/
def MainP (x0 : Int) (x1 x2 : ByteArray) (x3 : Int) (r4 : List Int) (x5 : Int) (y0 : Int) (y1 y2 : ByteArray) (y3 : Int) (s4 : List Int) (y5 : Int) (op key fr dst num : Int) (acks : List Int) (body : ByteArray) : Prop :=
  SlotsP x0 x1 x2 x3 r4 x5 y0 y1 y2 y3 s4 y5 ∧ PkOkP op key fr dst num acks body ∧ op = 3 ∧ ¬ NoneP x0 x1 x2 x3 r4 x5 ∧ x0 % 8 = key
/-- The lame ones are asked. -/
def LameP (x0 : Int) (x1 x2 : ByteArray) (x3 : Int) (r4 : List Int) (x5 : Int) (y0 : Int) (y1 y2 : ByteArray) (y3 : Int) (s4 : List Int) (y5 : Int) (op key fr dst num : Int) (acks : List Int) (body : ByteArray) (now : Int) : Prop :=
  SlotsP x0 x1 x2 x3 r4 x5 y0 y1 y2 y3 s4 y5 ∧ PkOkP op key fr dst num acks body ∧ op = 3 ∧ ¬ (¬ NoneP x0 x1 x2 x3 r4 x5 ∧ x0 % 8 = key) ∧ ¬ NoneP y0 y1 y2 y3 s4 y5 ∧ now < y5 ∧ y0 % 8 = key
/-- What OpenData tells: the numbers seen of both, the text, and whether. -/
def OpenD (x0 : Int) (x1 x2 : ByteArray) (x3 : Int) (r4 : List Int) (x5 : Int) (y0 : Int) (y1 y2 : ByteArray) (y3 : Int) (s4 : List Int) (y5 : Int) (op key fr dst num : Int) (acks : List Int) (body : ByteArray) (now : Int) (r5 s5 : List Int) (t : ByteArray) (ok : Bool) : Prop :=
  (MainP x0 x1 x2 x3 r4 x5 y0 y1 y2 y3 s4 y5 op key fr dst num acks body ∧ OpensP x2 r4 num body r5 t ok ∧ s5 = s4) ∨
  (LameP x0 x1 x2 x3 r4 x5 y0 y1 y2 y3 s4 y5 op key fr dst num acks body now ∧ OpensP y2 s4 num body s5 t ok ∧ r5 = r4) ∨
  (¬ MainP x0 x1 x2 x3 r4 x5 y0 y1 y2 y3 s4 y5 op key fr dst num acks body ∧ ¬ LameP x0 x1 x2 x3 r4 x5 y0 y1 y2 y3 s4 y5 op key fr dst num acks body now ∧ r5 = r4 ∧ s5 = s4 ∧ t = ⟨#[]⟩ ∧ ok = false)
theorem openD_is (x0 : Int) (x1 x2 : ByteArray) (x3 : Int) (r4 : List Int) (x5 : Int) (y0 : Int) (y1 y2 : ByteArray) (y3 : Int) (s4 : List Int) (y5 : Int) (op key fr dst num : Int) (acks : List Int) (body : ByteArray) (now : Int) : ∃ r5 s5 t ok, OpenD x0 x1 x2 x3 r4 x5 y0 y1 y2 y3 s4 y5 op key fr dst num acks body now r5 s5 t ok := by
  by_cases h : MainP x0 x1 x2 x3 r4 x5 y0 y1 y2 y3 s4 y5 op key fr dst num acks body
  · obtain ⟨r5, t, ok, k⟩ := opens_is x2 r4 num body
    exact ⟨r5, s4, t, ok, .inl ⟨h, k, rfl⟩⟩
  · by_cases h2 : LameP x0 x1 x2 x3 r4 x5 y0 y1 y2 y3 s4 y5 op key fr dst num acks body now
    · obtain ⟨s5, t, ok, k⟩ := opens_is y2 s4 num body
      exact ⟨r4, s5, t, ok, .inr (.inl ⟨h2, k, rfl⟩)⟩
    · exact ⟨r4, s4, _, _, .inr (.inr ⟨h, h2, rfl, rfl, rfl, rfl⟩)⟩
/-- Slots and a text are handed back. -/
def OpenEnd (x0 : Int) (x1 x2 : ByteArray) (x3 : Int) (x5 : Int) (y0 : Int) (y1 y2 : ByteArray) (y3 : Int) (y5 : Int) (r5 s5 : List Int) (t : ByteArray) (ok : Bool) (w : World) (e : Ending) (w' : World) : Prop :=
  ∃ (v u : Value) (f g : List Nat), e = .returned (.tuple #[.agg #[.int .i64 x0, .string x1, .string x2, .int .i64 x3, v, .int .i64 x5, .int .i64 y0, .string y1, .string y2, .int .i64 y3, u, .int .i64 y5], .string t, .bool ok]) ∧ (f ++ g).Nodup ∧ layIntS.own w' w.heap.size f [v] r5 ∧ layIntS.own w' w.heap.size g [u] s5 ∧ Below w.heap.size w w'
/-- What was locked is opened. -/
theorem lock_opens (key : ByteArray) (n : Int) (s : ByteArray) (h0 : 0 ≤ n) (h1 : n ≤ 1000000000) (hs : s.size ≤ 8000) : OpenIs key n (lockP key n.toNat s) s true := by
  have hz := lockP_size key n.toNat s
  have hx : (lockP key n.toNat s).extract 0 ((lockP key n.toNat s).size - 16) = lockX key n.toNat s := by
    rw [hz, Nat.add_sub_cancel]
    unfold lockP
    rw [← lockX_size key n.toNat s]
    exact front_two _ _
  have hr : (lockP key n.toNat s).extract ((lockP key n.toNat s).size - 16) (lockP key n.toNat s).size = tagP key n.toNat (lockX key n.toNat s) := by
    rw [hz, Nat.add_sub_cancel, ← hz]
    have h := back_two (lockX key n.toNat s) (tagP key n.toNat (lockX key n.toNat s))
    rw [lockX_size] at h
    exact h
  refine .inr ⟨⟨⟨by omega, by omega⟩, h0, h1⟩, ?_, ?_⟩
  · rw [hx, hr]
    simp
  · rw [if_pos rfl, hx, openP_lock]

end Go.Proofs.YtoaifgblbfdncaaDoor
namespace Go.Proofs.YtoaifgblbfdncaaDoor
open Go.RowKit

/-- The keys that come next: digests of the keys with a sign behind them. -/
def nextK (s : ByteArray) : ByteArray := digP (s ++ ⟨#[107]⟩)
end Go.Proofs.YtoaifgblbfdncaaDoor
namespace Go.Proofs.YtoaifgblbfdncaaDoor
open Go.RowKit

/-- A key of a seed. -/
def pairK (s : ByteArray) (c : UInt8) : ByteArray := digP (s ++ ⟨#[c]⟩)
/-- What Install tells of nothing at all. -/
theorem install_none {send op : ByteArray} {w : World} {e : Ending} {w' : World} (h : InstallEnd 0 ⟨#[]⟩ ⟨#[]⟩ 0 [] 0 0 ⟨#[]⟩ ⟨#[]⟩ 0 [] 0 send op 0 w e w') (hs : send.size = 32) (ho : op.size = 32) :
    ∃ (v4 u4 : Value) (f g : List Nat), e = .returned (.tuple #[.agg #[.int .i64 1, .string send, .string op, .int .i64 0, v4, .int .i64 0, .int .i64 0, .string ⟨#[]⟩, .string ⟨#[]⟩, .int .i64 0, u4, .int .i64 0], .bool true]) ∧ (f ++ g).Nodup ∧ layIntS.own w' w.heap.size f [v4] [] ∧ layIntS.own w' w.heap.size g [u4] [] ∧ Below w.heap.size w w' := by
  obtain ⟨z0, z1, z2, z3, t4, z5, n0, n1, n2, n3, o4, n5, ok, v, u', f, g, hc, rfl, hd, h1, h2, hbl⟩ := h
  have hp : InstallP 0 ⟨#[]⟩ ⟨#[]⟩ 0 [] 0 0 ⟨#[]⟩ ⟨#[]⟩ 0 [] 0 send op 0 := ⟨⟨.inl none_zero, .inl none_zero, .inl none_zero⟩, hs, ho, ⟨by omega, by omega⟩, by omega⟩
  rcases hc with ⟨rfl, _, ⟨rfl, rfl, rfl, rfl, rfl, rfl⟩, rfl, rfl, rfl, rfl, rfl, hn⟩ | ⟨_, h, _⟩
  · obtain rfl : n5 = 0 := by
      rcases hn with hn | hn
      · exact hn.2
      · exact absurd none_zero hn.1
    exact ⟨v, u', f, g, rfl, hd, h1, h2, hbl⟩
  · exact absurd hp h
/-- Two pairs of slots, each the other one's. -/
def PairEnd (s : ByteArray) (w : World) (e : Ending) (w' : World) : Prop :=
  ∃ (v4 u4 v5 u5 : Value) (f g f' g' : List Nat), e = .returned (.tuple #[.agg #[.int .i64 1, .string (pairK s 97), .string (pairK s 98), .int .i64 0, v4, .int .i64 0, .int .i64 0, .string ⟨#[]⟩, .string ⟨#[]⟩, .int .i64 0, u4, .int .i64 0], .agg #[.int .i64 1, .string (pairK s 98), .string (pairK s 97), .int .i64 0, v5, .int .i64 0, .int .i64 0, .string ⟨#[]⟩, .string ⟨#[]⟩, .int .i64 0, u5, .int .i64 0]]) ∧ ((f ++ g) ++ (f' ++ g')).Nodup ∧ layIntS.own w' w.heap.size f [v4] [] ∧ layIntS.own w' w.heap.size g [u4] [] ∧ layIntS.own w' w.heap.size f' [v5] [] ∧ layIntS.own w' w.heap.size g' [u5] [] ∧ Below w.heap.size w w'
theorem own_off {X Y : World} {lo q : Nat} {f : List Nat} {v : Value} {r : List Int} (h : layIntS.own X lo f [v] r) (ho : Only q X Y) (hq : q < lo) : layIntS.own Y lo f [v] r := layIntS.keep h (fun a ha => ho.block a (layIntS.blocks h a ha).2 (by have := (layIntS.blocks h a ha).1; omega))
end Go.Proofs.YtoaifgblbfdncaaDoor
namespace Go.Proofs.YtoaifgblbfdncaaDoor
open Go.RowKit

/-- The program's contracts; L is what the worlds must hold. -/
structure DataFns (L : World → Prop) : Prop where
  stays : ∀ w X, L w → Below w.heap.size w X → L X
  pair : ∀ (s : ByteArray), s.size ≤ 1000 → ∀ X, L X → Calls Tryd.prog 6 #[.string s] X (PairEnd s X)
  seals : ∀ (x0 : Int) (x1 x2 : ByteArray) (x3 : Int) (v4 : Value) (r4 : List Int) (x5 : Int) (y0 : Int) (y1 y2 : ByteArray) (y3 : Int) (u4 : Value) (s4 : List Int) (y5 : Int) (fr dst : Int) (body : ByteArray) (c k0 k1 k2 k3 k4 : Int) (k6 : ByteArray) (ok : Bool), SealIs x0 x1 x2 x3 r4 x5 y0 y1 y2 y3 s4 y5 fr dst body c k0 k1 k2 k3 k4 k6 ok → x1.size ≤ 1000 → x2.size ≤ 1000 → y1.size ≤ 1000 → y2.size ≤ 1000 → body.size ≤ 1000 → r4.length ≤ 1000 → s4.length ≤ 1000 → (∀ x ∈ r4, IntZ x) → (∀ x ∈ s4, IntZ x) → ∀ X, L X → layIntS.rd X [v4] r4 → layIntS.rd X [u4] s4 →
    Calls Tryd.prog 7 #[.agg #[.int .i64 x0, .string x1, .string x2, .int .i64 x3, v4, .int .i64 x5, .int .i64 y0, .string y1, .string y2, .int .i64 y3, u4, .int .i64 y5], .int .i64 fr, .int .i64 dst, .string body] X (SealMade x0 x1 x2 c r4 x5 y0 y1 y2 y3 s4 y5 k0 k1 k2 k3 k4 k6 ok X)
  opens : ∀ (x0 : Int) (x1 x2 : ByteArray) (x3 : Int) (v4 : Value) (r4 : List Int) (x5 : Int) (y0 : Int) (y1 y2 : ByteArray) (y3 : Int) (u4 : Value) (s4 : List Int) (y5 : Int) (op key fr dst num : Int) (va : Value) (acks : List Int) (body : ByteArray) (now : Int) (r5 s5 : List Int) (t : ByteArray) (ok : Bool), OpenD x0 x1 x2 x3 r4 x5 y0 y1 y2 y3 s4 y5 op key fr dst num acks body now r5 s5 t ok → x1.size ≤ 1000 → x2.size ≤ 1000 → y1.size ≤ 1000 → y2.size ≤ 1000 → body.size ≤ 1000 → r4.length ≤ 1000 → s4.length ≤ 1000 → acks.length ≤ 1000 → (∀ x ∈ r4, IntZ x) → (∀ x ∈ s4, IntZ x) → (∀ x ∈ acks, IntZ x) → ∀ X, L X → layIntS.rd X [v4] r4 → layIntS.rd X [u4] s4 → layIntS.rd X [va] acks →
    Calls Tryd.prog 10 #[.agg #[.int .i64 x0, .string x1, .string x2, .int .i64 x3, v4, .int .i64 x5, .int .i64 y0, .string y1, .string y2, .int .i64 y3, u4, .int .i64 y5], .agg #[.int .i64 op, .int .i64 key, .int .i64 fr, .int .i64 dst, .int .i64 num, va, .string body], .int .i64 now] X (OpenEnd x0 x1 x2 x3 x5 y0 y1 y2 y3 y5 r5 s5 t ok X)
  step : ∀ (x0 : Int) (x1 x2 : ByteArray) (x3 : Int) (v4 : Value) (r4 : List Int) (x5 : Int) (y0 : Int) (y1 y2 : ByteArray) (y3 : Int) (u4 : Value) (s4 : List Int) (y5 : Int) (now : Int), x1.size ≤ 1000 → x2.size ≤ 1000 → y1.size ≤ 1000 → y2.size ≤ 1000 → r4.length ≤ 1000 → s4.length ≤ 1000 → (∀ x ∈ r4, IntZ x) → (∀ x ∈ s4, IntZ x) → ∀ X, L X → layIntS.rd X [v4] r4 → layIntS.rd X [u4] s4 →
    Calls Tryd.prog 9 #[.agg #[.int .i64 x0, .string x1, .string x2, .int .i64 x3, v4, .int .i64 x5, .int .i64 y0, .string y1, .string y2, .int .i64 y3, u4, .int .i64 y5], .int .i64 now] X (InstallEnd x0 x1 x2 x3 r4 x5 y0 y1 y2 y3 s4 y5 (nextK x1) (nextK x2) now X)
  tidy : ∀ (x0 : Int) (x1 x2 : ByteArray) (x3 : Int) (v4 : Value) (r4 : List Int) (x5 : Int) (y0 : Int) (y1 y2 : ByteArray) (y3 : Int) (u4 : Value) (s4 : List Int) (y5 : Int) (now : Int), x1.size ≤ 1000 → x2.size ≤ 1000 → y1.size ≤ 1000 → y2.size ≤ 1000 → r4.length ≤ 1000 → s4.length ≤ 1000 → ∀ X, L X → layIntS.rd X [v4] r4 → layIntS.rd X [u4] s4 →
    Calls Tryd.prog 11 #[.agg #[.int .i64 x0, .string x1, .string x2, .int .i64 x3, v4, .int .i64 x5, .int .i64 y0, .string y1, .string y2, .int .i64 y3, u4, .int .i64 y5], .int .i64 now] X (TidyEnd x0 x1 x2 x3 r4 x5 y0 y1 y2 y3 s4 y5 now X)

end Go.Proofs.YtoaifgblbfdncaaDoor
namespace Go.Proofs.YtoaifgblbfdncaaDoor
open Go.RowKit

/-- A row of words as one value. -/
def stV (l : List Nat) : Value := .agg (wcells l).toArray

/-- Block r is a variable that holds these words. -/
structure ArrW (r : Nat) (t : TypeId) (xs : List Nat) (X : World) : Prop where
  row : X.heap[r]? = some (.cells (wcells xs).toArray t (0, 0))
theorem ArrW.lt {r : Nat} {t : TypeId} {xs : List Nat} {X : World} (h : ArrW r t xs X) : r < X.heap.size := lt_of_block h.row
theorem ArrW.next {r : Nat} {t : TypeId} {xs : List Nat} {X Y : World} (h : ArrW r t xs X) (hb : Below X.heap.size X Y) : ArrW r t xs Y := ⟨by rw [hb.block r (lt_of_block h.row)]; exact h.row⟩
theorem ArrW.later {B r : Nat} {t : TypeId} {xs : List Nat} {X Y : World} (h : ArrW r t xs X) (hr : r < B) (hb : Below B X Y) : ArrW r t xs Y := ⟨by rw [hb.block r hr]; exact h.row⟩
theorem ArrW.drewN {r : Nat} {t : TypeId} {xs : List Nat} {X : World} (h : ArrW r t xs X) (n : Nat) : ArrW r t xs (X.drewN n) := ⟨h.row⟩
theorem ArrW.drew {r : Nat} {t : TypeId} {xs : List Nat} {X : World} (h : ArrW r t xs X) : ArrW r t xs X.drew := ⟨h.row⟩
theorem ArrW.alloc {r : Nat} {t : TypeId} {xs : List Nat} {X : World} (h : ArrW r t xs X) (o : Obj) : ArrW r t xs (X.alloc o) := ⟨by
  have := h.lt
  show (X.heap.push o)[r]? = _
  rw [Array.getElem?_push, if_neg (by omega)]; exact h.row⟩
theorem ArrW.new (w : World) (t : TypeId) (xs : List Nat) : ArrW w.heap.size t xs (w.alloc (.cells (wcells xs).toArray t)) := ⟨heap_alloc_new w _⟩
theorem ArrW.new2 (w : World) (o : Obj) (t : TypeId) (xs : List Nat) : ArrW (w.heap.size + 1) t xs ((w.alloc o).alloc (.cells (wcells xs).toArray t)) := by
  have h := ArrW.new (w.alloc o) t xs
  have e : (w.alloc o).heap.size = w.heap.size + 1 := by simp
  rw [e] at h
  exact h
theorem ArrW.cell {r : Nat} {t : TypeId} {xs : List Nat} {X : World} (h : ArrW r t xs X) (j : Nat) (hj : j < xs.length) : X.cell? ⟨r, j, none⟩ = some (.int .u32 (xs.getD j 0 : Nat)) := by
  rw [cell_of_row X r j _ t (0, 0) h.row, List.getElem?_toArray, wcells_at xs j hj]
theorem ArrW.free {r : Nat} {t : TypeId} {xs : List Nat} {X : World} (h : ArrW r t xs X) (j : Nat) : X.frozen? ⟨r, j, none⟩ = false := frozen_of_row X r j _ t h.row
theorem ArrW.set {r : Nat} {t : TypeId} {xs : List Nat} {X : World} (h : ArrW r t xs X) (j x : Nat) : ArrW r t (xs.set j x) (X.setCell ⟨r, j, none⟩ (.int .u32 (x : Int))) := ⟨by
  have e : (wcells (xs.set j x)).toArray = (wcells xs).toArray.setIfInBounds j (.int .u32 (x : Int)) := by
    unfold wcells
    rw [List.map_set]
    simp
  rw [e]
  simp [World.setCell, Array.getElem?_modify, h.row]⟩
theorem ArrW.set_other {r : Nat} {t : TypeId} {xs : List Nat} {X : World} (h : ArrW r t xs X) (p : Addr) (hp : p.block ≠ r) (v : Value) : ArrW r t xs (X.setCell p v) := ⟨by
  have h1 := h.row
  simp [World.setCell, Array.getElem?_modify, hp, h1]⟩
theorem ArrW.load {P : Program} {r : Nat} {t : TypeId} {xs : List Nat} {X : World} (h : ArrW r t xs X) (n : Nat) (hn : xs.length = n) :
    (loadCellsFrom ⟨r, 0, none⟩ 0 n #[]).run P X = .ok (wcells xs).toArray X := by
  have := run_loadCells_list (P := P) (w := X) ⟨r, 0, none⟩ (wcells xs) (fun j v hv => by
    have hadd : (⟨r, 0, none⟩ : Addr).add j = ⟨r, j, none⟩ := by unfold Addr.add; split <;> simp_all
    rw [hadd, cell_of_row _ _ j _ t (0, 0) h.row]
    simpa using hv)
  rw [wcells_length, hn] at this
  simpa [loadCells] using this
theorem ArrW.store {P : Program} {r : Nat} {t : TypeId} {xs : List Nat} {X : World} (h : ArrW r t xs X) (ys : List Nat) (hl : xs.length = ys.length) :
    (storeCells ⟨r, 0, none⟩ (wcells ys) 0).run P X = .ok () (X.setRow r (wcells ys).toArray) := by
  have := run_storeCells_from (P := P) r t (wcells ys) 0 (wcells xs).toArray X h.row (by simp [wcells_length]; omega) (fun v hv => by
    unfold wcells at hv
    obtain ⟨x, _, rfl⟩ := List.mem_map.1 hv
    rfl)
  rw [this]
  congr 2
theorem ArrW.setRow {r : Nat} {t : TypeId} {xs : List Nat} {X : World} (h : ArrW r t xs X) (ys : List Nat) : ArrW r t ys (X.setRow r (wcells ys).toArray) := ⟨setRow_heap X r _ _ t (0, 0) h.row⟩
theorem ArrW.setRow_other {r : Nat} {t : TypeId} {xs : List Nat} {X : World} (h : ArrW r t xs X) (g : Nat) (hg : g ≠ r) (cs : Array Value) : ArrW r t xs (X.setRow g cs) := ⟨by
  have h1 := h.row
  simp [World.setRow, Array.getElem?_modify, hg, h1]⟩
theorem Below.setRow {B r : Nat} {w X : World} (h : Below B w X) (hr : B ≤ r) (cs : Array Value) : Below B w (X.setRow r cs) :=
  h.trans ⟨rfl, rfl, rfl, by simp, fun k hk => setRow_other _ _ _ _ (by omega)⟩
theorem wcells_one (ys : List Nat) : (wcells ys).toArray.all (·.oneCell') = true := by
  rw [Array.all_eq_true_iff_forall_mem]
  intro v hv
  have hv' : v ∈ wcells ys := by simpa using hv
  unfold wcells at hv'
  obtain ⟨x, _, rfl⟩ := List.mem_map.1 hv'
  rfl
theorem ArrW.loadAt {P : Program} {r : Nat} {t : TypeId} {xs : List Nat} {X : World} (h : ArrW r t xs X) {n : Nat} {e : TypeId} (hu : P.underlying t = some (.array n e)) (hi : (P.info? t).map (·.size) = some xs.length) :
    (Instr.loadAt t (.pointer (some ⟨r, 0, none⟩))).run P X = .ok (stV xs) X := by
  simp only [Instr.loadAt, Instr.sureAddr, Sem.run_bind, Sem.run_pure, Result.andThen]
  exact run_loadVar_row X r t t _ (0, 0) _ h.row hu rfl (by rw [hi]; simp [wcells_length])
theorem ArrW.loadVar {P : Program} {r : Nat} {t : TypeId} {xs : List Nat} {X : World} (h : ArrW r t xs X) {n : Nat} {e : TypeId} (hu : P.underlying t = some (.array n e)) (hi : (P.info? t).map (·.size) = some xs.length) :
    (loadVar t ⟨r, 0, none⟩).run P X = .ok (stV xs) X :=
  run_loadVar_row X r t t _ (0, 0) _ h.row hu rfl (by rw [hi]; simp [wcells_length])
theorem ArrW.storeAt {P : Program} {r : Nat} {t : TypeId} {xs : List Nat} {X : World} (h : ArrW r t xs X) (ys : List Nat) (hl : xs.length = ys.length) (hi : (P.info? t).map (·.size) = some ys.length) :
    (Instr.storeAt t (.pointer (some ⟨r, 0, none⟩)) (stV ys)).run P X = .ok () (X.setRow r (wcells ys).toArray) := by
  simp only [Instr.storeAt, Instr.sureAddr, Sem.run_bind, Sem.run_pure, Result.andThen]
  exact run_storeVar_row X r t t _ _ h.row (by rw [hi]; simp [wcells_length]) (by simp [wcells_length, hl]) (wcells_one ys)
/-- A whole array is loaded. -/
theorem wpList_loadA {P : Program} (w : World) {ops : Array Oper} {rest : List Oper} {o : Oper} {a : Act} {Q : Exit → Act → World → Prop} (hg : o.guard = none) (p : Operand) (t : TypeId) (ho : o.op = Op.load t p)
    (r : Nat) (xs : List Nat) (hp : a.eval p = .pointer (some ⟨r, 0, none⟩)) {n : Nat} {e : TypeId} (hu : P.underlying t = some (.array n e)) (hi : (P.info? t).map (·.size) = some xs.length) (hA : ArrW r t xs w)
    (h : wpList P ops Q rest (a.put o.dst (stV xs)) w) : wpList P ops Q (o :: rest) a w := by
  refine wpList_plain hg fun K hK' => ?_
  have hrun := hA.loadAt hu hi
  unfold Oper.wp
  simp [execOp, ho, hp, hrun, Result.andThen]
  exact hK' _ _ h
/-- A whole array is stored. -/
theorem wpList_storeA {P : Program} (w : World) {ops : Array Oper} {rest : List Oper} {o : Oper} {a : Act} {Q : Exit → Act → World → Prop} (hg : o.guard = none) (p x : Operand) (t : TypeId) (ho : o.op = Op.store t p x)
    (r : Nat) (xs ys : List Nat) (hp : a.eval p = .pointer (some ⟨r, 0, none⟩)) (hx : a.eval x = stV ys) (hl : xs.length = ys.length) (hi : (P.info? t).map (·.size) = some ys.length) (hA : ArrW r t xs w)
    (h : wpList P ops Q rest (a.put o.dst undef) (w.setRow r (wcells ys).toArray)) : wpList P ops Q (o :: rest) a w := by
  refine wpList_plain hg fun K hK' => ?_
  have hrun := hA.storeAt (P := P) ys hl hi
  unfold Oper.wp
  simp [execOp, ho, hp, hx, hrun, Result.andThen]
  exact hK' _ _ h
/-- The same, the world behind it left open. -/
theorem Only.setRow (w : World) (r : Nat) (cs : Array Value) : Only r w (w.setRow r cs) := ⟨rfl, rfl, rfl, by simp, fun k _ hk => setRow_other _ _ _ _ hk⟩
theorem wpList_storeY {P : Program} (w : World) {ops : Array Oper} {rest : List Oper} {o : Oper} {a : Act} {Q : Exit → Act → World → Prop} (hg : o.guard = none) (p x : Operand) (t : TypeId) (ho : o.op = Op.store t p x)
    (r : Nat) (xs ys : List Nat) (hp : a.eval p = .pointer (some ⟨r, 0, none⟩)) (hx : a.eval x = stV ys) (hl : xs.length = ys.length) (hi : (P.info? t).map (·.size) = some ys.length) (hA : ArrW r t xs w)
    (h : ∀ Y, ArrW r t ys Y → Only r w Y → Y.heap.size = w.heap.size → wpList P ops Q rest (a.put o.dst undef) Y) : wpList P ops Q (o :: rest) a w :=
  wpList_storeA w hg p x t ho r xs ys hp hx hl hi hA (h _ (hA.setRow ys) (Only.setRow w r _) (by simp))
theorem ArrW.only {r c : Nat} {t : TypeId} {xs : List Nat} {X Y : World} (h : ArrW r t xs X) (ho : Only c X Y) (hr : r ≠ c) : ArrW r t xs Y := ⟨by rw [ho.block r h.lt hr]; exact h.row⟩
/-- The same two as steps of a region that draws its order. -/
theorem step_loadA {P : Program} {ops : Array Oper} {o : Oper} {a : Act} {w : World} {K : Act → World → Prop} {Q : Exit → Act → World → Prop} {E : Prop} (hg : o.guard = none) (p : Operand) (t : TypeId) (ho : o.op = Op.load t p)
    (r : Nat) (xs : List Nat) (hp : a.eval p = .pointer (some ⟨r, 0, none⟩)) {n : Nat} {e : TypeId} (hu : P.underlying t = some (.array n e)) (hi : (P.info? t).map (·.size) = some xs.length) (hA : ArrW r t xs w)
    (h : K (a.put o.dst (stV xs)) w) : if Region.wanted o (yielded ops a.tmps) = true then Oper.wp P o a w K Q else E := by
  have hw : Region.wanted o (yielded ops a.tmps) = true := by simp [Region.wanted, hg]
  rw [if_pos hw]
  have hrun := hA.loadAt hu hi
  unfold Oper.wp
  simp [execOp, ho, hp, hrun, Result.andThen]
  exact h
theorem step_storeA {P : Program} {ops : Array Oper} {o : Oper} {a : Act} {w : World} {K : Act → World → Prop} {Q : Exit → Act → World → Prop} {E : Prop} (hg : o.guard = none) (p x : Operand) (t : TypeId) (ho : o.op = Op.store t p x)
    (r : Nat) (xs ys : List Nat) (hp : a.eval p = .pointer (some ⟨r, 0, none⟩)) (hx : a.eval x = stV ys) (hl : xs.length = ys.length) (hi : (P.info? t).map (·.size) = some ys.length) (hA : ArrW r t xs w)
    (h : K (a.put o.dst undef) (w.setRow r (wcells ys).toArray)) : if Region.wanted o (yielded ops a.tmps) = true then Oper.wp P o a w K Q else E := by
  have hw : Region.wanted o (yielded ops a.tmps) = true := by simp [Region.wanted, hg]
  rw [if_pos hw]
  have hrun := hA.storeAt (P := P) ys hl hi
  unfold Oper.wp
  simp [execOp, ho, hp, hx, hrun, Result.andThen]
  rw [Oper.upon_skip]
  exact h
/-- Eight words, one behind another, into a variable of eight. -/
theorem ArrW.set8 {r : Nat} {t : TypeId} {xs : List Nat} {X : World} (h : ArrW r t xs X) (hl : xs.length = 8) (a b c d e f g i : Nat) :
    ArrW r t [a, b, c, d, e, f, g, i] ((((((((X.setCell ⟨r, 0, none⟩ (.int .u32 (a : Int))).setCell ⟨r, 1, none⟩ (.int .u32 (b : Int))).setCell ⟨r, 2, none⟩ (.int .u32 (c : Int))).setCell ⟨r, 3, none⟩ (.int .u32 (d : Int))).setCell ⟨r, 4, none⟩ (.int .u32 (e : Int))).setCell ⟨r, 5, none⟩ (.int .u32 (f : Int))).setCell ⟨r, 6, none⟩ (.int .u32 (g : Int))).setCell ⟨r, 7, none⟩ (.int .u32 (i : Int))) := by
  match xs, hl with
  | [_, _, _, _, _, _, _, _], _ => exact (((((((h.set 0 a).set 1 b).set 2 c).set 3 d).set 4 e).set 5 f).set 6 g).set 7 i
theorem Below.set8 {B r : Nat} {w X : World} (h : Below B w X) (hr : B ≤ r) (v0 v1 v2 v3 v4 v5 v6 v7 : Value) :
    Below B w ((((((((X.setCell ⟨r, 0, none⟩ v0).setCell ⟨r, 1, none⟩ v1).setCell ⟨r, 2, none⟩ v2).setCell ⟨r, 3, none⟩ v3).setCell ⟨r, 4, none⟩ v4).setCell ⟨r, 5, none⟩ v5).setCell ⟨r, 6, none⟩ v6).setCell ⟨r, 7, none⟩ v7) :=
  (((((((h.setCell (p := ⟨r, 0, none⟩) hr _).setCell (p := ⟨r, 1, none⟩) hr _).setCell (p := ⟨r, 2, none⟩) hr _).setCell (p := ⟨r, 3, none⟩) hr _).setCell (p := ⟨r, 4, none⟩) hr _).setCell (p := ⟨r, 5, none⟩) hr _).setCell (p := ⟨r, 6, none⟩) hr _).setCell (p := ⟨r, 7, none⟩) hr _
end Go.Proofs.YtoaifgblbfdncaaDoor
