/-
  The given sums under a key.
  The given NextKeys.
  Arrays of words of 32 bits as variables; no program is spoken of here.
  Arrays of eight words, at this translation.
  Four bytes of a sum, as the program and as the given one lay them.
-/
import Derived.Test.YtoaifgblbfdncabDoorJ27
import Derived.Test.YtoaifgblbfdncabDoorJ22
import Derived.Deep.WholeRow
import Derived.Test.YtoaifgblbfdncabDoorRows
import Derived.Deep.RegionHeld3
import Derived.BigQuiet
import Derived.Deep.QuietTactic
import Derived.Deep.LoopGhost
import Derived.Deep.DeepCutAuto
import Derived.Test.YtoaifgblbfdncabDoorJ01
import Derived.Test.YtoaifgblbfdncabDoorJ20
import Derived.Test.YtoaifgblbfdncabDoorJ02
namespace Go.Proofs.YtoaifgblbfdncabDoor
open Go.RowKit

theorem OwnB.set {w : World} {base g cap n : Nat} {e : TypeId} {xs : List UInt8} (h : OwnB w base e (.slice (some ⟨g, 0, none⟩) n cap) xs) (hn : xs.length = n) (j : Nat) (x : UInt8) :
    OwnB (w.setCell ⟨g, j, none⟩ (.int .u8 (x.toNat : Int))) base e (.slice (some ⟨g, 0, none⟩) n cap) (xs.set j x) := by
  subst hn
  have h' : w.ownsRow base e 1 (.slice (some ⟨g, 0, none⟩) xs.length cap) xs.length (Lib.byteCells xs) := h
  have := (h'.stored j (.int .u8 (x.toNat : Int))).1
  unfold OwnB
  rw [List.length_set]
  have e1 : Lib.byteCells (xs.set j x) = (Lib.byteCells xs).set j (.int .u8 (x.toNat : Int)) := by unfold Lib.byteCells; rw [List.map_set]
  rw [e1]
  exact this
theorem OwnB.free {w : World} {base g cap n : Nat} {e : TypeId} {xs : List UInt8} (h : OwnB w base e (.slice (some ⟨g, 0, none⟩) n cap) xs) (hn : xs.length = n) (j : Nat) : w.frozen? ⟨g, j, none⟩ = false := by
  subst hn
  exact World.ownsRow.frozenAt (base := base) (e := e) (size := 1) (xs := Lib.byteCells xs) (n := xs.length) (cap := cap) h j
theorem OwnB.at {w : World} {base g cap n : Nat} {e : TypeId} {xs : List UInt8} (h : OwnB w base e (.slice (some ⟨g, 0, none⟩) n cap) xs) (hn : xs.length = n) (j : Nat) (hj : j < n) : w.cell? ⟨g, j, none⟩ = some (.int .u8 ((xs.getD j 0).toNat : Nat)) := by
  subst hn
  obtain ⟨ao, c, hv, hh⟩ := h.form
  obtain ⟨g', hg', _, hc⟩ := hh (by omega)
  simp only [Value.slice.injEq] at hv
  obtain ⟨h1, _, _⟩ := hv
  rw [hg'] at h1
  simp only [Option.some.injEq, Addr.mk.injEq, and_true] at h1
  subst h1
  exact hc j hj
theorem specDigP_any (s : ByteArray) (hs : s.size ≤ 500000000) (w : World) :
    Calls Tryd.prog 14 #[.string s] w fun e w' => e = .returned (.string (digP s)) ∧ Below w.heap.size w w' := specDigestOf_any s hs w
end Go.Proofs.YtoaifgblbfdncabDoor
namespace Go.Proofs.YtoaifgblbfdncabDoor
open Go.RowKit

/-- The keys that come next: digests of the keys with a sign behind them. -/
def nextK (s : ByteArray) : ByteArray := digP (s ++ ⟨#[107]⟩)
set_option maxRecDepth 100000 in
set_option maxHeartbeats 800000 in
theorem specNextKeys_any (a b : ByteArray) (ha : a.size ≤ 400000000) (hb : b.size ≤ 400000000) (w : World) :
    Calls Tryd.prog 22 #[.string a, .string b] w fun e w' => e = .returned (.tuple #[.string (nextK a), .string (nextK b)]) ∧ Below w.heap.size w w' := by
  have e1 : (⟨#[107]⟩ : ByteArray).size = 1 := rfl
  have H1 := Lib.hid (specDigP_any (a ++ ⟨#[107]⟩) (by rw [ByteArray.size_append, e1]; omega))
  have H2 := Lib.hid (specDigP_any (b ++ ⟨#[107]⟩) (by rw [ByteArray.size_append, e1]; omega))
  have k1 : ¬ (9223372036854775807 < a.size + 1) := by omega
  have k2 : ¬ (9223372036854775807 < b.size + 1) := by omega
  have D1 : Hid (nextK a = digP (a ++ ⟨#[107]⟩)) := Lib.hid rfl
  have D2 : Hid (nextK b = digP (b ++ ⟨#[107]⟩)) := Lib.hid rfl
  rw [← D1.out] at H1
  rw [← D2.out] at H2
  clear e1 D1 D2
  generalize nextK a = na at *
  generalize nextK b = nb at *
  go_enter Tryd.func22, Tryd.ntmps22
  go_wp2_with fail
  refine (H1.out _).mono ?_
  rintro e w1 ⟨rfl, hb1⟩
  have B1 := Lib.hid hb1
  clear hb1
  go_wp2_with fail
  refine (H2.out _).mono ?_
  rintro e w2 ⟨rfl, hb2⟩
  have B2 := Lib.hid (B1.out.trans (hb2.mono B1.out.size))
  clear hb2
  go_wp2_with fail
  go_ret2
  exact ⟨rfl, B2.out⟩

end Go.Proofs.YtoaifgblbfdncabDoor
namespace Go.Proofs.YtoaifgblbfdncabDoor
open Go.RowKit

/-- A row of words as one value. -/
def stV (l : List Nat) : Value := .agg (wcells l).toArray

/-- Block r is a variable that holds these words. -/
structure ArrW (r : Nat) (t : TypeId) (xs : List Nat) (X : World) : Prop where
  row : X.heap[r]? = some (.cells (wcells xs).toArray t (0, 0))
theorem ArrW.lt {r : Nat} {t : TypeId} {xs : List Nat} {X : World} (h : ArrW r t xs X) : r < X.heap.size := lt_of_block h.row
theorem ArrW.next {r : Nat} {t : TypeId} {xs : List Nat} {X Y : World} (h : ArrW r t xs X) (hb : Below X.heap.size X Y) : ArrW r t xs Y := ⟨by rw [hb.block r (lt_of_block h.row)]; exact h.row⟩
theorem ArrW.later {B r : Nat} {t : TypeId} {xs : List Nat} {X Y : World} (h : ArrW r t xs X) (hr : r < B) (hb : Below B X Y) : ArrW r t xs Y := ⟨by rw [hb.block r hr]; exact h.row⟩
theorem ArrW.drewN {r : Nat} {t : TypeId} {xs : List Nat} {X : World} (h : ArrW r t xs X) (n : Nat) : ArrW r t xs (X.drewN n) := ⟨h.row⟩
theorem ArrW.drew {r : Nat} {t : TypeId} {xs : List Nat} {X : World} (h : ArrW r t xs X) : ArrW r t xs X.drew := ⟨h.row⟩
theorem ArrW.alloc {r : Nat} {t : TypeId} {xs : List Nat} {X : World} (h : ArrW r t xs X) (o : Obj) : ArrW r t xs (X.alloc o) := ⟨by
  have := h.lt
  show (X.heap.push o)[r]? = _
  rw [Array.getElem?_push, if_neg (by omega)]; exact h.row⟩
theorem ArrW.new (w : World) (t : TypeId) (xs : List Nat) : ArrW w.heap.size t xs (w.alloc (.cells (wcells xs).toArray t)) := ⟨heap_alloc_new w _⟩
theorem ArrW.new2 (w : World) (o : Obj) (t : TypeId) (xs : List Nat) : ArrW (w.heap.size + 1) t xs ((w.alloc o).alloc (.cells (wcells xs).toArray t)) := by
  have h := ArrW.new (w.alloc o) t xs
  have e : (w.alloc o).heap.size = w.heap.size + 1 := by simp
  rw [e] at h
  exact h
theorem ArrW.cell {r : Nat} {t : TypeId} {xs : List Nat} {X : World} (h : ArrW r t xs X) (j : Nat) (hj : j < xs.length) : X.cell? ⟨r, j, none⟩ = some (.int .u32 (xs.getD j 0 : Nat)) := by
  rw [cell_of_row X r j _ t (0, 0) h.row, List.getElem?_toArray, wcells_at xs j hj]
theorem ArrW.free {r : Nat} {t : TypeId} {xs : List Nat} {X : World} (h : ArrW r t xs X) (j : Nat) : X.frozen? ⟨r, j, none⟩ = false := frozen_of_row X r j _ t h.row
theorem ArrW.set {r : Nat} {t : TypeId} {xs : List Nat} {X : World} (h : ArrW r t xs X) (j x : Nat) : ArrW r t (xs.set j x) (X.setCell ⟨r, j, none⟩ (.int .u32 (x : Int))) := ⟨by
  have e : (wcells (xs.set j x)).toArray = (wcells xs).toArray.setIfInBounds j (.int .u32 (x : Int)) := by
    unfold wcells
    rw [List.map_set]
    simp
  rw [e]
  simp [World.setCell, Array.getElem?_modify, h.row]⟩
theorem ArrW.set_other {r : Nat} {t : TypeId} {xs : List Nat} {X : World} (h : ArrW r t xs X) (p : Addr) (hp : p.block ≠ r) (v : Value) : ArrW r t xs (X.setCell p v) := ⟨by
  have h1 := h.row
  simp [World.setCell, Array.getElem?_modify, hp, h1]⟩
theorem ArrW.load {P : Program} {r : Nat} {t : TypeId} {xs : List Nat} {X : World} (h : ArrW r t xs X) (n : Nat) (hn : xs.length = n) :
    (loadCellsFrom ⟨r, 0, none⟩ 0 n #[]).run P X = .ok (wcells xs).toArray X := by
  have := run_loadCells_list (P := P) (w := X) ⟨r, 0, none⟩ (wcells xs) (fun j v hv => by
    have hadd : (⟨r, 0, none⟩ : Addr).add j = ⟨r, j, none⟩ := by unfold Addr.add; split <;> simp_all
    rw [hadd, cell_of_row _ _ j _ t (0, 0) h.row]
    simpa using hv)
  rw [wcells_length, hn] at this
  simpa [loadCells] using this
theorem ArrW.store {P : Program} {r : Nat} {t : TypeId} {xs : List Nat} {X : World} (h : ArrW r t xs X) (ys : List Nat) (hl : xs.length = ys.length) :
    (storeCells ⟨r, 0, none⟩ (wcells ys) 0).run P X = .ok () (X.setRow r (wcells ys).toArray) := by
  have := run_storeCells_from (P := P) r t (wcells ys) 0 (wcells xs).toArray X h.row (by simp [wcells_length]; omega) (fun v hv => by
    unfold wcells at hv
    obtain ⟨x, _, rfl⟩ := List.mem_map.1 hv
    rfl)
  rw [this]
  congr 2
theorem ArrW.setRow {r : Nat} {t : TypeId} {xs : List Nat} {X : World} (h : ArrW r t xs X) (ys : List Nat) : ArrW r t ys (X.setRow r (wcells ys).toArray) := ⟨setRow_heap X r _ _ t (0, 0) h.row⟩
theorem Below.setRow {B r : Nat} {w X : World} (h : Below B w X) (hr : B ≤ r) (cs : Array Value) : Below B w (X.setRow r cs) :=
  h.trans ⟨rfl, rfl, rfl, by simp, fun k hk => setRow_other _ _ _ _ (by omega)⟩
theorem wcells_one (ys : List Nat) : (wcells ys).toArray.all (·.oneCell') = true := by
  rw [Array.all_eq_true_iff_forall_mem]
  intro v hv
  have hv' : v ∈ wcells ys := by simpa using hv
  unfold wcells at hv'
  obtain ⟨x, _, rfl⟩ := List.mem_map.1 hv'
  rfl
theorem ArrW.loadAt {P : Program} {r : Nat} {t : TypeId} {xs : List Nat} {X : World} (h : ArrW r t xs X) {n : Nat} {e : TypeId} (hu : P.underlying t = some (.array n e)) (hi : (P.info? t).map (·.size) = some xs.length) :
    (Instr.loadAt t (.pointer (some ⟨r, 0, none⟩))).run P X = .ok (stV xs) X := by
  simp only [Instr.loadAt, Instr.sureAddr, Sem.run_bind, Sem.run_pure, Result.andThen]
  exact run_loadVar_row X r t t _ (0, 0) _ h.row hu rfl (by rw [hi]; simp [wcells_length])
theorem ArrW.loadVar {P : Program} {r : Nat} {t : TypeId} {xs : List Nat} {X : World} (h : ArrW r t xs X) {n : Nat} {e : TypeId} (hu : P.underlying t = some (.array n e)) (hi : (P.info? t).map (·.size) = some xs.length) :
    (loadVar t ⟨r, 0, none⟩).run P X = .ok (stV xs) X :=
  run_loadVar_row X r t t _ (0, 0) _ h.row hu rfl (by rw [hi]; simp [wcells_length])
theorem ArrW.storeAt {P : Program} {r : Nat} {t : TypeId} {xs : List Nat} {X : World} (h : ArrW r t xs X) (ys : List Nat) (hl : xs.length = ys.length) (hi : (P.info? t).map (·.size) = some ys.length) :
    (Instr.storeAt t (.pointer (some ⟨r, 0, none⟩)) (stV ys)).run P X = .ok () (X.setRow r (wcells ys).toArray) := by
  simp only [Instr.storeAt, Instr.sureAddr, Sem.run_bind, Sem.run_pure, Result.andThen]
  exact run_storeVar_row X r t t _ _ h.row (by rw [hi]; simp [wcells_length]) (by simp [wcells_length, hl]) (wcells_one ys)
/-- A whole array is loaded. -/
theorem wpList_loadA {P : Program} (w : World) {ops : Array Oper} {rest : List Oper} {o : Oper} {a : Act} {Q : Exit → Act → World → Prop} (hg : o.guard = none) (p : Operand) (t : TypeId) (ho : o.op = Op.load t p)
    (r : Nat) (xs : List Nat) (hp : a.eval p = .pointer (some ⟨r, 0, none⟩)) {n : Nat} {e : TypeId} (hu : P.underlying t = some (.array n e)) (hi : (P.info? t).map (·.size) = some xs.length) (hA : ArrW r t xs w)
    (h : wpList P ops Q rest (a.put o.dst (stV xs)) w) : wpList P ops Q (o :: rest) a w := by
  refine wpList_plain hg fun K hK' => ?_
  have hrun := hA.loadAt hu hi
  unfold Oper.wp
  simp [execOp, ho, hp, hrun, Result.andThen]
  exact hK' _ _ h
/-- A whole array is stored. -/
theorem wpList_storeA {P : Program} (w : World) {ops : Array Oper} {rest : List Oper} {o : Oper} {a : Act} {Q : Exit → Act → World → Prop} (hg : o.guard = none) (p x : Operand) (t : TypeId) (ho : o.op = Op.store t p x)
    (r : Nat) (xs ys : List Nat) (hp : a.eval p = .pointer (some ⟨r, 0, none⟩)) (hx : a.eval x = stV ys) (hl : xs.length = ys.length) (hi : (P.info? t).map (·.size) = some ys.length) (hA : ArrW r t xs w)
    (h : wpList P ops Q rest (a.put o.dst undef) (w.setRow r (wcells ys).toArray)) : wpList P ops Q (o :: rest) a w := by
  refine wpList_plain hg fun K hK' => ?_
  have hrun := hA.storeAt (P := P) ys hl hi
  unfold Oper.wp
  simp [execOp, ho, hp, hx, hrun, Result.andThen]
  exact hK' _ _ h
/-- The same, the world behind it left open. -/
theorem Only.setRow (w : World) (r : Nat) (cs : Array Value) : Only r w (w.setRow r cs) := ⟨rfl, rfl, rfl, by simp, fun k _ hk => setRow_other _ _ _ _ hk⟩
theorem wpList_storeY {P : Program} (w : World) {ops : Array Oper} {rest : List Oper} {o : Oper} {a : Act} {Q : Exit → Act → World → Prop} (hg : o.guard = none) (p x : Operand) (t : TypeId) (ho : o.op = Op.store t p x)
    (r : Nat) (xs ys : List Nat) (hp : a.eval p = .pointer (some ⟨r, 0, none⟩)) (hx : a.eval x = stV ys) (hl : xs.length = ys.length) (hi : (P.info? t).map (·.size) = some ys.length) (hA : ArrW r t xs w)
    (h : ∀ Y, ArrW r t ys Y → Only r w Y → Y.heap.size = w.heap.size → wpList P ops Q rest (a.put o.dst undef) Y) : wpList P ops Q (o :: rest) a w :=
  wpList_storeA w hg p x t ho r xs ys hp hx hl hi hA (h _ (hA.setRow ys) (Only.setRow w r _) (by simp))
theorem ArrW.only {r c : Nat} {t : TypeId} {xs : List Nat} {X Y : World} (h : ArrW r t xs X) (ho : Only c X Y) (hr : r ≠ c) : ArrW r t xs Y := ⟨by rw [ho.block r h.lt hr]; exact h.row⟩
/-- Eight words, one behind another, into a variable of eight. -/
theorem ArrW.set8 {r : Nat} {t : TypeId} {xs : List Nat} {X : World} (h : ArrW r t xs X) (hl : xs.length = 8) (a b c d e f g i : Nat) :
    ArrW r t [a, b, c, d, e, f, g, i] ((((((((X.setCell ⟨r, 0, none⟩ (.int .u32 (a : Int))).setCell ⟨r, 1, none⟩ (.int .u32 (b : Int))).setCell ⟨r, 2, none⟩ (.int .u32 (c : Int))).setCell ⟨r, 3, none⟩ (.int .u32 (d : Int))).setCell ⟨r, 4, none⟩ (.int .u32 (e : Int))).setCell ⟨r, 5, none⟩ (.int .u32 (f : Int))).setCell ⟨r, 6, none⟩ (.int .u32 (g : Int))).setCell ⟨r, 7, none⟩ (.int .u32 (i : Int))) := by
  match xs, hl with
  | [_, _, _, _, _, _, _, _], _ => exact (((((((h.set 0 a).set 1 b).set 2 c).set 3 d).set 4 e).set 5 f).set 6 g).set 7 i
theorem Below.set8 {B r : Nat} {w X : World} (h : Below B w X) (hr : B ≤ r) (v0 v1 v2 v3 v4 v5 v6 v7 : Value) :
    Below B w ((((((((X.setCell ⟨r, 0, none⟩ v0).setCell ⟨r, 1, none⟩ v1).setCell ⟨r, 2, none⟩ v2).setCell ⟨r, 3, none⟩ v3).setCell ⟨r, 4, none⟩ v4).setCell ⟨r, 5, none⟩ v5).setCell ⟨r, 6, none⟩ v6).setCell ⟨r, 7, none⟩ v7) :=
  (((((((h.setCell (p := ⟨r, 0, none⟩) hr _).setCell (p := ⟨r, 1, none⟩) hr _).setCell (p := ⟨r, 2, none⟩) hr _).setCell (p := ⟨r, 3, none⟩) hr _).setCell (p := ⟨r, 4, none⟩) hr _).setCell (p := ⟨r, 5, none⟩) hr _).setCell (p := ⟨r, 6, none⟩) hr _).setCell (p := ⟨r, 7, none⟩) hr _
end Go.Proofs.YtoaifgblbfdncabDoor
namespace Go.Proofs.YtoaifgblbfdncabDoor
open Go.RowKit

def zero8 : List Nat := [0, 0, 0, 0, 0, 0, 0, 0]
/-- A word out of a whole array. -/
theorem index8 (st : List Nat) (h : st.length = 8) (k : Nat) (hk : k < 8) (w : World) : (Instr.index 59 (stV st) (.int .i64 (k : Int))).run Tryd.prog w = .ok (.int .u32 (st.getD k 0 : Nat)) w := by
  obtain ⟨a, b, c, d, e, f, g, i, rfl⟩ : ∃ a b c d e f g i, st = [a, b, c, d, e, f, g, i] := by
    match st, h with
    | [a, b, c, d, e, f, g, i], _ => exact ⟨a, b, c, d, e, f, g, i, rfl⟩
  have i0 : (Instr.index 59 (.agg #[.int .u32 a, .int .u32 b, .int .u32 c, .int .u32 d, .int .u32 e, .int .u32 f, .int .u32 g, .int .u32 i]) (.int .i64 0)).run Tryd.prog w = .ok (.int .u32 a) w := by kernel_rfl
  have i1 : (Instr.index 59 (.agg #[.int .u32 a, .int .u32 b, .int .u32 c, .int .u32 d, .int .u32 e, .int .u32 f, .int .u32 g, .int .u32 i]) (.int .i64 1)).run Tryd.prog w = .ok (.int .u32 b) w := by kernel_rfl
  have i2 : (Instr.index 59 (.agg #[.int .u32 a, .int .u32 b, .int .u32 c, .int .u32 d, .int .u32 e, .int .u32 f, .int .u32 g, .int .u32 i]) (.int .i64 2)).run Tryd.prog w = .ok (.int .u32 c) w := by kernel_rfl
  have i3 : (Instr.index 59 (.agg #[.int .u32 a, .int .u32 b, .int .u32 c, .int .u32 d, .int .u32 e, .int .u32 f, .int .u32 g, .int .u32 i]) (.int .i64 3)).run Tryd.prog w = .ok (.int .u32 d) w := by kernel_rfl
  have i4 : (Instr.index 59 (.agg #[.int .u32 a, .int .u32 b, .int .u32 c, .int .u32 d, .int .u32 e, .int .u32 f, .int .u32 g, .int .u32 i]) (.int .i64 4)).run Tryd.prog w = .ok (.int .u32 e) w := by kernel_rfl
  have i5 : (Instr.index 59 (.agg #[.int .u32 a, .int .u32 b, .int .u32 c, .int .u32 d, .int .u32 e, .int .u32 f, .int .u32 g, .int .u32 i]) (.int .i64 5)).run Tryd.prog w = .ok (.int .u32 f) w := by kernel_rfl
  have i6 : (Instr.index 59 (.agg #[.int .u32 a, .int .u32 b, .int .u32 c, .int .u32 d, .int .u32 e, .int .u32 f, .int .u32 g, .int .u32 i]) (.int .i64 6)).run Tryd.prog w = .ok (.int .u32 g) w := by kernel_rfl
  have i7 : (Instr.index 59 (.agg #[.int .u32 a, .int .u32 b, .int .u32 c, .int .u32 d, .int .u32 e, .int .u32 f, .int .u32 g, .int .u32 i]) (.int .i64 7)).run Tryd.prog w = .ok (.int .u32 i) w := by kernel_rfl
  match k, hk with
  | 0, _ => exact i0
  | 1, _ => exact i1
  | 2, _ => exact i2
  | 3, _ => exact i3
  | 4, _ => exact i4
  | 5, _ => exact i5
  | 6, _ => exact i6
  | 7, _ => exact i7
theorem Only.set8 (w : World) (r : Nat) (v0 v1 v2 v3 v4 v5 v6 v7 : Value) :
    Only r w ((((((((w.setCell ⟨r, 0, none⟩ v0).setCell ⟨r, 1, none⟩ v1).setCell ⟨r, 2, none⟩ v2).setCell ⟨r, 3, none⟩ v3).setCell ⟨r, 4, none⟩ v4).setCell ⟨r, 5, none⟩ v5).setCell ⟨r, 6, none⟩ v6).setCell ⟨r, 7, none⟩ v7) :=
  (((((((Only.setCell 0 v0).trans (Only.setCell 1 v1)).trans (Only.setCell 2 v2)).trans (Only.setCell 3 v3)).trans (Only.setCell 4 v4)).trans (Only.setCell 5 v5)).trans (Only.setCell 6 v6)).trans (Only.setCell 7 v7)

end Go.Proofs.YtoaifgblbfdncabDoor
namespace Go.Proofs.YtoaifgblbfdncabDoor
open Go.RowKit

/-- The four bytes laid as one row, read as a text. -/
theorem four_read (x : Nat) (hx : x < 4294967296) (w : World) : (convert 70 9 (Value.slice (some ⟨w.heap.size, 0, none⟩) 4 4)).run Tryd.prog
    (w.alloc (.cells #[.int .u8 ((x : Int) / 16777216), .int .u8 ((x : Int) / 65536 % 256), .int .u8 ((x : Int) / 256 % 256), .int .u8 ((x : Int) % 256)] 5)) =
    .ok (.string ⟨(four x).toArray⟩) (w.alloc (.cells #[.int .u8 ((x : Int) / 16777216), .int .u8 ((x : Int) / 65536 % 256), .int .u8 ((x : Int) / 256 % 256), .int .u8 ((x : Int) % 256)] 5)) := by
  have e1 : (x : Int) / 16777216 = (((UInt8.ofNat (x / 16777216)).toNat : Nat) : Int) := by rw [UInt8.toNat_ofNat']; omega
  have e2 : (x : Int) / 65536 % 256 = (((UInt8.ofNat (x / 65536 % 256)).toNat : Nat) : Int) := by rw [UInt8.toNat_ofNat']; omega
  have e3 : (x : Int) / 256 % 256 = (((UInt8.ofNat (x / 256 % 256)).toNat : Nat) : Int) := by rw [UInt8.toNat_ofNat']; omega
  have e4 : (x : Int) % 256 = (((UInt8.ofNat (x % 256)).toNat : Nat) : Int) := by rw [UInt8.toNat_ofNat']; omega
  have h := World.ownsRow_lit (base := w.heap.size) (e := 5) (size := 1) w #[.int .u8 ((x : Int) / 16777216), .int .u8 ((x : Int) / 65536 % 256), .int .u8 ((x : Int) / 256 % 256), .int .u8 ((x : Int) % 256)] 4 (Nat.le_refl _) (by decide) rfl
  have hown : OwnB (w.alloc (.cells #[.int .u8 ((x : Int) / 16777216), .int .u8 ((x : Int) / 65536 % 256), .int .u8 ((x : Int) / 256 % 256), .int .u8 ((x : Int) % 256)] 5)) w.heap.size 5 (Value.slice (some ⟨w.heap.size, 0, none⟩) 4 4) (four x) := by
    unfold OwnB four
    simp only [Lib.byteCells, List.map_cons, List.map_nil, ← e1, ← e2, ← e3, ← e4]
    exact h
  exact run_string_own _ 70 9 5 Tryd.underlying70 Tryd.underlying5 Tryd.underlying9 _ hown

set_option maxRecDepth 100000 in
set_option maxHeartbeats 400000 in
theorem wordText_any (x : Nat) (hx : x < 4294967296) (w : World) :
    Calls Tryd.prog 56 #[.int .u32 x] w fun e w' => e = .returned (.string ⟨(four x).toArray⟩) ∧ Below w.heap.size w w' := by
  have hr := four_read x hx w
  go_enter Tryd.func56, Tryd.ntmps56
  go_wp2
  go_ret
  exact ⟨rfl, (Below.refl _ _).alloc (Nat.le_refl _) _⟩

end Go.Proofs.YtoaifgblbfdncabDoor
