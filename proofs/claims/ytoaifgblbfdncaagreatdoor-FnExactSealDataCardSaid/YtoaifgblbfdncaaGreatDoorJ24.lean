/-
  What SealData tells, of whatever row of no acks.
  The given OpenText.
  What OpenText tells at every argument, in plain words; the given one.
  The given NoteSeen.
  The given opening of a packet by one set of keys.
  The given PacketOk.
  Slots that are drawn stay right, in plain words; no program is spoken of here.
  The front and the back of two texts; no program is spoken of here.
  The front and the back of two texts, beside masks; no program is spoken of here.
  Data that is opened, in plain words: by the main keys, by the lame ones, or not.
  Arrays of words of 32 bits as variables; no program is spoken of here.
-/
import Derived.Test.YtoaifgblbfdncaaGreatDoorJ23
import Derived.Test.YtoaifgblbfdncaaGreatDoorJ22
import Derived.Test.YtoaifgblbfdncaaGreatDoorJ10
import Derived.Test.YtoaifgblbfdncaaGreatDoorJ04
import Derived.Deep.DeepCutAuto
import Derived.Test.YtoaifgblbfdncaaGreatDoorJ09
import Derived.Test.YtoaifgblbfdncaaGreatDoorJ07
import Derived.Test.YtoaifgblbfdncaaGreatDoorJ02
import Derived.Test.YtoaifgblbfdncaaGreatDoorRows
import Derived.Test.YtoaifgblbfdncaaGreatDoorJ21
import Derived.Test.YtoaifgblbfdncaaGreatDoorJ14
import Derived.Deep.WholeRow
namespace Go.Proofs.YtoaifgblbfdncaaGreatDoor
open Go.RowKit

/-- What is told of a packet. -/
def SealIs (x0 : Int) (x1 x2 : ByteArray) (x3 : Int) (r4 : List Int) (x5 : Int) (y0 : Int) (y1 y2 : ByteArray) (y3 : Int) (s4 : List Int) (y5 : Int) (fr dst : Int) (body : ByteArray) (c k0 k1 k2 k3 k4 : Int) (k6 : ByteArray) (ok : Bool) : Prop :=
  (ok = true ∧ SealP x0 x1 x2 x3 r4 x5 y0 y1 y2 y3 s4 y5 fr dst body ∧ c = x3 + 1 ∧ k0 = 3 ∧ k1 = x0 % 8 ∧ k2 = fr ∧ k3 = dst ∧ k4 = x3 + 1 ∧ k6 = lockP x1 (x3 + 1).toNat body) ∨
  (ok = false ∧ ¬ SealP x0 x1 x2 x3 r4 x5 y0 y1 y2 y3 s4 y5 fr dst body ∧ c = x3 ∧ k0 = 0 ∧ k1 = 0 ∧ k2 = 0 ∧ k3 = 0 ∧ k4 = 0 ∧ k6 = ⟨#[]⟩)
theorem seal_is (x0 : Int) (x1 x2 : ByteArray) (x3 : Int) (r4 : List Int) (x5 : Int) (y0 : Int) (y1 y2 : ByteArray) (y3 : Int) (s4 : List Int) (y5 : Int) (fr dst : Int) (body : ByteArray) : ∃ c k0 k1 k2 k3 k4 k6 ok, SealIs x0 x1 x2 x3 r4 x5 y0 y1 y2 y3 s4 y5 fr dst body c k0 k1 k2 k3 k4 k6 ok := by
  by_cases h : SealP x0 x1 x2 x3 r4 x5 y0 y1 y2 y3 s4 y5 fr dst body
  · exact ⟨_, _, _, _, _, _, _, _, .inl ⟨rfl, h, rfl, rfl, rfl, rfl, rfl, rfl, rfl⟩⟩
  · exact ⟨_, _, _, _, _, _, _, _, .inr ⟨rfl, h, rfl, rfl, rfl, rfl, rfl, rfl, rfl⟩⟩
/-- Slots, a packet without acks and whether are handed back. -/
def SealMade (x0 : Int) (x1 x2 : ByteArray) (c : Int) (r4 : List Int) (x5 : Int) (y0 : Int) (y1 y2 : ByteArray) (y3 : Int) (s4 : List Int) (y5 : Int) (k0 k1 k2 k3 k4 : Int) (k6 : ByteArray) (ok : Bool) (w : World) (e : Ending) (w' : World) : Prop :=
  ∃ (v4 u4 va : Value) (f g h : List Nat), e = .returned (.tuple #[.agg #[.int .i64 x0, .string x1, .string x2, .int .i64 c, v4, .int .i64 x5, .int .i64 y0, .string y1, .string y2, .int .i64 y3, u4, .int .i64 y5], .agg #[.int .i64 k0, .int .i64 k1, .int .i64 k2, .int .i64 k3, .int .i64 k4, va, .string k6], .bool ok]) ∧ ((f ++ g) ++ h).Nodup ∧ layIntS.own w' w.heap.size f [v4] r4 ∧ layIntS.own w' w.heap.size g [u4] s4 ∧ layIntS.own w' w.heap.size h [va] [] ∧ Below w.heap.size w w'
theorem seal_made {x0 : Int} {x1 x2 : ByteArray} {x3 : Int} {r4 : List Int} {x5 : Int} {y0 : Int} {y1 y2 : ByteArray} {y3 : Int} {s4 : List Int} {y5 : Int} {fr dst : Int} {body : ByteArray} {c k0 k1 k2 k3 k4 : Int} {k6 : ByteArray} {ok : Bool} {w : World} {e : Ending} {w' : World} (hi : SealIs x0 x1 x2 x3 r4 x5 y0 y1 y2 y3 s4 y5 fr dst body c k0 k1 k2 k3 k4 k6 ok) (h : SealEnd x0 x1 x2 x3 r4 x5 y0 y1 y2 y3 s4 y5 fr dst body w e w') : SealMade x0 x1 x2 c r4 x5 y0 y1 y2 y3 s4 y5 k0 k1 k2 k3 k4 k6 ok w e w' := by
  obtain ⟨c', a0, a1, a2, a3, a4, a6, ok', v4, u4, f, g, hc, rfl, hd, h1, h2, hb⟩ := h
  have hsame : c' = c ∧ a0 = k0 ∧ a1 = k1 ∧ a2 = k2 ∧ a3 = k3 ∧ a4 = k4 ∧ a6 = k6 ∧ ok' = ok := by
    rcases hc with ⟨rfl, p, rfl, rfl, rfl, rfl, rfl, rfl, rfl⟩ | ⟨rfl, p, rfl, rfl, rfl, rfl, rfl, rfl, rfl⟩ <;> rcases hi with ⟨rfl, q, rfl, rfl, rfl, rfl, rfl, rfl, rfl⟩ | ⟨rfl, q, rfl, rfl, rfl, rfl, rfl, rfl, rfl⟩
    · exact ⟨rfl, rfl, rfl, rfl, rfl, rfl, rfl, rfl⟩
    · exact absurd p q
    · exact absurd q p
    · exact ⟨rfl, rfl, rfl, rfl, rfl, rfl, rfl, rfl⟩
  obtain ⟨rfl, rfl, rfl, rfl, rfl, rfl, rfl, rfl⟩ := hsame
  exact ⟨v4, u4, _, f, g, [], rfl, by rw [List.append_nil]; exact hd, h1, h2, none_own _ _, hb⟩

end Go.Proofs.YtoaifgblbfdncaaGreatDoor
namespace Go.Proofs.YtoaifgblbfdncaaGreatDoor
open Go.RowKit

end Go.Proofs.YtoaifgblbfdncaaGreatDoor
namespace Go.Proofs.YtoaifgblbfdncaaGreatDoor
open Go.RowKit

end Go.Proofs.YtoaifgblbfdncaaGreatDoor
namespace Go.Proofs.YtoaifgblbfdncaaGreatDoor
open Go.RowKit

end Go.Proofs.YtoaifgblbfdncaaGreatDoor
namespace Go.Proofs.YtoaifgblbfdncaaGreatDoor
open Go.RowKit

abbrev OPkT : TypeId := 38
/-- The slot, the packet and the result in their variables. -/
structure OSV (w : World) (s p : Array Value) (X : World) : Prop where
  s : VarA w.heap.size SlotT s X
  p : VarA (w.heap.size + 1) OPkT p X
  r : VarA (w.heap.size + 1 + 1) SlotT #[.int .i64 0, .string ⟨#[]⟩, .string ⟨#[]⟩, .int .i64 0, .slice none 0 0, .int .i64 0] X
  below : Below w.heap.size w X
theorem OSV.next {w X Y : World} {s p : Array Value} (h : OSV w s p X) (hb : Below X.heap.size X Y) : OSV w s p Y := ⟨h.s.next hb, h.p.next hb, h.r.next hb, h.below.trans (hb.mono h.below.size)⟩
theorem OSV.new {w : World} {s p : Array Value} : OSV w s p (((w.alloc (.cells s SlotT)).alloc (.cells p OPkT)).alloc (.cells #[.int .i64 0, .string ⟨#[]⟩, .string ⟨#[]⟩, .int .i64 0, .slice none 0 0, .int .i64 0] SlotT)) := by
  have h2 := VarA.new (w.alloc (.cells s SlotT)) OPkT p
  have h3 := VarA.new ((w.alloc (.cells s SlotT)).alloc (.cells p OPkT)) SlotT #[.int .i64 0, .string ⟨#[]⟩, .string ⟨#[]⟩, .int .i64 0, .slice none 0 0, .int .i64 0]
  rw [show (w.alloc (.cells s SlotT)).heap.size = w.heap.size + 1 by simp] at h2
  rw [show ((w.alloc (.cells s SlotT)).alloc (.cells p OPkT)).heap.size = w.heap.size + 1 + 1 by simp] at h3
  exact ⟨((VarA.new w SlotT s).alloc _).alloc _, h2.alloc _, h3, (((Below.refl w.heap.size w).alloc (Nat.le_refl _) _).alloc (by simp) _).alloc (by simp; omega) _⟩

end Go.Proofs.YtoaifgblbfdncaaGreatDoor
namespace Go.Proofs.YtoaifgblbfdncaaGreatDoor
open Go.RowKit

abbrev PkT : TypeId := 38
end Go.Proofs.YtoaifgblbfdncaaGreatDoor
namespace Go.Proofs.YtoaifgblbfdncaaGreatDoor

/-- Right slots, the main ones keys, of an epoch at most m. -/
structure Good12 (m : Int) (x0 : Int) (x1 x2 : ByteArray) (x3 : Int) (r4 : List Int) (x5 : Int) (y0 : Int) (y1 y2 : ByteArray) (y3 : Int) (s4 : List Int) (y5 : Int) : Prop where
  p : SlotsP x0 x1 x2 x3 r4 x5 y0 y1 y2 y3 s4 y5
  k : KeysP x0 x1 x2 x3 r4 x5
  le : x0 ≤ m
section
variable {m x0 : Int} {x1 x2 : ByteArray} {x3 : Int} {r4 : List Int} {x5 y0 : Int} {y1 y2 : ByteArray} {y3 : Int} {s4 : List Int} {y5 : Int}
theorem Good12.mono {n : Int} (h : Good12 m x0 x1 x2 x3 r4 x5 y0 y1 y2 y3 s4 y5) (hn : m ≤ n) : Good12 n x0 x1 x2 x3 r4 x5 y0 y1 y2 y3 s4 y5 := ⟨h.p, h.k, Int.le_trans h.le hn⟩
end

end Go.Proofs.YtoaifgblbfdncaaGreatDoor
namespace Go.Proofs.YtoaifgblbfdncaaGreatDoor

end Go.Proofs.YtoaifgblbfdncaaGreatDoor
namespace Go.Proofs.YtoaifgblbfdncaaGreatDoor

end Go.Proofs.YtoaifgblbfdncaaGreatDoor
namespace Go.Proofs.YtoaifgblbfdncaaGreatDoor
open Go.RowKit

end Go.Proofs.YtoaifgblbfdncaaGreatDoor
namespace Go.Proofs.YtoaifgblbfdncaaGreatDoor
open Go.RowKit

/-- A row of words as one value. -/
def stV (l : List Nat) : Value := .agg (wcells l).toArray

/-- Block r is a variable that holds these words. -/
structure ArrW (r : Nat) (t : TypeId) (xs : List Nat) (X : World) : Prop where
  row : X.heap[r]? = some (.cells (wcells xs).toArray t (0, 0))
theorem ArrW.lt {r : Nat} {t : TypeId} {xs : List Nat} {X : World} (h : ArrW r t xs X) : r < X.heap.size := lt_of_block h.row
theorem ArrW.next {r : Nat} {t : TypeId} {xs : List Nat} {X Y : World} (h : ArrW r t xs X) (hb : Below X.heap.size X Y) : ArrW r t xs Y := ⟨by rw [hb.block r (lt_of_block h.row)]; exact h.row⟩
theorem ArrW.later {B r : Nat} {t : TypeId} {xs : List Nat} {X Y : World} (h : ArrW r t xs X) (hr : r < B) (hb : Below B X Y) : ArrW r t xs Y := ⟨by rw [hb.block r hr]; exact h.row⟩
theorem ArrW.drewN {r : Nat} {t : TypeId} {xs : List Nat} {X : World} (h : ArrW r t xs X) (n : Nat) : ArrW r t xs (X.drewN n) := ⟨h.row⟩
theorem ArrW.drew {r : Nat} {t : TypeId} {xs : List Nat} {X : World} (h : ArrW r t xs X) : ArrW r t xs X.drew := ⟨h.row⟩
theorem ArrW.alloc {r : Nat} {t : TypeId} {xs : List Nat} {X : World} (h : ArrW r t xs X) (o : Obj) : ArrW r t xs (X.alloc o) := ⟨by
  have := h.lt
  show (X.heap.push o)[r]? = _
  rw [Array.getElem?_push, if_neg (by omega)]; exact h.row⟩
theorem ArrW.new (w : World) (t : TypeId) (xs : List Nat) : ArrW w.heap.size t xs (w.alloc (.cells (wcells xs).toArray t)) := ⟨heap_alloc_new w _⟩
theorem ArrW.new2 (w : World) (o : Obj) (t : TypeId) (xs : List Nat) : ArrW (w.heap.size + 1) t xs ((w.alloc o).alloc (.cells (wcells xs).toArray t)) := by
  have h := ArrW.new (w.alloc o) t xs
  have e : (w.alloc o).heap.size = w.heap.size + 1 := by simp
  rw [e] at h
  exact h
theorem ArrW.cell {r : Nat} {t : TypeId} {xs : List Nat} {X : World} (h : ArrW r t xs X) (j : Nat) (hj : j < xs.length) : X.cell? ⟨r, j, none⟩ = some (.int .u32 (xs.getD j 0 : Nat)) := by
  rw [cell_of_row X r j _ t (0, 0) h.row, List.getElem?_toArray, wcells_at xs j hj]
theorem ArrW.free {r : Nat} {t : TypeId} {xs : List Nat} {X : World} (h : ArrW r t xs X) (j : Nat) : X.frozen? ⟨r, j, none⟩ = false := frozen_of_row X r j _ t h.row
theorem ArrW.set {r : Nat} {t : TypeId} {xs : List Nat} {X : World} (h : ArrW r t xs X) (j x : Nat) : ArrW r t (xs.set j x) (X.setCell ⟨r, j, none⟩ (.int .u32 (x : Int))) := ⟨by
  have e : (wcells (xs.set j x)).toArray = (wcells xs).toArray.setIfInBounds j (.int .u32 (x : Int)) := by
    unfold wcells
    rw [List.map_set]
    simp
  rw [e]
  simp [World.setCell, Array.getElem?_modify, h.row]⟩
theorem ArrW.set_other {r : Nat} {t : TypeId} {xs : List Nat} {X : World} (h : ArrW r t xs X) (p : Addr) (hp : p.block ≠ r) (v : Value) : ArrW r t xs (X.setCell p v) := ⟨by
  have h1 := h.row
  simp [World.setCell, Array.getElem?_modify, hp, h1]⟩
theorem ArrW.load {P : Program} {r : Nat} {t : TypeId} {xs : List Nat} {X : World} (h : ArrW r t xs X) (n : Nat) (hn : xs.length = n) :
    (loadCellsFrom ⟨r, 0, none⟩ 0 n #[]).run P X = .ok (wcells xs).toArray X := by
  have := run_loadCells_list (P := P) (w := X) ⟨r, 0, none⟩ (wcells xs) (fun j v hv => by
    have hadd : (⟨r, 0, none⟩ : Addr).add j = ⟨r, j, none⟩ := by unfold Addr.add; split <;> simp_all
    rw [hadd, cell_of_row _ _ j _ t (0, 0) h.row]
    simpa using hv)
  rw [wcells_length, hn] at this
  simpa [loadCells] using this
theorem ArrW.store {P : Program} {r : Nat} {t : TypeId} {xs : List Nat} {X : World} (h : ArrW r t xs X) (ys : List Nat) (hl : xs.length = ys.length) :
    (storeCells ⟨r, 0, none⟩ (wcells ys) 0).run P X = .ok () (X.setRow r (wcells ys).toArray) := by
  have := run_storeCells_from (P := P) r t (wcells ys) 0 (wcells xs).toArray X h.row (by simp [wcells_length]; omega) (fun v hv => by
    unfold wcells at hv
    obtain ⟨x, _, rfl⟩ := List.mem_map.1 hv
    rfl)
  rw [this]
  congr 2
theorem ArrW.setRow {r : Nat} {t : TypeId} {xs : List Nat} {X : World} (h : ArrW r t xs X) (ys : List Nat) : ArrW r t ys (X.setRow r (wcells ys).toArray) := ⟨setRow_heap X r _ _ t (0, 0) h.row⟩
theorem Below.setRow {B r : Nat} {w X : World} (h : Below B w X) (hr : B ≤ r) (cs : Array Value) : Below B w (X.setRow r cs) :=
  h.trans ⟨rfl, rfl, rfl, by simp, fun k hk => setRow_other _ _ _ _ (by omega)⟩
theorem wcells_one (ys : List Nat) : (wcells ys).toArray.all (·.oneCell') = true := by
  rw [Array.all_eq_true_iff_forall_mem]
  intro v hv
  have hv' : v ∈ wcells ys := by simpa using hv
  unfold wcells at hv'
  obtain ⟨x, _, rfl⟩ := List.mem_map.1 hv'
  rfl
theorem ArrW.loadAt {P : Program} {r : Nat} {t : TypeId} {xs : List Nat} {X : World} (h : ArrW r t xs X) {n : Nat} {e : TypeId} (hu : P.underlying t = some (.array n e)) (hi : (P.info? t).map (·.size) = some xs.length) :
    (Instr.loadAt t (.pointer (some ⟨r, 0, none⟩))).run P X = .ok (stV xs) X := by
  simp only [Instr.loadAt, Instr.sureAddr, Sem.run_bind, Sem.run_pure, Result.andThen]
  exact run_loadVar_row X r t t _ (0, 0) _ h.row hu rfl (by rw [hi]; simp [wcells_length])
theorem ArrW.loadVar {P : Program} {r : Nat} {t : TypeId} {xs : List Nat} {X : World} (h : ArrW r t xs X) {n : Nat} {e : TypeId} (hu : P.underlying t = some (.array n e)) (hi : (P.info? t).map (·.size) = some xs.length) :
    (loadVar t ⟨r, 0, none⟩).run P X = .ok (stV xs) X :=
  run_loadVar_row X r t t _ (0, 0) _ h.row hu rfl (by rw [hi]; simp [wcells_length])
theorem ArrW.storeAt {P : Program} {r : Nat} {t : TypeId} {xs : List Nat} {X : World} (h : ArrW r t xs X) (ys : List Nat) (hl : xs.length = ys.length) (hi : (P.info? t).map (·.size) = some ys.length) :
    (Instr.storeAt t (.pointer (some ⟨r, 0, none⟩)) (stV ys)).run P X = .ok () (X.setRow r (wcells ys).toArray) := by
  simp only [Instr.storeAt, Instr.sureAddr, Sem.run_bind, Sem.run_pure, Result.andThen]
  exact run_storeVar_row X r t t _ _ h.row (by rw [hi]; simp [wcells_length]) (by simp [wcells_length, hl]) (wcells_one ys)
/-- A whole array is loaded. -/
theorem wpList_loadA {P : Program} (w : World) {ops : Array Oper} {rest : List Oper} {o : Oper} {a : Act} {Q : Exit → Act → World → Prop} (hg : o.guard = none) (p : Operand) (t : TypeId) (ho : o.op = Op.load t p)
    (r : Nat) (xs : List Nat) (hp : a.eval p = .pointer (some ⟨r, 0, none⟩)) {n : Nat} {e : TypeId} (hu : P.underlying t = some (.array n e)) (hi : (P.info? t).map (·.size) = some xs.length) (hA : ArrW r t xs w)
    (h : wpList P ops Q rest (a.put o.dst (stV xs)) w) : wpList P ops Q (o :: rest) a w := by
  refine wpList_plain hg fun K hK' => ?_
  have hrun := hA.loadAt hu hi
  unfold Oper.wp
  simp [execOp, ho, hp, hrun, Result.andThen]
  exact hK' _ _ h
/-- A whole array is stored. -/
theorem wpList_storeA {P : Program} (w : World) {ops : Array Oper} {rest : List Oper} {o : Oper} {a : Act} {Q : Exit → Act → World → Prop} (hg : o.guard = none) (p x : Operand) (t : TypeId) (ho : o.op = Op.store t p x)
    (r : Nat) (xs ys : List Nat) (hp : a.eval p = .pointer (some ⟨r, 0, none⟩)) (hx : a.eval x = stV ys) (hl : xs.length = ys.length) (hi : (P.info? t).map (·.size) = some ys.length) (hA : ArrW r t xs w)
    (h : wpList P ops Q rest (a.put o.dst undef) (w.setRow r (wcells ys).toArray)) : wpList P ops Q (o :: rest) a w := by
  refine wpList_plain hg fun K hK' => ?_
  have hrun := hA.storeAt (P := P) ys hl hi
  unfold Oper.wp
  simp [execOp, ho, hp, hx, hrun, Result.andThen]
  exact hK' _ _ h
/-- The same, the world behind it left open. -/
theorem Only.setRow (w : World) (r : Nat) (cs : Array Value) : Only r w (w.setRow r cs) := ⟨rfl, rfl, rfl, by simp, fun k _ hk => setRow_other _ _ _ _ hk⟩
theorem wpList_storeY {P : Program} (w : World) {ops : Array Oper} {rest : List Oper} {o : Oper} {a : Act} {Q : Exit → Act → World → Prop} (hg : o.guard = none) (p x : Operand) (t : TypeId) (ho : o.op = Op.store t p x)
    (r : Nat) (xs ys : List Nat) (hp : a.eval p = .pointer (some ⟨r, 0, none⟩)) (hx : a.eval x = stV ys) (hl : xs.length = ys.length) (hi : (P.info? t).map (·.size) = some ys.length) (hA : ArrW r t xs w)
    (h : ∀ Y, ArrW r t ys Y → Only r w Y → Y.heap.size = w.heap.size → wpList P ops Q rest (a.put o.dst undef) Y) : wpList P ops Q (o :: rest) a w :=
  wpList_storeA w hg p x t ho r xs ys hp hx hl hi hA (h _ (hA.setRow ys) (Only.setRow w r _) (by simp))
theorem ArrW.only {r c : Nat} {t : TypeId} {xs : List Nat} {X Y : World} (h : ArrW r t xs X) (ho : Only c X Y) (hr : r ≠ c) : ArrW r t xs Y := ⟨by rw [ho.block r h.lt hr]; exact h.row⟩
/-- Eight words, one behind another, into a variable of eight. -/
theorem ArrW.set8 {r : Nat} {t : TypeId} {xs : List Nat} {X : World} (h : ArrW r t xs X) (hl : xs.length = 8) (a b c d e f g i : Nat) :
    ArrW r t [a, b, c, d, e, f, g, i] ((((((((X.setCell ⟨r, 0, none⟩ (.int .u32 (a : Int))).setCell ⟨r, 1, none⟩ (.int .u32 (b : Int))).setCell ⟨r, 2, none⟩ (.int .u32 (c : Int))).setCell ⟨r, 3, none⟩ (.int .u32 (d : Int))).setCell ⟨r, 4, none⟩ (.int .u32 (e : Int))).setCell ⟨r, 5, none⟩ (.int .u32 (f : Int))).setCell ⟨r, 6, none⟩ (.int .u32 (g : Int))).setCell ⟨r, 7, none⟩ (.int .u32 (i : Int))) := by
  match xs, hl with
  | [_, _, _, _, _, _, _, _], _ => exact (((((((h.set 0 a).set 1 b).set 2 c).set 3 d).set 4 e).set 5 f).set 6 g).set 7 i
theorem Below.set8 {B r : Nat} {w X : World} (h : Below B w X) (hr : B ≤ r) (v0 v1 v2 v3 v4 v5 v6 v7 : Value) :
    Below B w ((((((((X.setCell ⟨r, 0, none⟩ v0).setCell ⟨r, 1, none⟩ v1).setCell ⟨r, 2, none⟩ v2).setCell ⟨r, 3, none⟩ v3).setCell ⟨r, 4, none⟩ v4).setCell ⟨r, 5, none⟩ v5).setCell ⟨r, 6, none⟩ v6).setCell ⟨r, 7, none⟩ v7) :=
  (((((((h.setCell (p := ⟨r, 0, none⟩) hr _).setCell (p := ⟨r, 1, none⟩) hr _).setCell (p := ⟨r, 2, none⟩) hr _).setCell (p := ⟨r, 3, none⟩) hr _).setCell (p := ⟨r, 4, none⟩) hr _).setCell (p := ⟨r, 5, none⟩) hr _).setCell (p := ⟨r, 6, none⟩) hr _).setCell (p := ⟨r, 7, none⟩) hr _
end Go.Proofs.YtoaifgblbfdncaaGreatDoor
