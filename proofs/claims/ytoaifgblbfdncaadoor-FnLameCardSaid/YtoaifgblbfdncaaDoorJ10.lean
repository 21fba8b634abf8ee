/-
  The given round of a block, by what it answers.
  Plain mathematics of digests by parts: a right hasher, whole blocks that are eaten, the last blocks; no program is spoken of here.
  The given hashers: whether one is right.
  The given new hasher.
  The given HashMore, by what it answers.
-/
import Derived.Test.YtoaifgblbfdncaaDoorJ09
import Derived.Test.YtoaifgblbfdncaaDoorJ08
import Derived.Test.YtoaifgblbfdncaaDoorRows
import Derived.Test.YtoaifgblbfdncaaDoorJ01
import Derived.Test.YtoaifgblbfdncaaDoorJ07
import Derived.Deep.RegionHeld3
import Derived.BigQuiet
import Derived.Deep.QuietTactic
import Derived.Deep.LoopGhost
import Derived.Deep.DeepCutAuto
namespace Go.Proofs.YtoaifgblbfdncaaDoor
open Go.RowKit

theorem getD_words (xs : List Nat) (h : Words xs) (j : Nat) : ∃ x : Nat, x < 4294967296 ∧ xs.getD j 0 = x := ⟨_, h.at j, rfl⟩

/-- A place ahead of another one, as a number of its own. -/
theorem placeB (t j : Nat) (h : j ≤ t) (ht : t ≤ 1000) : ∃ m : Nat, (t : Int) - (j : Int) = (m : Int) ∧ IntKind.i64.wrap (m : Int) = (m : Int) ∧ Hid (m = t - j) :=
  ⟨t - j, by omega, by rw [IntKind.wrap_i64]; omega, rfl⟩

/-- A row of one's own; what was there ahead of w is as it was. -/
structure OwnG (w : World) (g cap n : Nat) (e : TypeId) (xs : List Nat) (X : World) : Prop where
  own : OwnW X w.heap.size e (.slice (some ⟨g, 0, none⟩) n cap) xs
  below : Below w.heap.size w X
theorem OwnG.next {w : World} {g cap n : Nat} {e : TypeId} {xs : List Nat} {X Y : World} (h : OwnG w g cap n e xs X) (hb : Below X.heap.size X Y) : OwnG w g cap n e xs Y :=
  ⟨h.own.below hb, h.below.trans (hb.mono h.below.size)⟩
/-- Four cells, and what is kept besides. -/
theorem four_next {g : Nat} {p1 p2 p3 p4 : Nat} {u1 u2 u3 u4 : Value} {R : World → Prop} {X Y : World} (hR : R X → R Y)
    (h : X.cell? ⟨g, p1, none⟩ = some u1 ∧ X.cell? ⟨g, p2, none⟩ = some u2 ∧ X.cell? ⟨g, p3, none⟩ = some u3 ∧ X.cell? ⟨g, p4, none⟩ = some u4 ∧ R X) (hb : Below X.heap.size X Y) :
    Y.cell? ⟨g, p1, none⟩ = some u1 ∧ Y.cell? ⟨g, p2, none⟩ = some u2 ∧ Y.cell? ⟨g, p3, none⟩ = some u3 ∧ Y.cell? ⟨g, p4, none⟩ = some u4 ∧ R Y := by
  have hg : g < X.heap.size := cell_size (p := ⟨g, p1, none⟩) h.1
  refine ⟨?_, ?_, ?_, ?_, hR h.2.2.2.2⟩
  · rw [hb.cell (p := ⟨g, p1, none⟩) hg]; exact h.1
  · rw [hb.cell (p := ⟨g, p2, none⟩) hg]; exact h.2.1
  · rw [hb.cell (p := ⟨g, p3, none⟩) hg]; exact h.2.2.1
  · rw [hb.cell (p := ⟨g, p4, none⟩) hg]; exact h.2.2.2.1
theorem four_of {w : World} {g cap n : Nat} {e : TypeId} {xs : List Nat} {X : World} (h : OwnG w g cap n e xs X) (hn : xs.length = n) {p1 p2 p3 p4 x1 x2 x3 x4 : Nat} (h1 : p1 < n) (h2 : p2 < n) (h3 : p3 < n) (h4 : p4 < n) (e1 : x1 = xs.getD p1 0) (e2 : x2 = xs.getD p2 0) (e3 : x3 = xs.getD p3 0) (e4 : x4 = xs.getD p4 0) :
    X.cell? ⟨g, p1, none⟩ = some (.int .u32 x1) ∧ X.cell? ⟨g, p2, none⟩ = some (.int .u32 x2) ∧ X.cell? ⟨g, p3, none⟩ = some (.int .u32 x3) ∧ X.cell? ⟨g, p4, none⟩ = some (.int .u32 x4) ∧ OwnG w g cap n e xs X := by
  subst e1 e2 e3 e4
  exact ⟨h.own.cell hn p1 h1, h.own.cell hn p2 h2, h.own.cell hn p3 h3, h.own.cell hn p4 h4, h⟩
theorem three_next {a1 a2 a3 : Addr} {u1 u2 u3 : Value} {R : World → Prop} {X Y : World} (hR : R X → R Y)
    (h : X.cell? a1 = some u1 ∧ X.cell? a2 = some u2 ∧ X.cell? a3 = some u3 ∧ R X) (hb : Below X.heap.size X Y) :
    Y.cell? a1 = some u1 ∧ Y.cell? a2 = some u2 ∧ Y.cell? a3 = some u3 ∧ R Y := by
  refine ⟨?_, ?_, ?_, hR h.2.2.2⟩
  · rw [hb.cell (p := a1) (cell_size (p := a1) h.1)]; exact h.1
  · rw [hb.cell (p := a2) (cell_size (p := a2) h.2.1)]; exact h.2.1
  · rw [hb.cell (p := a3) (cell_size (p := a3) h.2.2.1)]; exact h.2.2.1
theorem keep_three {P : Program} {f : FuncId} {args : Array Value} {r : Ending} {w : World} {g cap n : Nat} {e : TypeId} {xs : List Nat} (hc : ∀ X, Calls P f args X fun e X' => e = r ∧ Below X.heap.size X X') (a1 a2 a3 : Addr) (u1 u2 u3 : Value) (X : World)
    (h : X.cell? a1 = some u1 ∧ X.cell? a2 = some u2 ∧ X.cell? a3 = some u3 ∧ OwnG w g cap n e xs X) :
    Calls P f args X fun e' Y => e' = r ∧ Y.cell? a1 = some u1 ∧ Y.cell? a2 = some u2 ∧ Y.cell? a3 = some u3 ∧ OwnG w g cap n e xs Y :=
  (hc X).mono fun _ _ ⟨he, hb⟩ => ⟨he, three_next (fun k => k.next hb) h hb⟩

/-- A sum of words, as a number of its own. -/
theorem addW (x y : Nat) : ∃ z : Nat, IntKind.u32.wrap ((x : Int) + (y : Int)) = (z : Int) ∧ z < 4294967296 ∧ Hid (z = (x + y) % 4294967296) := ⟨(x + y) % 4294967296, by rw [IntKind.wrap_u32]; omega, Nat.mod_lt _ (by decide), rfl⟩
theorem andV (x y : Nat) (hx : x < 4294967296) (hy : y < 4294967296) : ∃ z : Nat, bits .and .u32 (x : Int) (y : Int) = (z : Int) ∧ z < 4294967296 ∧ Hid (z = x &&& y) :=
  ⟨x &&& y, andW x y hx hy, Nat.lt_of_le_of_lt Nat.and_le_right hy, rfl⟩
theorem xorV (x y : Nat) (hx : x < 4294967296) (hy : y < 4294967296) : ∃ z : Nat, bits .xor .u32 (x : Int) (y : Int) = (z : Int) ∧ z < 4294967296 ∧ Hid (z = x ^^^ y) :=
  ⟨x ^^^ y, xor_u32 x y hx hy, Nat.xor_lt_two_pow (n := 32) hx hy, rfl⟩

theorem keep_four {P : Program} {f : FuncId} {args : Array Value} {r : Ending} {w : World} {g cap n : Nat} {e : TypeId} {xs : List Nat} (hc : ∀ X, Calls P f args X fun e X' => e = r ∧ Below X.heap.size X X') (p1 p2 p3 p4 : Nat) (u1 u2 u3 u4 : Value) (X : World)
    (h : X.cell? ⟨g, p1, none⟩ = some u1 ∧ X.cell? ⟨g, p2, none⟩ = some u2 ∧ X.cell? ⟨g, p3, none⟩ = some u3 ∧ X.cell? ⟨g, p4, none⟩ = some u4 ∧ OwnG w g cap n e xs X) :
    Calls P f args X fun e' Y => e' = r ∧ Y.cell? ⟨g, p1, none⟩ = some u1 ∧ Y.cell? ⟨g, p2, none⟩ = some u2 ∧ Y.cell? ⟨g, p3, none⟩ = some u3 ∧ Y.cell? ⟨g, p4, none⟩ = some u4 ∧ OwnG w g cap n e xs Y :=
  (hc X).mono fun _ _ ⟨he, hb⟩ => ⟨he, four_next (fun k => k.next hb) h hb⟩

end Go.Proofs.YtoaifgblbfdncaaDoor
namespace Go.Proofs.YtoaifgblbfdncaaDoor
open Go.RowKit

/-- A hasher that is right. -/
def HOk (st rest : ByteArray) (n : Int) : Prop := st.size = 32 ∧ rest.size < 64 ∧ 0 ≤ n ∧ n ≤ 1000000000 ∧ n % 64 = (rest.size : Int)

/-- Block number k of a row of bytes. -/
def blockAt (l : List UInt8) (k : Nat) : List UInt8 := (l.drop (64 * k)).take 64
theorem blockAt_length (l : List UInt8) (k : Nat) (h : 64 * k + 64 ≤ l.length) : (blockAt l k).length = 64 := by
  unfold blockAt
  rw [List.length_take, List.length_drop]
  omega
/-- The state behind so many blocks. -/
def eatUp (s0 : List Nat) (l : List UInt8) : Nat → List Nat
  | 0 => s0
  | k + 1 => roundOf (eatUp s0 l k) (blockAt l k)
theorem eatUp_length (s0 : List Nat) (l : List UInt8) (h : s0.length = 8) (k : Nat) : (eatUp s0 l k).length = 8 := by
  cases k with
  | zero => exact h
  | succ k => exact roundOf_length _ _
theorem eatUp_words (s0 : List Nat) (l : List UInt8) (h : Words s0) (k : Nat) : Words (eatUp s0 l k) := by
  cases k with
  | zero => exact h
  | succ k => exact roundOf_words _ _

/-- The last bytes: a byte 128, zeros, and eight bytes of the number of bits. -/
def zerosFor (r : Nat) : Nat := (119 - r) % 64
def beUp (n : Nat) : Nat → List UInt8
  | 0 => []
  | k + 1 => beUp n k ++ [UInt8.ofNat (n / 256 ^ (7 - k) % 256)]
theorem beUp_length (n k : Nat) : (beUp n k).length = k := by
  induction k with
  | zero => rfl
  | succ k ih => rw [beUp, List.length_append, ih]; rfl
def tailOf (rest : List UInt8) (n : Nat) : List UInt8 := rest ++ [128] ++ List.replicate (zerosFor rest.length) 0 ++ beUp (8 * n) 8
theorem tailOf_length (rest : List UInt8) (n : Nat) (h : rest.length < 64) : (tailOf rest n).length = 64 ∨ (tailOf rest n).length = 128 := by
  unfold tailOf zerosFor
  simp only [List.length_append, List.length_replicate, beUp_length, List.length_cons, List.length_nil]
  omega

/-- What more text makes of a hasher, and what a hasher tells. -/
def moreState (st rest s : ByteArray) : List Nat := eatUp (wordsOf st.data.toList) (rest.data.toList ++ s.data.toList) ((rest.size + s.size) / 64)
def moreRest (rest s : ByteArray) : List UInt8 := (rest.data.toList ++ s.data.toList).drop (64 * ((rest.size + s.size) / 64))
def endState (st rest : ByteArray) (n : Nat) : List Nat := eatUp (wordsOf st.data.toList) (tailOf rest.data.toList n) ((tailOf rest.data.toList n).length / 64)
def endOf (st rest : ByteArray) (n : Nat) : List UInt8 := bytesOf (endState st rest n)

/-- The words of bytes that are words' bytes are these. -/
theorem fourNum_four (x : Nat) (h : x < 4294967296) : fourNum (UInt8.ofNat (x / 16777216)) (UInt8.ofNat (x / 65536 % 256)) (UInt8.ofNat (x / 256 % 256)) (UInt8.ofNat (x % 256)) = x := by
  unfold fourNum
  simp only [UInt8.toNat_ofNat']
  omega
theorem wordAt_bytesOf (l : List Nat) (h : Words l) (i : Nat) (hi : i < l.length) : wordAt (bytesOf l) (4 * i) = l.getD i 0 := by
  induction l generalizing i with
  | nil => exact absurd hi (by simp)
  | cons x l ih =>
    cases i with
    | zero =>
      have hx : x < 4294967296 := h x (List.mem_cons_self ..)
      exact fourNum_four x hx
    | succ i =>
      have := ih (fun y hy => h y (List.mem_cons_of_mem _ hy)) i (by simpa using hi)
      have e : 4 * (i + 1) = 4 * i + 4 := by omega
      rw [e]
      unfold wordAt at this ⊢
      rw [bytesOf]
      have hd : ∀ j, (four x ++ bytesOf l).getD (j + 4) 0 = (bytesOf l).getD j 0 := fun j => by
        unfold four
        simp
      have e1 : 4 * i + 4 + 1 = (4 * i + 1) + 4 := by omega
      have e2 : 4 * i + 4 + 2 = (4 * i + 2) + 4 := by omega
      have e3 : 4 * i + 4 + 3 = (4 * i + 3) + 4 := by omega
      rw [e1, e2, e3, hd, hd, hd, hd, this]
      simp
theorem wordsOf_bytesOf (l : List Nat) (h : Words l) : wordsOf (bytesOf l) = l := by
  unfold wordsOf wordsUp
  rw [bytesOf_length, Nat.mul_div_cancel_left _ (by decide)]
  apply List.ext_getElem?
  intro i
  rw [List.getElem?_map]
  rcases Nat.lt_or_ge i l.length with hi | hi
  · rw [List.getElem?_range hi, Option.map_some, wordAt_bytesOf l h i hi, List.getD_eq_getElem?_getD, List.getElem?_eq_getElem hi]
    rfl
  · rw [List.getElem?_eq_none (by simpa using hi), List.getElem?_eq_none hi]
    rfl

end Go.Proofs.YtoaifgblbfdncaaDoor
namespace Go.Proofs.YtoaifgblbfdncaaDoor
open Go.RowKit

end Go.Proofs.YtoaifgblbfdncaaDoor
namespace Go.Proofs.YtoaifgblbfdncaaDoor
open Go.RowKit

/-- A variable of three cells in a block of its own. -/
structure Var3 (r : Nat) (t : TypeId) (a b c : Value) (X : World) : Prop where
  row : X.heap[r]? = some (.cells #[a, b, c] t (0, 0))
theorem Var3.next {r : Nat} {t : TypeId} {a b c : Value} {X Y : World} (h : Var3 r t a b c X) (hb : Below X.heap.size X Y) : Var3 r t a b c Y := ⟨by rw [hb.block r (lt_of_block h.row)]; exact h.row⟩
theorem Var3.c0 {r : Nat} {t : TypeId} {a b c : Value} {X : World} (h : Var3 r t a b c X) : X.cell? ⟨r, 0, none⟩ = some a := by rw [cell_of_row X r 0 _ t (0, 0) h.row]; rfl
theorem Var3.c1 {r : Nat} {t : TypeId} {a b c : Value} {X : World} (h : Var3 r t a b c X) : X.cell? ⟨r, 1, none⟩ = some b := by rw [cell_of_row X r 1 _ t (0, 0) h.row]; rfl
theorem Var3.c2 {r : Nat} {t : TypeId} {a b c : Value} {X : World} (h : Var3 r t a b c X) : X.cell? ⟨r, 2, none⟩ = some c := by rw [cell_of_row X r 2 _ t (0, 0) h.row]; rfl
theorem Var3.free {r : Nat} {t : TypeId} {a b c : Value} {X : World} (h : Var3 r t a b c X) (j : Nat) : X.frozen? ⟨r, j, none⟩ = false := frozen_of_row X r j _ t h.row
theorem Var3.set3 {r : Nat} {t : TypeId} {a b c : Value} {X : World} (h : Var3 r t a b c X) (a' b' c' : Value) : Var3 r t a' b' c' (((X.setCell ⟨r, 0, none⟩ a').setCell ⟨r, 1, none⟩ b').setCell ⟨r, 2, none⟩ c') :=
  ⟨heap_setCell_same _ r 2 _ t c' (heap_setCell_same _ r 1 _ t b' (heap_setCell_same X r 0 _ t a' h.row))⟩
theorem Below.set3 {B r : Nat} {w X : World} (h : Below B w X) (hr : B ≤ r) (a b c : Value) : Below B w (((X.setCell ⟨r, 0, none⟩ a).setCell ⟨r, 1, none⟩ b).setCell ⟨r, 2, none⟩ c) :=
  ((h.setCell (p := ⟨r, 0, none⟩) hr a).setCell (p := ⟨r, 1, none⟩) hr b).setCell (p := ⟨r, 2, none⟩) hr c
theorem Var3.new (w : World) (t : TypeId) (a b c : Value) : Var3 w.heap.size t a b c (w.alloc (.cells #[a, b, c] t)) := ⟨heap_alloc_new w _⟩

end Go.Proofs.YtoaifgblbfdncaaDoor
namespace Go.Proofs.YtoaifgblbfdncaaDoor
open Go.RowKit

/-- A hasher, as a value. -/
def hasherV (st rest : ByteArray) (n : Int) : Value := .agg #[.string st, .string rest, .int .i64 n]

theorem join_bytes (a b : ByteArray) : (a ++ b).data.toList = a.data.toList ++ b.data.toList := by simp
theorem slice_block (s : ByteArray) (k : Nat) : (s.extract (64 * k) (64 * k + 64)).data.toList = blockAt s.data.toList k := by
  unfold blockAt
  simp

theorem extract_end (b : ByteArray) (m : Nat) : (⟨(b.data.toList.drop m).toArray⟩ : ByteArray) = b.extract m b.size := by
  apply ByteArray.ext
  apply Array.toList_inj.1
  simp
  exact (List.take_of_length_le (by simp)).symm

/-- The parameter and the result, each in a block of its own; what was there ahead of w is as it was. -/
structure TwoVars (w : World) (t : TypeId) (a b c : Value) (X : World) : Prop where
  v : Var3 w.heap.size t a b c X
  r : Var3 (w.heap.size + 1) t (.string ⟨#[]⟩) (.string ⟨#[]⟩) (.int .i64 0) X
  below : Below w.heap.size w X
theorem TwoVars.next {w : World} {t : TypeId} {a b c : Value} {X Y : World} (h : TwoVars w t a b c X) (hb : Below X.heap.size X Y) : TwoVars w t a b c Y :=
  ⟨h.v.next hb, h.r.next hb, h.below.trans (hb.mono h.below.size)⟩
theorem TwoVars.new (w : World) (t : TypeId) (a b c : Value) : TwoVars w t a b c ((w.alloc (.cells #[a, b, c] t)).alloc (.cells #[.string ⟨#[]⟩, .string ⟨#[]⟩, .int .i64 0] t)) := by
  refine ⟨(Var3.new w t a b c).next ((Below.refl _ _).alloc (Nat.le_refl _) _), ?_, ((Below.refl _ _).alloc (Nat.le_refl _) _).alloc (by simp) _⟩
  have h := Var3.new (w.alloc (.cells #[a, b, c] t)) t (.string ⟨#[]⟩) (.string ⟨#[]⟩) (.int .i64 0)
  have e : (w.alloc (.cells #[a, b, c] t)).heap.size = w.heap.size + 1 := by simp
  rw [e] at h
  exact h

end Go.Proofs.YtoaifgblbfdncaaDoor
