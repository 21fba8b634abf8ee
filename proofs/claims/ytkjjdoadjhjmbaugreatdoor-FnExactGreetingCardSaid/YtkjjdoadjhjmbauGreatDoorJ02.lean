/-
  Plain mathematics of digests by parts: a right hasher, whole blocks that are eaten, the last blocks; no program is spoken of here.
  Plain mathematics of sums under a key; no program is spoken of here.
  Small laws of no program: a byte put behind an owned row of bytes; an owned row read as a text.
  Plain mathematics of chapter 3's group: powers modulo a number, by squares; a power that is 1 only where it must be; no program is spoken of here.
-/
import Derived.Test.YtkjjdoadjhjmbauGreatDoorJ01
import Derived.WalkKit
import Derived.Lib.FrozenHead
import Derived.Lib.Hide
import Derived.Laws.IdiomStrings
import Derived.OwnWalk
import Derived.WalkLawsBesides
import Derived.WalkSpells
namespace Go.Proofs.YtkjjdoadjhjmbauGreatDoor
open Go.RowKit

/-- A hasher that is right. -/
def HOk (st rest : ByteArray) (n : Int) : Prop := st.size = 32 ∧ rest.size < 64 ∧ 0 ≤ n ∧ n ≤ 1000000000 ∧ n % 64 = (rest.size : Int)

/-- Block number k of a row of bytes. -/
def blockAt (l : List UInt8) (k : Nat) : List UInt8 := (l.drop (64 * k)).take 64
theorem blockAt_length (l : List UInt8) (k : Nat) (h : 64 * k + 64 ≤ l.length) : (blockAt l k).length = 64 := by
  unfold blockAt
  rw [List.length_take, List.length_drop]
  omega
/-- The state behind so many blocks. -/
def eatUp (s0 : List Nat) (l : List UInt8) : Nat → List Nat
  | 0 => s0
  | k + 1 => roundOf (eatUp s0 l k) (blockAt l k)
theorem eatUp_length (s0 : List Nat) (l : List UInt8) (h : s0.length = 8) (k : Nat) : (eatUp s0 l k).length = 8 := by
  cases k with
  | zero => exact h
  | succ k => exact roundOf_length _ _
theorem eatUp_words (s0 : List Nat) (l : List UInt8) (h : Words s0) (k : Nat) : Words (eatUp s0 l k) := by
  cases k with
  | zero => exact h
  | succ k => exact roundOf_words _ _

/-- The last bytes: a byte 128, zeros, and eight bytes of the number of bits. -/
def zerosFor (r : Nat) : Nat := (119 - r) % 64
def beUp (n : Nat) : Nat → List UInt8
  | 0 => []
  | k + 1 => beUp n k ++ [UInt8.ofNat (n / 256 ^ (7 - k) % 256)]
theorem beUp_length (n k : Nat) : (beUp n k).length = k := by
  induction k with
  | zero => rfl
  | succ k ih => rw [beUp, List.length_append, ih]; rfl
def tailOf (rest : List UInt8) (n : Nat) : List UInt8 := rest ++ [128] ++ List.replicate (zerosFor rest.length) 0 ++ beUp (8 * n) 8
theorem tailOf_length (rest : List UInt8) (n : Nat) (h : rest.length < 64) : (tailOf rest n).length = 64 ∨ (tailOf rest n).length = 128 := by
  unfold tailOf zerosFor
  simp only [List.length_append, List.length_replicate, beUp_length, List.length_cons, List.length_nil]
  omega

/-- What more text makes of a hasher, and what a hasher tells. -/
def moreState (st rest s : ByteArray) : List Nat := eatUp (wordsOf st.data.toList) (rest.data.toList ++ s.data.toList) ((rest.size + s.size) / 64)
def moreRest (rest s : ByteArray) : List UInt8 := (rest.data.toList ++ s.data.toList).drop (64 * ((rest.size + s.size) / 64))
def endState (st rest : ByteArray) (n : Nat) : List Nat := eatUp (wordsOf st.data.toList) (tailOf rest.data.toList n) ((tailOf rest.data.toList n).length / 64)
def endOf (st rest : ByteArray) (n : Nat) : List UInt8 := bytesOf (endState st rest n)

/-- The words of bytes that are words' bytes are these. -/
theorem fourNum_four (x : Nat) (h : x < 4294967296) : fourNum (UInt8.ofNat (x / 16777216)) (UInt8.ofNat (x / 65536 % 256)) (UInt8.ofNat (x / 256 % 256)) (UInt8.ofNat (x % 256)) = x := by
  unfold fourNum
  simp only [UInt8.toNat_ofNat']
  omega
theorem wordAt_bytesOf (l : List Nat) (h : Words l) (i : Nat) (hi : i < l.length) : wordAt (bytesOf l) (4 * i) = l.getD i 0 := by
  induction l generalizing i with
  | nil => exact absurd hi (by simp)
  | cons x l ih =>
    cases i with
    | zero =>
      have hx : x < 4294967296 := h x (List.mem_cons_self ..)
      exact fourNum_four x hx
    | succ i =>
      have := ih (fun y hy => h y (List.mem_cons_of_mem _ hy)) i (by simpa using hi)
      have e : 4 * (i + 1) = 4 * i + 4 := by omega
      rw [e]
      unfold wordAt at this ⊢
      rw [bytesOf]
      have hd : ∀ j, (four x ++ bytesOf l).getD (j + 4) 0 = (bytesOf l).getD j 0 := fun j => by
        unfold four
        simp
      have e1 : 4 * i + 4 + 1 = (4 * i + 1) + 4 := by omega
      have e2 : 4 * i + 4 + 2 = (4 * i + 2) + 4 := by omega
      have e3 : 4 * i + 4 + 3 = (4 * i + 3) + 4 := by omega
      rw [e1, e2, e3, hd, hd, hd, hd, this]
      simp
theorem wordsOf_bytesOf (l : List Nat) (h : Words l) : wordsOf (bytesOf l) = l := by
  unfold wordsOf wordsUp
  rw [bytesOf_length, Nat.mul_div_cancel_left _ (by decide)]
  apply List.ext_getElem?
  intro i
  rw [List.getElem?_map]
  rcases Nat.lt_or_ge i l.length with hi | hi
  · rw [List.getElem?_range hi, Option.map_some, wordAt_bytesOf l h i hi, List.getD_eq_getElem?_getD, List.getElem?_eq_getElem hi]
    rfl
  · rw [List.getElem?_eq_none (by simpa using hi), List.getElem?_eq_none hi]
    rfl

end Go.Proofs.YtkjjdoadjhjmbauGreatDoor
namespace Go.Proofs.YtkjjdoadjhjmbauGreatDoor
open Go.RowKit

/-- The digest of a text. -/
def digP (s : ByteArray) : ByteArray := ⟨(endOf ⟨(bytesOf (moreState ⟨(bytesOf firstState).toArray⟩ ⟨#[]⟩ s)).toArray⟩ ⟨(moreRest ⟨#[]⟩ s).toArray⟩ s.size).toArray⟩
theorem digP_size (s : ByteArray) : (digP s).size = 32 := by
  have h0 : (wordsOf (bytesOf firstState)).length = 8 := by rw [wordsOf_bytesOf _ firstState_words]; rfl
  have h1 : (moreState ⟨(bytesOf firstState).toArray⟩ ⟨#[]⟩ s).length = 8 := eatUp_length _ _ h0 _
  have h2 : Words (moreState ⟨(bytesOf firstState).toArray⟩ ⟨#[]⟩ s) := eatUp_words _ _ (wordsOf_words _) _
  have h3 : (wordsOf (bytesOf (moreState ⟨(bytesOf firstState).toArray⟩ ⟨#[]⟩ s))).length = 8 := by rw [wordsOf_bytesOf _ h2]; exact h1
  show (bytesOf (endState _ _ _)).toArray.size = 32
  rw [List.size_toArray, bytesOf_length]
  unfold endState
  rw [eatUp_length _ _ h3]
/-- A key as it counts: a long one is its digest. -/
def keyP (k : ByteArray) : ByteArray := if 64 < k.size then digP k else k
theorem keyP_size (k : ByteArray) : (keyP k).size ≤ 64 := by
  unfold keyP
  split
  · rw [digP_size]; decide
  · omega
/-- A key, filled with zeros, each byte's exclusive or with a number: the first n bytes, then zeros. -/
def padUp (k : List UInt8) (x : UInt8) (n : Nat) : List UInt8 := (List.range n).map (fun i => k.getD i 0 ^^^ x) ++ List.replicate (64 - n) 0
def padP (k : ByteArray) (x : UInt8) : ByteArray := ⟨(padUp (keyP k).data.toList x 64).toArray⟩
theorem padUp_length (k : List UInt8) (x : UInt8) (n : Nat) (h : n ≤ 64) : (padUp k x n).length = 64 := by unfold padUp; simp; omega
theorem padP_size (k : ByteArray) (x : UInt8) : (padP k x).size = 64 := by
  show (padUp _ x 64).toArray.size = 64
  rw [List.size_toArray, padUp_length _ _ _ (Nat.le_refl _)]
theorem padUp_set (k : List UInt8) (x : UInt8) (n : Nat) (h : n < 64) : (padUp k x n).set n (k.getD n 0 ^^^ x) = padUp k x (n + 1) := by
  unfold padUp
  have e : 64 - n = (64 - (n + 1)) + 1 := by omega
  rw [e, List.replicate_succ, List.set_append_right _ _ (by simp), List.length_map, List.length_range, Nat.sub_self, List.set_cons_zero, List.range_succ, List.map_append, List.append_assoc]
  rfl
theorem padUp_at (k : List UInt8) (x : UInt8) (n : Nat) (h : n < 64) : (padUp k x n).getD n 0 = 0 := by
  unfold padUp
  rw [List.getD_eq_getElem?_getD, List.getElem?_append_right (by simp), List.length_map, List.length_range, Nat.sub_self]
  have e : 64 - n = (64 - (n + 1)) + 1 := by omega
  rw [e, List.replicate_succ]
  rfl
def macP (k s : ByteArray) : ByteArray := digP (padP k 92 ++ digP (padP k 54 ++ s))
theorem macP_size (k s : ByteArray) : (macP k s).size = 32 := digP_size _

/-- The parts of an expansion, and all of them up to one. -/
def tUp (key info : ByteArray) : Nat → ByteArray
  | 0 => ⟨#[]⟩
  | i + 1 => macP key (tUp key info i ++ info ++ ⟨#[UInt8.ofNat (i + 1)]⟩)
theorem tUp_size (key info : ByteArray) (i : Nat) : (tUp key info (i + 1)).size = 32 := macP_size _ _
theorem tUp_few (key info : ByteArray) (i : Nat) : (tUp key info i).size ≤ 32 := by
  cases i with
  | zero => show 0 ≤ 32; decide
  | succ i => rw [tUp_size]; decide
def outUp (key info : ByteArray) : Nat → List UInt8
  | 0 => []
  | i + 1 => outUp key info i ++ (tUp key info (i + 1)).data.toList
theorem outUp_length (key info : ByteArray) (i : Nat) : (outUp key info i).length = 32 * i := by
  induction i with
  | zero => rfl
  | succ i ih =>
    have h := tUp_size key info i
    have h2 : (tUp key info (i + 1)).data.toList.length = (tUp key info (i + 1)).size := by simp
    rw [outUp, List.length_append, ih, h2, h]
    omega
def expandP (key info : ByteArray) (n : Nat) : List UInt8 := (outUp key info ((n + 31) / 32)).take n
/-- A longer expansion begins with a shorter one. -/
theorem outUp_front (key info : ByteArray) (i j : Nat) : (outUp key info (i + j)).take (32 * i) = outUp key info i := by
  induction j with
  | zero => exact List.take_of_length_le (by rw [Nat.add_zero, outUp_length]; omega)
  | succ j ih =>
    show (outUp key info (i + j) ++ _).take (32 * i) = _
    rw [List.take_append_of_le_length (by rw [outUp_length]; omega)]
    exact ih
theorem expandP_front (key info : ByteArray) (n m : Nat) (h : n ≤ m) : (expandP key info m).take n = expandP key info n := by
  unfold expandP
  have e : (m + 31) / 32 = (n + 31) / 32 + ((m + 31) / 32 - (n + 31) / 32) := by omega
  rw [List.take_take, Nat.min_eq_left h, ← outUp_front key info ((n + 31) / 32) ((m + 31) / 32 - (n + 31) / 32), ← e, List.take_take, Nat.min_eq_left (by omega)]
theorem expandP_length (key info : ByteArray) (n : Nat) : (expandP key info n).length = n := by
  unfold expandP
  rw [List.length_take, outUp_length]
  omega

end Go.Proofs.YtkjjdoadjhjmbauGreatDoor
namespace Go.Proofs.YtkjjdoadjhjmbauGreatDoor
open Go.RowKit

theorem push_cells (w : World) (e : TypeId) (z : Int) (b : UInt8) (hz : z = b.toNat) :
    ∀ j u, [Value.int .u8 (b.toNat : Int)][j]? = some u → (w.alloc (.cells #[.int .u8 z] e)).cell? ((⟨w.heap.size, 0, none⟩ : Addr).add j) = some u := by
  subst hz
  intro j u hj
  match j, hj with
  | 0, hj => simp at hj; subst hj; simp [Addr.add]

/-- The slice value v is nil or the call's own (from block 'base' on), and holds the bytes xs. -/
def OwnB (w : World) (base : Nat) (e : TypeId) (v : Value) (xs : List UInt8) : Prop := w.ownsRow base e 1 v xs.length (Lib.byteCells xs)

theorem OwnB.nil (w : World) (base : Nat) (e : TypeId) : OwnB w base e (.slice none 0 0) [] := World.ownsRow_nil _ _ _ _
theorem OwnB.lit (w : World) (base : Nat) (e : TypeId) (hb : base ≤ w.heap.size) : OwnB (w.alloc (.cells #[] e)) base e (.slice (some ⟨w.heap.size, 0, none⟩) 0 0) [] :=
  World.ownsRow_lit w #[] 0 hb (by decide) rfl

/-- 'out = append(out, c)': out a row of bytes of the call's own. -/
theorem wpList_push {P : Program} (w : World) {ops : Array Oper} {rest : List Oper} {o : Oper} {a : Act} {Q : Exit → Act → World → Prop} (hgd : o.guard = none) (s x : Operand) (t : TypeId)
    (ho : o.op = .call { callee := .builtin .append, args := #[s, x], argTypes := #[t, t] })
    (base : Nat) (e : TypeId) (i : TypeInfo) (ht : P.underlying t = some (.slice e)) (hi : P.info? e = some i) (hz : i.zero = some (.int .u8 0))
    (hsize : i.size = 1) (hby : i.bytes = 1) (v : Value) (xs : List UInt8) (hs : a.eval s = v) (hown : OwnB w base e v xs)
    (b : UInt8) (z : Int) (hx : a.eval x = .slice (some ⟨w.heap.size, 0, none⟩) 1 1) (hzb : z = b.toNat)
    (hlen : xs.length + 1 ≤ 140737488355328) (hbase : base ≤ w.heap.size)
    (h : ∀ v' w', OwnB w' base e v' (xs ++ [b]) → Below base w w' → wpList P ops Q rest (a.put o.dst v') w') :
    wpList P ops Q (o :: rest) a (w.alloc (.cells #[.int .u8 z] e)) := by
  refine wpList_append_own (w.alloc (.cells #[.int .u8 z] e)) hgd s x t ho base e i (.int .u8 0) 1 1 ht hi hz hsize hby rfl (by decide) v xs.length (Lib.byteCells xs) hs (World.ownsRow.alloc hown _) ⟨w.heap.size, 0, none⟩ 1 1 [.int .u8 (b.toNat : Int)] hx rfl (push_cells w e z b hzb) (by intro u hu; simp at hu; subst hu; rfl) (by unfold maxLen; omega) (by omega) (by simp; omega) ?_
  intro v' w' h1 h2 _
  refine h v' w' ?_ ?_
  · have e1 : (xs ++ [b]).length = xs.length + 1 := by simp
    have e2 : Lib.byteCells (xs ++ [b]) = Lib.byteCells xs ++ [.int .u8 (b.toNat : Int)] := by simp [Lib.byteCells]
    unfold OwnB
    rw [e1, e2]
    exact h1
  · exact ((Below.refl base w).alloc hbase _).grown h2 (by simp; omega) (fun k hk => (World.ownsRow.lt hown k hk).1)

theorem OwnB.alloc {w : World} {base : Nat} {e : TypeId} {v : Value} {xs : List UInt8} (h : OwnB w base e v xs) (o : Obj) : OwnB (w.alloc o) base e v xs := World.ownsRow.alloc h o
theorem OwnB.drew {w : World} {base : Nat} {e : TypeId} {v : Value} {xs : List UInt8} (h : OwnB w base e v xs) : OwnB w.drew base e v xs := World.ownsRow.drew h
theorem OwnB.drewN {w : World} {base : Nat} {e : TypeId} {v : Value} {xs : List UInt8} (h : OwnB w base e v xs) (n : Nat) : OwnB (w.drewN n) base e v xs := h

/-- 'out = append(out, ..)' as a step of a region that draws its order. -/
theorem step_push {P : Program} {ops : Array Oper} {o : Oper} {a : Act} {w : World} {K : Act → World → Prop} {Q : Exit → Act → World → Prop} {E : Prop}
    (hg : o.guard = none) (s x : Operand) (t : TypeId) (hop : o.op = Op.call { callee := Callee.builtin Builtin.append, args := #[s, x], argTypes := #[t, t] })
    (base : Nat) (e : TypeId) (i : TypeInfo) (ht : P.underlying t = some (.slice e)) (hi : P.info? e = some i) (hz : i.zero = some (.int .u8 0))
    (hsize : i.size = 1) (hby : i.bytes = 1) (v : Value) (xs : List UInt8) (hs : a.eval s = v) (hown : OwnB w base e v xs)
    (ad : Addr) (m c : Nat) (bs : List UInt8) (hx : a.eval x = .slice (some ad) m c) (hm : bs.length = m)
    (hc : ∀ j u, (Lib.byteCells bs)[j]? = some u → w.cell? (ad.add j) = some u)
    (hlen : xs.length + m ≤ 140737488355328) (hbase : base ≤ w.heap.size)
    (hK : ∀ v' w', OwnB w' base e v' (xs ++ bs) → Below base w w' → K (a.put o.dst v') w') :
    if Region.wanted o (yielded ops a.tmps) = true then Oper.wp P o a w K Q else E := by
  have hw : Region.wanted o (yielded ops a.tmps) = true := by simp [Region.wanted, hg]
  rw [if_pos hw]
  subst hm
  obtain ⟨v', w', hrun, r1, r2, _⟩ := run_append_own (P := P) w base t o.type e i (.int .u8 0) 1 1 ht hi hz hsize hby rfl (by decide) v xs.length (Lib.byteCells xs) hown ad bs.length c (Lib.byteCells bs) (by simp [Lib.byteCells]) hc
    (by intro u hu; simp [Lib.byteCells] at hu; obtain ⟨b, _, rfl⟩ := hu; rfl) (by unfold maxLen; omega) (by omega) hbase
  unfold Oper.wp
  simp [execOp, hop, resolve, invoke, builtin, hs, hx, hrun, Result.andThen]
  refine hK v' w' ?_ ?_
  · unfold OwnB
    rw [List.length_append, Lib.byteCells_append]
    exact r1
  · exact (Below.refl base w).grown r2 hbase (fun k hk => (World.ownsRow.lt hown k hk).1)

/-- The same with two bytes that the statement itself has laid. -/
theorem step_push2 {P : Program} {ops : Array Oper} {o : Oper} {a : Act} {w : World} {K : Act → World → Prop} {Q : Exit → Act → World → Prop} {E : Prop}
    (hg : o.guard = none) (s x : Operand) (t : TypeId) (hop : o.op = Op.call { callee := Callee.builtin Builtin.append, args := #[s, x], argTypes := #[t, t] })
    (base : Nat) (e : TypeId) (i : TypeInfo) (ht : P.underlying t = some (.slice e)) (hi : P.info? e = some i) (hz : i.zero = some (.int .u8 0))
    (hsize : i.size = 1) (hby : i.bytes = 1) (v : Value) (xs : List UInt8) (hs : a.eval s = v) (hown : OwnB w base e v xs)
    (b0 b1 : UInt8) (z0 z1 : Int) (hx : a.eval x = .slice (some ⟨w.heap.size, 0, none⟩) 2 2) (hz0 : z0 = b0.toNat) (hz1 : z1 = b1.toNat)
    (hlen : xs.length + 2 ≤ 140737488355328) (hbase : base ≤ w.heap.size)
    (hK : ∀ v' w', OwnB w' base e v' (xs ++ [b0, b1]) → Below base w w' → K (a.put o.dst v') w') :
    if Region.wanted o (yielded ops a.tmps) = true then Oper.wp P o a ((w.alloc (.cells #[.int .u8 z0, .int .u8 z1] e)).drew) K Q else E := by
  subst hz0
  subst hz1
  refine step_push hg s x t hop base e i ht hi hz hsize hby v xs hs (OwnB.drew (hown.alloc _)) ⟨w.heap.size, 0, none⟩ 2 2 [b0, b1] hx rfl (fun j u hj => cell_two_new w (.int .u8 (b0.toNat : Int)) (.int .u8 (b1.toNat : Int)) e j u hj) hlen
    (by show base ≤ (w.alloc _).heap.size; simp; omega) ?_
  intro v' w' h1 h2
  exact hK v' w' h1 ((((Below.refl base w).alloc hbase _).drew).trans h2)

/-- The same with one byte that the statement itself has laid. -/
theorem step_push1 {P : Program} {ops : Array Oper} {o : Oper} {a : Act} {w : World} {K : Act → World → Prop} {Q : Exit → Act → World → Prop} {E : Prop}
    (hg : o.guard = none) (s x : Operand) (t : TypeId) (hop : o.op = Op.call { callee := Callee.builtin Builtin.append, args := #[s, x], argTypes := #[t, t] })
    (base : Nat) (e : TypeId) (i : TypeInfo) (ht : P.underlying t = some (.slice e)) (hi : P.info? e = some i) (hz : i.zero = some (.int .u8 0))
    (hsize : i.size = 1) (hby : i.bytes = 1) (v : Value) (xs : List UInt8) (hs : a.eval s = v) (hown : OwnB w base e v xs)
    (b0 : UInt8) (z0 : Int) (hx : a.eval x = .slice (some ⟨w.heap.size, 0, none⟩) 1 1) (hz0 : z0 = b0.toNat)
    (hlen : xs.length + 1 ≤ 140737488355328) (hbase : base ≤ w.heap.size)
    (hK : ∀ v' w', OwnB w' base e v' (xs ++ [b0]) → Below base w w' → K (a.put o.dst v') w') :
    if Region.wanted o (yielded ops a.tmps) = true then Oper.wp P o a ((w.alloc (.cells #[.int .u8 z0] e)).drew) K Q else E := by
  subst hz0
  refine step_push hg s x t hop base e i ht hi hz hsize hby v xs hs (OwnB.drew (hown.alloc _)) ⟨w.heap.size, 0, none⟩ 1 1 [b0] hx rfl (fun j u hj => push_cells w e (b0.toNat : Int) b0 rfl j u hj) hlen
    (by show base ≤ (w.alloc _).heap.size; simp; omega) ?_
  intro v' w' h1 h2
  exact hK v' w' h1 ((((Below.refl base w).alloc hbase _).drew).trans h2)

/-- The shape of an owned row's value. -/
theorem OwnB.form {w : World} {base : Nat} {e : TypeId} {v : Value} {xs : List UInt8} (h : OwnB w base e v xs) : ∃ ao cap, v = .slice ao xs.length cap ∧
    (0 < xs.length → ∃ g, ao = some ⟨g, 0, none⟩ ∧ g < w.heap.size ∧ ∀ j, j < xs.length → w.cell? ⟨g, j, none⟩ = some (.int .u8 ((xs.getD j 0).toNat : Nat))) := by
  have h' : w.ownsRow base e 1 v xs.length (Lib.byteCells xs) := h
  rcases h'.2 with ⟨rfl, h0⟩ | ⟨g, cap, cur, rfl, hb, hh, _, _, _, _⟩
  · exact ⟨none, 0, by rw [h0], fun hp => by omega⟩
  · refine ⟨_, cap, rfl, fun _ => ⟨g, rfl, lt_of_block hh, fun j hj => ?_⟩⟩
    rw [h'.cellAt j (by omega)]
    simp [Lib.byteCells, hj]

/-- 'make([]byte, 0, n)'. -/
theorem wpList_makeB {P : Program} (w : World) {ops : Array Oper} {rest : List Oper} {o : Oper} {a : Act} {Q : Exit → Act → World → Prop}
    (hg : o.guard = none) (l c : Operand) (t : TypeId) (hop : o.op = Op.makeSlice t l c)
    (base : Nat) (e : TypeId) (i : TypeInfo) (h1 : P.underlying t = some (.slice e)) (h2 : P.info? e = some i) (h3 : i.zero = some (.int .u8 0)) (h4 : i.size = 1) (h5 : i.bytes = 1)
    (C : Int) (n : Nat) (hl : a.eval l = .int .i64 0) (hc : a.eval c = .int .i64 C) (hC : C = (n : Int)) (b2 : n ≤ 1000000000) (b4 : base ≤ w.heap.size)
    (hK : ∀ v' w', OwnB w' base e v' [] → Below base w w' → wpList P ops Q rest (a.put o.dst v') w') :
    wpList P ops Q (o :: rest) a w :=
  wpList_make_own w hg l c t hop base e i (.int .u8 0) 1 h1 h2 h3 h4 .i64 .i64 C n hl hc hC (by rw [h5]; omega) (by unfold maxLen; omega) b4
    (fun w' r1 r2 => hK _ w' r1 ((Below.refl base w).grown r2 b4 (fun k hk => by cases hk)))

/-- 'string(out)': out a row of bytes of the call's own, nil or not. -/
theorem run_string_own {P : Program} (w : World) (src dst e : TypeId) (hs : P.underlying src = some (.slice e)) (he : P.underlying e = some (.int .u8)) (hd : P.underlying dst = some .string)
    {base : Nat} {v : Value} (l : List UInt8) (hown0 : OwnB w base e v l) :
    (convert src dst v).run P w = .ok (.string ⟨l.toArray⟩) w := by
  have hown : w.ownsRow base e 1 v l.length (Lib.byteCells l) := hown0
  rcases hown.2 with ⟨rfl, h0⟩ | ⟨g, cap, cur, rfl, _, _, _, _, _, _⟩
  · obtain rfl : l = [] := List.length_eq_zero_iff.1 h0
    rw [run_convert_bytes_string w src dst e none 0 0 hs he hd]
    rfl
  · exact run_convert_bytes_back w src dst e ⟨g, 0, none⟩ cap l hs he hd (fun j hj => hown.cells (g := g) rfl j _ (by simp [Lib.byteCells, hj]))

/-- 'string([]byte{c})'. -/
theorem run_string_one {P : Program} (w : World) (src dst e : TypeId) (hs : P.underlying src = some (.slice e)) (he : P.underlying e = some (.int .u8)) (hd : P.underlying dst = some .string) (b : UInt8) :
    (convert src dst (.slice (some ⟨w.heap.size, 0, none⟩) 1 1)).run P (w.alloc (.cells #[.int .u8 (b.toNat : Int)] e)) = .ok (.string ⟨[b].toArray⟩) (w.alloc (.cells #[.int .u8 (b.toNat : Int)] e)) := by
  refine run_convert_bytes_back (w.alloc (.cells #[.int .u8 (b.toNat : Int)] e)) src dst e ⟨w.heap.size, 0, none⟩ 1 [b] hs he hd ?_
  intro j hj
  exact push_cells w e (b.toNat : Int) b rfl j _ (by simp at hj; subst hj; rfl)

theorem ret_str {a b : List UInt8} (h : a = b) : Ending.returned (.string ⟨a.toArray⟩) = .returned (.string ⟨b.toArray⟩) := by rw [h]

theorem ret_ib {a b : Int} {p q : Bool} (h1 : a = b) (h2 : p = q) : Ending.returned (.tuple #[.int .i64 a, .bool p]) = .returned (.tuple #[.int .i64 b, .bool q]) := by rw [h1, h2]
theorem ret_iib {a b c d : Int} {p q : Bool} (h1 : a = b) (h2 : c = d) (h3 : p = q) : Ending.returned (.tuple #[.int .i64 a, .int .i64 c, .bool p]) = .returned (.tuple #[.int .i64 b, .int .i64 d, .bool q]) := by rw [h1, h2, h3]
theorem int_eq {k : IntKind} {a b : Int} (h : a = b) : Value.int k a = Value.int k b := by rw [h]

theorem below_undrew {w w1 : World} (h : Below w.drew.heap.size w.drew w1) : Below w.heap.size w w1 := ((Below.refl w.heap.size w).drew).trans h

theorem size_list (l : List UInt8) : (⟨l.toArray⟩ : ByteArray).size = l.length := rfl

theorem bne_nat (x : Nat) : ((x : Int) != 0) = !decide (x = 0) := by rw [Bool.eq_iff_iff]; simp

theorem ret_str2 {a b : List UInt8} {o : Value} (h : a = b) : Ending.returned (.tuple #[.string ⟨a.toArray⟩, o]) = .returned (.tuple #[.string ⟨b.toArray⟩, o]) := by rw [h]

end Go.Proofs.YtkjjdoadjhjmbauGreatDoor
namespace Go.Proofs.YtkjjdoadjhjmbauGreatDoor

def prime : Nat := 2147483579
def order : Nat := 1073741789

/-- b to the e, modulo the prime. -/
def powP (b e : Nat) : Nat := b ^ e % prime

theorem powP_lt (b e : Nat) : powP b e < prime := Nat.mod_lt _ (by decide)
theorem powP_mod (b e : Nat) : powP (b % prime) e = powP b e := by unfold powP; rw [← Nat.pow_mod]
theorem powP_add (b x y : Nat) : powP b x * powP b y % prime = powP b (x + y) := by unfold powP; rw [← Nat.mul_mod, ← Nat.pow_add]
theorem powP_mul (b x y : Nat) : powP (powP b x) y = powP b (x * y) := by
  show powP (b ^ x % prime) y = _
  rw [powP_mod]
  unfold powP
  rw [← Nat.pow_mul]
theorem powP_zero (b : Nat) : powP b 0 = 1 := by unfold powP prime; simp
theorem powP_one (y : Nat) : powP 1 y = 1 := by unfold powP prime; simp

/-- Powers by squares: what a loop has gathered, and what is left. -/
theorem pow_step_odd (o b e : Nat) (h : e % 2 = 1) : (o * b % prime) * powP (b * b % prime) (e / 2) % prime = o * powP b e % prime := by
  rw [powP_mod]
  unfold powP
  have e1 : b ^ e = b * (b * b) ^ (e / 2) := by
    have : e = 2 * (e / 2) + 1 := by omega
    conv => lhs; rw [this, Nat.pow_succ, Nat.pow_mul, Nat.pow_two]
    rw [Nat.mul_comm]
  rw [e1, ← Nat.mul_mod, Nat.mul_assoc, Nat.mul_mod_mod]
theorem pow_step_even (o b e : Nat) (h : e % 2 = 0) : o * powP (b * b % prime) (e / 2) % prime = o * powP b e % prime := by
  rw [powP_mod]
  unfold powP
  have e1 : b ^ e = (b * b) ^ (e / 2) := by
    have : e = 2 * (e / 2) := by omega
    conv => lhs; rw [this, Nat.pow_mul, Nat.pow_two]
  rw [e1]

/-- A power reckoned by squares, for closed facts. -/
def fastP : Nat → Nat → Nat → Nat → Nat
  | 0, o, _, _ => o
  | f + 1, o, b, e => if e = 0 then o else fastP f (if e % 2 = 1 then o * b % prime else o) (b * b % prime) (e / 2)
theorem fastP_is : ∀ (f o b e : Nat), e < 2 ^ f → o < prime → fastP f o b e = o * powP b e % prime
  | 0, o, b, e, h, ho => by
    have : e = 0 := by simpa using h
    subst this
    rw [powP_zero, Nat.mul_one, Nat.mod_eq_of_lt ho]
    rfl
  | f + 1, o, b, e, h, ho => by
    unfold fastP
    by_cases h0 : e = 0
    · subst h0
      rw [if_pos rfl, powP_zero, Nat.mul_one, Nat.mod_eq_of_lt ho]
    · rw [if_neg h0]
      have hlt : e / 2 < 2 ^ f := by rw [Nat.pow_succ] at h; omega
      by_cases h1 : e % 2 = 1
      · rw [if_pos h1, fastP_is f _ _ _ hlt (Nat.mod_lt _ (by decide)), pow_step_odd o b e h1]
      · rw [if_neg h1, fastP_is f _ _ _ hlt ho, pow_step_even o b e (by omega)]

theorem base_order : powP 4 order = 1 := by
  have h := fastP_is 31 1 4 order (by decide) (by decide)
  rw [Nat.one_mul, Nat.mod_eq_of_lt (powP_lt _ _)] at h
  rw [← h]
  decide +kernel

/-- Of two powers that are 1, the one of what divides both is 1. -/
theorem one_gcd (b x y : Nat) (hx : powP b x = 1) (hy : powP b y = 1) : powP b (Nat.gcd x y) = 1 := by
  induction x, y using Nat.gcd.induction with
  | H0 y => rw [Nat.gcd_zero_left]; exact hy
  | H1 x y hpos ih =>
    rw [Nat.gcd_rec]
    refine ih ?_ hx
    have e : y = x * (y / x) + y % x := (Nat.div_add_mod y x).symm
    rw [e, ← powP_add, ← powP_mul, hx, powP_one, Nat.one_mul, Nat.mod_eq_of_lt (powP_lt _ _)] at hy
    exact hy

/-- No number of lo .. lo + 2^k - 1, but 0 and 1, divides n. -/
def noDiv (n : Nat) : Nat → Nat → Bool
  | 0, lo => lo ≤ 1 || n % lo != 0
  | k + 1, lo => noDiv n k lo && noDiv n k (lo + 2 ^ k)
theorem noDiv_is (n : Nat) : ∀ (k lo : Nat), noDiv n k lo = true → ∀ d, lo ≤ d → d < lo + 2 ^ k → 2 ≤ d → n % d ≠ 0
  | 0, lo, h, d, h1, h2, h3 => by
    have : d = lo := by simp at h2; omega
    subst this
    simp [noDiv] at h
    omega
  | k + 1, lo, h, d, h1, h2, h3 => by
    simp only [noDiv, Bool.and_eq_true] at h
    rw [Nat.pow_succ] at h2
    by_cases hd : d < lo + 2 ^ k
    · exact noDiv_is n k lo h.1 d h1 hd h3
    · exact noDiv_is n k (lo + 2 ^ k) h.2 d (by omega) (by omega) h3

theorem order_noDiv : noDiv order 16 0 = true := by decide +kernel

theorem order_prime (d : Nat) (h : d ∣ order) : d = 1 ∨ d = order := by
  obtain ⟨c, hc⟩ := h
  have ho : order = 1073741789 := rfl
  have big : ∀ x y : Nat, order = x * y → x < 65536 → x = 1 := by
    intro x y e hx
    by_cases h2 : 2 ≤ x
    · exact absurd (show order % x = 0 by rw [e]; exact Nat.mul_mod_right x y) (noDiv_is order 16 0 order_noDiv x (Nat.zero_le _) (by omega) h2)
    · have : x ≠ 0 := fun e0 => by rw [e0, Nat.zero_mul] at e; rw [ho] at e; omega
      omega
  by_cases hd : d < 65536
  · exact .inl (big d c hc hd)
  · right
    have hcs : c < 65536 := by
      rcases Nat.lt_or_ge c 65536 with h | h
      · exact h
      · have := Nat.mul_le_mul (Nat.le_of_not_lt hd) h
        rw [ho] at hc
        omega
    have := big c d (by rw [hc, Nat.mul_comm]) hcs
    rw [this, Nat.mul_one] at hc
    exact hc.symm

/-- A power of the base is 1 just where Order divides its number. -/
theorem base_one (a : Nat) (h : powP 4 a = 1) : a % order = 0 := by
  have hg := one_gcd 4 a order h base_order
  rcases order_prime _ (Nat.gcd_dvd_right a order) with e | e
  · rw [e] at hg
    exact absurd hg (by decide)
  · have := Nat.gcd_dvd_left a order
    rw [e] at this
    exact Nat.mod_eq_zero_of_dvd this

/-- A number taken modulo the prime, not below 0. -/
def modP (a : Int) : Nat := (a % 2147483579).toNat
theorem modP_lt (a : Int) : modP a < prime := by unfold modP prime; omega
theorem modP_int (a : Int) : (modP a : Int) = a % 2147483579 := by unfold modP; omega
theorem modP_nat (n : Nat) : modP (n : Int) = n % prime := by unfold modP prime; omega
theorem modP_of (a : Int) : modP (modP a : Int) = modP a := by rw [modP_nat, Nat.mod_eq_of_lt (modP_lt a)]

/-- The product modulo the prime. -/
def mulP (a b : Int) : Nat := modP a * modP b % prime
theorem mulP_lt (a b : Int) : mulP a b < prime := Nat.mod_lt _ (by decide)
theorem prod_lt (x y : Nat) (hx : x < prime) (hy : y < prime) : x * y < 9223372036854775807 := by
  have h1 : x * y ≤ 2147483578 * 2147483578 := Nat.mul_le_mul (by unfold prime at hx; omega) (by unfold prime at hy; omega)
  omega

/-- What Go's remainder leaves, mended below 0, is the number modulo the prime. -/
theorem tmod_cases (a : Int) : ∃ r : Int, a.tmod 2147483579 = r ∧ -2147483579 < r ∧ r < 2147483579 ∧ (r < 0 → r + 2147483579 = (modP a : Int)) ∧ (¬ r < 0 → r = (modP a : Int)) := by
  refine ⟨_, rfl, ?_, ?_, ?_, ?_⟩
  · have := Int.lt_tmod_of_pos a (show (0 : Int) < 2147483579 by omega); omega
  · exact Int.tmod_lt_of_pos a (by omega)
  · intro h
    have e := Int.tmod_def a 2147483579
    rw [modP_int]
    have h2 := Int.lt_tmod_of_pos a (show (0 : Int) < 2147483579 by omega)
    generalize a.tdiv 2147483579 = q at e
    omega
  · intro h
    have e := Int.tmod_def a 2147483579
    rw [modP_int]
    have h2 := Int.tmod_lt_of_pos a (show (0 : Int) < 2147483579 by omega)
    generalize a.tdiv 2147483579 = q at e
    omega

end Go.Proofs.YtkjjdoadjhjmbauGreatDoor
