/-
  The front and the back of two texts; no program is spoken of here.
  Pieces of a long text, in plain words; no program is spoken of here.
  A text cut in parts, in plain words; no program is spoken of here.
  Small laws of no program: a byte put behind an owned row of bytes; an owned row read as a text.
-/
import Derived.Test.YtfhlpgngeiploaaRows
import Derived.WalkKit
import Derived.Lib.FrozenHead
import Derived.Lib.Hide
import Derived.Laws.IdiomStrings
import Derived.OwnWalk
import Derived.WalkLawsBesides
import Derived.WalkSpells
namespace Go.Proofs.Ytfhlpgngeiploaa

theorem back_two (a b : ByteArray) : (a ++ b).extract a.size (a ++ b).size = b := by
  apply ByteArray.ext
  apply Array.ext'
  rw [ByteArray.data_extract, Array.toList_extract, List.extract_eq_take_drop, ByteArray.size_append]
  simp
  exact List.take_of_length_le (by simp)

end Go.Proofs.Ytfhlpgngeiploaa
namespace Go.Proofs.Ytfhlpgngeiploaa

/-- A number in one byte. -/
def byteN (n : Nat) : ByteArray := ⟨#[UInt8.ofNat n]⟩
theorem byteN_size (n : Nat) : (byteN n).size = 1 := rfl
/-- How many parts a text of n bytes has. -/
def countP (n size : Nat) : Nat := if (n + size - 1) / size = 0 then 1 else (n + size - 1) / size
/-- The part at a place. -/
def partP (id count size : Nat) (s : ByteArray) (i : Nat) : ByteArray := byteN id ++ byteN i ++ byteN count ++ s.extract (i * size) (min ((i + 1) * size) s.size)
/-- The first k parts. -/
def partsP (id count size : Nat) (s : ByteArray) (k : Nat) : List ByteArray := (List.range k).map (partP id count size s)
/-- A text that can be split. -/
def SplitP (id : Int) (s : ByteArray) (size : Int) : Prop := (0 ≤ id ∧ id ≤ 255) ∧ (20 ≤ size ∧ size ≤ 120) ∧ s.size ≤ 300
/-- What Split tells. -/
def SplitIs (id : Int) (s : ByteArray) (size : Int) (out : List ByteArray) (ok : Bool) : Prop :=
  (ok = true ∧ SplitP id s size ∧ out = partsP id.toNat (countP s.size size.toNat) size.toNat s (countP s.size size.toNat)) ∨ (ok = false ∧ ¬ SplitP id s size ∧ out = [])
theorem partsP_length (id count size : Nat) (s : ByteArray) (k : Nat) : (partsP id count size s k).length = k := by unfold partsP; simp
theorem partsP_next (id count size : Nat) (s : ByteArray) (k : Nat) : partsP id count size s (k + 1) = partsP id count size s k ++ [partP id count size s k] := by
  unfold partsP
  rw [List.range_succ, List.map_append]
  rfl
theorem count_few {n size : Nat} (hn : n ≤ 300) (hs : 20 ≤ size) : 1 ≤ countP n size ∧ countP n size ≤ 15 := by
  have h1 : (n + size - 1) / size < 16 := by
    rw [Nat.div_lt_iff_lt_mul (by omega)]
    omega
  unfold countP
  generalize (n + size - 1) / size = q at h1
  split <;> omega
/-- The parts reach to the end, and no part begins behind it. -/
theorem count_end {n size : Nat} (hs : 20 ≤ size) : n ≤ countP n size * size ∧ (∀ i, i < countP n size → i * size ≤ n) := by
  have h0 : size * ((n + size - 1) / size) ≤ n + size - 1 := Nat.mul_div_le _ _
  have h1 : n + size - 1 < size * ((n + size - 1) / size + 1) := Nat.lt_mul_div_succ _ (by omega)
  unfold countP
  generalize (n + size - 1) / size = q at h0 h1
  by_cases hq : q = 0
  · subst hq
    rw [if_pos rfl]
    refine ⟨by omega, fun i hi => ?_⟩
    obtain rfl : i = 0 := by omega
    omega
  · rw [if_neg hq]
    rw [Nat.mul_add, Nat.mul_one] at h1
    rw [Nat.mul_comm q size]
    refine ⟨by omega, fun i hi => ?_⟩
    have h2 : size * i ≤ size * (q - 1) := Nat.mul_le_mul_left _ (by omega)
    have h3 : size * q = size * (q - 1) + size := by
      obtain ⟨p, rfl⟩ : ∃ p, q = p + 1 := ⟨q - 1, by omega⟩
      rw [Nat.add_sub_cancel, Nat.mul_add, Nat.mul_one]
    rw [Nat.mul_comm i size]
    omega
/-- A byte of a text. -/
def byteAt (t : ByteArray) (i : Nat) : Nat := (t.data.toList.getD i 0).toNat
theorem byteAt_lt (t : ByteArray) (i : Nat) : byteAt t i < 256 := UInt8.toNat_lt _
/-- A text that is a part. -/
def PieceP (t : ByteArray) : Prop := 3 ≤ t.size ∧ (1 ≤ byteAt t 2 ∧ byteAt t 2 ≤ 15) ∧ byteAt t 1 < byteAt t 2
/-- What ReadPart tells. -/
def ReadPartIs (t : ByteArray) (id place count : Int) (part : ByteArray) (ok : Bool) : Prop :=
  (ok = true ∧ PieceP t ∧ id = (byteAt t 0 : Nat) ∧ place = (byteAt t 1 : Nat) ∧ count = (byteAt t 2 : Nat) ∧ part = t.extract 3 t.size) ∨ (ok = false ∧ ¬ PieceP t ∧ id = 0 ∧ place = 0 ∧ count = 0 ∧ part = ⟨#[]⟩)
theorem readPart_is (t : ByteArray) : ∃ id place count part ok, ReadPartIs t id place count part ok := by
  by_cases h : PieceP t
  · exact ⟨_, _, _, _, _, .inl ⟨rfl, h, rfl, rfl, rfl, rfl⟩⟩
  · exact ⟨_, _, _, _, _, .inr ⟨rfl, h, rfl, rfl, rfl, rfl⟩⟩
/-- A part is read back. -/
theorem part_read {id count size : Nat} {s : ByteArray} {i : Nat} (h1 : id < 256) (h2 : count ≤ 15) (hi : i < count) : ReadPartIs (partP id count size s i) id i count (s.extract (i * size) (min ((i + 1) * size) s.size)) true := by
  have e : (partP id count size s i) = ⟨#[UInt8.ofNat id, UInt8.ofNat i, UInt8.ofNat count]⟩ ++ s.extract (i * size) (min ((i + 1) * size) s.size) := rfl
  have hb : ∀ n : Nat, n < 256 → (UInt8.ofNat n).toNat = n := fun n hn => by rw [UInt8.toNat_ofNat']; exact Nat.mod_eq_of_lt hn
  have l : ∀ k, (partP id count size s i).data.toList.getD k 0 = ([UInt8.ofNat id, UInt8.ofNat i, UInt8.ofNat count] ++ (s.extract (i * size) (min ((i + 1) * size) s.size)).data.toList).getD k 0 := fun k => by
    rw [e, ByteArray.data_append, Array.toList_append]
  have b0 : byteAt (partP id count size s i) 0 = id := by unfold byteAt; rw [l]; exact hb id h1
  have b1 : byteAt (partP id count size s i) 1 = i := by unfold byteAt; rw [l]; exact hb i (by omega)
  have b2 : byteAt (partP id count size s i) 2 = count := by unfold byteAt; rw [l]; exact hb count (by omega)
  have hz : 3 ≤ (partP id count size s i).size := by
    rw [e, ByteArray.size_append]
    show 3 ≤ 3 + _
    omega
  refine .inl ⟨rfl, ⟨hz, ?_, ?_⟩, by rw [b0], by rw [b1], by rw [b2], ?_⟩
  · rw [b2]; omega
  · rw [b1, b2]; omega
  · rw [e]
    exact (back_two (⟨#[UInt8.ofNat id, UInt8.ofNat i, UInt8.ofNat count]⟩ : ByteArray) _).symm

end Go.Proofs.Ytfhlpgngeiploaa
namespace Go.Proofs.Ytfhlpgngeiploaa

/-- One more part is left just where more than a part's bytes are left. -/
theorem count_next {n k i : Nat} (hk : 20 ≤ k) (hi : i < countP n k) : (i * k + k < n ↔ i + 1 < countP n k) := by
  have h0 : k * ((n + k - 1) / k) ≤ n + k - 1 := Nat.mul_div_le _ _
  have h1 : n + k - 1 < k * ((n + k - 1) / k + 1) := Nat.lt_mul_div_succ _ (by omega)
  unfold countP at *
  generalize (n + k - 1) / k = q at *
  rw [Nat.mul_add, Nat.mul_one] at h1
  have e1 : (i + 1) * k = i * k + k := by rw [Nat.add_mul, Nat.one_mul]
  by_cases hq : q = 0
  · subst hq
    rw [if_pos rfl] at hi ⊢
    have : i = 0 := by omega
    subst this
    constructor
    · intro h; omega
    · intro h; omega
  · rw [if_neg hq] at hi ⊢
    rw [← e1]
    constructor
    · intro h
      rcases Nat.lt_or_ge (i + 1) q with h9 | h9
      · exact h9
      · have h2 : k * q ≤ (i + 1) * k := by rw [Nat.mul_comm (i + 1) k]; exact Nat.mul_le_mul_left _ h9
        omega
    · intro h
      obtain ⟨p, rfl⟩ : ∃ p, q = p + 1 := ⟨q - 1, by omega⟩
      have h2 : (i + 1) * k ≤ k * p := by rw [Nat.mul_comm (i + 1) k]; exact Nat.mul_le_mul_left _ (by omega)
      rw [Nat.mul_add, Nat.mul_one] at h0
      omega
theorem part_bytes_of (m c k : Nat) (s : ByteArray) (i : Nat) (bs : List UInt8) (h : bs = (s.extract (i * k) (min ((i + 1) * k) s.size)).data.toList) : (⟨([UInt8.ofNat m, UInt8.ofNat i, UInt8.ofNat c] ++ bs).toArray⟩ : ByteArray) = partP m c k s i := by
  subst h
  unfold partP byteN
  apply ByteArray.ext
  simp only [ByteArray.data_append]
  apply Array.toList_inj.1
  simp
theorem extract_at (s : ByteArray) (a b j : Nat) (h : j < (s.extract a b).data.toList.length) : (s.extract a b).data.toList[j] = s.data.toList.getD (a + j) 0 := by
  have h2 : j < (s.extract a b).size := h
  rw [ByteArray.size_extract] at h2
  have h3 : a + j < s.data.toList.length := by simp; omega
  rw [List.getD_eq_getElem?_getD, List.getElem?_eq_getElem h3]
  simp [ByteArray.data_extract]

end Go.Proofs.Ytfhlpgngeiploaa
namespace Go.Proofs.Ytfhlpgngeiploaa
open Go.RowKit

theorem push_cells (w : World) (e : TypeId) (z : Int) (b : UInt8) (hz : z = b.toNat) :
    ∀ j u, [Value.int .u8 (b.toNat : Int)][j]? = some u → (w.alloc (.cells #[.int .u8 z] e)).cell? ((⟨w.heap.size, 0, none⟩ : Addr).add j) = some u := by
  subst hz
  intro j u hj
  match j, hj with
  | 0, hj => simp at hj; subst hj; simp [Addr.add]

/-- The slice value v is nil or the call's own (from block 'base' on), and holds the bytes xs. -/
def OwnB (w : World) (base : Nat) (e : TypeId) (v : Value) (xs : List UInt8) : Prop := w.ownsRow base e 1 v xs.length (Lib.byteCells xs)

theorem OwnB.nil (w : World) (base : Nat) (e : TypeId) : OwnB w base e (.slice none 0 0) [] := World.ownsRow_nil _ _ _ _
theorem OwnB.lit (w : World) (base : Nat) (e : TypeId) (hb : base ≤ w.heap.size) : OwnB (w.alloc (.cells #[] e)) base e (.slice (some ⟨w.heap.size, 0, none⟩) 0 0) [] :=
  World.ownsRow_lit w #[] 0 hb (by decide) rfl

/-- 'out = append(out, c)': out a row of bytes of the call's own. -/
theorem wpList_push {P : Program} (w : World) {ops : Array Oper} {rest : List Oper} {o : Oper} {a : Act} {Q : Exit → Act → World → Prop} (hgd : o.guard = none) (s x : Operand) (t : TypeId)
    (ho : o.op = .call { callee := .builtin .append, args := #[s, x], argTypes := #[t, t] })
    (base : Nat) (e : TypeId) (i : TypeInfo) (ht : P.underlying t = some (.slice e)) (hi : P.info? e = some i) (hz : i.zero = some (.int .u8 0))
    (hsize : i.size = 1) (hby : i.bytes = 1) (v : Value) (xs : List UInt8) (hs : a.eval s = v) (hown : OwnB w base e v xs)
    (b : UInt8) (z : Int) (hx : a.eval x = .slice (some ⟨w.heap.size, 0, none⟩) 1 1) (hzb : z = b.toNat)
    (hlen : xs.length + 1 ≤ 140737488355328) (hbase : base ≤ w.heap.size)
    (h : ∀ v' w', OwnB w' base e v' (xs ++ [b]) → Below base w w' → wpList P ops Q rest (a.put o.dst v') w') :
    wpList P ops Q (o :: rest) a (w.alloc (.cells #[.int .u8 z] e)) := by
  refine wpList_append_own (w.alloc (.cells #[.int .u8 z] e)) hgd s x t ho base e i (.int .u8 0) 1 1 ht hi hz hsize hby rfl (by decide) v xs.length (Lib.byteCells xs) hs (World.ownsRow.alloc hown _) ⟨w.heap.size, 0, none⟩ 1 1 [.int .u8 (b.toNat : Int)] hx rfl (push_cells w e z b hzb) (by intro u hu; simp at hu; subst hu; rfl) (by unfold maxLen; omega) (by omega) (by simp; omega) ?_
  intro v' w' h1 h2 _
  refine h v' w' ?_ ?_
  · have e1 : (xs ++ [b]).length = xs.length + 1 := by simp
    have e2 : Lib.byteCells (xs ++ [b]) = Lib.byteCells xs ++ [.int .u8 (b.toNat : Int)] := by simp [Lib.byteCells]
    unfold OwnB
    rw [e1, e2]
    exact h1
  · exact ((Below.refl base w).alloc hbase _).grown h2 (by simp; omega) (fun k hk => (World.ownsRow.lt hown k hk).1)

theorem OwnB.alloc {w : World} {base : Nat} {e : TypeId} {v : Value} {xs : List UInt8} (h : OwnB w base e v xs) (o : Obj) : OwnB (w.alloc o) base e v xs := World.ownsRow.alloc h o
theorem OwnB.drew {w : World} {base : Nat} {e : TypeId} {v : Value} {xs : List UInt8} (h : OwnB w base e v xs) : OwnB w.drew base e v xs := World.ownsRow.drew h
theorem OwnB.drewN {w : World} {base : Nat} {e : TypeId} {v : Value} {xs : List UInt8} (h : OwnB w base e v xs) (n : Nat) : OwnB (w.drewN n) base e v xs := h

/-- The shape of an owned row's value. -/
theorem OwnB.form {w : World} {base : Nat} {e : TypeId} {v : Value} {xs : List UInt8} (h : OwnB w base e v xs) : ∃ ao cap, v = .slice ao xs.length cap ∧
    (0 < xs.length → ∃ g, ao = some ⟨g, 0, none⟩ ∧ g < w.heap.size ∧ ∀ j, j < xs.length → w.cell? ⟨g, j, none⟩ = some (.int .u8 ((xs.getD j 0).toNat : Nat))) := by
  have h' : w.ownsRow base e 1 v xs.length (Lib.byteCells xs) := h
  rcases h'.2 with ⟨rfl, h0⟩ | ⟨g, cap, cur, rfl, hb, hh, _, _, _, _⟩
  · exact ⟨none, 0, by rw [h0], fun hp => by omega⟩
  · refine ⟨_, cap, rfl, fun _ => ⟨g, rfl, lt_of_block hh, fun j hj => ?_⟩⟩
    rw [h'.cellAt j (by omega)]
    simp [Lib.byteCells, hj]

/-- 'string(out)': out a row of bytes of the call's own, nil or not. -/
theorem run_string_own {P : Program} (w : World) (src dst e : TypeId) (hs : P.underlying src = some (.slice e)) (he : P.underlying e = some (.int .u8)) (hd : P.underlying dst = some .string)
    {base : Nat} {v : Value} (l : List UInt8) (hown0 : OwnB w base e v l) :
    (convert src dst v).run P w = .ok (.string ⟨l.toArray⟩) w := by
  have hown : w.ownsRow base e 1 v l.length (Lib.byteCells l) := hown0
  rcases hown.2 with ⟨rfl, h0⟩ | ⟨g, cap, cur, rfl, _, _, _, _, _, _⟩
  · obtain rfl : l = [] := List.length_eq_zero_iff.1 h0
    rw [run_convert_bytes_string w src dst e none 0 0 hs he hd]
    rfl
  · exact run_convert_bytes_back w src dst e ⟨g, 0, none⟩ cap l hs he hd (fun j hj => hown.cells (g := g) rfl j _ (by simp [Lib.byteCells, hj]))

/-- 'string([]byte{c})'. -/
theorem run_string_one {P : Program} (w : World) (src dst e : TypeId) (hs : P.underlying src = some (.slice e)) (he : P.underlying e = some (.int .u8)) (hd : P.underlying dst = some .string) (b : UInt8) :
    (convert src dst (.slice (some ⟨w.heap.size, 0, none⟩) 1 1)).run P (w.alloc (.cells #[.int .u8 (b.toNat : Int)] e)) = .ok (.string ⟨[b].toArray⟩) (w.alloc (.cells #[.int .u8 (b.toNat : Int)] e)) := by
  refine run_convert_bytes_back (w.alloc (.cells #[.int .u8 (b.toNat : Int)] e)) src dst e ⟨w.heap.size, 0, none⟩ 1 [b] hs he hd ?_
  intro j hj
  exact push_cells w e (b.toNat : Int) b rfl j _ (by simp at hj; subst hj; rfl)

theorem int_eq {k : IntKind} {a b : Int} (h : a = b) : Value.int k a = Value.int k b := by rw [h]

end Go.Proofs.Ytfhlpgngeiploaa
