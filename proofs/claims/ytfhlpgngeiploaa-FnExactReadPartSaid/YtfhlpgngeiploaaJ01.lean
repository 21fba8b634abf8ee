/-
  The front and the back of two texts; no program is spoken of here.
  Pieces of a long text, in plain words; no program is spoken of here.
  A text cut in parts, in plain words; no program is spoken of here.
  Small laws of no program: a byte put behind an owned row of bytes; an owned row read as a text.
  Memory of which one block alone is written; a cursor over bytes that lies in such a block; no program is spoken of here.
  Rows of records: slices whose elements have several cells; no program is spoken of here.
  Rows of records as arguments and as what is written into; no program is spoken of here.
  Plain mathematics of figures: two for each byte, and back; no program is spoken of here.
  Plain mathematics of decimal figures; no program is spoken of here.
  How data lie in memory, rows within rows: what can be read, what is the call's own, what a call changes, marks; no program is spoken of here.
  Rows of flat data of the call's own: appended to, copied, written into; no program is spoken of here.
  Small laws of no program: rows of texts that the call itself made.
  The given mark of a number, as a text.
  An element of a row taken out, where only new blocks are made; marks that are texts; measured rows.
  Rows of texts as they lie; the laws' own functions over them.
  The program's cutOf: a row of slices, each with no more room than its bytes.
  Rows of flat data as blocks: cut short, cleared, copied into; no program is spoken of here.
  Rows of flat data as blocks: one more in its place; no program is spoken of here.
  Bytes: their exclusive or and or as the model spells them; no program is spoken of here.
  '[]byte(t)' and '[]byte{}' written into and turned back into a text.
  'out = append(out, x)' as a step of a region that draws its order; no program is spoken of here.
  The program's pieceText.
  The program's isPieceId.
  The program's Split.
  The given test of a range, by what it answers.
  The given l05Byte: one byte as a text.
  The given ReadPart and Split.
  The program's copy of a row of texts.
-/
import Derived.Test.YtfhlpgngeiploaaRows
import Derived.WalkKit
import Derived.Lib.FrozenHead
import Derived.Lib.Hide
import Derived.Laws.IdiomStrings
import Derived.OwnWalk
import Derived.WalkLawsBesides
import Derived.WalkSpells
import Derived.Below
import Derived.WalkSmall
import Derived.Laws.BitsLemmas
import Derived.Deep.Slices
import Derived.Laws.OwnMore
import Derived.Lib.ItoaNum
import Derived.Lib.ItoaLen
import Derived.Lib.ItoaMem
import Derived.Laws.AppendOwnNone
import Derived.BigQuiet
import Derived.Deep.QuietTactic
import Derived.Deep.RegionHeld3
import Derived.Deep.DeepCutAuto
import Derived.Laws.CopyOwn
import Derived.Lib.AppendZerosOnto
import Derived.Lib.Overlaps
import Derived.Lib.ConvBytes
import Derived.Deep.LoopGhost
import Derived.Deep.OwnRows
namespace Go.Proofs.Ytfhlpgngeiploaa

end Go.Proofs.Ytfhlpgngeiploaa
namespace Go.Proofs.Ytfhlpgngeiploaa

/-- A byte of a text. -/
def byteAt (t : ByteArray) (i : Nat) : Nat := (t.data.toList.getD i 0).toNat
/-- A text that is a part. -/
def PieceP (t : ByteArray) : Prop := 3 ≤ t.size ∧ (1 ≤ byteAt t 2 ∧ byteAt t 2 ≤ 15) ∧ byteAt t 1 < byteAt t 2
/-- What ReadPart tells. -/
def ReadPartIs (t : ByteArray) (id place count : Int) (part : ByteArray) (ok : Bool) : Prop :=
  (ok = true ∧ PieceP t ∧ id = (byteAt t 0 : Nat) ∧ place = (byteAt t 1 : Nat) ∧ count = (byteAt t 2 : Nat) ∧ part = t.extract 3 t.size) ∨ (ok = false ∧ ¬ PieceP t ∧ id = 0 ∧ place = 0 ∧ count = 0 ∧ part = ⟨#[]⟩)
theorem readPart_is (t : ByteArray) : ∃ id place count part ok, ReadPartIs t id place count part ok := by
  by_cases h : PieceP t
  · exact ⟨_, _, _, _, _, .inl ⟨rfl, h, rfl, rfl, rfl, rfl⟩⟩
  · exact ⟨_, _, _, _, _, .inr ⟨rfl, h, rfl, rfl, rfl, rfl⟩⟩
end Go.Proofs.Ytfhlpgngeiploaa
namespace Go.Proofs.Ytfhlpgngeiploaa

end Go.Proofs.Ytfhlpgngeiploaa
namespace Go.Proofs.Ytfhlpgngeiploaa
open Go.RowKit

end Go.Proofs.Ytfhlpgngeiploaa
namespace Go.Proofs.Ytfhlpgngeiploaa
open Go.RowKit

/-- Block c alone may have been written; blocks may have been added. -/
structure Only (c : Nat) (w w' : World) : Prop where
  os : w'.os = w.os
  tape : w'.tape = w.tape
  output : w'.output = w.output
  size : w.heap.size ≤ w'.heap.size
  block : ∀ k, k < w.heap.size → k ≠ c → w'.heap[k]? = w.heap[k]?

theorem Only.refl (c : Nat) (w : World) : Only c w w := ⟨rfl, rfl, rfl, Nat.le_refl _, fun _ _ _ => rfl⟩
theorem Only.trans {c : Nat} {w w1 w2 : World} (h : Only c w w1) (k : Only c w1 w2) : Only c w w2 :=
  ⟨k.os.trans h.os, k.tape.trans h.tape, k.output.trans h.output, Nat.le_trans h.size k.size, fun i hi hc => (k.block i (Nat.lt_of_lt_of_le hi h.size) hc).trans (h.block i hi hc)⟩
end Go.Proofs.Ytfhlpgngeiploaa
namespace Go.Proofs.Ytfhlpgngeiploaa
open Go.RowKit

/-- How a record lies in cells. -/
structure Rec (α : Type) where
  k : Nat
  enc : α → List Value
  len : ∀ x, (enc x).length = k
  one : ∀ x, ∀ u ∈ enc x, u.oneCell' = true
  pos : 0 < k

section
variable {α : Type} (R : Rec α)

variable {R}

variable (R) in
end
end Go.Proofs.Ytfhlpgngeiploaa
namespace Go.Proofs.Ytfhlpgngeiploaa
open Go.RowKit

section
variable {α : Type} {R : Rec α}

variable (R) in
end
end Go.Proofs.Ytfhlpgngeiploaa
namespace Go.Proofs.Ytfhlpgngeiploaa

end Go.Proofs.Ytfhlpgngeiploaa
namespace Go.Proofs.Ytfhlpgngeiploaa

/-- The figures of a number; none for 0. -/
def digs (m : Nat) : List UInt8 := if m = 0 then [] else Lib.decDigits m

end Go.Proofs.Ytfhlpgngeiploaa
namespace Go.Proofs.Ytfhlpgngeiploaa
open Go.RowKit

/-- How data lie in cells: as what can be read; as what is the call's own (from block b on, in these blocks); its marks from a number on. -/
structure Lay (α : Type) where
  k : Nat
  rd : World → List Value → α → Prop
  own : World → Nat → List Nat → List Value → α → Prop
  mark : Int → α → α × Int
  pos : 0 < k
  len : ∀ {w : World} {cs : List Value} {x : α}, rd w cs x → cs.length = k
  one : ∀ {w : World} {cs : List Value} {x : α}, rd w cs x → ∀ u ∈ cs, u.oneCell' = true
  below : ∀ {w w' : World} {cs : List Value} {x : α}, rd w cs x → Below w.heap.size w w' → rd w' cs x
  read : ∀ {w : World} {b : Nat} {fp : List Nat} {cs : List Value} {x : α}, own w b fp cs x → rd w cs x
  blocks : ∀ {w : World} {b : Nat} {fp : List Nat} {cs : List Value} {x : α}, own w b fp cs x → ∀ g ∈ fp, b ≤ g ∧ g < w.heap.size
  keep : ∀ {w w' : World} {b : Nat} {fp : List Nat} {cs : List Value} {x : α}, own w b fp cs x → (∀ g ∈ fp, w'.heap[g]? = w.heap[g]?) → own w' b fp cs x
  lower : ∀ {w : World} {b b' : Nat} {fp : List Nat} {cs : List Value} {x : α}, own w b fp cs x → b' ≤ b → own w b' fp cs x

def Lay.int : Lay Int where
  k := 1
  rd := fun _ cs x => cs = [.int .i64 x]
  own := fun _ _ fp cs x => fp = [] ∧ cs = [.int .i64 x]
  mark := fun k _ => (k, k + 1)
  pos := by decide
  len := fun h => by rw [h]; rfl
  one := fun h u hu => by rw [h] at hu; simp at hu; subst hu; rfl
  below := fun h _ => h
  read := fun h => h.2
  blocks := fun h g hg => by rw [h.1] at hg; cases hg
  keep := fun h _ => h
  lower := fun h _ => h
def Lay.bool : Lay Bool where
  k := 1
  rd := fun _ cs x => cs = [.bool x]
  own := fun _ _ fp cs x => fp = [] ∧ cs = [.bool x]
  mark := fun k _ => (Int.tmod k 3 == 0, k + 1)
  pos := by decide
  len := fun h => by rw [h]; rfl
  one := fun h u hu => by rw [h] at hu; simp at hu; subst hu; rfl
  below := fun h _ => h
  read := fun h => h.2
  blocks := fun h g hg => by rw [h.1] at hg; cases hg
  keep := fun h _ => h
  lower := fun h _ => h

section
variable {α β : Type}

end

/-- These blocks alone are changed. -/
structure Chg (fp : List Nat) (w w' : World) : Prop where
  os : w'.os = w.os
  tape : w'.tape = w.tape
  output : w'.output = w.output
  size : w.heap.size ≤ w'.heap.size
  block : ∀ g, g < w.heap.size → g ∉ fp → w'.heap[g]? = w.heap[g]?
theorem Chg.refl (fp : List Nat) (w : World) : Chg fp w w := ⟨rfl, rfl, rfl, Nat.le_refl _, fun _ _ _ => rfl⟩
theorem Chg.trans {fp : List Nat} {w w1 w2 : World} (h : Chg fp w w1) (k : Chg fp w1 w2) : Chg fp w w2 :=
  ⟨k.os.trans h.os, k.tape.trans h.tape, k.output.trans h.output, Nat.le_trans h.size k.size, fun g hg hn => (k.block g (Nat.lt_of_lt_of_le hg h.size) hn).trans (h.block g hg hn)⟩
section
variable {α : Type}

end
end Go.Proofs.Ytfhlpgngeiploaa
namespace Go.Proofs.Ytfhlpgngeiploaa
open Go.RowKit

section
variable {α : Type}

end
end Go.Proofs.Ytfhlpgngeiploaa
namespace Go.Proofs.Ytfhlpgngeiploaa
open Go.RowKit

end Go.Proofs.Ytfhlpgngeiploaa
namespace Go.Proofs.Ytfhlpgngeiploaa
open Go.RowKit

/-- The mark of a number. -/
def mark (k : Nat) : List UInt8 := 109 :: digs k

end Go.Proofs.Ytfhlpgngeiploaa
namespace Go.Proofs.Ytfhlpgngeiploaa
open Go.RowKit

end Go.Proofs.Ytfhlpgngeiploaa
namespace Go.Proofs.Ytfhlpgngeiploaa
open Go.RowKit

end Go.Proofs.Ytfhlpgngeiploaa
namespace Go.Proofs.Ytfhlpgngeiploaa
open Go.RowKit

end Go.Proofs.Ytfhlpgngeiploaa
namespace Go.Proofs.Ytfhlpgngeiploaa
open Go.RowKit

section
variable {α : Type}

end
end Go.Proofs.Ytfhlpgngeiploaa
namespace Go.Proofs.Ytfhlpgngeiploaa
open Go.RowKit

section
variable {α : Type}
end
end Go.Proofs.Ytfhlpgngeiploaa
namespace Go.Proofs.Ytfhlpgngeiploaa
open Go.RowKit

end Go.Proofs.Ytfhlpgngeiploaa
namespace Go.Proofs.Ytfhlpgngeiploaa
open Go.RowKit

end Go.Proofs.Ytfhlpgngeiploaa
namespace Go.Proofs.Ytfhlpgngeiploaa
open Go.RowKit

end Go.Proofs.Ytfhlpgngeiploaa
namespace Go.Proofs.Ytfhlpgngeiploaa
open Go.RowKit

end Go.Proofs.Ytfhlpgngeiploaa
namespace Go.Proofs.Ytfhlpgngeiploaa
open Go.RowKit

end Go.Proofs.Ytfhlpgngeiploaa
namespace Go.Proofs.Ytfhlpgngeiploaa
open Go.RowKit

end Go.Proofs.Ytfhlpgngeiploaa
namespace Go.Proofs.Ytfhlpgngeiploaa
open Go.RowKit

theorem inRange_yes (x a b : Int) (h0 : a ≤ x) (h1 : x ≤ b) (w : World) :
    Calls Try.prog 29 #[.int .i64 x, .int .i64 a, .int .i64 b] w fun e w' => e = .returned (.bool true) ∧ w' = w := by
  go_enter Try.func29, Try.ntmps29
  go_wp2
  go_ret
  exact ⟨rfl, rfl⟩

theorem inRange_no (x a b : Int) (h : x < a ∨ b < x) (w : World) :
    Calls Try.prog 29 #[.int .i64 x, .int .i64 a, .int .i64 b] w fun e w' => e = .returned (.bool false) ∧ w' = w := by
  by_cases hx : x < a
  · go_enter Try.func29, Try.ntmps29
    go_wp2
    go_ret
    exact ⟨rfl, rfl⟩
  · have h0 : a ≤ x := by omega
    have h1 : decide (x ≤ b) = false := decide_eq_false (by omega)
    clear h hx
    go_enter Try.func29, Try.ntmps29
    go_wp2
    go_ret
    exact ⟨rfl, rfl⟩

end Go.Proofs.Ytfhlpgngeiploaa
namespace Go.Proofs.Ytfhlpgngeiploaa
open Go.RowKit

end Go.Proofs.Ytfhlpgngeiploaa
namespace Go.Proofs.Ytfhlpgngeiploaa
open Go.RowKit

theorem byte_is (t : ByteArray) (i : Nat) (h : i < t.size) : (t[i]'h).toNat = byteAt t i := by
  unfold byteAt
  rw [List.getD_eq_getElem?_getD, List.getElem?_eq_getElem (show i < t.data.toList.length from h)]
  rfl

set_option maxRecDepth 100000 in
set_option maxHeartbeats 1600000 in
theorem specReadPart_any (t : ByteArray) (id place count : Int) (part : ByteArray) (ok : Bool) (hz : t.size ≤ 9223372036854775807) (h : ReadPartIs t id place count part ok) (w : World) :
    Calls Try.prog 22 #[.string t] w fun e w' => e = .returned (.tuple #[.int .i64 id, .int .i64 place, .int .i64 count, .string part, .bool ok]) ∧ Below w.heap.size w w' := by
  obtain ⟨Q, HQ⟩ : ∃ Q : Ending → World → Prop, Hid (Q = fun e w' => e = .returned (.tuple #[.int .i64 id, .int .i64 place, .int .i64 count, .string part, .bool ok]) ∧ Below w.heap.size w w') := ⟨_, Lib.hid rfl⟩
  rw [← HQ.out]
  go_enter Try.func22, Try.ntmps22
  by_cases h3 : 3 ≤ t.size
  rotate_left
  · obtain ⟨rfl, rfl, rfl, rfl, rfl⟩ : ok = false ∧ id = 0 ∧ place = 0 ∧ count = 0 ∧ part = ⟨#[]⟩ := by
      rcases h with ⟨_, h, _⟩ | ⟨h1, _, h2, h3, h4, h5⟩
      · exact absurd h.1 h3
      · exact ⟨h1, h2, h3, h4, h5⟩
    have h3' : (t.size : Int) < 3 := by omega
    clear h h3
    go_wp2_with fail
    go_quiet (fail)
    go_wp2_with fail
    exact bodyPost_ret (v := .tuple #[.int .i64 0, .int .i64 0, .int .i64 0, .string ⟨#[]⟩, .bool false]) (by simp [results, Try.results22, go_sem]) rfl (by rw [HQ.out]; exact ⟨rfl, below_drewN (Below.refl _ _) _⟩)
  have h3' : ¬ ((t.size : Int) < 3) := by omega
  have i0 : (0 : Int) < (t.size : Int) := by omega
  have i1 : (1 : Int) < (t.size : Int) := by omega
  have i2 : (2 : Int) < (t.size : Int) := by omega
  have z3 : (3 : Int) ≤ (t.size : Int) := by omega
  have B0 := byte_is t 0 (by omega)
  have B1 := byte_is t 1 (by omega)
  have B2 := byte_is t 2 (by omega)
  obtain ⟨x0, hx0⟩ : ∃ x : UInt8, t[0]'(by omega) = x := ⟨_, rfl⟩
  obtain ⟨x1, hx1⟩ : ∃ x : UInt8, t[1]'(by omega) = x := ⟨_, rfl⟩
  obtain ⟨x2, hx2⟩ : ∃ x : UInt8, t[2]'(by omega) = x := ⟨_, rfl⟩
  rw [hx0] at B0
  rw [hx1] at B1
  rw [hx2] at B2
  have l0 := x0.toNat_lt
  have l1 := x1.toNat_lt
  have l2 := x2.toNat_lt
  have w0 : IntKind.i64.wrap (x0.toNat : Int) = (x0.toNat : Int) := by rw [IntKind.wrap_i64]; omega
  have w1 : IntKind.i64.wrap (x1.toNat : Int) = (x1.toNat : Int) := by rw [IntKind.wrap_i64]; omega
  have w2 : IntKind.i64.wrap (x2.toNat : Int) = (x2.toNat : Int) := by rw [IntKind.wrap_i64]; omega
  by_cases h2 : 1 ≤ x2.toNat ∧ x2.toNat ≤ 15
  rotate_left
  · obtain ⟨rfl, rfl, rfl, rfl, rfl⟩ : ok = false ∧ id = 0 ∧ place = 0 ∧ count = 0 ∧ part = ⟨#[]⟩ := by
      rcases h with ⟨_, h, _⟩ | ⟨h1, _, h2, h3, h4, h5⟩
      · exact absurd (by rw [B2]; exact h.2.1) h2
      · exact ⟨h1, h2, h3, h4, h5⟩
    have K := Lib.hid (inRange_no (IntKind.i64.wrap (x2.toNat : Int)) 1 15 (by rw [w2]; omega))
    clear h h2 B0 B1 B2 w0 w1 w2
    go_wp2_with fail
    go_quiet ((go_at_call 29; exact Calls.quiet_of_same (K.out _)))
    go_wp2_with fail
    exact bodyPost_ret (v := .tuple #[.int .i64 0, .int .i64 0, .int .i64 0, .string ⟨#[]⟩, .bool false]) (by simp [results, Try.results22, go_sem]) rfl (by rw [HQ.out]; exact ⟨rfl, below_drewN (Below.refl _ _) _⟩)
  have K := Lib.hid (inRange_yes (IntKind.i64.wrap (x2.toNat : Int)) 1 15 (by rw [w2]; omega) (by rw [w2]; omega))
  by_cases h1 : x1.toNat < x2.toNat
  rotate_left
  · obtain ⟨rfl, rfl, rfl, rfl, rfl⟩ : ok = false ∧ id = 0 ∧ place = 0 ∧ count = 0 ∧ part = ⟨#[]⟩ := by
      rcases h with ⟨_, h, _⟩ | ⟨h1, _, h2, h3, h4, h5⟩
      · exact absurd (by rw [B1, B2]; exact h.2.2) h1
      · exact ⟨h1, h2, h3, h4, h5⟩
    have h1' : decide ((x2.toNat : Int) ≤ (x1.toNat : Int)) = true := decide_eq_true (by omega)
    have h1'' : (x2.toNat : Int) ≤ (x1.toNat : Int) := by omega
    clear h h2 h1 B0 B1 B2 w0 w1 w2
    go_wp2_with fail
    go_quiet ((go_at_call 29; exact Calls.quiet_of_same (K.out _)))
    go_wp2_with fail
    exact bodyPost_ret (v := .tuple #[.int .i64 0, .int .i64 0, .int .i64 0, .string ⟨#[]⟩, .bool false]) (by simp [results, Try.results22, go_sem]) rfl (by rw [HQ.out]; exact ⟨rfl, below_drewN (Below.refl _ _) _⟩)
  have h1' : decide ((x2.toNat : Int) ≤ (x1.toNat : Int)) = false := decide_eq_false (by omega)
  have h1'' : ¬ ((x2.toNat : Int) ≤ (x1.toNat : Int)) := by omega
  obtain ⟨rfl, rfl, rfl, rfl, hp⟩ : ok = true ∧ id = (x0.toNat : Int) ∧ place = (x1.toNat : Int) ∧ count = (x2.toNat : Int) ∧ part = t.extract 3 t.size := by
    rcases h with ⟨h1, _, h2, h3, h4, h5⟩ | ⟨_, h, _⟩
    · exact ⟨h1, by rw [B0]; exact h2, by rw [B1]; exact h3, by rw [B2]; exact h4, h5⟩
    · exact absurd ⟨h3, by rw [← B2]; exact h2, by rw [← B1, ← B2]; exact h1⟩ h
  have E : Hid (∀ X, Below w.heap.size w X → Q (.returned (.tuple #[.int .i64 (x0.toNat : Int), .int .i64 (x1.toNat : Int), .int .i64 (x2.toNat : Int), .string (t.extract 3 t.size), .bool true])) X) := Lib.hid (fun X hX => by
    rw [HQ.out, ← hp]
    exact ⟨rfl, hX⟩)
  clear h h2 h1 B0 B1 B2 hp w0 w1 w2
  go_wp2_with fail
  go_quiet ((go_at_call 29; exact Calls.quiet_of_same (K.out _)))
  go_wp2_with fail
  go_quiet (fail)
  go_wp2_with fail
  exact bodyPost_ret (v := .tuple #[.int .i64 (x0.toNat : Int), .int .i64 (x1.toNat : Int), .int .i64 (x2.toNat : Int), .string (t.extract 3 t.size), .bool true]) (by simp [results, Try.results22, go_sem]) rfl (E.out _ (below_drewN (below_drewN (Below.refl _ _) _) _))

end Go.Proofs.Ytfhlpgngeiploaa
namespace Go.Proofs.Ytfhlpgngeiploaa
open Go.RowKit

/-- What the library's Clone gives. -/
def CloneGives : Prop := ∀ (s : ByteArray) (w : World), s.size ≤ 1048576 → Calls Try.prog 32 #[.string s] w fun e w' => e = .returned (.string s) ∧ Below w.heap.size w w'
end Go.Proofs.Ytfhlpgngeiploaa
