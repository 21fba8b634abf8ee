/-
  A byte that is drawn: it lies in 0 .. 255, the cursor stays one, and no other block is written.
  A number below another one, and a choice, drawn.
  A cursor laid over bytes.
  Texts that are drawn: of drawn bytes; of one byte many times.
  A number that is drawn for chapter 1: any int; the two draws that the law on numbers takes.
  A text of a list, drawn.
  A text that is drawn as another one, spoilt or not.
  A cursor and variables of two cells, carried through a draw; no program is spoken of here.
-/
import Derived.Test.YtpcdmfimjnhejaoRows
import Derived.Test.YtpcdmfimjnhejaoKit
import Derived.Test.YtpcdmfimjnhejaoPlainCur
import Derived.Deep.QuietTactic
import Derived.Deep.OwnRows
import Derived.Deep.RegionHeld3
import Derived.BigQuiet
import Derived.Test.YtpcdmfimjnhejaoVarTwo
namespace Go.Proofs.Ytpcdmfimjnhejao
open Go.RowKit

end Go.Proofs.Ytpcdmfimjnhejao
namespace Go.Proofs.Ytpcdmfimjnhejao
open Go.RowKit

end Go.Proofs.Ytpcdmfimjnhejao
namespace Go.Proofs.Ytpcdmfimjnhejao
open Go.RowKit

/-- How a cursor's making ends. -/
def DrewCur (a : Option Addr) (len cap : Nat) (w : World) (e : Ending) (w' : World) : Prop :=
  ∃ c : Nat, e = .returned (.pointer (some ⟨c, 0, none⟩)) ∧ w.heap.size ≤ c ∧ Cur c a len cap w' ∧ Below w.heap.size w w'

theorem drewCur_alloc (a : Option Addr) (len cap : Nat) (z : Int) (t : TypeId) (w : World) (H : Src a len w) :
    DrewCur a len cap w (.returned (.pointer (some ⟨w.heap.size, 0, none⟩))) (w.alloc (.cells #[.slice a len cap, .int .i64 0, .int .i64 z] t)) := by
  refine ⟨w.heap.size, rfl, Nat.le_refl _, ⟨H.few, by simp, ⟨0, Nat.zero_le _, by simp⟩, ⟨z, by simp⟩, by simp, by simp, fun j hj => ?_⟩, (Below.refl _ _).alloc (Nat.le_refl _) _⟩
  obtain ⟨b, off, x, ha, hs, hx, x0, x1⟩ := H.bytes j hj
  have hb := (Below.refl w.heap.size w).alloc (Nat.le_refl _) (.cells #[.slice a len cap, .int .i64 0, .int .i64 z] t)
  exact ⟨b, off, x, ha, hs, by rw [hb.cell (p := ⟨b, off + j, none⟩) hs]; exact hx, x0, x1⟩

end Go.Proofs.Ytpcdmfimjnhejao
namespace Go.Proofs.Ytpcdmfimjnhejao
open Go.RowKit

theorem infoByteD : (Try.prog.info? 5).map (fun i => (i.zero, i.size, i.bytes)) = some (some (.int .u8 0), 1, 1) := by kernel_rfl

theorem OwnB.only {c : Nat} {w w' : World} {base : Nat} {e : TypeId} {v : Value} {xs : List UInt8} (h : OwnB w base e v xs) (ho : Only c w w') (hc : c < base) : OwnB w' base e v xs := by
  have h' : w.ownsRow base e 1 v xs.length (Lib.byteCells xs) := h
  refine ⟨h'.1, ?_⟩
  rcases h'.2 with hn | ⟨g, cap, cur, hv, hb, hg, rest⟩
  · exact .inl hn
  · have hl : g < w.heap.size := by
      rcases Nat.lt_or_ge g w.heap.size with h2 | h2
      · exact h2
      · simp [Array.getElem?_eq_none h2] at hg
    exact .inr ⟨g, cap, cur, hv, hb, by rw [ho.block g hl (by omega)]; exact hg, rest⟩

/-- How a draw of a text ends. -/
def DrewText (n : Nat) (c : Nat) (a : Option Addr) (len cap : Nat) (w : World) (e : Ending) (w' : World) : Prop :=
  ∃ l : List UInt8, l.length = n ∧ e = .returned (.string ⟨l.toArray⟩) ∧ Cur c a len cap w' ∧ Only c w w'

theorem byte_num (x : Int) (h0 : 0 ≤ x) (h1 : x ≤ 255) : ∃ b : UInt8, x = (b.toNat : Int) := by
  refine ⟨UInt8.ofNat x.toNat, ?_⟩
  rw [UInt8.toNat_ofNat', Nat.mod_eq_of_lt (by omega)]
  omega

theorem set_getD (l : List UInt8) (k j : Nat) (b : UInt8) (hk : k < l.length) : (if j = k then Value.int .u8 (b.toNat : Nat) else .int .u8 ((l.getD j 0).toNat : Nat)) = .int .u8 (((l.set k b).getD j 0).toNat : Nat) := by
  by_cases h : j = k
  · subst h
    simp [hk]
  · rw [if_neg h]
    simp [Ne.symm h]
theorem row_at {w : World} {g n : Nat} {t : TypeId} {l : List UInt8} (h : w.rowIs g t n (fun j => .int .u8 ((l.getD j 0).toNat : Nat))) (hl : l.length = n) (j : Nat) (hj : j < l.length) : w.cell? ((⟨g, 0, none⟩ : Addr).add j) = some (.int .u8 (l[j].toNat : Nat)) := by
  have := h.cell (i := j) (by omega)
  have e : (⟨g, 0, none⟩ : Addr).add j = ⟨g, j, none⟩ := by unfold Addr.add; split <;> simp_all
  rw [e]
  simpa [hj] using this

end Go.Proofs.Ytpcdmfimjnhejao
namespace Go.Proofs.Ytpcdmfimjnhejao
open Go.RowKit

def numbers : List Int := [-1, 0, 127, 128, 16383, 16384, 1000000000, 1000000001, 9223372036854775807, -9223372036854775808]
theorem numbers_int (x : Int) (h : x ∈ numbers) : -9223372036854775808 ≤ x ∧ x ≤ 9223372036854775807 := by
  simp only [numbers, List.mem_cons, List.not_mem_nil, or_false] at h
  omega

end Go.Proofs.Ytpcdmfimjnhejao
namespace Go.Proofs.Ytpcdmfimjnhejao
open Go.RowKit

/-- How a draw of any int ends. -/
def DrewAny (c : Nat) (a : Option Addr) (len cap : Nat) (w : World) (e : Ending) (w' : World) : Prop :=
  ∃ x : Int, (-9223372036854775808 ≤ x ∧ x ≤ 9223372036854775807) ∧ e = .returned (.int .i64 x) ∧ Cur c a len cap w' ∧ Only c w w'

end Go.Proofs.Ytpcdmfimjnhejao
namespace Go.Proofs.Ytpcdmfimjnhejao
open Go.RowKit

end Go.Proofs.Ytpcdmfimjnhejao
namespace Go.Proofs.Ytpcdmfimjnhejao
open Go.RowKit

/-- A cursor, a result's variable and another one, of two cells each, behind what was there. -/
structure SD (c : Nat) (a : Option Addr) (len cap : Nat) (w : World) (t : TypeId) (q : Nat) (x y : Value) (X : World) : Prop where
  cur : Cur c a len cap X
  only : Only c w X
  res : VarP w.heap.size t (.int .i64 0) (.int .i64 0) X
  var : VarP q t x y X
  lt : w.heap.size < q
  cl : c < w.heap.size
theorem SD.step {c : Nat} {a : Option Addr} {len cap : Nat} {w : World} {t : TypeId} {q : Nat} {x y : Value} {X Y : World} (h : SD c a len cap w t q x y X) (hc : Cur c a len cap Y) (ho : Only c X Y) : SD c a len cap w t q x y Y :=
  ⟨hc, h.only.trans ho, h.res.only ho (by have := h.cl; omega), h.var.only ho (by have := h.cl; have := h.lt; omega), h.lt, h.cl⟩
theorem SD.next {c : Nat} {a : Option Addr} {len cap : Nat} {w : World} {t : TypeId} {q : Nat} {x y : Value} {X Y : World} (h : SD c a len cap w t q x y X) (hb : Below X.heap.size X Y) : SD c a len cap w t q x y Y :=
  ⟨h.cur.below hb, h.only.trans (.of_below hb), h.res.next hb, h.var.next hb, h.lt, h.cl⟩
theorem SD.set0 {c : Nat} {a : Option Addr} {len cap : Nat} {w : World} {t : TypeId} {q : Nat} {x y : Value} {X : World} (h : SD c a len cap w t q x y X) (v : Value) : SD c a len cap w t q v y (X.setCell ⟨q, 0, none⟩ v) := by
  have hq : w.heap.size ≤ q := Nat.le_of_lt h.lt
  have hb : Below w.heap.size X (X.setCell ⟨q, 0, none⟩ v) := (Below.refl _ X).setCell (p := ⟨q, 0, none⟩) hq v
  exact ⟨h.cur.kept hb h.cl, h.only.behind hb, h.res.only (Only.setCell 0 v) (by have := h.lt; omega), h.var.set0 v, h.lt, h.cl⟩
theorem SD.set1 {c : Nat} {a : Option Addr} {len cap : Nat} {w : World} {t : TypeId} {q : Nat} {x y : Value} {X : World} (h : SD c a len cap w t q x y X) (v : Value) : SD c a len cap w t q x v (X.setCell ⟨q, 1, none⟩ v) := by
  have hq : w.heap.size ≤ q := Nat.le_of_lt h.lt
  have hb : Below w.heap.size X (X.setCell ⟨q, 1, none⟩ v) := (Below.refl _ X).setCell (p := ⟨q, 1, none⟩) hq v
  exact ⟨h.cur.kept hb h.cl, h.only.behind hb, h.res.only (Only.setCell 1 v) (by have := h.lt; omega), h.var.set1 v, h.lt, h.cl⟩
/-- The result is stored. -/
theorem SD.store {c : Nat} {a : Option Addr} {len cap : Nat} {w : World} {t : TypeId} {q : Nat} {x y : Value} {X : World} (h : SD c a len cap w t q x y X) (u v : Value) :
    (Cur c a len cap ((X.setCell ⟨w.heap.size, 0, none⟩ u).setCell ⟨w.heap.size, 1, none⟩ v) ∧ Only c w ((X.setCell ⟨w.heap.size, 0, none⟩ u).setCell ⟨w.heap.size, 1, none⟩ v)) ∧ VarP w.heap.size t u v ((X.setCell ⟨w.heap.size, 0, none⟩ u).setCell ⟨w.heap.size, 1, none⟩ v) := by
  have hb : Below w.heap.size X ((X.setCell ⟨w.heap.size, 0, none⟩ u).setCell ⟨w.heap.size, 1, none⟩ v) := ((Below.refl _ X).setCell (p := ⟨w.heap.size, 0, none⟩) (Nat.le_refl _) u).setCell (p := ⟨w.heap.size, 1, none⟩) (Nat.le_refl _) v
  exact ⟨⟨h.cur.kept hb h.cl, h.only.behind hb⟩, h.res.set2 u v⟩

end Go.Proofs.Ytpcdmfimjnhejao
