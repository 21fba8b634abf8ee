/-
  Texts that are drawn: of drawn bytes; of one byte many times.
-/
import Derived.Test.YtlgleodljfgecabDrawBelow
import Derived.Deep.OwnRows
namespace Go.Proofs.Ytlgleodljfgecab
open Go.RowKit

theorem infoByteD : (Try.prog.info? 5).map (fun i => (i.zero, i.size, i.bytes)) = some (some (.int .u8 0), 1, 1) := by kernel_rfl

theorem OwnB.only {c : Nat} {w w' : World} {base : Nat} {e : TypeId} {v : Value} {xs : List UInt8} (h : OwnB w base e v xs) (ho : Only c w w') (hc : c < base) : OwnB w' base e v xs := by
  have h' : w.ownsRow base e 1 v xs.length (Lib.byteCells xs) := h
  refine ⟨h'.1, ?_⟩
  rcases h'.2 with hn | ⟨g, cap, cur, hv, hb, hg, rest⟩
  · exact .inl hn
  · have hl : g < w.heap.size := by
      rcases Nat.lt_or_ge g w.heap.size with h2 | h2
      · exact h2
      · simp [Array.getElem?_eq_none h2] at hg
    exact .inr ⟨g, cap, cur, hv, hb, by rw [ho.block g hl (by omega)]; exact hg, rest⟩

/-- How a draw of a text ends. -/
def DrewText (n : Nat) (c : Nat) (a : Option Addr) (len cap : Nat) (w : World) (e : Ending) (w' : World) : Prop :=
  ∃ l : List UInt8, l.length = n ∧ e = .returned (.string ⟨l.toArray⟩) ∧ Cur c a len cap w' ∧ Only c w w'

theorem byte_num (x : Int) (h0 : 0 ≤ x) (h1 : x ≤ 255) : ∃ b : UInt8, x = (b.toNat : Int) := by
  refine ⟨UInt8.ofNat x.toNat, ?_⟩
  rw [UInt8.toNat_ofNat', Nat.mod_eq_of_lt (by omega)]
  omega

theorem set_getD (l : List UInt8) (k j : Nat) (b : UInt8) (hk : k < l.length) : (if j = k then Value.int .u8 (b.toNat : Nat) else .int .u8 ((l.getD j 0).toNat : Nat)) = .int .u8 (((l.set k b).getD j 0).toNat : Nat) := by
  by_cases h : j = k
  · subst h
    simp [hk]
  · rw [if_neg h]
    simp [Ne.symm h]
theorem row_at {w : World} {g n : Nat} {t : TypeId} {l : List UInt8} (h : w.rowIs g t n (fun j => .int .u8 ((l.getD j 0).toNat : Nat))) (hl : l.length = n) (j : Nat) (hj : j < l.length) : w.cell? ((⟨g, 0, none⟩ : Addr).add j) = some (.int .u8 (l[j].toNat : Nat)) := by
  have := h.cell (i := j) (by omega)
  have e : (⟨g, 0, none⟩ : Addr).add j = ⟨g, j, none⟩ := by unfold Addr.add; split <;> simp_all
  rw [e]
  simpa [hj] using this

end Go.Proofs.Ytlgleodljfgecab
