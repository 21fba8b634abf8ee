/-
  Plain mathematics of figures: two for each byte, and back; no program is spoken of here.
-/
import Derived.WalkKit
namespace Go.Proofs.YtogmmilfdolpnakDoor

/-- The figure of a worth below 16. -/
def fig (x : Nat) : UInt8 := if x < 10 then UInt8.ofNat (48 + x) else UInt8.ofNat (87 + x)

def hexOf (l : List UInt8) : List UInt8 := l.flatMap fun b => [fig (b.toNat / 16), fig (b.toNat % 16)]

theorem hexOf_snoc (l : List UInt8) (b : UInt8) : hexOf (l ++ [b]) = hexOf l ++ [fig (b.toNat / 16), fig (b.toNat % 16)] := by simp [hexOf]

theorem hexOf_length (l : List UInt8) : (hexOf l).length = 2 * l.length := by
  induction l with
  | nil => rfl
  | cons b l ih =>
    have e : hexOf (b :: l) = fig (b.toNat / 16) :: fig (b.toNat % 16) :: hexOf l := rfl
    rw [e, List.length_cons, List.length_cons, List.length_cons, ih]
    omega

theorem fig_toNat (x : Nat) (h : x < 16) : (fig x).toNat = if x < 10 then 48 + x else 87 + x := by
  unfold fig
  split <;> simp <;> omega

theorem take_snoc (s : ByteArray) (k : Nat) (h : k < s.size) : s.data.toList.take (k + 1) = s.data.toList.take k ++ [s[k]] := by
  rw [List.take_succ_eq_append_getElem (by simpa using h)]; rfl

theorem figs_get : ∀ (q : Nat) (h : q < 16), ((⟨#[48, 49, 50, 51, 52, 53, 54, 55, 56, 57, 97, 98, 99, 100, 101, 102]⟩ : ByteArray)[q]'(by exact h)) = fig q := by
  intro q h
  have : ∀ q : Fin 16, ((⟨#[48, 49, 50, 51, 52, 53, 54, 55, 56, 57, 97, 98, 99, 100, 101, 102]⟩ : ByteArray)[q.1]'(by exact q.2)) = fig q.1 := by decide
  exact this ⟨q, h⟩

theorem figs_int (q : Nat) (h : (q : Int) < 16) : ((((⟨#[48, 49, 50, 51, 52, 53, 54, 55, 56, 57, 97, 98, 99, 100, 101, 102]⟩ : ByteArray)[q]'(show q < 16 by omega)).toNat : Nat) : Int) = ((fig q).toNat : Int) := by
  rw [figs_get q (by omega)]

end Go.Proofs.YtogmmilfdolpnakDoor
