/-
  Words that may be an address or a prefix, drawn; some addresses and a prefix, drawn.
-/
import Derived.Test.YtpcdmfimjnhejaoDrawPrefix
import Derived.Test.YtpcdmfimjnhejaoDrawPlaces
namespace Go.Proofs.Ytpcdmfimjnhejao
open Go.RowKit

def addrWords : List ByteArray := [⟨#[]⟩, ⟨#[49, 46, 50, 46, 51]⟩, ⟨#[49, 46, 50, 46, 51, 46, 52, 46, 53]⟩, ⟨#[49, 46, 50, 46, 51, 46, 50, 53, 54]⟩, ⟨#[49, 46, 50, 46, 46, 51]⟩, ⟨#[48, 49, 46, 50, 46, 51, 46, 52]⟩, ⟨#[97, 46, 98, 46, 99, 46, 100]⟩, ⟨#[48, 46, 48, 46, 48, 46, 48]⟩]
theorem addrWords_few (t : ByteArray) (h : t ∈ addrWords) : t.size ≤ 1001 := by
  simp only [addrWords, List.mem_cons, List.not_mem_nil, or_false] at h
  rcases h with rfl | rfl | rfl | rfl | rfl | rfl | rfl | rfl <;> decide
def prefWords : List ByteArray := [⟨#[]⟩, ⟨#[49, 46, 50, 46, 51, 46, 52]⟩, ⟨#[49, 46, 50, 46, 51, 46, 52, 47, 51, 51]⟩, ⟨#[49, 46, 50, 46, 51, 46, 52, 47, 56]⟩, ⟨#[48, 46, 48, 46, 48, 46, 48, 47, 48]⟩, ⟨#[49, 46, 50, 46, 51, 46, 52, 47, 51, 50, 47]⟩, ⟨#[49, 46, 50, 46, 51, 46, 52, 47, 48, 51, 50]⟩]
theorem prefWords_few (t : ByteArray) (h : t ∈ prefWords) : t.size ≤ 1001 := by
  simp only [prefWords, List.mem_cons, List.not_mem_nil, or_false] at h
  rcases h with rfl | rfl | rfl | rfl | rfl | rfl | rfl <;> decide

/-- How a draw of addresses and a prefix ends. -/
def DrewAddrs (w : World) (e : Ending) (w' : World) : Prop :=
  ∃ (g cap : Nat) (zs : List Int) (x n : Nat), zs.length = 6 ∧ (∀ z ∈ zs, 167772160 ≤ z ∧ z ≤ 167773183) ∧ PrefOk x n ∧ e = .returned (.tuple #[.slice (some ⟨g, 0, none⟩) 6 cap, .agg #[.int .i64 x, .int .i64 n]]) ∧ g < w'.heap.size ∧ (∀ j, j < 6 → w'.cell? ⟨g, j, none⟩ = some (.int .i64 (zs.getD j 0))) ∧ Below w.heap.size w w'

/-- The same, the row being the call's own. -/
def DrewOwn (w : World) (e : Ending) (w' : World) : Prop :=
  ∃ (g cap : Nat) (zs : List Int) (x n : Nat), zs.length = 6 ∧ (∀ z ∈ zs, 167772160 ≤ z ∧ z ≤ 167773183) ∧ PrefOk x n ∧ e = .returned (.tuple #[.slice (some ⟨g, 0, none⟩) 6 cap, .agg #[.int .i64 x, .int .i64 n]]) ∧ OwnI w' w.heap.size 3 (.slice (some ⟨g, 0, none⟩) 6 cap) zs ∧ Below w.heap.size w w'
theorem OwnI.lower {w : World} {base base' : Nat} {e : TypeId} {v : Value} {xs : List Int} (h : OwnI w base e v xs) (hb : base' ≤ base) : OwnI w base' e v xs := by
  have h' : w.ownsRow base e 1 v xs.length (xs.map (Value.int .i64)) := h
  refine ⟨h'.1, ?_⟩
  rcases h'.2 with hn | ⟨g, cap, cur, hv, hg, rest⟩
  · exact .inl hn
  · exact .inr ⟨g, cap, cur, hv, Nat.le_trans hb hg, rest⟩

end Go.Proofs.Ytpcdmfimjnhejao
