/-
  Addresses and prefixes that are drawn.
-/
import Derived.Test.YtpcdmfimjnhejaoDrawAll
import Derived.Test.YtpcdmfimjnhejaoReadPrefixSpec
namespace Go.Proofs.Ytpcdmfimjnhejao
open Go.RowKit

def addrEdges : List Int := [0, 4294967295, 4294967296, -1]
theorem addrEdges_few (x : Int) (h : x ∈ addrEdges) : -1 ≤ x ∧ x ≤ 4294967296 := by
  simp only [addrEdges, List.mem_cons, List.not_mem_nil, or_false] at h
  omega
def lenEdges : List Int := [0, 8, 22, 24, 25, 26, 28, 29, 30, 31, 32]
theorem lenEdges_in (x : Int) (h : x ∈ lenEdges) : ∃ n : Nat, x = n ∧ n ≤ 32 := by
  simp only [lenEdges, List.mem_cons, List.not_mem_nil, or_false] at h
  exact ⟨x.toNat, by omega, by omega⟩

theorem firstP_ok (a n : Nat) (ha : a ≤ 4294967295) (hn : n ≤ 32) : PrefOk (firstP a n : Nat) n :=
  prefOk_nat _ _ (by have := firstP_le a n; omega) hn (firstP_mod a n)

end Go.Proofs.Ytpcdmfimjnhejao
