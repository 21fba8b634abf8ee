/-
  Prefixes that are drawn, right or not; words that may be an address or a prefix.
-/
import Derived.Test.YtpcdmfimjnhejaoDrawAddr
import Derived.Deep.LoopGhost
import Derived.Deep.DeepCutAuto
namespace Go.Proofs.Ytpcdmfimjnhejao
open Go.RowKit

def addrSteps : List Int := [1, -1, 4294967296]
theorem addrSteps_few (x : Int) (h : x ∈ addrSteps) : -1 ≤ x ∧ x ≤ 4294967296 := by
  simp only [addrSteps, List.mem_cons, List.not_mem_nil, or_false] at h
  omega
def lenOdd : List Int := [-1, 0, 32, 33]
theorem SD.drew {c : Nat} {a : Option Addr} {len cap : Nat} {w : World} {t : TypeId} {q : Nat} {x y : Value} {X : World} (h : SD c a len cap w t q x y X) : SD c a len cap w t q x y X.drew := h.next ((Below.refl _ X).drew)

end Go.Proofs.Ytpcdmfimjnhejao
