/-
  Right routes that are drawn.
-/
import Derived.Test.YtpcdmfimjnhejaoPlainRoutes
import Derived.Test.YtpcdmfimjnhejaoDrawAddr
namespace Go.Proofs.Ytpcdmfimjnhejao
open Go.RowKit

theorem put_to (xs : List Rt) (r : Rt) (h : ∀ x ∈ xs, x.2.2 ≤ 4) (hr : r.2.2 ≤ 4) : ∀ x ∈ putP xs r, x.2.2 ≤ 4 := fun x hx => by
  unfold putP at hx
  rcases List.mem_append.1 hx with hx | hx
  · rcases List.mem_append.1 hx with hx | hx
    · exact h x (List.mem_filter.1 hx).1
    · rw [List.mem_singleton.1 hx]
      exact hr
  · exact h x (List.mem_filter.1 hx).1

end Go.Proofs.Ytpcdmfimjnhejao
