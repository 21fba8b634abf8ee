/-
  The law on the longest route that has an address: its walk, out of the program's LookUp.
-/
import Derived.Test.YtpcdmfimjnhejaoLookSpec
import Derived.Test.YtpcdmfimjnhejaoDrawRoutes
namespace Go.Proofs.Ytpcdmfimjnhejao
open Go.RowKit

theorem routes_nil : RoutesP [] := ⟨fun j hj => absurd hj (by simp), by simp⟩

end Go.Proofs.Ytpcdmfimjnhejao
