/-
  The given figure of a worth below 16.
-/
import Derived.Test.YtpcdmfimjnhejaoRows
import Derived.Test.YtpcdmfimjnhejaoKit
import Derived.Test.YtpcdmfimjnhejaoPlainAll
namespace Go.Proofs.Ytpcdmfimjnhejao
open Go.RowKit

theorem ret_u8 {a b : Int} (h : a = b) : Ending.returned (.int .u8 a) = .returned (.int .u8 b) := by rw [h]

end Go.Proofs.Ytpcdmfimjnhejao
