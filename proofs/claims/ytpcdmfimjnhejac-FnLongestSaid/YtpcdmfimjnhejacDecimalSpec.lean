/-
  The given Decimal by what it answers at every number.
-/
import Derived.Test.YtpcdmfimjnhejacFigure
import Derived.Test.YtpcdmfimjnhejacPlainAll
namespace Go.Proofs.Ytpcdmfimjnhejac
open Go.RowKit

end Go.Proofs.Ytpcdmfimjnhejac
