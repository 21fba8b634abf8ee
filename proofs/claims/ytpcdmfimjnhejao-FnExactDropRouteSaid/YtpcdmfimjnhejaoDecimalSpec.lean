/-
  The given Decimal by what it answers at every number.
-/
import Derived.Test.YtpcdmfimjnhejaoFigure
import Derived.Test.YtpcdmfimjnhejaoPlainAll
namespace Go.Proofs.Ytpcdmfimjnhejao
open Go.RowKit

end Go.Proofs.Ytpcdmfimjnhejao
