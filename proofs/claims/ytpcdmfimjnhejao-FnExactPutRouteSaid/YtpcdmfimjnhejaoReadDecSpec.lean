/-
  The given ReadDecimal by what it answers at every text.
-/
import Derived.Test.YtpcdmfimjnhejaoDecimalSpec
import Derived.Test.YtpcdmfimjnhejaoPlainAll
namespace Go.Proofs.Ytpcdmfimjnhejao
open Go.RowKit

end Go.Proofs.Ytpcdmfimjnhejao
