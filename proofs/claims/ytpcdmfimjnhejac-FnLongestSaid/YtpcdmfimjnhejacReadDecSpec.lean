/-
  The given ReadDecimal by what it answers at every text.
-/
import Derived.Test.YtpcdmfimjnhejacDecimalSpec
import Derived.Test.YtpcdmfimjnhejacPlainAll
namespace Go.Proofs.Ytpcdmfimjnhejac
open Go.RowKit

end Go.Proofs.Ytpcdmfimjnhejac
