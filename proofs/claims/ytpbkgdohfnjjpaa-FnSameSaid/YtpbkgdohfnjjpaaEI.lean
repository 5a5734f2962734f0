/-
  The program's CompPower; for lists of at most 2^20 numbers.
-/
import Derived.Test.YtpbkgdohfnjjpaaEK
import Derived.Test.YtpbkgdohfnjjpaaEN
namespace Go.Proofs.Ytpbkgdohfnjjpaa
open Go.RowKit

end Go.Proofs.Ytpbkgdohfnjjpaa
