/-
  The model's CompReach, CompPower, l2Star, CompStar; for lists of at most 2^20 numbers.
-/
import Derived.Test.YtpcbmijencboiaaEB
import Derived.Test.YtpcbmijencboiaaEF
namespace Go.Proofs.Ytpcbmijencboiaa
open Go.RowKit

end Go.Proofs.Ytpcbmijencboiaa
