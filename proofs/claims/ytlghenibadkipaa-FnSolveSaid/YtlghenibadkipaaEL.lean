/-
  The model's CompReach, CompPower, l2Star, CompStar; for lists of at most 2^20 numbers.
-/
import Derived.Test.YtlghenibadkipaaEB
import Derived.Test.YtlghenibadkipaaEF
namespace Go.Proofs.Ytlghenibadkipaa
open Go.RowKit

end Go.Proofs.Ytlghenibadkipaa
