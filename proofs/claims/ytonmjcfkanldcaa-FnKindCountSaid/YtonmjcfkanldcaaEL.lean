/-
  The model's CompReach, CompPower, l2Star, CompStar; for lists of at most 2^20 numbers.
-/
import Derived.Test.YtonmjcfkanldcaaEB
import Derived.Test.YtonmjcfkanldcaaEF
namespace Go.Proofs.Ytonmjcfkanldcaa
open Go.RowKit

end Go.Proofs.Ytonmjcfkanldcaa
