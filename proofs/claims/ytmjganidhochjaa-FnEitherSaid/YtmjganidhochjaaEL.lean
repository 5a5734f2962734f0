/-
  The model's CompReach, CompPower, l2Star, CompStar; for lists of at most 2^20 numbers.
-/
import Derived.Test.YtmjganidhochjaaEB
import Derived.Test.YtmjganidhochjaaEF
namespace Go.Proofs.Ytmjganidhochjaa
open Go.RowKit

end Go.Proofs.Ytmjganidhochjaa
