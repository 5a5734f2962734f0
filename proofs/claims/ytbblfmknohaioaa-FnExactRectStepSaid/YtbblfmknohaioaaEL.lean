/-
  The model's CompReach, CompPower, l2Star, CompStar; for lists of at most 2^20 numbers.
-/
import Derived.Test.YtbblfmknohaioaaEB
import Derived.Test.YtbblfmknohaioaaEF
namespace Go.Proofs.Ytbblfmknohaioaa
open Go.RowKit

end Go.Proofs.Ytbblfmknohaioaa
