/-
  The walk of FnRelEnds, out of the contracts of the draw, of RelEnds and of RelTurned; for whatever bytes.
-/
import Derived.Test.YtghkeaepjckcdaaDI
import Derived.Test.YtghkeaepjckcdaaEC
import Derived.Test.YtghkeaepjckcdaaSI
namespace Go.Proofs.Ytghkeaepjckcdaa
open Go.RowKit

end Go.Proofs.Ytghkeaepjckcdaa
