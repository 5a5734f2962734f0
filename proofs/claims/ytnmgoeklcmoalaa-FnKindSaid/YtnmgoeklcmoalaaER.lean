/-
  The walk of FnRelEnds, out of the contracts of the draw, of RelEnds and of RelTurned; for whatever bytes.
-/
import Derived.Test.YtnmgoeklcmoalaaDI
import Derived.Test.YtnmgoeklcmoalaaEC
import Derived.Test.YtnmgoeklcmoalaaSI
namespace Go.Proofs.Ytnmgoeklcmoalaa
open Go.RowKit

end Go.Proofs.Ytnmgoeklcmoalaa
