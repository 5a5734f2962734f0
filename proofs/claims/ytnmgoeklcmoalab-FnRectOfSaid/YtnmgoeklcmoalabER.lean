/-
  The walk of FnRelEnds, out of the contracts of the draw, of RelEnds and of RelTurned; for whatever bytes.
-/
import Derived.Test.YtnmgoeklcmoalabDI
import Derived.Test.YtnmgoeklcmoalabEC
import Derived.Test.YtnmgoeklcmoalabSI
namespace Go.Proofs.Ytnmgoeklcmoalab
open Go.RowKit

end Go.Proofs.Ytnmgoeklcmoalab
