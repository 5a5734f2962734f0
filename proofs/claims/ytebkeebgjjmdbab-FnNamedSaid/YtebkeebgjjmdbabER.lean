/-
  The walk of FnRelEnds, out of the contracts of the draw, of RelEnds and of RelTurned; for whatever bytes.
-/
import Derived.Test.YtebkeebgjjmdbabDF
import Derived.Test.YtebkeebgjjmdbabEC
import Derived.Test.YtebkeebgjjmdbabSI
namespace Go.Proofs.Ytebkeebgjjmdbab
open Go.RowKit

end Go.Proofs.Ytebkeebgjjmdbab
