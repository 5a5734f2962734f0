/-
  The walk of FnRelEnds, out of the contracts of the draw, of RelEnds and of RelTurned; for whatever bytes.
-/
import Derived.Test.YtpbkgdohfnjjpabDI
import Derived.Test.YtpbkgdohfnjjpabEC
import Derived.Test.YtpbkgdohfnjjpabSI
namespace Go.Proofs.Ytpbkgdohfnjjpab
open Go.RowKit

end Go.Proofs.Ytpbkgdohfnjjpab
