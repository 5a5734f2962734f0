/-
  The walk of FnRelEnds, out of the contracts of the draw, of RelEnds and of RelTurned; for whatever bytes.
-/
import Derived.Test.YtpbkgdohfnjjpaaDI
import Derived.Test.YtpbkgdohfnjjpaaEC
import Derived.Test.YtpbkgdohfnjjpaaSI
namespace Go.Proofs.Ytpbkgdohfnjjpaa
open Go.RowKit

end Go.Proofs.Ytpbkgdohfnjjpaa
