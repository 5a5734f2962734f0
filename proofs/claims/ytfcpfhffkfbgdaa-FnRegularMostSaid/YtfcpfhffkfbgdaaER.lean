/-
  The walk of FnRelEnds, out of the contracts of the draw, of RelEnds and of RelTurned; for whatever bytes.
-/
import Derived.Test.YtfcpfhffkfbgdaaDF
import Derived.Test.YtfcpfhffkfbgdaaEC
import Derived.Test.YtfcpfhffkfbgdaaSI
namespace Go.Proofs.Ytfcpfhffkfbgdaa
open Go.RowKit

end Go.Proofs.Ytfcpfhffkfbgdaa
