/-
  The program's powers, at a place.
-/
import Derived.Test.YtpbkgdohfnjjpaaEH
import Derived.Deep.RegionHeld3
namespace Go.Proofs.Ytpbkgdohfnjjpaa
open Go.RowKit

end Go.Proofs.Ytpbkgdohfnjjpaa
