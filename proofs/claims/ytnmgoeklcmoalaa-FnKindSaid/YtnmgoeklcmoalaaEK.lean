/-
  The program's powers, at a place.
-/
import Derived.Test.YtnmgoeklcmoalaaEH
import Derived.Deep.RegionHeld3
namespace Go.Proofs.Ytnmgoeklcmoalaa
open Go.RowKit

end Go.Proofs.Ytnmgoeklcmoalaa
