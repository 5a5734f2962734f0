/-
  The program's powers, at a place.
-/
import Derived.Test.YtmjganidhochjaaEH
import Derived.Deep.RegionHeld3
namespace Go.Proofs.Ytmjganidhochjaa
open Go.RowKit

end Go.Proofs.Ytmjganidhochjaa
