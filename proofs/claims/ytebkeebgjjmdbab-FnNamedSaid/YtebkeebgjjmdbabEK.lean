/-
  The program's powers, at a place.
-/
import Derived.Test.YtebkeebgjjmdbabEN
import Derived.Deep.RegionHeld3
namespace Go.Proofs.Ytebkeebgjjmdbab
open Go.RowKit

end Go.Proofs.Ytebkeebgjjmdbab
