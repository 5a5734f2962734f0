/-
  The program's CompPower; for lists of at most 2^20 numbers.
-/
import Derived.Test.YtebkeebgjjmdbabEK
import Derived.Test.YtebkeebgjjmdbabEN
namespace Go.Proofs.Ytebkeebgjjmdbab
open Go.RowKit

end Go.Proofs.Ytebkeebgjjmdbab
