/-
  The program's CompPower; for lists of at most 2^20 numbers.
-/
import Derived.Test.YtmjganidhochjaaEK
import Derived.Test.YtmjganidhochjaaEL
namespace Go.Proofs.Ytmjganidhochjaa
open Go.RowKit

end Go.Proofs.Ytmjganidhochjaa
