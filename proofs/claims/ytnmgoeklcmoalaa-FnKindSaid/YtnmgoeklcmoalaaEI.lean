/-
  The program's CompPower; for lists of at most 2^20 numbers.
-/
import Derived.Test.YtnmgoeklcmoalaaEK
import Derived.Test.YtnmgoeklcmoalaaEN
namespace Go.Proofs.Ytnmgoeklcmoalaa
open Go.RowKit

end Go.Proofs.Ytnmgoeklcmoalaa
