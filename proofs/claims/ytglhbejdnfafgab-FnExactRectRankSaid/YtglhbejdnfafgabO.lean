/-
  Contracts of the program's madeOfTwo, RelEither, RelBoth, below and RelBelow, and of the model's l1Below and RelBelow; for lists of at most 2^20 numbers.
-/
import Derived.Test.YtglhbejdnfafgabN
namespace Go.Proofs.Ytglhbejdnfafgab
open Go.RowKit

/-- each row of the first one is a part of the second one's -/
def belowB (xs ys : List Int) : Bool := (zipI (bits .andNot .i64) xs ys).all (fun x => x == 0)

end Go.Proofs.Ytglhbejdnfafgab
