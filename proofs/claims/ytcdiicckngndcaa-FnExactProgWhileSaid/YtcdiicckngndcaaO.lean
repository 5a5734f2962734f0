/-
  Contracts of the program's madeOfTwo, RelEither, RelBoth, below and RelBelow, and of the model's l1Below and RelBelow; for lists of at most 2^20 numbers.
-/
import Derived.Test.YtcdiicckngndcaaN
namespace Go.Proofs.Ytcdiicckngndcaa
open Go.RowKit

theorem cf_either (args : Array Value) (w : World) : Sem.run Try.prog (callFunc 74 args) w = .ok (.enter 74 args) w := by kernel_rfl

/-- each row of the first one is a part of the second one's -/
def belowB (xs ys : List Int) : Bool := (zipI (bits .andNot .i64) xs ys).all (fun x => x == 0)

end Go.Proofs.Ytcdiicckngndcaa
