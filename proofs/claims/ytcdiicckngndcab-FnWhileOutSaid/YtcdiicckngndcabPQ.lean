/-
  The model's answers and the program's, said alike: sets of programs, triples, programs by tests; for lists of at most 2^20 numbers.
-/
import Derived.Test.YtcdiicckngndcabPJ
import Derived.Test.YtcdiicckngndcabPK
namespace Go.Proofs.Ytcdiicckngndcab
open Go.RowKit

theorem setJ_eq (xs : List Int) (z m : Int) : setJ xs z m = setI xs z m := rfl
theorem triC_eq (z : Int) (xs : List Int) (q : Int) : triC z xs q = triB z xs q := rfl
theorem ifC_eq (z : Int) (xs ys : List Int) : ifC z xs ys = ifB z xs ys := rfl
end Go.Proofs.Ytcdiicckngndcab
