/-
  Contracts of the program's madeOfOne, twoRelationsFrom, madeOfTwo, RelOther, RelEither and RelBoth; for lists of at most 2^20 numbers.
-/
import Derived.Test.YtcdiicckngndcaaJ
namespace Go.Proofs.Ytcdiicckngndcaa
open Go.RowKit

theorem own_mono {w : World} {B B' : Nat} {e : TypeId} {size : Nat} {v : Value} {n : Nat} {xs : List Value} (h : w.ownsRow B e size v n xs) (hB : B' ≤ B) : w.ownsRow B' e size v n xs := by
  refine ⟨h.1, ?_⟩
  rcases h.2 with h2 | ⟨g, cap, cur, h1, h2, h3⟩
  · exact .inl h2
  · exact .inr ⟨g, cap, cur, h1, Nat.le_trans hB h2, h3⟩

end Go.Proofs.Ytcdiicckngndcaa
