/-
  The draw of one relation: l91Some, DrawRelEnds.
-/
import Derived.Test.YtcdiicckngndcabDE
namespace Go.Proofs.Ytcdiicckngndcab
open Go.RowKit

/-- what a draw gives: a list of its own, of at most 4 numbers -/
def Drew (w : World) (e : Ending) (w' : World) : Prop :=
  ∃ (v : Value) (rs : List Int), e = .returned v ∧ rs.length ≤ 4 ∧ w'.ownsRow w.heap.size 3 1 v rs.length (rs.map (Value.int .i64)) ∧ Below w.heap.size w w'

end Go.Proofs.Ytcdiicckngndcab
