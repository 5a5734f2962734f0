/-
  The draw of two relations, the second one often a composition of the first one: for the law of solutions.
-/
import Derived.Test.YtnmgoeklcmoalabGC
namespace Go.Proofs.Ytnmgoeklcmoalab
open Go.RowKit

theorem keepT {w w' : World} {lo n : Nat} {v : Value} {us : List Value} (h : w.ownsRow lo 3 1 v n us) (hb : Below w.heap.size w w') : w'.ownsRow lo 3 1 v n us :=
  own_keep h hb fun k e => (h.lt k e).2
end Go.Proofs.Ytnmgoeklcmoalab
