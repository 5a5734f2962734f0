/-
  The draw of two relations: l91Two, DrawCompOf.
-/
import Derived.Test.YtebkeebgjjmdbabDH
import Derived.Test.YtebkeebgjjmdbabDF
namespace Go.Proofs.Ytebkeebgjjmdbab
open Go.RowKit

/-- what a draw of two gives: two lists of its own, of at most 5 numbers -/
def Drew2 (w : World) (e : Ending) (w' : World) : Prop :=
  ∃ (v u : Value) (rs ss : List Int), e = .returned (.tuple #[v, u]) ∧ rs.length ≤ 5 ∧ ss.length ≤ 5 ∧ w'.ownsRow w.heap.size 3 1 v rs.length (rs.map (Value.int .i64)) ∧ w'.ownsRow w.heap.size 3 1 u ss.length (ss.map (Value.int .i64)) ∧ Below w.heap.size w w'

theorem own_oth {w w' : World} {lo R n : Nat} {v : Value} {us : List Value} (h : w.ownsRow lo 3 1 v n us) (hR : R < lo) (hk : ∀ b, b < w.heap.size → b ≠ R → w'.heap[b]? = w.heap[b]?) : w'.ownsRow lo 3 1 v n us := by
  refine ⟨h.1, ?_⟩
  rcases h.2 with h2 | ⟨g, cap, cur, rfl, h2, h3, h4⟩
  · exact .inl h2
  · exact .inr ⟨g, cap, cur, rfl, h2, (hk g (h.lt g rfl).2 (by omega)).trans h3, h4⟩

end Go.Proofs.Ytebkeebgjjmdbab
