/-
  Residuals: the program's leftResidual, rightResidual, CompLeft, CompRight, and the model's.
-/
import Derived.Test.YtgmjdkhegbdbjaaED
namespace Go.Proofs.Ytgmjdkhegbdbjaa
open Go.RowKit

/-! the model's -/
/-- a call of the model's that gives a list of its own -/
def GaveL (w : World) (r : List Int) (e : Ending) (w' : World) : Prop :=
  ∃ v, e = .returned v ∧ w'.ownsRow w.heap.size 3 1 v r.length (r.map (Value.int .i64)) ∧ Below w.heap.size w w'
theorem GaveL.form {w : World} {r : List Int} {v : Value} {w' : World} (ho : w'.ownsRow w.heap.size 3 1 v r.length (r.map (Value.int .i64))) (hn : 1 ≤ r.length) : ∃ g cap, v = .slice (some ⟨g, 0, none⟩) r.length cap ∧ w.heap.size ≤ g ∧ g < w'.heap.size ∧ Rd w' (some ⟨g, 0, none⟩) r := by
  obtain ⟨g, cap, rfl, h1, h2⟩ := own_form ho hn
  exact ⟨g, cap, rfl, h1, h2, rd_own ho rfl⟩

end Go.Proofs.Ytgmjdkhegbdbjaa
