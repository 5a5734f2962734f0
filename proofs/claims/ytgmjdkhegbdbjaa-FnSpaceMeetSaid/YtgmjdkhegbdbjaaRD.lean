/-
  Draws with a relation and a set, a number or points: l91Set, DrawCompPower, DrawCompFar, and the draws made of l91Some and l91Set.
-/
import Derived.Test.YtgmjdkhegbdbjaaDF
import Derived.Deep.RegionHeldLaw
namespace Go.Proofs.Ytgmjdkhegbdbjaa
open Go.RowKit

/-- the reader's place, set -/
theorem RdrAt.at {w : World} {R : Nat} {ao : Option Addr} {n c p : Nat} (h : RdrAt w R ao n c p) (q : Nat) : RdrAt (w.setCell ⟨R, 1, none⟩ (.int .i64 (q : Nat))) R ao n c q := by
  unfold RdrAt
  have hlt : R < w.heap.size := (Array.getElem?_eq_some_iff.1 h).1
  have h2 : w.heap[R] = .cells #[.slice ao n c, .int .i64 p] 66 := (Array.getElem?_eq_some_iff.1 h).2
  simp [World.setCell, hlt, h2, Array.getElem_modify]
theorem RdrAt.at61 {w : World} {R : Nat} {ao : Option Addr} {n c p : Nat} (h : RdrAt w R ao n c p) : RdrAt (w.setCell ⟨R, 1, none⟩ (.int .i64 61)) R ao n c 61 := h.at 61
theorem wrapMore (n j : Nat) (h4 : n ≤ 4) (hj : j < 24) : IntKind.i64.wrap (IntKind.i64.wrap (2 ^ n) + IntKind.i64.wrap ((j : Int) / 23)) = ((2 ^ n + j / 23 : Nat) : Int) := by
  have e : (j : Int) / 23 = ((j / 23 : Nat) : Int) := by omega
  rw [e]
  have hj2 : j / 23 = 0 ∨ j / 23 = 1 := by omega
  rcases hj2 with h | h <;> rw [h] <;> (rcases (by omega : n = 0 ∨ n = 1 ∨ n = 2 ∨ n = 3 ∨ n = 4) with rfl | rfl | rfl | rfl | rfl <;> decide +kernel)
end Go.Proofs.Ytgmjdkhegbdbjaa
