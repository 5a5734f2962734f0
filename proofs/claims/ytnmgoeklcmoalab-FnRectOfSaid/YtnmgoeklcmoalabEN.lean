/-
  The program's CompReach and CompStar; for lists of at most 2^20 numbers.
-/
import Derived.Test.YtnmgoeklcmoalabEH
import Derived.Test.YtnmgoeklcmoalabEB
import Derived.Test.YtnmgoeklcmoalabEF
namespace Go.Proofs.Ytnmgoeklcmoalab
open Go.RowKit

theorem own_otherR {w : World} {e : TypeId} {size lo n g cap : Nat} {us : List Value} (h : w.ownsRow lo e size (.slice (some ⟨g, 0, none⟩) n cap) n us) {p : Addr} (hp : g ≠ p.block) (v : Value) : (w.setCell p v).ownsRow lo e size (.slice (some ⟨g, 0, none⟩) n cap) n us := by
  refine ⟨h.1, ?_⟩
  rcases h.2 with h2 | ⟨g', cap', cur, he, h2, h3, h4⟩
  · exact .inl h2
  · cases he
    exact .inr ⟨g, cap, cur, rfl, h2, (Below.heap_setCell w p v g hp).trans h3, h4⟩

end Go.Proofs.Ytnmgoeklcmoalab

namespace Go.Proofs.Ytnmgoeklcmoalab
open Go.RowKit

end Go.Proofs.Ytnmgoeklcmoalab

namespace Go.Proofs.Ytnmgoeklcmoalab
open Go.RowKit


/-! the model's star -/
theorem mix_zipE {xs ys zs : List Int} {j : Nat} (h : Mix xs (eitherL xs ys) j zs) (hj : j < xs.length) (hy : j < ys.length) :
    Mix xs (eitherL xs ys) (j + 1) (zs.set j (bits .or .i64 (rowAt xs j) (rowAt ys j))) := h.step hj (zip_at _ _ _ _ hj hy)
theorem pt_wrapE (k : Nat) (h : k < 4) : wrap64 (2 ^ k) = pt k := by
  rcases (by omega : k = 0 ∨ k = 1 ∨ k = 2 ∨ k = 3) with rfl | rfl | rfl | rfl <;> decide +kernel

end Go.Proofs.Ytnmgoeklcmoalab
