/-
  The program's CompReach and CompStar; for lists of at most 2^20 numbers.
-/
import Derived.Test.YtbblfmknohaioaaEM
import Derived.Test.YtbblfmknohaioaaEL
namespace Go.Proofs.Ytbblfmknohaioaa
open Go.RowKit


/-! the model's star -/
theorem mix_zipE {xs ys zs : List Int} {j : Nat} (h : Mix xs (eitherL xs ys) j zs) (hj : j < xs.length) (hy : j < ys.length) :
    Mix xs (eitherL xs ys) (j + 1) (zs.set j (bits .or .i64 (rowAt xs j) (rowAt ys j))) := h.step hj (zip_at _ _ _ _ hj hy)
theorem pt_wrapE (k : Nat) (h : k < 4) : wrap64 (2 ^ k) = pt k := by
  rcases (by omega : k = 0 ∨ k = 1 ∨ k = 2 ∨ k = 3) with rfl | rfl | rfl | rfl <;> decide +kernel

end Go.Proofs.Ytbblfmknohaioaa
