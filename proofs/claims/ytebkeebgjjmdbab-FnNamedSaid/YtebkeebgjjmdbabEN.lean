/-
  The program's CompReach and CompStar; for lists of at most 2^20 numbers.
-/
import Derived.Test.YtebkeebgjjmdbabEG
import Derived.Deep.RegionHeld3
import Derived.Test.YtebkeebgjjmdbabEB
import Derived.Test.YtebkeebgjjmdbabEF
namespace Go.Proofs.Ytebkeebgjjmdbab
open Go.RowKit

/-- a list of powers as the program's value -/
abbrev plV (g cap m a : Nat) : Value := .agg #[.slice (some ⟨g, 0, none⟩) (m + 1) cap, .int .i64 a]

theorem wrap_of (x : Int) (h1 : -1048576 ≤ x) (h2 : x ≤ 1048576) : IntKind.i64.wrap x = x := by
  simp only [IntKind.wrap, IntKind.bits, IntKind.signed]
  simp only [Bool.true_and]
  by_cases h : 0 ≤ x
  · rw [if_neg (by intro hh; have := of_decide_eq_true hh; omega)]
    omega
  · rw [if_pos (by apply decide_eq_true; omega)]
    omega

end Go.Proofs.Ytebkeebgjjmdbab

namespace Go.Proofs.Ytebkeebgjjmdbab
open Go.RowKit

theorem own_otherR {w : World} {e : TypeId} {size lo n g cap : Nat} {us : List Value} (h : w.ownsRow lo e size (.slice (some ⟨g, 0, none⟩) n cap) n us) {p : Addr} (hp : g ≠ p.block) (v : Value) : (w.setCell p v).ownsRow lo e size (.slice (some ⟨g, 0, none⟩) n cap) n us := by
  refine ⟨h.1, ?_⟩
  rcases h.2 with h2 | ⟨g', cap', cur, he, h2, h3, h4⟩
  · exact .inl h2
  · cases he
    exact .inr ⟨g, cap, cur, rfl, h2, (Below.heap_setCell w p v g hp).trans h3, h4⟩

end Go.Proofs.Ytebkeebgjjmdbab

namespace Go.Proofs.Ytebkeebgjjmdbab
open Go.RowKit

end Go.Proofs.Ytebkeebgjjmdbab

namespace Go.Proofs.Ytebkeebgjjmdbab
open Go.RowKit


/-! the model's star -/
theorem mix_zipE {xs ys zs : List Int} {j : Nat} (h : Mix xs (eitherL xs ys) j zs) (hj : j < xs.length) (hy : j < ys.length) :
    Mix xs (eitherL xs ys) (j + 1) (zs.set j (bits .or .i64 (rowAt xs j) (rowAt ys j))) := h.step hj (zip_at _ _ _ _ hj hy)
theorem pt_wrapE (k : Nat) (h : k < 4) : wrap64 (2 ^ k) = pt k := by
  rcases (by omega : k = 0 ∨ k = 1 ∨ k = 2 ∨ k = 3) with rfl | rfl | rfl | rfl <;> decide +kernel

end Go.Proofs.Ytebkeebgjjmdbab
