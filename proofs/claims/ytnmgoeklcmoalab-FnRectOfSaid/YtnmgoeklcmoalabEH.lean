/-
  The program's powers: period, at, CompPower; for lists of at most 2^20 numbers.
-/
import Derived.Test.YtnmgoeklcmoalabEG
import Derived.Deep.RegionHeld3
namespace Go.Proofs.Ytnmgoeklcmoalab
open Go.RowKit

/-- a list of powers as the program's value -/
abbrev plV (g cap m a : Nat) : Value := .agg #[.slice (some ⟨g, 0, none⟩) (m + 1) cap, .int .i64 a]

theorem wrap_of (x : Int) (h1 : -1048576 ≤ x) (h2 : x ≤ 1048576) : IntKind.i64.wrap x = x := by
  simp only [IntKind.wrap, IntKind.bits, IntKind.signed]
  simp only [Bool.true_and]
  by_cases h : 0 ≤ x
  · rw [if_neg (by intro hh; have := of_decide_eq_true hh; omega)]
    omega
  · rw [if_pos (by apply decide_eq_true; omega)]
    omega

end Go.Proofs.Ytnmgoeklcmoalab
