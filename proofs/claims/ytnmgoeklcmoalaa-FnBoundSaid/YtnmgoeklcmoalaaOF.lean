/-
  The sizes of the greatest chain and antichain: greatestTogether and OrderSizes of the program, OrderSizes of the model; for lists of at most 2^20 numbers.
-/
import Derived.Test.YtnmgoeklcmoalaaOC
import Derived.Test.YtnmgoeklcmoalaaHCb
import Derived.Deep.RegionHeld
namespace Go.Proofs.Ytnmgoeklcmoalaa
open Go.RowKit

/-- the greatest number of points among the first k sets, of those of which each point is related to all -/
def togTo (xs : List Int) : Nat → Int
  | 0 => 0
  | k + 1 => if partB (k : Int) (relAll xs (k : Int)) then (if togTo xs k < cnt (k : Int) then cnt (k : Int) else togTo xs k) else togTo xs k
theorem tog_succ (xs : List Int) (k : Nat) : togTo xs (k + 1) = if partB (k : Int) (relAll xs (k : Int)) then (if togTo xs k < cnt (k : Int) then cnt (k : Int) else togTo xs k) else togTo xs k := rfl
theorem tog_le (xs : List Int) : ∀ k, 0 ≤ togTo xs k ∧ togTo xs k ≤ 4
  | 0 => ⟨Int.le_refl _, by show (0 : Int) ≤ 4; omega⟩
  | k + 1 => by
    have h := tog_le xs k
    have hc := cnt_le (k : Int)
    rw [tog_succ]
    split
    · split
      · exact hc
      · exact h
    · exact h

/-! the program's OrderSizes -/
def lnkL (xs : List Int) : List Int := eitherL xs (turnL xs)
def aptL (xs : List Int) : List Int := otherL (offI (lnkL xs))
theorem Rl.lnk {n : Nat} {xs : List Int} (h : Rl n xs) : Rl n (lnkL xs) := h.either h.turn
theorem Rl.apt {n : Nat} {xs : List Int} (h : Rl n xs) : Rl n (aptL xs) := h.lnk.off.other
def chainN (xs : List Int) : Int := ifN (ordB xs) (togTo (lnkL xs) (2 ^ xs.length))
def antiN (xs : List Int) : Int := ifN (ordB xs) (togTo (aptL xs) (2 ^ xs.length))

end Go.Proofs.Ytnmgoeklcmoalaa
