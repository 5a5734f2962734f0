/-
  Contracts of the model's l1Two, RelEither, RelBoth, l1Other, RelOther, l1Below, RelBelow; for lists of at most 2^20 numbers.
-/
import Derived.Test.YtebkeebgjjmdbabG
namespace Go.Proofs.Ytebkeebgjjmdbab
open Go.RowKit

/-- two relations on as many points -/
def twoIn (xs ys : List Int) : Bool := relIn xs && relIn ys && decide (xs.length = ys.length)
def eitherL (xs ys : List Int) : List Int := zipI (bits .or .i64) xs ys
def bothL (xs ys : List Int) : List Int := zipI (bits .and .i64) xs ys

theorem twoIn_yes {xs ys : List Int} (h : twoIn xs ys = true) : relIn xs = true ∧ relIn ys = true ∧ xs.length = ys.length := by
  unfold twoIn at h
  rw [Bool.and_eq_true, Bool.and_eq_true] at h
  exact ⟨h.1.1, h.1.2, of_decide_eq_true h.2⟩

/-- a list, or none -/
def ifR (b : Bool) (r : List Int) : List Int := if b then r else []

/-- what a call gives that answers a list of its own and a bool -/
def Gave (w : World) (r : List Int) (ok : Bool) (e : Ending) (w' : World) : Prop :=
  ∃ v, e = .returned (.tuple #[v, .bool ok]) ∧ w'.ownsRow w.heap.size 3 1 v r.length (r.map (Value.int .i64)) ∧ Below w.heap.size w w'

/-- all points but those of a row -/
def otherL (xs : List Int) : List Int := xs.map fun x => bits .andNot .i64 (2 ^ xs.length - 1) x

theorem other_take (xs : List Int) (k : Nat) (x : Int) (h : xs[k]? = some x) : (otherL xs).take (k + 1) = (otherL xs).take k ++ [bits .andNot .i64 (2 ^ xs.length - 1) x] := by
  have h2 : (otherL xs)[k]? = some (bits .andNot .i64 (2 ^ xs.length - 1) x) := by unfold otherL; rw [List.getElem?_map, h]; rfl
  rw [List.take_add_one, h2]
  rfl

theorem wrap_top (n : Nat) (h1 : 1 ≤ n) (h2 : n ≤ 4) : IntKind.i64.wrap (IntKind.i64.wrap (2 ^ n) - 1) = 2 ^ n - 1 := by
  rcases (by omega : n = 1 ∨ n = 2 ∨ n = 3 ∨ n = 4) with rfl | rfl | rfl | rfl <;> decide +kernel

end Go.Proofs.Ytebkeebgjjmdbab
