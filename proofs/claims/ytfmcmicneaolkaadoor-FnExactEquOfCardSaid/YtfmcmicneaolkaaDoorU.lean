/-
  The iterator of a relation's pairs: its contract as a range over a function asks it; for relations of at most 4 points.
-/
import Derived.RangeFuncNested
import Derived.RangeFuncBound
import Derived.RangeFuncCalls
import Derived.RangeFuncLeaves
import Derived.Shelf.Abstract
import Derived.Shelf.RegionOpen
import Derived.WalkKit
import Derived.OwnWalkIn
import Derived.TacticsInMore
import Derived.LoopNIn
import Derived.LoopIn
import Derived.Test.YtfmcmicneaolkaaDoorT
namespace Go.Proofs.YtfmcmicneaolkaaDoor
open Go.RowKit Go.Shelf
attribute [local go_sem] Oper.semAt_some

/-- whether a set has a point, as the program asks it -/
def hasB (s : Int) (j : Nat) : Bool := bits .and .i64 s (pt j) != 0

theorem has_any (s : Int) (j : Nat) (h : j < 4) (w : World) : Calls Tryd.prog 21 #[.int .i64 s, .int .i64 j] w fun e w' => e = .returned (.bool (hasB s j)) ∧ w = w' := by
  go_enter Tryd.func21, Tryd.ntmps21
  go_wp2_with (go_at_call 31; refine (onePoint_any j h _).mono ?_; rintro e w1 ⟨rfl, rfl⟩)
  go_ret
  exact ⟨rfl, rfl⟩

/-- all pairs of n points, in the order of lists -/
def allP (n : Nat) : List (Fin n × Fin n) := (List.finRange n).flatMap fun x => (List.finRange n).map fun y => (x, y)
/-- the pairs that a relation has, among the first m -/
def pairsTo (n : Nat) (xs : List Int) (m : Nat) : List (Fin n × Fin n) := ((allP n).take m).filter fun p => hasB (rowAt xs p.1.val) p.2.val
theorem allP_at : ∀ n : Fin 5, ∀ i j : Fin n.val, (allP n.val)[i.val * n.val + j.val]? = some (i, j) := by decide +kernel
theorem allP_len : ∀ n : Fin 5, (allP n.val).length = n.val * n.val := by decide +kernel
theorem pairsTo_step (n : Nat) (h4 : n ≤ 4) (xs : List Int) (i j : Fin n) :
    pairsTo n xs (i.val * n + j.val + 1) = pairsTo n xs (i.val * n + j.val) ++ (if hasB (rowAt xs i.val) j.val then [(i, j)] else []) := by
  have h := allP_at ⟨n, by omega⟩ i j
  unfold pairsTo
  rw [List.take_add_one, h, List.filter_append]
  congr 1
  by_cases hb : hasB (rowAt xs i.val) j.val = true <;> simp [hb]
theorem pairsTo_le (n : Nat) (xs : List Int) (m : Nat) : (pairsTo n xs m).length ≤ m := by
  unfold pairsTo
  exact Nat.le_trans (List.length_filter_le _ _) (by simp; omega)
/-- the pairs of a relation -/
def pairsOf (xs : List Int) : List (Fin xs.length × Fin xs.length) := pairsTo xs.length xs (xs.length * xs.length)

/-- block B lies as it lay -/
def KeepB (B : Nat) (W W' : World) : Prop := W'.heap[B]? = W.heap[B]?
theorem KeepB.t {B : Nat} {a b c : World} (h : KeepB B a b) (k : KeepB B b c) : KeepB B a c := Eq.trans k h
theorem KeepB.b {B : Nat} {w : World} (hB : B < w.heap.size) (W : World) (l : Nat) (o o' : Obj) (hl : w.heap.size ≤ l) (_ : W.heap[l]? = some o) (_ : o.isCells = false) (_ : o.isWalk = false) : KeepB B W (W.putObj l o') :=
  World.putObj_heap_other (by omega)
theorem RelAt.keep {W W' : World} {B : Nat} {xs : List Int} (h : RelAt W B xs) (k : KeepB B W W') : RelAt W' B xs := Eq.trans k h

abbrev encP {n : Nat} (p : Fin n × Fin n) : Array Value := #[.int .i64 (p.1.val : Int), .int .i64 (p.2.val : Int)]

end Go.Proofs.YtfmcmicneaolkaaDoor
