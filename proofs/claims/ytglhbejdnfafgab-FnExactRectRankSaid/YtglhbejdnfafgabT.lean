/-
  Contracts of the program's sameOn and RelSame, and of the model's l1Same and RelSame; for any number.
-/
import Derived.Test.YtglhbejdnfafgabS
namespace Go.Proofs.Ytglhbejdnfafgab
open Go.RowKit

theorem RelAt.put {w : World} {b : Nat} {xs : List Int} (h : RelAt w b xs) (ys : List Int) :
    RelAt (((((w.setCell ⟨b, 0, none⟩ (.int .i64 ys.length)).setCell ⟨b, 1, none⟩ (.int .i64 (rowAt ys 0))).setCell ⟨b, 2, none⟩ (.int .i64 (rowAt ys 1))).setCell ⟨b, 3, none⟩ (.int .i64 (rowAt ys 2))).setCell ⟨b, 4, none⟩ (.int .i64 (rowAt ys 3))) b ys := by
  unfold RelAt
  have h1 := heap_setCell_same w b 0 _ _ (.int .i64 ys.length) h
  have h2 := heap_setCell_same _ b 1 _ _ (.int .i64 (rowAt ys 0)) h1
  have h3 := heap_setCell_same _ b 2 _ _ (.int .i64 (rowAt ys 1)) h2
  have h4 := heap_setCell_same _ b 3 _ _ (.int .i64 (rowAt ys 2)) h3
  have h5 := heap_setCell_same _ b 4 _ _ (.int .i64 (rowAt ys 3)) h4
  rw [h5]
  rfl

/-- each point related to itself -/
def sameL (n : Nat) : List Int := (List.range n).map pt
def sameAcc (n k : Nat) : List Int := (List.range k).foldl (fun zs i => addPair zs i i) (List.replicate n 0)
theorem sameAcc_succ (n k : Nat) : sameAcc n (k + 1) = addPair (sameAcc n k) k k := by unfold sameAcc; rw [List.range_succ, List.foldl_append]; rfl
theorem sameAcc_len (n k : Nat) : (sameAcc n k).length = n := by
  induction k with
  | zero => unfold sameAcc; simp
  | succ k ih => rw [sameAcc_succ, addPair_len, ih]
theorem sameAcc_all : ∀ n : Fin 5, sameAcc n.val n.val = sameL n.val := by decide +kernel

theorem sameL_len (n : Nat) : (sameL n).length = n := by unfold sameL; simp
theorem same_take (n k : Nat) (h : k < n) : (sameL n).take (k + 1) = (sameL n).take k ++ [pt k] := by
  have h2 : (sameL n)[k]? = some (pt k) := by unfold sameL; simp [h]
  rw [List.take_add_one, h2]
  rfl

end Go.Proofs.Ytglhbejdnfafgab
