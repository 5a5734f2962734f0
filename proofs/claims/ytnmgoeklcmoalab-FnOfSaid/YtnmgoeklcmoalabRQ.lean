/-
  A relation has as many pairs as its size tells.
-/
import Derived.Test.YtnmgoeklcmoalabRP
import Derived.Test.YtnmgoeklcmoalabKS
namespace Go.Proofs.Ytnmgoeklcmoalab
open Go.RowKit

theorem filter_sum {α : Type} (p : α → Bool) : ∀ l : List α, ((l.filter p).length : Int) = (l.map fun x => b2 (p x)).sum
  | [] => rfl
  | x :: l => by
    rw [List.map_cons, List.sum_cons, ← filter_sum p l, List.filter_cons]
    cases p x with
    | true => simp [b2]; omega
    | false => simp [b2]
theorem allP_one : allP 1 = [(0, 0)] := by decide +kernel
theorem allP_two : allP 2 = [(0, 0), (0, 1), (1, 0), (1, 1)] := by decide +kernel
theorem allP_three : allP 3 = [(0, 0), (0, 1), (0, 2), (1, 0), (1, 1), (1, 2), (2, 0), (2, 1), (2, 2)] := by decide +kernel
theorem allP_four : allP 4 = [(0, 0), (0, 1), (0, 2), (0, 3), (1, 0), (1, 1), (1, 2), (1, 3), (2, 0), (2, 1), (2, 2), (2, 3), (3, 0), (3, 1), (3, 2), (3, 3)] := by decide +kernel
theorem size_cells {n : Nat} {a : List Int} (R : Rl n a) : ((((allP n).filter fun p => hB a p.1.val p.2.val).length : Nat) : Int) = sizeL a := by
  have h1 := R.one
  have h4 := R.four
  have h0 := fun (i j : Nat) (hj : j < 4) (ho : ¬ (i < n ∧ j < n)) => show b2 (hB a i j) = 0 by rw [hB_out R i j hj ho]; rfl
  rw [filter_sum, size_sum R]
  rcases (by omega : n = 1 ∨ n = 2 ∨ n = 3 ∨ n = 4) with rfl | rfl | rfl | rfl
  · rw [allP_one]
    have z01 := h0 0 1 (by omega) (by omega); have z02 := h0 0 2 (by omega) (by omega); have z03 := h0 0 3 (by omega) (by omega)
    have z10 := h0 1 0 (by omega) (by omega); have z11 := h0 1 1 (by omega) (by omega); have z12 := h0 1 2 (by omega) (by omega); have z13 := h0 1 3 (by omega) (by omega)
    have z20 := h0 2 0 (by omega) (by omega); have z21 := h0 2 1 (by omega) (by omega); have z22 := h0 2 2 (by omega) (by omega); have z23 := h0 2 3 (by omega) (by omega)
    have z30 := h0 3 0 (by omega) (by omega); have z31 := h0 3 1 (by omega) (by omega); have z32 := h0 3 2 (by omega) (by omega); have z33 := h0 3 3 (by omega) (by omega)
    simp only [List.map_cons, List.map_nil, List.sum_cons, List.sum_nil]
    show b2 (hB a 0 0) + 0 = _
    omega
  · rw [allP_two]
    have z02 := h0 0 2 (by omega) (by omega); have z03 := h0 0 3 (by omega) (by omega)
    have z12 := h0 1 2 (by omega) (by omega); have z13 := h0 1 3 (by omega) (by omega)
    have z20 := h0 2 0 (by omega) (by omega); have z21 := h0 2 1 (by omega) (by omega); have z22 := h0 2 2 (by omega) (by omega); have z23 := h0 2 3 (by omega) (by omega)
    have z30 := h0 3 0 (by omega) (by omega); have z31 := h0 3 1 (by omega) (by omega); have z32 := h0 3 2 (by omega) (by omega); have z33 := h0 3 3 (by omega) (by omega)
    simp only [List.map_cons, List.map_nil, List.sum_cons, List.sum_nil]
    show b2 (hB a 0 0) + (b2 (hB a 0 1) + (b2 (hB a 1 0) + (b2 (hB a 1 1) + 0))) = _
    omega
  · rw [allP_three]
    have z03 := h0 0 3 (by omega) (by omega)
    have z13 := h0 1 3 (by omega) (by omega)
    have z23 := h0 2 3 (by omega) (by omega)
    have z30 := h0 3 0 (by omega) (by omega); have z31 := h0 3 1 (by omega) (by omega); have z32 := h0 3 2 (by omega) (by omega); have z33 := h0 3 3 (by omega) (by omega)
    simp only [List.map_cons, List.map_nil, List.sum_cons, List.sum_nil]
    show b2 (hB a 0 0) + (b2 (hB a 0 1) + (b2 (hB a 0 2) + (b2 (hB a 1 0) + (b2 (hB a 1 1) + (b2 (hB a 1 2) + (b2 (hB a 2 0) + (b2 (hB a 2 1) + (b2 (hB a 2 2) + 0)))))))) = _
    omega
  · rw [allP_four]
    simp only [List.map_cons, List.map_nil, List.sum_cons, List.sum_nil]
    show b2 (hB a 0 0) + (b2 (hB a 0 1) + (b2 (hB a 0 2) + (b2 (hB a 0 3) + (b2 (hB a 1 0) + (b2 (hB a 1 1) + (b2 (hB a 1 2) + (b2 (hB a 1 3) + (b2 (hB a 2 0) + (b2 (hB a 2 1) + (b2 (hB a 2 2) + (b2 (hB a 2 3) + (b2 (hB a 3 0) + (b2 (hB a 3 1) + (b2 (hB a 3 2) + (b2 (hB a 3 3) + 0))))))))))))))) = _
    omega
theorem size_pairs {a : List Int} (R : Rl a.length a) : sizeL a = ((pairsOf a).length : Int) := by
  rw [pairs_eq a R.four]
  exact (size_cells R).symm
end Go.Proofs.Ytnmgoeklcmoalab
