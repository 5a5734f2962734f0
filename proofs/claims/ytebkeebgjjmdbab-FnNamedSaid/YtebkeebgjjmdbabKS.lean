/-
  Sizes of relations: at most all pairs; none where there is no pair.
-/
import Derived.Test.YtebkeebgjjmdbabGC
namespace Go.Proofs.Ytebkeebgjjmdbab
open Go.RowKit

/-! sizes -/
theorem b2_le (b : Bool) : 0 ≤ b2 b ∧ b2 b ≤ 1 := by cases b <;> decide
theorem size_sum {n : Nat} {a : List Int} (R : Rl n a) : sizeL a = (b2 (hB a 0 0) + b2 (hB a 0 1) + b2 (hB a 0 2) + b2 (hB a 0 3)) + (b2 (hB a 1 0) + b2 (hB a 1 1) + b2 (hB a 1 2) + b2 (hB a 1 3)) + (b2 (hB a 2 0) + b2 (hB a 2 1) + b2 (hB a 2 2) + b2 (hB a 2 3)) + (b2 (hB a 3 0) + b2 (hB a 3 1) + b2 (hB a 3 2) + b2 (hB a 3 3)) := by
  rw [size_rows R, cnt_hB R, cnt_hB R, cnt_hB R, cnt_hB R]
theorem size_sq {n : Nat} {a : List Int} (R : Rl n a) : sizeL a ≤ (n : Int) * (n : Int) := by
  rw [size_sum R]
  have h1 := R.one
  have h4 := R.four
  have hle := fun i j => b2_le (hB a i j)
  have h0 := fun (i j : Nat) (hj : j < 4) (ho : ¬ (i < n ∧ j < n)) => show b2 (hB a i j) = 0 by rw [hB_out R i j hj ho]; rfl
  have c00 := hle 0 0; have c01 := hle 0 1; have c02 := hle 0 2; have c03 := hle 0 3
  have c10 := hle 1 0; have c11 := hle 1 1; have c12 := hle 1 2; have c13 := hle 1 3
  have c20 := hle 2 0; have c21 := hle 2 1; have c22 := hle 2 2; have c23 := hle 2 3
  have c30 := hle 3 0; have c31 := hle 3 1; have c32 := hle 3 2; have c33 := hle 3 3
  rcases (by omega : n = 1 ∨ n = 2 ∨ n = 3 ∨ n = 4) with e | e | e | e
  · have z01 := h0 0 1 (by omega) (by omega); have z02 := h0 0 2 (by omega) (by omega); have z03 := h0 0 3 (by omega) (by omega)
    have z10 := h0 1 0 (by omega) (by omega); have z11 := h0 1 1 (by omega) (by omega); have z12 := h0 1 2 (by omega) (by omega); have z13 := h0 1 3 (by omega) (by omega)
    have z20 := h0 2 0 (by omega) (by omega); have z21 := h0 2 1 (by omega) (by omega); have z22 := h0 2 2 (by omega) (by omega); have z23 := h0 2 3 (by omega) (by omega)
    have z30 := h0 3 0 (by omega) (by omega); have z31 := h0 3 1 (by omega) (by omega); have z32 := h0 3 2 (by omega) (by omega); have z33 := h0 3 3 (by omega) (by omega)
    rw [e]
    omega
  · have z02 := h0 0 2 (by omega) (by omega); have z03 := h0 0 3 (by omega) (by omega)
    have z12 := h0 1 2 (by omega) (by omega); have z13 := h0 1 3 (by omega) (by omega)
    have z20 := h0 2 0 (by omega) (by omega); have z21 := h0 2 1 (by omega) (by omega); have z22 := h0 2 2 (by omega) (by omega); have z23 := h0 2 3 (by omega) (by omega)
    have z30 := h0 3 0 (by omega) (by omega); have z31 := h0 3 1 (by omega) (by omega); have z32 := h0 3 2 (by omega) (by omega); have z33 := h0 3 3 (by omega) (by omega)
    rw [e]
    omega
  · have z03 := h0 0 3 (by omega) (by omega)
    have z13 := h0 1 3 (by omega) (by omega)
    have z23 := h0 2 3 (by omega) (by omega)
    have z30 := h0 3 0 (by omega) (by omega); have z31 := h0 3 1 (by omega) (by omega); have z32 := h0 3 2 (by omega) (by omega); have z33 := h0 3 3 (by omega) (by omega)
    rw [e]
    omega
  · rw [e]
    omega
theorem size_none {n : Nat} {a : List Int} (R : Rl n a) (h : ∀ i j, i < n → j < n → hB a i j = false) : sizeL a = 0 := by
  rw [size_sum R]
  have h0 := fun (i j : Nat) (hj : j < 4) => show b2 (hB a i j) = 0 by
    by_cases ho : i < n ∧ j < n
    · rw [h i j ho.1 ho.2]; rfl
    · rw [hB_out R i j hj ho]; rfl
  rw [h0 0 0 (by omega), h0 0 1 (by omega), h0 0 2 (by omega), h0 0 3 (by omega), h0 1 0 (by omega), h0 1 1 (by omega), h0 1 2 (by omega), h0 1 3 (by omega),
    h0 2 0 (by omega), h0 2 1 (by omega), h0 2 2 (by omega), h0 2 3 (by omega), h0 3 0 (by omega), h0 3 1 (by omega), h0 3 2 (by omega), h0 3 3 (by omega)]
  rfl
theorem size_some {n : Nat} {a : List Int} (R : Rl n a) (i j : Nat) (hi : i < n) (hj : j < n) (h : hB a i j = true) : 1 ≤ sizeL a := by
  rw [size_sum R]
  have h4 := R.four
  have hle := fun i j => b2_le (hB a i j)
  have c00 := hle 0 0; have c01 := hle 0 1; have c02 := hle 0 2; have c03 := hle 0 3
  have c10 := hle 1 0; have c11 := hle 1 1; have c12 := hle 1 2; have c13 := hle 1 3
  have c20 := hle 2 0; have c21 := hle 2 1; have c22 := hle 2 2; have c23 := hle 2 3
  have c30 := hle 3 0; have c31 := hle 3 1; have c32 := hle 3 2; have c33 := hle 3 3
  have h1 : b2 (hB a i j) = 1 := by rw [h]; rfl
  clear hle h
  rcases (by omega : i = 0 ∨ i = 1 ∨ i = 2 ∨ i = 3) with rfl | rfl | rfl | rfl <;> rcases (by omega : j = 0 ∨ j = 1 ∨ j = 2 ∨ j = 3) with rfl | rfl | rfl | rfl <;> omega
end Go.Proofs.Ytebkeebgjjmdbab
