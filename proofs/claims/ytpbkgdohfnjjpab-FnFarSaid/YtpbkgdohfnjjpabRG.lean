/-
  Powers come round: there is always a first power that has come before; distances.
-/
import Derived.Test.YtpbkgdohfnjjpabEB
namespace Go.Proofs.Ytpbkgdohfnjjpab
open Go.RowKit

theorem rep_to {xs : List Int} : ∀ m, (∃ m' a, Rep xs m' a) ∨ ∀ i j, i < j → j < m → powL xs i ≠ powL xs j
  | 0 => .inr fun _ j _ hj => absurd hj (Nat.not_lt_zero j)
  | m + 1 => by
    rcases rep_to (xs := xs) m with h | hn
    · exact .inl h
    · by_cases hm : ∃ a, a < m ∧ powL xs a = powL xs m
      · obtain ⟨a, ha, e⟩ := hm
        exact .inl ⟨m, a, ⟨ha, e.symm, hn⟩⟩
      · exact .inr (new_step m hn fun i hi e => hm ⟨i, hi, e⟩)
theorem rep_ex {xs : List Int} (h : Rl xs.length xs) : ∃ m a, Rep xs m a := by
  rcases rep_to (xs := xs) 65537 with e | hn
  · exact e
  · have := new_le h 65537 hn
    omega
/-- where they come round: from a on, d further on -/
theorem index_ex {xs : List Int} (h : Rl xs.length xs) : ∃ a d : Nat, 0 < d ∧ a + d ≤ 65536 ∧ roundA xs = a ∧ roundM xs - roundA xs = d ∧ powL xs (a + d) = powL xs a := by
  obtain ⟨m, a, r⟩ := rep_ex h
  obtain ⟨h1, h2⟩ := round_eq h r
  have hm := new_le h m r.new
  have hlt := r.lt
  refine ⟨a, m - a, by omega, by omega, h2, by rw [h1, h2], ?_⟩
  rw [show a + (m - a) = m by omega]
  exact r.eq
theorem far_is {xs : List Int} (h : Rl xs.length xs) {i j k : Nat} (hi : i < xs.length) (hj : j < xs.length) (e : farO xs i j = some k) : hB (powL xs k) i j = true ∧ k < xs.length ∧ (k = 0 ↔ i = j) := by
  unfold farO at e
  rw [List.find?_range_eq_some] at e
  obtain ⟨h1, h2, h3⟩ := e
  have hk := List.mem_range.1 h2
  refine ⟨h1, hk, ?_⟩
  have h0 : hB (powL xs 0) i j = decide (j = i) := hB_same h.four i j hi hj
  constructor
  · intro e
    subst e
    rw [h0] at h1
    exact (of_decide_eq_true h1).symm
  · intro e
    subst e
    by_cases h4 : k = 0
    · exact h4
    · have := h3 0 (by omega)
      rw [h0] at this
      simp at this
end Go.Proofs.Ytpbkgdohfnjjpab
