/-
  Sizes of others, of what has either and of what both have: for laws on drawn relations.
-/
import Derived.Test.YtmjganidhochjaaGC
namespace Go.Proofs.Ytmjganidhochjaa
open Go.RowKit

theorem size_cells {n : Nat} {a : List Int} (h : Rl n a) : sizeL a = b2 (hB a 0 0) + b2 (hB a 0 1) + b2 (hB a 0 2) + b2 (hB a 0 3) + (b2 (hB a 1 0) + b2 (hB a 1 1) + b2 (hB a 1 2) + b2 (hB a 1 3)) + (b2 (hB a 2 0) + b2 (hB a 2 1) + b2 (hB a 2 2) + b2 (hB a 2 3)) + (b2 (hB a 3 0) + b2 (hB a 3 1) + b2 (hB a 3 2) + b2 (hB a 3 3)) := by
  rw [size_rows h, cnt_hB h, cnt_hB h, cnt_hB h, cnt_hB h]
theorem other_cell {n : Nat} {a : List Int} (h : Rl n a) (i j : Nat) (hj : j < 4) : b2 (hB a i j) + b2 (hB (otherL a) i j) = if i < n ∧ j < n then 1 else 0 := by
  by_cases hin : i < n ∧ j < n
  · rw [hB_other h i j hin.1 hin.2, if_pos hin]
    cases hB a i j <;> rfl
  · rw [hB_out h i j hj hin, hB_out h.other i j hj hin, if_neg hin]
    rfl
theorem two_cell {n : Nat} {a b : List Int} (h : Rl n a) (k : Rl n b) (i j : Nat) (hj : j < 4) : b2 (hB a i j) + b2 (hB b i j) = b2 (hB (eitherL a b) i j) + b2 (hB (bothL a b) i j) := by
  by_cases hin : i < n ∧ j < n
  · rw [hB_either h k i j hin.1 hin.2, hB_both h k i j hin.1 hin.2]
    cases hB a i j <;> cases hB b i j <;> rfl
  · rw [hB_out h i j hj hin, hB_out k i j hj hin, hB_out (h.either k) i j hj hin, hB_out (h.both k) i j hj hin]
theorem size_other {n : Nat} {a : List Int} (h : Rl n a) : sizeL a + sizeL (otherL a) = (n : Int) * (n : Int) := by
  have c := fun i j hj => other_cell h i j hj
  have c00 := c 0 0 (by decide)
  have c01 := c 0 1 (by decide)
  have c02 := c 0 2 (by decide)
  have c03 := c 0 3 (by decide)
  have c10 := c 1 0 (by decide)
  have c11 := c 1 1 (by decide)
  have c12 := c 1 2 (by decide)
  have c13 := c 1 3 (by decide)
  have c20 := c 2 0 (by decide)
  have c21 := c 2 1 (by decide)
  have c22 := c 2 2 (by decide)
  have c23 := c 2 3 (by decide)
  have c30 := c 3 0 (by decide)
  have c31 := c 3 1 (by decide)
  have c32 := c 3 2 (by decide)
  have c33 := c 3 3 (by decide)
  rw [size_cells h, size_cells h.other]
  have h1 := h.one
  have h4 := h.four
  clear c h
  rcases (by omega : n = 1 ∨ n = 2 ∨ n = 3 ∨ n = 4) with rfl | rfl | rfl | rfl <;> simp at c00 c01 c02 c03 c10 c11 c12 c13 c20 c21 c22 c23 c30 c31 c32 c33 <;> omega
theorem size_two {n : Nat} {a b : List Int} (h : Rl n a) (k : Rl n b) : sizeL a + sizeL b = sizeL (eitherL a b) + sizeL (bothL a b) := by
  have c := fun i j hj => two_cell h k i j hj
  have c00 := c 0 0 (by decide)
  have c01 := c 0 1 (by decide)
  have c02 := c 0 2 (by decide)
  have c03 := c 0 3 (by decide)
  have c10 := c 1 0 (by decide)
  have c11 := c 1 1 (by decide)
  have c12 := c 1 2 (by decide)
  have c13 := c 1 3 (by decide)
  have c20 := c 2 0 (by decide)
  have c21 := c 2 1 (by decide)
  have c22 := c 2 2 (by decide)
  have c23 := c 2 3 (by decide)
  have c30 := c 3 0 (by decide)
  have c31 := c 3 1 (by decide)
  have c32 := c 3 2 (by decide)
  have c33 := c 3 3 (by decide)
  rw [size_cells h, size_cells k, size_cells (h.either k), size_cells (h.both k)]
  omega
theorem size_low {n : Nat} {a : List Int} (h : Rl n a) : 0 ≤ sizeL a ∧ sizeL a ≤ 16 := by
  have := sizeL_le a
  have := h.len
  have := h.four
  omega
theorem either_below1 {n : Nat} {a b : List Int} (h : Rl n a) (k : Rl n b) : belowB a (eitherL a b) = true := by
  rw [below_iff h (h.either k)]
  intro i j hi hj e
  rw [hB_either h k i j hi hj, e]
  rfl
theorem either_below2 {n : Nat} {a b : List Int} (h : Rl n a) (k : Rl n b) : belowB b (eitherL a b) = true := by
  rw [below_iff k (h.either k)]
  intro i j hi hj e
  rw [hB_either h k i j hi hj, e, Bool.or_true]
theorem other_other {n : Nat} {a : List Int} (h : Rl n a) : otherL (otherL a) = a :=
  Rl.ext h.other.other h fun i j hi hj => by rw [hB_other h.other i j hi hj, hB_other h i j hi hj, Bool.not_not]
theorem num_other {a : List Int} (h : Rl a.length a) {s t : Int} (e : sizeL a = s) (e2 : sizeL (otherL a) = t) : s + t = (a.length : Int) * (a.length : Int) ∧ 0 ≤ s ∧ s ≤ 16 ∧ 0 ≤ t ∧ t ≤ 16 ∧ a.length ≤ 4 ∧ 0 ≤ (a.length : Int) * (a.length : Int) ∧ (a.length : Int) * (a.length : Int) ≤ 16 := by
  have h1 := size_low h
  have h2 := size_low h.other
  have h3 := size_other h
  have h4 := h.four
  subst e
  subst e2
  refine ⟨h3, h1.1, h1.2, h2.1, h2.2, h4, by rw [← h3]; omega, ?_⟩
  rcases (by omega : a.length = 0 ∨ a.length = 1 ∨ a.length = 2 ∨ a.length = 3 ∨ a.length = 4) with e | e | e | e | e <;> rw [e] <;> decide
theorem num_two {n : Nat} {a b : List Int} (h : Rl n a) (k : Rl n b) {s t u v : Int} (e : sizeL a = s) (e2 : sizeL b = t) (e3 : sizeL (eitherL a b) = u) (e4 : sizeL (bothL a b) = v) : s + t = u + v ∧ 0 ≤ s ∧ s ≤ 16 ∧ 0 ≤ t ∧ t ≤ 16 ∧ 0 ≤ u ∧ u ≤ 16 ∧ 0 ≤ v ∧ v ≤ 16 := by
  have h1 := size_low h
  have h2 := size_low k
  have h3 := size_low (h.either k)
  have h4 := size_low (h.both k)
  have h5 := size_two h k
  subst e e2 e3 e4
  exact ⟨h5, h1.1, h1.2, h2.1, h2.2, h3.1, h3.2, h4.1, h4.2⟩
theorem drawRelOther_any (ao : Option Addr) (c : Nat) (bs : List Nat) (w : World) (hb : RdB w ao bs) (hc : bs.length ≤ c) (hbA : bs ≠ [] → ∀ a, ao = some a → a.block < w.heap.size) :
    Calls Try.prog 5 #[.slice ao bs.length c] w (Drew w) := by
  have HD := Lib.hid (l91Some_any ao c bs w hb hc hbA)
  clear hb hbA
  go_enter Try.func5, Try.ntmps5
  go_wp2_with fail
  refine HD.out.mono ?_
  rintro e w3 ⟨v, rs, rfl, hrl, ho, hB⟩
  have HR := Lib.hid (And.intro hrl (And.intro ho hB))
  clear hrl ho hB HD
  go_wp2
  go_ret
  exact ⟨v, rs, rfl, HR.out⟩
theorem drawRelEither_any (ao : Option Addr) (c : Nat) (bs : List Nat) (w : World) (hb : RdB w ao bs) (hc : bs.length ≤ c) (hbA : bs ≠ [] → ∀ a, ao = some a → a.block < w.heap.size) :
    Calls Try.prog 10 #[.slice ao bs.length c] w (Drew2 w) := by
  have HD := Lib.hid (l91Two_any ao c bs w hb hc hbA)
  clear hb hbA
  go_enter Try.func10, Try.ntmps10
  go_wp2_with fail
  refine HD.out.mono ?_
  rintro e w3 ⟨v, u, rs, ss, rfl, hrest⟩
  have HR := Lib.hid hrest
  clear hrest HD
  go_wp2
  go_ret2
  exact ⟨v, u, rs, ss, rfl, HR.out⟩
end Go.Proofs.Ytmjganidhochjaa
