/-
  Contracts of l6In, isCount, allPoints, isSet and of the model's RelIn: it tells whether a list is a relation; for lists of at most 2^20 numbers.
-/
import Derived.Test.YtfmcmicneaolkaaDoorB
namespace Go.Proofs.YtfmcmicneaolkaaDoor
open Go.RowKit

/-- a row of n points -/
def rowIn (n : Nat) (x : Int) : Bool := decide (0 ≤ x) && decide (x < 2 ^ n)
/-- a relation's list -/
def relIn (xs : List Int) : Bool := decide (1 ≤ xs.length ∧ xs.length ≤ 4) && xs.all (rowIn xs.length)

/-- a number in a range -/
def inB (n low high : Int) : Bool := decide (low ≤ n ∧ n ≤ high)

theorem row_top (n : Nat) (x : Int) (h1 : 1 ≤ n) (h2 : n ≤ 4) : inB x 0 (wrap64 (wrap64 (2 ^ n) - 1)) = rowIn n x := by
  have e : wrap64 (wrap64 (2 ^ n) - 1) = 2 ^ n - 1 := by
    rcases (by omega : n = 1 ∨ n = 2 ∨ n = 3 ∨ n = 4) with rfl | rfl | rfl | rfl <;> decide +kernel
  rw [e]
  unfold rowIn inB
  rcases (by omega : n = 1 ∨ n = 2 ∨ n = 3 ∨ n = 4) with rfl | rfl | rfl | rfl <;> by_cases h : 0 ≤ x <;> simp [h] <;> omega

theorem l6In_any (n low high : Int) (w : World) :
    Calls Tryd.prog 10 #[.int .i64 n, .int .i64 low, .int .i64 high] w fun e w' => e = .returned (.bool (inB n low high)) ∧ w = w' := by
  unfold inB
  go_enter Tryd.func10, Tryd.ntmps10
  by_cases h : low ≤ n
  · by_cases h2 : n ≤ high
    · go_wp2
      go_ret
      exact ⟨by simp [h, h2], rfl⟩
    · go_wp2
      go_ret
      exact ⟨by simp [h2], rfl⟩
  · go_wp2
    go_ret
    exact ⟨by simp; omega, rfl⟩

theorem relIn_bad (xs : List Int) (k : Nat) (x : Int) (h : xs[k]? = some x) (hb : rowIn xs.length x = false) : relIn xs = false := by
  unfold relIn
  rw [Bool.and_eq_false_iff]
  right
  rw [List.all_eq_false]
  exact ⟨x, List.mem_of_getElem? h, by simp [hb]⟩

theorem isCount_any (n : Int) (w : World) :
    Calls Tryd.prog 13 #[.int .i64 n] w fun e w' => e = .returned (.bool (inB n 1 4)) ∧ w = w' := by
  unfold inB
  go_enter Tryd.func13, Tryd.ntmps13
  by_cases h : 1 ≤ n
  · by_cases h2 : n ≤ 4
    · go_wp2
      go_ret
      exact ⟨by simp [h, h2], rfl⟩
    · go_wp2
      go_ret
      exact ⟨by simp [h2], rfl⟩
  · go_wp2
    go_ret
    exact ⟨by simp; omega, rfl⟩

theorem inB_yes {n low high : Int} (h : low ≤ n) (h2 : n ≤ high) : inB n low high = true := decide_eq_true ⟨h, h2⟩
theorem inB_no {n low high : Int} (h : ¬ (low ≤ n ∧ n ≤ high)) : inB n low high = false := decide_eq_false h

theorem relIn_len {xs : List Int} (h : relIn xs = true) : 1 ≤ xs.length ∧ xs.length ≤ 4 := by
  unfold relIn at h
  rw [Bool.and_eq_true] at h
  exact of_decide_eq_true h.1
theorem relIn_row {xs : List Int} (h : relIn xs = true) {k : Nat} {x : Int} (hx : xs[k]? = some x) : rowIn xs.length x = true := by
  unfold relIn at h
  rw [Bool.and_eq_true, List.all_eq_true] at h
  exact h.2 x (List.mem_of_getElem? hx)

theorem allPoints_any (n : Nat) (h1 : 1 ≤ n) (h2 : n ≤ 4) (w : World) :
    Calls Tryd.prog 23 #[.int .i64 n] w fun e w' => e = .returned (.int .i64 ((2 ^ n - 1 : Nat) : Int)) ∧ w = w' := by
  rcases (by omega : n = 1 ∨ n = 2 ∨ n = 3 ∨ n = 4) with rfl | rfl | rfl | rfl
  all_goals
    go_enter Tryd.func23, Tryd.ntmps23
    go_wp2
    go_ret
    exact ⟨rfl, rfl⟩

theorem isSet_any (x : Int) (n : Nat) (h1 : 1 ≤ n) (h2 : n ≤ 4) (w : World) :
    Calls Tryd.prog 20 #[.int .i64 x, .int .i64 n] w fun e w' => e = .returned (.bool (rowIn n x)) ∧ w = w' := by
  go_enter Tryd.func20, Tryd.ntmps20
  by_cases h : 0 ≤ x
  · go_wp2_with (go_at_call 23; refine (allPoints_any n h1 h2 _).mono ?_; rintro e w' ⟨rfl, rfl⟩)
    go_ret
    refine ⟨?_, rfl⟩
    unfold rowIn
    rcases (by omega : n = 1 ∨ n = 2 ∨ n = 3 ∨ n = 4) with rfl | rfl | rfl | rfl <;> simp [h] <;> omega
  · go_wp2
    go_ret
    unfold rowIn
    exact ⟨by simp; omega, rfl⟩

end Go.Proofs.YtfmcmicneaolkaaDoor
