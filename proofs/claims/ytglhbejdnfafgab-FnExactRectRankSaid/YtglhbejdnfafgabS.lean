/-
  Contracts of the program's RelBelow, onePoint, with, withPair, sameOn, RelSame, and of the model's l1Same and RelSame.
-/
import Derived.Test.YtglhbejdnfafgabR
namespace Go.Proofs.Ytglhbejdnfafgab
open Go.RowKit

/-- the set of one point -/
def pt (i : Nat) : Int := 2 ^ i

theorem onePoint_any (i : Nat) (h : i < 4) (w : World) : Calls Try.prog 35 #[.int .i64 i] w fun e w' => e = .returned (.int .i64 (pt i)) ∧ w = w' := by
  rcases (by omega : i = 0 ∨ i = 1 ∨ i = 2 ∨ i = 3) with rfl | rfl | rfl | rfl
  all_goals
    go_enter Try.func35, Try.ntmps35
    go_wp2
    go_ret
    exact ⟨rfl, rfl⟩

theorem with_any (s : Int) (i : Nat) (h : i < 4) (w : World) : Calls Try.prog 46 #[.int .i64 s, .int .i64 i] w fun e w' => e = .returned (.int .i64 (bits .or .i64 s (pt i))) ∧ w = w' := by
  go_enter Try.func46, Try.ntmps46
  go_wp2_with (go_at_call 35; refine (onePoint_any i h _).mono ?_; rintro e w1 ⟨rfl, rfl⟩)
  go_ret
  exact ⟨rfl, rfl⟩

/-- with a pair more -/
def addPair (xs : List Int) (x y : Nat) : List Int := xs.set x (bits .or .i64 (rowAt xs x) (pt y))

theorem addPair_at (xs : List Int) (x y i : Nat) (h : x < xs.length) : rowAt (addPair xs x y) i = if i = x then bits .or .i64 (rowAt xs x) (pt y) else rowAt xs i := rowAt_set _ _ _ _ h
theorem addPair_len (xs : List Int) (x y : Nat) : (addPair xs x y).length = xs.length := by unfold addPair; rw [List.length_set]

set_option maxHeartbeats 2000000 in
theorem withPair_any (xs : List Int) (x y : Nat) (w : World) (h4 : xs.length ≤ 4) (hx : x < xs.length) (hy : y < 4) :
    Calls Try.prog 44 #[relOf xs, .int .i64 x, .int .i64 y] w fun e w' => e = .returned (relOf (addPair xs x y)) ∧ Below w.heap.size w w' := by
  have e0 := addPair_at xs x y 0 hx
  have e1 := addPair_at xs x y 1 hx
  have e2 := addPair_at xs x y 2 hx
  have e3 := addPair_at xs x y 3 hx
  have en : (addPair xs x y).length = xs.length := addPair_len xs x y
  have E := Lib.hid (And.intro e0 (And.intro e1 (And.intro e2 (And.intro e3 en))))
  clear e0 e1 e2 e3 en
  go_enter Try.func44, Try.ntmps44
  rcases (by omega : x = 0 ∨ x = 1 ∨ x = 2 ∨ x = 3) with rfl | rfl | rfl | rfl
  all_goals
    go_wp2_with (go_at_call 46; refine (with_any _ y hy _).mono ?_; rintro e w1 ⟨rfl, rfl⟩)
    obtain ⟨e0, e1, e2, e3, en⟩ := E.out
    exact bodyPost_ret (v := relOf (addPair xs _ y)) (by simp [results, Try.results44, go_sem, e0, e1, e2, e3, en]) rfl ⟨rfl, below_two _ _ _⟩
end Go.Proofs.Ytglhbejdnfafgab
