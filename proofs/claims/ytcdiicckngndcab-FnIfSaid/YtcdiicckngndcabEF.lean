/-
  Solutions: the model's l2Equal and CompSolve, the program's CompSolve; for lists of at most 2^20 numbers.
-/
import Derived.Test.YtcdiicckngndcabEE
namespace Go.Proofs.Ytcdiicckngndcab
open Go.RowKit

/-- whether the left residual solves -/
def solveB (xs ys : List Int) : Bool := decide (compL xs (leftL xs ys) = ys)
/-- rows that are alike are alike as arrays -/
theorem rows_eq {n : Nat} {a b : List Int} (h : Rl n a) (k : Rl n b) : (rowAt a 0 == rowAt b 0 && (rowAt a 1 == rowAt b 1 && (rowAt a 2 == rowAt b 2 && rowAt a 3 == rowAt b 3))) = decide (a = b) := by
  rw [Bool.eq_iff_iff, decide_eq_true_iff]
  simp only [Bool.and_eq_true, beq_iff_eq]
  constructor
  · rintro ⟨e0, e1, e2, e3⟩
    apply List.ext_getElem?
    intro i
    have h4 := h.four
    by_cases hi : i < n
    · rw [rowAt_get (by rw [h.len]; exact hi), rowAt_get (by rw [k.len]; exact hi)]
      rcases (by omega : i = 0 ∨ i = 1 ∨ i = 2 ∨ i = 3) with rfl | rfl | rfl | rfl
      · rw [e0]
      · rw [e1]
      · rw [e2]
      · rw [e3]
    · rw [List.getElem?_eq_none (by rw [h.len]; omega), List.getElem?_eq_none (by rw [k.len]; omega)]
  · rintro rfl
    exact ⟨rfl, rfl, rfl, rfl⟩

/-! the model's -/
/-! the program's -/
set_option maxHeartbeats 1000000 in
theorem eqRowsD (d : Nat) (a0 a1 a2 a3 b0 b1 b2 b3 : Int) (w : World) :
    Sem.run Try.prog (Op.equalIn (d + 2) 45 (.agg #[.int .i64 a0, .int .i64 a1, .int .i64 a2, .int .i64 a3]) (.agg #[.int .i64 b0, .int .i64 b1, .int .i64 b2, .int .i64 b3])) w = .ok (a0 == b0 && (a1 == b1 && (a2 == b2 && a3 == b3))) w := by
  unfold Op.equalIn
  have hsz : Sem.run Try.prog (sizeOf 44) w = .ok 1 w := by kernel_rfl
  have hr : List.range' 0 4 1 = [0, 1, 2, 3] := rfl
  rw [Sem.run_bind, run_underlying Try.underlying45]
  simp only [Result.andThen_ok]
  rw [Sem.run_bind, hsz]
  simp only [Result.andThen_ok]
  have hf : ∀ (f : Nat → Option Bool × Unit → Sem (ForInStep (Option Bool × Unit))) (i : Option Bool × Unit), forIn [:4] i f = forIn [0, 1, 2, 3] i f := by
    intro f i
    simp [Std.Legacy.Range.forIn_eq_forIn_range', Std.Legacy.Range.size, hr]
  rw [hf]
  simp only [List.forIn_cons, List.forIn_nil, bind_assoc, Sem.run_bind, partCell _ _ _ _ _ 0 (by omega), Result.andThen_ok, List.getD_cons_zero]
  rw [eqCell d a0 b0 w]
  cases (a0 == b0)
  case false => rfl
  simp only [Sem.run_bind, Sem.run_pure, Bool.not_true, Bool.false_eq_true, if_false, partCell _ _ _ _ _ 1 (by omega), Result.andThen_ok, List.getD_cons_zero, List.getD_cons_succ]
  rw [eqCell d a1 b1 w]
  cases (a1 == b1)
  case false => rfl
  simp only [Sem.run_bind, Sem.run_pure, Bool.not_true, Bool.false_eq_true, if_false, partCell _ _ _ _ _ 2 (by omega), Result.andThen_ok, List.getD_cons_zero, List.getD_cons_succ]
  rw [eqCell d a2 b2 w]
  cases (a2 == b2)
  case false => rfl
  simp only [Sem.run_bind, Sem.run_pure, Bool.not_true, Bool.false_eq_true, if_false, partCell _ _ _ _ _ 3 (by omega), Result.andThen_ok, List.getD_cons_zero, List.getD_cons_succ]
  rw [eqCell d a3 b3 w]
  cases (a3 == b3) <;> rfl

theorem fieldRows (n a b c d : Int) (w : World) : Sem.run Try.prog (Instr.field 47 (rel5 n a b c d) 1) w = .ok (.agg #[.int .i64 a, .int .i64 b, .int .i64 c, .int .i64 d]) w := by kernel_rfl
end Go.Proofs.Ytcdiicckngndcab
