/-
  Contracts of the program's below and RelBelow; for lists of at most 2^20 numbers.
-/
import Derived.Test.YtglhbejdnfafgabO
namespace Go.Proofs.Ytglhbejdnfafgab
open Go.RowKit

theorem eqCell (d : Nat) (a b : Int) (w : World) : Sem.run Try.prog (Op.equalIn (d + 1) 38 (.int .i64 a) (.int .i64 b)) w = .ok (a == b) w := by
  unfold Op.equalIn
  simp [go_sem]
theorem partCell (a0 a1 a2 a3 : Int) (w : World) (k : Nat) (hk : k < 4) : Sem.run Try.prog (part 38 #[.int .i64 a0, .int .i64 a1, .int .i64 a2, .int .i64 a3] (k * 1)) w = .ok ([Value.int .i64 a0, .int .i64 a1, .int .i64 a2, .int .i64 a3].getD k undef) w := by
  rcases (by omega : k = 0 ∨ k = 1 ∨ k = 2 ∨ k = 3) with rfl | rfl | rfl | rfl <;> kernel_rfl
set_option maxHeartbeats 1000000 in
theorem eqRows (a0 a1 a2 a3 b0 b1 b2 b3 : Int) (w : World) :
    Sem.run Try.prog (Op.equalIn 9999 39 (.agg #[.int .i64 a0, .int .i64 a1, .int .i64 a2, .int .i64 a3]) (.agg #[.int .i64 b0, .int .i64 b1, .int .i64 b2, .int .i64 b3])) w = .ok (a0 == b0 && (a1 == b1 && (a2 == b2 && a3 == b3))) w := by
  have e : Op.equalIn 9999 39 = Op.equalIn (9998 + 1) 39 := rfl
  rw [e]
  unfold Op.equalIn
  have hsz : Sem.run Try.prog (sizeOf 38) w = .ok 1 w := by kernel_rfl
  have hr : List.range' 0 4 1 = [0, 1, 2, 3] := rfl
  rw [Sem.run_bind, run_underlying Try.underlying39]
  simp only [Result.andThen_ok]
  rw [Sem.run_bind, hsz]
  simp only [Result.andThen_ok]
  have hf : ∀ (f : Nat → Option Bool × Unit → Sem (ForInStep (Option Bool × Unit))) (i : Option Bool × Unit), forIn [:4] i f = forIn [0, 1, 2, 3] i f := by
    intro f i
    simp [Std.Legacy.Range.forIn_eq_forIn_range', Std.Legacy.Range.size, hr]
  rw [hf]
  simp only [List.forIn_cons, List.forIn_nil, bind_assoc, Sem.run_bind, partCell _ _ _ _ _ 0 (by omega), Result.andThen_ok, List.getD_cons_zero]
  rw [eqCell 9997 a0 b0 w]
  cases (a0 == b0)
  case false => rfl
  simp only [Sem.run_bind, Sem.run_pure, Bool.not_true, Bool.false_eq_true, if_false, partCell _ _ _ _ _ 1 (by omega), Result.andThen_ok, List.getD_cons_zero, List.getD_cons_succ]
  rw [eqCell 9997 a1 b1 w]
  cases (a1 == b1)
  case false => rfl
  simp only [Sem.run_bind, Sem.run_pure, Bool.not_true, Bool.false_eq_true, if_false, partCell _ _ _ _ _ 2 (by omega), Result.andThen_ok, List.getD_cons_zero, List.getD_cons_succ]
  rw [eqCell 9997 a2 b2 w]
  cases (a2 == b2)
  case false => rfl
  simp only [Sem.run_bind, Sem.run_pure, Bool.not_true, Bool.false_eq_true, if_false, partCell _ _ _ _ _ 3 (by omega), Result.andThen_ok, List.getD_cons_zero, List.getD_cons_succ]
  rw [eqCell 9997 a3 b3 w]
  cases (a3 == b3) <;> rfl

theorem both_len (xs ys : List Int) (h : xs.length = ys.length) : (bothL xs ys).length = xs.length := by
  unfold bothL zipI
  rw [List.length_zipWith, h, Nat.min_self]

/-- on small numbers 'x and y is x' and 'nothing of x is outside y' are one -/
theorem bits16 : ∀ x : Fin 16, ∀ y : Fin 16, ((bits .and .i64 (x.val : Int) (y.val : Int) = (x.val : Int)) ↔ (bits .andNot .i64 (x.val : Int) (y.val : Int) = 0)) := by decide +kernel

theorem row16 {xs : List Int} (h : relIn xs = true) (k : Nat) : ∃ x : Fin 16, rowAt xs k = (x.val : Int) := by
  by_cases hk : k < xs.length
  · have hr := relIn_row h (rowAt_get hk)
    have h4 := relIn_len h
    unfold rowIn at hr
    rw [Bool.and_eq_true] at hr
    have h0 := of_decide_eq_true hr.1
    have h1 := of_decide_eq_true hr.2
    have h2 : (2 : Int) ^ xs.length ≤ 16 := by
      rcases (by omega : xs.length = 1 ∨ xs.length = 2 ∨ xs.length = 3 ∨ xs.length = 4) with e | e | e | e <;> rw [e] <;> decide
    exact ⟨⟨(rowAt xs k).toNat, by omega⟩, by simp; omega⟩
  · exact ⟨0, by unfold rowAt; rw [List.getD_eq_getElem?_getD, List.getElem?_eq_none (by omega)]; rfl⟩

theorem below_at {xs ys : List Int} (hp : relIn xs = true) (hq : relIn ys = true) (hn : xs.length = ys.length) (k : Nat) (hk : k < xs.length) :
    rowAt (bothL xs ys) k = rowAt xs k ↔ bits .andNot .i64 (rowAt xs k) (rowAt ys k) = 0 := by
  have e : rowAt (bothL xs ys) k = bits .and .i64 (rowAt xs k) (rowAt ys k) := by
    have h := zip_at (bits .and .i64) xs ys k hk (by omega)
    have h2 : rowAt (bothL xs ys) k = ((zipI (bits .and .i64) xs ys)[k]?).getD 0 := by unfold rowAt bothL; rw [List.getD_eq_getElem?_getD]
    rw [h2, h]
    rfl
  rw [e]
  obtain ⟨x, hx⟩ := row16 hp k
  obtain ⟨y, hy⟩ := row16 hq k
  rw [hx, hy]
  exact bits16 x y

theorem below_no (xs ys : List Int) (hp : relIn xs = true) (hq : relIn ys = true) (hn : xs.length = ys.length) (k : Nat) (h : ¬ rowAt (bothL xs ys) k = rowAt xs k) : belowB xs ys = false := by
  have hk : k < xs.length := by
    apply Decidable.byContradiction
    intro hk
    apply h
    unfold rowAt
    rw [List.getD_eq_getElem?_getD, List.getD_eq_getElem?_getD, List.getElem?_eq_none (by rw [both_len xs ys hn]; omega), List.getElem?_eq_none (by omega)]
  unfold belowB
  rw [List.all_eq_false]
  refine ⟨_, List.mem_of_getElem? (zip_at _ xs ys k hk (by omega)), ?_⟩
  simp
  intro h0
  exact h ((below_at hp hq hn k hk).2 h0)

theorem below_yes (xs ys : List Int) (hp : relIn xs = true) (hq : relIn ys = true) (hn : xs.length = ys.length) (h0 : rowAt (bothL xs ys) 0 = rowAt xs 0) (h1 : rowAt (bothL xs ys) 1 = rowAt xs 1) (h2 : rowAt (bothL xs ys) 2 = rowAt xs 2)
    (h3 : rowAt (bothL xs ys) 3 = rowAt xs 3) : belowB xs ys = true := by
  have h4 := (relIn_len hp).2
  unfold belowB
  rw [List.all_eq_true]
  intro x hx
  obtain ⟨k, hk, hkx⟩ := List.getElem_of_mem hx
  have hk' : k < xs.length := by unfold zipI at hk; rw [List.length_zipWith] at hk; omega
  have hz := zip_at (bits .andNot .i64) xs ys k hk' (by omega)
  rw [List.getElem?_eq_getElem hk, hkx] at hz
  have hz' : x = bits .andNot .i64 (rowAt xs k) (rowAt ys k) := by simpa using hz
  have hall : rowAt (bothL xs ys) k = rowAt xs k := by
    rcases (by omega : k = 0 ∨ k = 1 ∨ k = 2 ∨ k = 3) with rfl | rfl | rfl | rfl <;> assumption
  rw [hz', (below_at hp hq hn k hk').1 hall]
  rfl

end Go.Proofs.Ytglhbejdnfafgab
