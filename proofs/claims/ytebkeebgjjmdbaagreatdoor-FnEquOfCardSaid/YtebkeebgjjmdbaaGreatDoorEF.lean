/-
  Solutions: the model's l2Equal and CompSolve, the program's CompSolve; for lists of at most 2^20 numbers.
-/
import Derived.Test.YtebkeebgjjmdbaaGreatDoorEE
namespace Go.Proofs.YtebkeebgjjmdbaaGreatDoor
open Go.RowKit

set_option maxHeartbeats 1000000 in
theorem l2Equal_any (ao bo : Option Addr) (ca cb : Nat) (xs ys : List Int) (w : World) (hl : xs.length ≤ 1048576) (hl2 : ys.length ≤ 1048576) (hx : Rd w ao xs) (hy : Rd w bo ys) :
    Calls Tryz.prog 33 #[.slice ao xs.length ca, .slice bo ys.length cb] w fun e w' => e = .returned (.bool (decide (xs = ys))) ∧ Dn w w' := by
  go_enter Tryz.func33, Tryz.ntmps33
  by_cases hne : xs.length = ys.length
  · have h1 : ((xs.length : Int) != (ys.length : Int)) = false := by simp [hne]
    have hlen := Lib.hid hne
    clear hne
    go_wp2
    go_loopw [5] (fun i wr => ∃ k : Nat, k ≤ xs.length ∧ i = .int .i64 k ∧ xs.take k = ys.take k ∧ Dn w wr)
      (fun i _ => xs.length - (intOf i).toNat)
    case atStart => exact ⟨0, Nat.zero_le _, rfl, rfl, Dn.refl _⟩
    case round =>
      obtain ⟨k, hk, rfl, ht, hd⟩ := hrel
      have HT := Lib.hid ht
      clear ht
      by_cases hlt : k < xs.length
      · have hlt2 : k < ys.length := by rw [← hlen.out]; exact hlt
        obtain ⟨b, off, x, hxk, rfl, hbl, hc1⟩ := (hd.rd hx).get k hlt
        obtain ⟨b2, off2, y, hyk, rfl, hbl2, hc2⟩ := (hd.rd hy).get k hlt2
        have hi1 : ((k : Nat) : Int) < (xs.length : Int) := by omega
        have hi2 : ((k : Nat) : Int) < (ys.length : Int) := by omega
        have HX := Lib.hid hxk
        have HY := Lib.hid hyk
        clear hx hy hxk hyk
        go_wp2
        go_quiet (fail)
        by_cases heq : x = y
        · have h2 : (x != y) = false := by simp [heq]
          have HE := Lib.hid heq
          clear heq
          go_wp2
          go_roundw
          case rel =>
            refine ⟨k + 1, by omega, by go_num, ?_, hd.trans (Dn.drewN _ _)⟩
            rw [List.take_add_one, List.take_add_one, HT.out, HX.out, HY.out, HE.out]
          case measure => simp [intOf]; omega
        · go_wp2
          go_ret
          have hd' : ¬ xs = ys := by
            rintro rfl
            have := HX.out.symm.trans HY.out
            exact heq (by simpa using this)
          exact ⟨by simp [hd'], hd.trans (Dn.drewN _ _)⟩
      · go_wp2
        go_ret
        obtain rfl : k = xs.length := by omega
        have := HT.out
        rw [List.take_length, hlen.out, List.take_length] at this
        exact ⟨by simp [this], hd⟩
  · have h1 : ((xs.length : Int) != (ys.length : Int)) = true := by simp; omega
    go_wp2
    go_ret
    refine ⟨?_, Dn.refl _⟩
    have : ¬ xs = ys := fun h => hne (by rw [h])
    simp [this]

/-- whether the left residual solves -/
def solveB (xs ys : List Int) : Bool := decide (compL xs (leftL xs ys) = ys)
/-- rows that are alike are alike as arrays -/
theorem rows_eq {n : Nat} {a b : List Int} (h : Rl n a) (k : Rl n b) : (rowAt a 0 == rowAt b 0 && (rowAt a 1 == rowAt b 1 && (rowAt a 2 == rowAt b 2 && rowAt a 3 == rowAt b 3))) = decide (a = b) := by
  rw [Bool.eq_iff_iff, decide_eq_true_iff]
  simp only [Bool.and_eq_true, beq_iff_eq]
  constructor
  · rintro ⟨e0, e1, e2, e3⟩
    apply List.ext_getElem?
    intro i
    have h4 := h.four
    by_cases hi : i < n
    · rw [rowAt_get (by rw [h.len]; exact hi), rowAt_get (by rw [k.len]; exact hi)]
      rcases (by omega : i = 0 ∨ i = 1 ∨ i = 2 ∨ i = 3) with rfl | rfl | rfl | rfl
      · rw [e0]
      · rw [e1]
      · rw [e2]
      · rw [e3]
    · rw [List.getElem?_eq_none (by rw [h.len]; omega), List.getElem?_eq_none (by rw [k.len]; omega)]
  · rintro rfl
    exact ⟨rfl, rfl, rfl, rfl⟩

/-! the model's -/
/-! the program's -/
set_option maxHeartbeats 1000000 in
theorem eqRowsD (d : Nat) (a0 a1 a2 a3 b0 b1 b2 b3 : Int) (w : World) :
    Sem.run Tryz.prog (Op.equalIn (d + 2) 34 (.agg #[.int .i64 a0, .int .i64 a1, .int .i64 a2, .int .i64 a3]) (.agg #[.int .i64 b0, .int .i64 b1, .int .i64 b2, .int .i64 b3])) w = .ok (a0 == b0 && (a1 == b1 && (a2 == b2 && a3 == b3))) w := by
  unfold Op.equalIn
  have hsz : Sem.run Tryz.prog (sizeOf 33) w = .ok 1 w := by kernel_rfl
  have hr : List.range' 0 4 1 = [0, 1, 2, 3] := rfl
  rw [Sem.run_bind, run_underlying Tryz.underlying34]
  simp only [Result.andThen_ok]
  rw [Sem.run_bind, hsz]
  simp only [Result.andThen_ok]
  have hf : ∀ (f : Nat → Option Bool × Unit → Sem (ForInStep (Option Bool × Unit))) (i : Option Bool × Unit), forIn [:4] i f = forIn [0, 1, 2, 3] i f := by
    intro f i
    simp [Std.Legacy.Range.forIn_eq_forIn_range', Std.Legacy.Range.size, hr]
  rw [hf]
  simp only [List.forIn_cons, List.forIn_nil, bind_assoc, Sem.run_bind, partCell _ _ _ _ _ 0 (by omega), Result.andThen_ok, List.getD_cons_zero]
  rw [eqCell d a0 b0 w]
  cases (a0 == b0)
  case false => rfl
  simp only [Sem.run_bind, Sem.run_pure, Bool.not_true, Bool.false_eq_true, if_false, partCell _ _ _ _ _ 1 (by omega), Result.andThen_ok, List.getD_cons_zero, List.getD_cons_succ]
  rw [eqCell d a1 b1 w]
  cases (a1 == b1)
  case false => rfl
  simp only [Sem.run_bind, Sem.run_pure, Bool.not_true, Bool.false_eq_true, if_false, partCell _ _ _ _ _ 2 (by omega), Result.andThen_ok, List.getD_cons_zero, List.getD_cons_succ]
  rw [eqCell d a2 b2 w]
  cases (a2 == b2)
  case false => rfl
  simp only [Sem.run_bind, Sem.run_pure, Bool.not_true, Bool.false_eq_true, if_false, partCell _ _ _ _ _ 3 (by omega), Result.andThen_ok, List.getD_cons_zero, List.getD_cons_succ]
  rw [eqCell d a3 b3 w]
  cases (a3 == b3) <;> rfl

theorem fieldRows (n a b c d : Int) (w : World) : Sem.run Tryz.prog (Instr.field 36 (rel5 n a b c d) 1) w = .ok (.agg #[.int .i64 a, .int .i64 b, .int .i64 c, .int .i64 d]) w := by kernel_rfl
end Go.Proofs.YtebkeebgjjmdbaaGreatDoor
