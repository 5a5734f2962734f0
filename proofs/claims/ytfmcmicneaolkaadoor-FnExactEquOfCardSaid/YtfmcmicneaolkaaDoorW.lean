/-
  Contracts of the model's l1Turned and RelTurned, and of the program's RelTurned; for lists of at most 2^20 numbers.
-/
import Derived.Test.YtfmcmicneaolkaaDoorV
namespace Go.Proofs.YtfmcmicneaolkaaDoor
open Go.RowKit

theorem or16 : ∀ z : Fin 16, ∀ i : Fin 4, ∃ y : Fin 16, bits .or .i64 (z.val : Int) (pt i.val) = (y.val : Int) := by decide +kernel
theorem turn16 (n : Nat) (h4 : n ≤ 4) (pre : List (Fin n × Fin n)) : ∀ i, ∃ z : Fin 16, rowAt (turnAcc n pre) i = (z.val : Int) := by
  have h : ∀ (l : List (Fin n × Fin n)) (zs : List Int), zs.length = n → (∀ i, ∃ z : Fin 16, rowAt zs i = (z.val : Int)) → ∀ i, ∃ z : Fin 16, rowAt (l.foldl (fun zs p => addPair zs p.2.val p.1.val) zs) i = (z.val : Int) := by
    intro l
    induction l with
    | nil => intro zs _ hz; exact hz
    | cons p r ih =>
      intro zs hl hz
      rw [List.foldl_cons]
      refine ih _ (by rw [addPair_len, hl]) ?_
      intro i
      rw [addPair_at zs p.2.val p.1.val i (by rw [hl]; exact p.2.isLt)]
      by_cases e : i = p.2.val
      · rw [if_pos e]
        obtain ⟨z, hz2⟩ := hz p.2.val
        rw [hz2]
        exact or16 z ⟨p.1.val, by have := p.1.isLt; omega⟩
      · rw [if_neg e]
        exact hz i
  refine h pre _ (by simp) ?_
  intro i
  refine ⟨0, ?_⟩
  unfold rowAt
  rw [List.getD_eq_getElem?_getD, List.getElem?_replicate]
  split <;> rfl

theorem bitStep : ∀ z y : Fin 16, ∀ i j : Fin 4, bits .or .i64 (z.val : Int) (wrap64 (bits .and .i64 ((y.val : Int) / 2 ^ j.val) 1 * 2 ^ i.val)) = if hasB (y.val : Int) j.val then bits .or .i64 (z.val : Int) (pt i.val) else (z.val : Int) := by decide +kernel

theorem set_same (zs : List Int) (j : Nat) : zs.set j (rowAt zs j) = zs := by
  apply List.ext_getElem?
  intro k
  rw [List.getElem?_set]
  by_cases e : j = k
  · subst e
    rw [if_pos rfl]
    by_cases h : j < zs.length
    · rw [if_pos h, rowAt_get h]
    · rw [if_neg h, List.getElem?_eq_none (by omega)]
  · rw [if_neg e]

theorem turn_step (xs : List Int) (h4 : xs.length ≤ 4) (i j : Nat) (hi : i < xs.length) (hj : j < xs.length) :
    turnAcc xs.length (pairsTo xs.length xs (i * xs.length + (j + 1))) =
      (turnAcc xs.length (pairsTo xs.length xs (i * xs.length + j))).set j (if hasB (rowAt xs i) j then bits .or .i64 (rowAt (turnAcc xs.length (pairsTo xs.length xs (i * xs.length + j))) j) (pt i) else rowAt (turnAcc xs.length (pairsTo xs.length xs (i * xs.length + j))) j) := by
  have hst := pairsTo_step xs.length h4 xs ⟨i, hi⟩ ⟨j, hj⟩
  rw [← Nat.add_assoc, hst]
  by_cases hb : hasB (rowAt xs i) j = true
  · rw [if_pos hb, if_pos hb, turnAcc_snoc]
    rfl
  · rw [if_neg hb, if_neg hb, List.append_nil, set_same]

/-- a relation turned -/
def turnL (xs : List Int) : List Int := turnAcc xs.length (pairsOf xs)
theorem turnL_len (xs : List Int) : (turnL xs).length = xs.length := turnAcc_len _ _

end Go.Proofs.YtfmcmicneaolkaaDoor
