/-
  Pairs that turn and others: KindSplit of both.
-/
import Derived.Test.YtchbbflpckaddaaHB
import Derived.Test.YtchbbflpckaddaaDD
namespace Go.Proofs.Ytchbbflpckaddaa
open Go.RowKit

/-- pairs of different points that turn, and those that do not -/
def turnsL (xs : List Int) : List Int := twoW (offI xs)
def oneWayL (xs : List Int) : List Int := bothL (offI xs) (otherL (turnsL xs))
theorem Rl.turns {n : Nat} {xs : List Int} (h : Rl n xs) : Rl n (turnsL xs) := h.off.twoW
theorem Rl.oneWay {n : Nat} {xs : List Int} (h : Rl n xs) : Rl n (oneWayL xs) := h.off.both h.turns.other
/-- two lists of the call's own, apart -/
def GaveLL (w : World) (r s : List Int) (ok : Bool) (e : Ending) (w' : World) : Prop :=
  ∃ u v l0 h0 l1 h1, e = .returned (.tuple #[u, v, .bool ok]) ∧ OwnR w' l0 h0 u r ∧ OwnR w' l1 h1 v s ∧ w.heap.size ≤ l0 ∧ w.heap.size ≤ l1 ∧ (h0 ≤ l1 ∨ h1 ≤ l0) ∧ Below w.heap.size w w'
/-- two lists of the call's own -/
def GaveLLS (w : World) (r s : List Int) (ok : Bool) (e : Ending) (w' : World) : Prop :=
  ∃ u v, e = .returned (.tuple #[u, v, .bool ok]) ∧ OwnR w' w.heap.size w'.heap.size u r ∧ OwnR w' w.heap.size w'.heap.size v s ∧ Below w.heap.size w w'

/-! the model's rows -/
def splitX (xs : List Int) : List Int := (List.range xs.length).map fun i => bits .andNot .i64 (bits .and .i64 (rowAt xs i) (rowAt (turnL xs) i)) (pt i)
def splitY (xs : List Int) : List Int := (List.range xs.length).map fun i => bits .andNot .i64 (bits .andNot .i64 (rowAt xs i) (rowAt (turnL xs) i)) (pt i)
theorem rowAt_range (n : Nat) (f : Nat → Int) (i : Nat) (hi : i < n) : rowAt ((List.range n).map f) i = f i := by
  unfold rowAt
  rw [List.getD_eq_getElem?_getD, List.getElem?_map, List.getElem?_range hi]
  rfl
theorem b_an : ∀ n : Fin 5, ∀ x y : Fin 16, ∀ i : Fin n.val, x.val < 2 ^ n.val → ∃ u : Fin 16, bits .andNot .i64 (bits .and .i64 (x.val : Int) (y.val : Int)) (pt i.val) = (u.val : Int) ∧ u.val < 2 ^ n.val ∧ ∀ j : Fin n.val, hasB (u.val : Int) j.val = (hasB (x.val : Int) j.val && hasB (y.val : Int) j.val && !decide (j.val = i.val)) := by decide +kernel
theorem b_ann : ∀ n : Fin 5, ∀ x y : Fin 16, ∀ i : Fin n.val, x.val < 2 ^ n.val → ∃ u : Fin 16, bits .andNot .i64 (bits .andNot .i64 (x.val : Int) (y.val : Int)) (pt i.val) = (u.val : Int) ∧ u.val < 2 ^ n.val ∧ ∀ j : Fin n.val, hasB (u.val : Int) j.val = (hasB (x.val : Int) j.val && !hasB (y.val : Int) j.val && !decide (j.val = i.val)) := by decide +kernel
theorem splitX_row {n : Nat} {xs : List Int} (h : Rl n xs) (i : Nat) (hi : i < n) : ∃ u : Fin 16, rowAt (splitX xs) i = (u.val : Int) ∧ u.val < 2 ^ n ∧ ∀ j, j < n → hasB (u.val : Int) j = (hB xs i j && hB xs j i && !decide (j = i)) := by
  obtain ⟨x, hx, hx2⟩ := h.row i
  obtain ⟨y, hy, _⟩ := h.turn.row i
  obtain ⟨u, h1, h2, h3⟩ := b_an ⟨n, by have := h.four; omega⟩ x y ⟨i, hi⟩ hx2
  refine ⟨u, ?_, h2, fun j hj => ?_⟩
  · unfold splitX
    rw [rowAt_range _ _ _ (by rw [h.len]; exact hi), hx, hy]
    exact h1
  · have e := h3 ⟨j, hj⟩
    have e2 := hB_turn h i j hi hj
    unfold hB at e2 ⊢
    rw [hy] at e2
    rw [hx, ← e2]
    exact e
theorem splitY_row {n : Nat} {xs : List Int} (h : Rl n xs) (i : Nat) (hi : i < n) : ∃ u : Fin 16, rowAt (splitY xs) i = (u.val : Int) ∧ u.val < 2 ^ n ∧ ∀ j, j < n → hasB (u.val : Int) j = (hB xs i j && !hB xs j i && !decide (j = i)) := by
  obtain ⟨x, hx, hx2⟩ := h.row i
  obtain ⟨y, hy, _⟩ := h.turn.row i
  obtain ⟨u, h1, h2, h3⟩ := b_ann ⟨n, by have := h.four; omega⟩ x y ⟨i, hi⟩ hx2
  refine ⟨u, ?_, h2, fun j hj => ?_⟩
  · unfold splitY
    rw [rowAt_range _ _ _ (by rw [h.len]; exact hi), hx, hy]
    exact h1
  · have e := h3 ⟨j, hj⟩
    have e2 := hB_turn h i j hi hj
    unfold hB at e2 ⊢
    rw [hy] at e2
    rw [hx, ← e2]
    exact e
theorem splitX_len (xs : List Int) : (splitX xs).length = xs.length := by unfold splitX; simp
theorem splitY_len (xs : List Int) : (splitY xs).length = xs.length := by unfold splitY; simp
theorem splitX_eq {n : Nat} {xs : List Int} (h : Rl n xs) : splitX xs = turnsL xs := by
  refine (Rl.mk' ((splitX_len xs).trans h.len) h.one h.four fun i hi => ?_).ext h.turns fun i j hi hj => ?_
  · obtain ⟨u, h1, h2, _⟩ := splitX_row h i hi
    exact ⟨u, h1, h2⟩
  · obtain ⟨u, h1, h2, h3⟩ := splitX_row h i hi
    unfold turnsL
    rw [hB_twoW h.off i j hi hj, hB_off h i j hi hj, hB_off h j i hj hi]
    unfold hB at h3 ⊢
    rw [h1, h3 j hj]
    by_cases e : j = i
    · subst e; simp
    · have e2 : ¬ i = j := fun q => e q.symm
      simp [e, e2]
theorem splitY_eq {n : Nat} {xs : List Int} (h : Rl n xs) : splitY xs = oneWayL xs := by
  refine (Rl.mk' ((splitY_len xs).trans h.len) h.one h.four fun i hi => ?_).ext h.oneWay fun i j hi hj => ?_
  · obtain ⟨u, h1, h2, _⟩ := splitY_row h i hi
    exact ⟨u, h1, h2⟩
  · obtain ⟨u, h1, h2, h3⟩ := splitY_row h i hi
    unfold oneWayL
    rw [hB_both h.off h.turns.other i j hi hj, hB_other h.turns i j hi hj]
    unfold turnsL
    rw [hB_twoW h.off i j hi hj, hB_off h i j hi hj, hB_off h j i hj hi]
    unfold hB at h3 ⊢
    rw [h1, h3 j hj]
    by_cases e : j = i
    · subst e; simp
    · have e2 : ¬ i = j := fun q => e q.symm
      simp [e, e2]
      cases hasB (rowAt xs i) j <;> cases hasB (rowAt xs j) i <;> rfl
theorem split_take (f : Nat → Int) (n k : Nat) (hk : k < n) : ((List.range n).map f).take (k + 1) = ((List.range n).map f).take k ++ [f k] := by
  rw [List.take_succ_eq_append_getElem (by simpa using hk)]
  simp

/-! the program's -/
end Go.Proofs.Ytchbbflpckaddaa
