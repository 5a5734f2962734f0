/-
  What covers: the program's covers and OrderCovers, the model's l5Strict and OrderCovers; for lists of at most 2^20 numbers.
-/
import Derived.Test.YtnmgoeklcmoalaaOA
import Derived.Test.YtnmgoeklcmoalaaHCb
import Derived.Test.YtnmgoeklcmoalaaDD
namespace Go.Proofs.Ytnmgoeklcmoalaa
open Go.RowKit

/-- who covers -/
def covL (xs : List Int) : List Int := bothL (offI xs) (otherL (compL (offI xs) (offI xs)))
theorem Rl.cov {n : Nat} {xs : List Int} (h : Rl n xs) : Rl n (covL xs) := h.off.both (h.off.comp h.off).other

/-! the model's -/
theorem rowB {xs : List Int} {k : Nat} {x : Int} (h : xs[k]? = some x) : x = rowAt xs k := by
  unfold rowAt
  rw [List.getD_eq_getElem?_getD, h]
  rfl
theorem pt_wrapO (k : Nat) (h : k < 4) : IntKind.i64.wrap (2 ^ k) = pt k := by
  rcases (by omega : k = 0 ∨ k = 1 ∨ k = 2 ∨ k = 3) with rfl | rfl | rfl | rfl <;> decide +kernel
def strictL (xs : List Int) : List Int := (List.range xs.length).map fun i => bits .andNot .i64 (rowAt xs i) (pt i)
def takeL (xs ys : List Int) : List Int := (List.range xs.length).map fun i => bits .andNot .i64 (rowAt xs i) (rowAt ys i)
theorem rowRange (n : Nat) (f : Nat → Int) (i : Nat) (hi : i < n) : rowAt ((List.range n).map f) i = f i := by
  unfold rowAt
  rw [List.getD_eq_getElem?_getD, List.getElem?_map, List.getElem?_range hi]
  rfl
theorem range_take (f : Nat → Int) (n k : Nat) (hk : k < n) : ((List.range n).map f).take (k + 1) = ((List.range n).map f).take k ++ [f k] := by
  rw [List.take_succ_eq_append_getElem (by simpa using hk)]
  simp
theorem b_less : ∀ n : Fin 5, ∀ x y : Fin 16, x.val < 2 ^ n.val → ∃ u : Fin 16, bits .andNot .i64 (x.val : Int) (y.val : Int) = (u.val : Int) ∧ u.val < 2 ^ n.val ∧ ∀ j : Fin n.val, hasB (u.val : Int) j.val = (hasB (x.val : Int) j.val && !hasB (y.val : Int) j.val) := by decide +kernel
theorem less_row {n : Nat} {xs ys : List Int} (h : Rl n xs) (y : Fin 16) (_hy : ys.length = xs.length) (f : Nat → Int) (i : Nat) (hi : i < n) (hf : f i = (y.val : Int)) :
    ∃ u : Fin 16, rowAt ((List.range xs.length).map fun i => bits .andNot .i64 (rowAt xs i) (f i)) i = (u.val : Int) ∧ u.val < 2 ^ n ∧ ∀ j, j < n → hasB (u.val : Int) j = (hB xs i j && !hasB (y.val : Int) j) := by
  obtain ⟨x, hx, hxl⟩ := h.row i
  obtain ⟨u, hu, hul, hj⟩ := b_less ⟨n, by have := h.four; omega⟩ x y hxl
  refine ⟨u, ?_, hul, fun j hjn => ?_⟩
  · rw [rowRange _ _ _ (by rw [h.len]; exact hi), hf, hx]
    exact hu
  · rw [hj ⟨j, hjn⟩]
    unfold hB
    rw [hx]
theorem strict_eq {n : Nat} {xs : List Int} (h : Rl n xs) : strictL xs = offI xs := by
  have hr : ∀ i, i < n → ∃ u : Fin 16, rowAt (strictL xs) i = (u.val : Int) ∧ u.val < 2 ^ n ∧ ∀ j, j < n → hasB (u.val : Int) j = (hB xs i j && !decide (j = i)) := fun i hi => by
    have h4 := h.four
    obtain ⟨y, hy, _⟩ := b_ptlt ⟨n, by omega⟩ ⟨i, hi⟩
    obtain ⟨u, hu, hul, hj⟩ := less_row (ys := xs) h y rfl pt i hi hy
    refine ⟨u, hu, hul, fun j hjn => ?_⟩
    rw [hj j hjn, ← hy]
    have := b_pt ⟨i, by omega⟩ ⟨j, by omega⟩
    rw [this]
  have hR : Rl n (strictL xs) := Rl.mk' (by unfold strictL; simp [h.len]) h.one h.four (fun i hi => by obtain ⟨u, h1, h2, _⟩ := hr i hi; exact ⟨u, h1, h2⟩)
  refine hR.ext h.off fun i j hi hj => ?_
  obtain ⟨u, hu, _, hb⟩ := hr i hi
  rw [hB_off h i j hi hj, ← hb j hj]
  unfold hB
  rw [hu]
theorem take_eq {n : Nat} {xs ys : List Int} (h : Rl n xs) (k : Rl n ys) : takeL xs ys = bothL xs (otherL ys) := by
  have hr : ∀ i, i < n → ∃ u : Fin 16, rowAt (takeL xs ys) i = (u.val : Int) ∧ u.val < 2 ^ n ∧ ∀ j, j < n → hasB (u.val : Int) j = (hB xs i j && !hB ys i j) := fun i hi => by
    obtain ⟨y, hy, _⟩ := k.row i
    obtain ⟨u, hu, hul, hj⟩ := less_row (ys := ys) h y (by rw [h.len, k.len]) (rowAt ys) i hi hy
    refine ⟨u, hu, hul, fun j hjn => ?_⟩
    rw [hj j hjn]
    unfold hB
    rw [hy]
  have hR : Rl n (takeL xs ys) := Rl.mk' (by unfold takeL; simp [h.len]) h.one h.four (fun i hi => by obtain ⟨u, h1, h2, _⟩ := hr i hi; exact ⟨u, h1, h2⟩)
  refine hR.ext (h.both k.other) fun i j hi hj => ?_
  obtain ⟨u, hu, _, hb⟩ := hr i hi
  rw [hB_both h k.other i j hi hj, hB_other k i j hi hj, ← hb j hj]
  unfold hB
  rw [hu]

end Go.Proofs.Ytnmgoeklcmoalaa
