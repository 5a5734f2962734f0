/-
  Linked points read: the numbers of their classes.
-/
import Derived.Test.YtfmcmicneaolkaaDoorJC
namespace Go.Proofs.YtfmcmicneaolkaaDoor
open Go.RowKit

/-- how many least points are less than k -/
def cm (ps : List Nat) : Nat → Nat
  | 0 => 0
  | k + 1 => cm ps k + if rt ps k = k then 1 else 0
theorem cm_le (ps : List Nat) : ∀ k, cm ps k ≤ k
  | 0 => Nat.le_refl _
  | k + 1 => by
    have := cm_le ps k
    show cm ps k + (if rt ps k = k then 1 else 0) ≤ k + 1
    split <;> omega
theorem cm_yes {ps : List Nat} {k : Nat} (h : rt ps k = k) : cm ps (k + 1) = cm ps k + 1 := by
  show cm ps k + (if rt ps k = k then 1 else 0) = _
  rw [if_pos h]
theorem cm_no {ps : List Nat} {k : Nat} (h : ¬ rt ps k = k) : cm ps (k + 1) = cm ps k := by
  show cm ps k + (if rt ps k = k then 1 else 0) = _
  rw [if_neg h, Nat.add_zero]
/-- the numbers of the classes of the first k points -/
def numTo (n : Nat) (ps : List Nat) (k : Nat) : List Int := (List.range n).map fun i => if i < k then ((cm ps (rt ps i) : Nat) : Int) else 0
def numL (n : Nat) (ps : List Nat) : List Int := numTo n ps n
theorem numTo_len (n : Nat) (ps : List Nat) (k : Nat) : (numTo n ps k).length = n := by simp [numTo]
theorem numTo_get (n : Nat) (ps : List Nat) (k i : Nat) (h : i < n) : (numTo n ps k)[i]? = some (if i < k then ((cm ps (rt ps i) : Nat) : Int) else 0) := by simp [numTo, h]
theorem numTo_zero (n : Nat) (ps : List Nat) : numTo n ps 0 = List.replicate n 0 := by
  apply List.ext_getElem?
  intro i
  by_cases h : i < n
  · rw [numTo_get n ps 0 i h, if_neg (by omega), List.getElem?_replicate, if_pos h]
  · rw [List.getElem?_eq_none (by rw [numTo_len]; omega), List.getElem?_eq_none (by simp; omega)]
theorem numTo_step (n : Nat) (ps : List Nat) (k : Nat) : (numTo n ps k).set k ((cm ps (rt ps k) : Nat) : Int) = numTo n ps (k + 1) := by
  apply List.ext_getElem?
  intro i
  by_cases h : i < n
  · rw [List.getElem?_set, numTo_get n ps k i h, numTo_get n ps (k + 1) i h, numTo_len]
    by_cases e : k = i
    · subst e
      rw [if_pos rfl, if_pos h, if_pos (by omega)]
    · rw [if_neg e]
      by_cases h2 : i < k
      · rw [if_pos h2, if_pos (by omega)]
      · rw [if_neg h2, if_neg (by omega)]
  · rw [List.getElem?_eq_none (by rw [List.length_set, numTo_len]; omega), List.getElem?_eq_none (by rw [numTo_len]; omega)]

end Go.Proofs.YtfmcmicneaolkaaDoor
