/-
  Points related to all of a set: the program's relatedToAll; for relations of at most 4 points.
-/
import Derived.Test.YtcdiicckngndcabHA
namespace Go.Proofs.Ytcdiicckngndcab
open Go.RowKit

/-- what the first k points of a set are all related to -/
def relTo (xs : List Int) (z : Int) : Nat → Int
  | 0 => ((2 ^ xs.length - 1 : Nat) : Int)
  | k + 1 => if hasB z k then bits .and .i64 (relTo xs z k) (rowAt xs k) else relTo xs z k
/-- what all points of a set are related to -/
def relAll (xs : List Int) (z : Int) : Int := relTo xs z xs.length

theorem b_top : ∀ n : Fin 5, ∃ u : Fin 16, ((2 ^ n.val - 1 : Nat) : Int) = (u.val : Int) ∧ u.val < 2 ^ n.val ∧ ∀ j : Fin n.val, hasB (u.val : Int) j.val = true := by decide +kernel
theorem rel_row {n : Nat} {xs : List Int} (h : Rl n xs) (z : Int) : ∀ k, k ≤ n → ∃ u : Fin 16, relTo xs z k = (u.val : Int) ∧ u.val < 2 ^ n ∧
    ∀ j, j < n → (hasB (u.val : Int) j = true ↔ ∀ i, i < k → hasB z i = true → hB xs i j = true)
  | 0, _ => by
    obtain ⟨u, e, hlt, hj⟩ := b_top ⟨n, by have := h.four; omega⟩
    refine ⟨u, by rw [show relTo xs z 0 = ((2 ^ xs.length - 1 : Nat) : Int) from rfl, h.len]; exact e, hlt, fun j hjn => ?_⟩
    rw [hj ⟨j, hjn⟩]
    exact ⟨fun _ i hi => by omega, fun _ => rfl⟩
  | k + 1, hk => by
    obtain ⟨u, e, hlt, hj⟩ := rel_row h z k (by omega)
    cases hz : hasB z k with
    | false =>
      refine ⟨u, by rw [show relTo xs z (k + 1) = if hasB z k then bits .and .i64 (relTo xs z k) (rowAt xs k) else relTo xs z k from rfl, hz]; exact e, hlt, fun j hjn => ?_⟩
      rw [hj j hjn]
      constructor
      · intro g i hi hzi
        by_cases e : i = k
        · subst e
          rw [hz] at hzi
          cases hzi
        · exact g i (by omega) hzi
      · intro g i hi hzi
        exact g i (by omega) hzi
    | true =>
      obtain ⟨y, hy, hyl⟩ := h.row k
      obtain ⟨v, hv, hvl⟩ := b_andlt ⟨n, by have := h.four; omega⟩ u y hlt hyl
      refine ⟨v, ?_, hvl, fun j hjn => ?_⟩
      · rw [show relTo xs z (k + 1) = if hasB z k then bits .and .i64 (relTo xs z k) (rowAt xs k) else relTo xs z k from rfl, hz, if_pos rfl, e, hy]
        exact hv
      · have hb := b_and u y ⟨j, by have := h.four; omega⟩
        rw [hv] at hb
        rw [hb, Bool.and_eq_true, hj j hjn]
        have hyk : hasB (y.val : Int) j = hB xs k j := by unfold hB; rw [hy]
        rw [hyk]
        constructor
        · rintro ⟨g, g2⟩ i hi hzi
          by_cases e : i = k
          · subst e
            exact g2
          · exact g i (by omega) hzi
        · intro g
          exact ⟨fun i hi hzi => g i (by omega) hzi, g k (by omega) hz⟩
theorem relAll_row {n : Nat} {xs : List Int} (h : Rl n xs) (z : Int) : ∃ u : Fin 16, relAll xs z = (u.val : Int) ∧ u.val < 2 ^ n ∧
    ∀ j, j < n → (hasB (u.val : Int) j = true ↔ ∀ i, i < n → hasB z i = true → hB xs i j = true) := by
  have := rel_row h z n (Nat.le_refl _)
  unfold relAll
  rw [h.len]
  exact this

theorem rowA {xs : List Int} {k : Nat} {x : Int} (h : xs[k]? = some x) : x = rowAt xs k := by
  unfold rowAt
  rw [List.getD_eq_getElem?_getD, h]
  rfl
theorem relTo_step (xs : List Int) (z : Int) (k : Nat) : relTo xs z (k + 1) = if hasB z k then bits .and .i64 (relTo xs z k) (rowAt xs k) else relTo xs z k := rfl
theorem top_wrap (n : Nat) (h1 : 1 ≤ n) (h4 : n ≤ 4) : wrap64 (wrap64 (2 ^ n) - 1) = ((2 ^ n - 1 : Nat) : Int) := by
  rcases (by omega : n = 1 ∨ n = 2 ∨ n = 3 ∨ n = 4) with rfl | rfl | rfl | rfl <;> decide +kernel
theorem row_fin {n : Nat} {z : Int} (h4 : n ≤ 4) (h : rowIn n z = true) : ∃ u : Fin 16, z = (u.val : Int) ∧ u.val < 2 ^ n := by
  unfold rowIn at h
  rw [Bool.and_eq_true] at h
  have h1 := of_decide_eq_true h.1
  have h2 := of_decide_eq_true h.2
  have h3 : (2 : Int) ^ n ≤ 16 := by
    rcases (by omega : n = 0 ∨ n = 1 ∨ n = 2 ∨ n = 3 ∨ n = 4) with rfl | rfl | rfl | rfl | rfl <;> decide
  refine ⟨⟨z.toNat, by omega⟩, by show z = ((z.toNat : Nat) : Int); omega, ?_⟩
  show z.toNat < 2 ^ n
  have : ((2 ^ n : Nat) : Int) = (2 : Int) ^ n := by rcases (by omega : n = 0 ∨ n = 1 ∨ n = 2 ∨ n = 3 ∨ n = 4) with rfl | rfl | rfl | rfl | rfl <;> rfl
  omega
theorem pow_le16 {n : Nat} (h4 : n ≤ 4) : 2 ^ n ≤ 16 := by
  rcases (by omega : n = 0 ∨ n = 1 ∨ n = 2 ∨ n = 3 ∨ n = 4) with rfl | rfl | rfl | rfl | rfl <;> decide
theorem top_one (n : Nat) (h1 : 1 ≤ n) (h4 : n ≤ 4) : wrap64 (((2 ^ n - 1 : Nat) : Int) + 1) = ((2 ^ n : Nat) : Int) := by
  rcases (by omega : n = 1 ∨ n = 2 ∨ n = 3 ∨ n = 4) with rfl | rfl | rfl | rfl <;> decide +kernel
theorem pow_wrap (n : Nat) (h1 : 1 ≤ n) (h4 : n ≤ 4) : wrap64 (2 ^ n) = ((2 ^ n : Nat) : Int) := by
  rcases (by omega : n = 1 ∨ n = 2 ∨ n = 3 ∨ n = 4) with rfl | rfl | rfl | rfl <;> decide +kernel

/-- a set is a part of another one -/
def partB (s t : Int) : Bool := bits .andNot .i64 s t == 0
theorem isPartOf_any (s t : Int) (w : World) : Calls Try.prog 55 #[.int .i64 s, .int .i64 t] w fun e w' => e = .returned (.bool (partB s t)) ∧ w = w' := by
  go_enter Try.func55, Try.ntmps55
  go_wp2
  go_ret
  exact ⟨rfl, rfl⟩
end Go.Proofs.Ytcdiicckngndcab
