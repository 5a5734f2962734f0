/-
  Contracts of the model's l2Comp and l2Reach; for lists of at most 4 numbers below 16.
-/
import Derived.Test.YtglhbejdnfafgabDA
namespace Go.Proofs.Ytglhbejdnfafgab
open Go.RowKit

/-- all numbers are sets of at most four points -/
def In16 (xs : List Int) : Prop := ∀ k, ∃ z : Fin 16, rowAt xs k = (z.val : Int)
theorem In16.rel {xs : List Int} (h : relIn xs = true) : In16 xs := row16 h
theorem or1616 : ∀ z y : Fin 16, ∃ u : Fin 16, bits .or .i64 (z.val : Int) (y.val : Int) = (u.val : Int) := by decide +kernel
theorem imgTo16 {ys : List Int} (h : In16 ys) (set : Int) : ∀ k, ∃ z : Fin 16, imgTo ys set k = (z.val : Int)
  | 0 => ⟨0, rfl⟩
  | k + 1 => by
    rw [imgTo_succ]
    obtain ⟨z, hz⟩ := imgTo16 h set k
    split
    · obtain ⟨y, hy⟩ := h k
      rw [hz, hy]
      exact or1616 z y
    · exact ⟨z, hz⟩

/-- rows of rows, joined -/
def compL (xs ys : List Int) : List Int := xs.map fun x => imgTo ys x ys.length
theorem compL_len (xs ys : List Int) : (compL xs ys).length = xs.length := List.length_map _
theorem rowAt_map (f : Int → Int) (xs : List Int) (k : Nat) (hk : k < xs.length) : rowAt (xs.map f) k = f (rowAt xs k) := by
  have h1 := rowAt_get hk
  have h2 := rowAt_get (xs := xs.map f) (k := k) (by simpa using hk)
  rw [List.getElem?_map, h1] at h2
  simpa using h2.symm
theorem rowAt_out (xs : List Int) (k : Nat) (hk : ¬ k < xs.length) : rowAt xs k = 0 := by
  unfold rowAt
  rw [List.getD_eq_getElem?_getD, List.getElem?_eq_none (by omega)]
  rfl
theorem compL16 {xs ys : List Int} (h : In16 ys) : In16 (compL xs ys) := by
  intro k
  by_cases hk : k < xs.length
  · unfold compL; rw [rowAt_map _ _ _ hk]; exact imgTo16 h _ _
  · exact ⟨0, rowAt_out _ _ (by rw [compL_len]; exact hk)⟩
theorem compL_take {xs ys : List Int} (k : Nat) (hk : k < xs.length) : (compL xs ys).take (k + 1) = (compL xs ys).take k ++ [imgTo ys (rowAt xs k) ys.length] := by
  have h : (compL xs ys)[k]? = some (imgTo ys (rowAt xs k) ys.length) := by
    unfold compL; rw [List.getElem?_map, rowAt_get hk]; rfl
  rw [List.take_add_one, h]
  rfl

/-- one more power added, and again -/
def reachTo (xs : List Int) : Nat → List Int
  | 0 => xs
  | k + 1 => zipI (bits .or .i64) (reachTo xs k) (compL (reachTo xs k) xs)
def reachL (xs : List Int) : List Int := reachTo xs xs.length
theorem reachTo_len (xs : List Int) : ∀ k, (reachTo xs k).length = xs.length
  | 0 => rfl
  | k + 1 => by unfold reachTo zipI; rw [List.length_zipWith, compL_len, reachTo_len xs k, Nat.min_self]
theorem zipAt (f : Int → Int → Int) (xs ys : List Int) (k : Nat) (h1 : k < xs.length) (h2 : k < ys.length) : rowAt (zipI f xs ys) k = f (rowAt xs k) (rowAt ys k) := by
  have h := rowAt_get (xs := zipI f xs ys) (k := k) (by unfold zipI; rw [List.length_zipWith]; omega)
  unfold zipI at h
  rw [List.getElem?_zipWith, rowAt_get h1, rowAt_get h2] at h
  exact (Option.some.inj h).symm
theorem reachTo16 {xs : List Int} (h : In16 xs) : ∀ k, In16 (reachTo xs k)
  | 0 => h
  | k + 1 => fun i => by
    by_cases hi : i < xs.length
    · have e : rowAt (reachTo xs (k + 1)) i = bits .or .i64 (rowAt (reachTo xs k) i) (rowAt (compL (reachTo xs k) xs) i) := zipAt _ _ _ _ (by rw [reachTo_len]; exact hi) (by rw [compL_len, reachTo_len]; exact hi)
      obtain ⟨z, hz⟩ := reachTo16 h k i
      obtain ⟨y, hy⟩ := compL16 (xs := reachTo xs k) h i
      rw [e, hz, hy]
      exact or1616 z y
    · exact ⟨0, rowAt_out _ _ (by rw [reachTo_len]; exact hi)⟩

theorem own_keep {w w' : World} {lo B n : Nat} {v : Value} {us : List Value} (h : w.ownsRow lo 3 1 v n us) (hb : Below B w w') (hB : ∀ k, v.ownBlock = some k → k < B) : w'.ownsRow lo 3 1 v n us := by
  refine ⟨h.1, ?_⟩
  rcases h.2 with h2 | ⟨g, cap, cur, rfl, h2, h3, h4⟩
  · exact .inl h2
  · exact .inr ⟨g, cap, cur, rfl, h2, (hb.block g (hB g rfl)).trans h3, h4⟩
theorem own_form {w : World} {lo n : Nat} {v : Value} {us : List Value} (h : w.ownsRow lo 3 1 v n us) (hn : 1 ≤ n) : ∃ g cap, v = .slice (some ⟨g, 0, none⟩) n cap ∧ lo ≤ g ∧ g < w.heap.size := by
  rcases h.2 with ⟨_, h2⟩ | ⟨g, cap, cur, rfl, _⟩
  · omega
  · exact ⟨g, cap, rfl, (h.lt g rfl).1, (h.lt g rfl).2⟩
theorem rd_own {w : World} {lo g cap : Nat} {xs : List Int} {n : Nat} (h : w.ownsRow lo 3 1 (.slice (some ⟨g, 0, none⟩) n cap) n (xs.map (Value.int .i64))) (hn : xs.length = n) : Rd w (some ⟨g, 0, none⟩) xs := by
  subst hn
  obtain ⟨ao, c, he, hr⟩ := row_rd h
  cases he
  exact hr

theorem l2Reach_at (xs : List Int) (k j : Nat) (hj : j < xs.length) : (reachTo xs (k + 1))[j]? = some (bits .or .i64 (rowAt (reachTo xs k) j) (rowAt (compL (reachTo xs k) xs) j)) := by
  have h := rowAt_get (xs := reachTo xs (k + 1)) (k := j) (by rw [reachTo_len]; exact hj)
  rw [h]
  exact congrArg some (zipAt _ _ _ _ (by rw [reachTo_len]; exact hj) (by rw [compL_len, reachTo_len]; exact hj))

end Go.Proofs.Ytglhbejdnfafgab
