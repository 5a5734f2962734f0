/-
  What is below what, pair by pair; laws of residuals and of what is reached.
-/
import Derived.Test.YtcdiicckngndcabEB
namespace Go.Proofs.Ytcdiicckngndcab
open Go.RowKit

theorem b_andnot : ∀ z y : Fin 16, (bits .andNot .i64 (z.val : Int) (y.val : Int) = 0) ↔ ∀ j : Fin 4, hasB (z.val : Int) j.val = true → hasB (y.val : Int) j.val = true := by decide +kernel
theorem b_out : ∀ n : Fin 5, ∀ z : Fin 16, z.val < 2 ^ n.val → ∀ j : Fin 4, ¬ j.val < n.val → hasB (z.val : Int) j.val = false := by decide +kernel
theorem below_iff {n : Nat} {xs ys : List Int} (h : Rl n xs) (k : Rl n ys) : belowB xs ys = true ↔ ∀ i j, i < n → j < n → hB xs i j = true → hB ys i j = true := by
  have hl : (zipI (bits .andNot .i64) xs ys).length = n := by unfold zipI; rw [List.length_zipWith, h.len, k.len, Nat.min_self]
  have key : belowB xs ys = true ↔ ∀ i, i < n → bits .andNot .i64 (rowAt xs i) (rowAt ys i) = 0 := by
    unfold belowB
    rw [List.all_eq_true]
    constructor
    · intro hA i hi
      have hm := rowAt_get (xs := zipI (bits .andNot .i64) xs ys) (k := i) (by rw [hl]; exact hi)
      have := hA _ (List.mem_of_getElem? hm)
      rw [zipAt _ _ _ _ (by rw [h.len]; exact hi) (by rw [k.len]; exact hi)] at this
      simpa using this
    · intro hA x hx
      obtain ⟨i, hi, rfl⟩ := List.mem_iff_getElem.1 hx
      have hm := rowAt_get (xs := zipI (bits .andNot .i64) xs ys) (k := i) hi
      rw [List.getElem?_eq_getElem hi, zipAt _ _ _ _ (by rw [h.len]; omega) (by rw [k.len]; omega)] at hm
      rw [Option.some.inj hm, hA i (by omega)]
      rfl
  rw [key]
  have h4 := h.four
  constructor
  · intro hA i j hi hj e
    obtain ⟨z, hz, _⟩ := h.row i
    obtain ⟨y, hy, _⟩ := k.row i
    have := hA i hi
    rw [hz, hy] at this
    have h2 := (b_andnot z y).1 this ⟨j, by omega⟩
    unfold hB at e ⊢
    rw [hz] at e
    rw [hy]
    exact h2 e
  · intro hA i hi
    obtain ⟨z, hz, hzl⟩ := h.row i
    obtain ⟨y, hy, _⟩ := k.row i
    rw [hz, hy, b_andnot]
    intro j e
    by_cases hj : j.val < n
    · have := hA i j.val hi hj (by unfold hB; rw [hz]; exact e)
      unfold hB at this
      rw [hy] at this
      exact this
    · exact absurd e (by rw [b_out ⟨n, by omega⟩ z hzl j (by simpa using hj)]; simp)
/-- what composes below another one does so turned, with others -/
theorem schroeder {n : Nat} {a b : List Int} (h : Rl n a) (k : Rl n b) : belowB (compL (turnL a) (otherL (compL a b))) (otherL b) = true := by
  have hc := h.comp k
  rw [below_iff (h.turn.comp hc.other) k.other]
  intro i j hi hj e
  obtain ⟨l, hl, e1, e2⟩ := (hB_comp h.turn hc.other i j hi hj).1 e
  rw [hB_turn h i l hi hl] at e1
  rw [hB_other hc l j hl hj] at e2
  rw [hB_other k i j hi hj]
  cases hb : hB b i j with
  | false => rfl
  | true =>
    have : hB (compL a b) l j = true := (hB_comp h k l j hl hj).2 ⟨i, hi, e1, hb⟩
    rw [this] at e2
    cases e2
theorem left_iff {n : Nat} {a b : List Int} (h : Rl n a) (k : Rl n b) (i j : Nat) (hi : i < n) (hj : j < n) : hB (leftL a b) i j = true ↔ ∀ l, l < n → hB a l i = true → hB b l j = true := by
  unfold leftL
  rw [hB_other (h.turn.comp k.other) i j hi hj, Bool.not_eq_true']
  constructor
  · intro e l hl ea
    cases hb : hB b l j with
    | true => rfl
    | false =>
      have : hB (compL (turnL a) (otherL b)) i j = true := (hB_comp h.turn k.other i j hi hj).2 ⟨l, hl, by rw [hB_turn h i l hi hl]; exact ea, by rw [hB_other k l j hl hj, hb]; rfl⟩
      rw [this] at e
      cases e
  · intro hA
    cases hc : hB (compL (turnL a) (otherL b)) i j with
    | false => rfl
    | true =>
      obtain ⟨l, hl, e1, e2⟩ := (hB_comp h.turn k.other i j hi hj).1 hc
      rw [hB_turn h i l hi hl] at e1
      rw [hB_other k l j hl hj, hA l hl e1] at e2
      cases e2
/-- left residuals compose below -/
theorem left_below {n : Nat} {a b : List Int} (h : Rl n a) (k : Rl n b) : belowB (compL a (leftL a b)) b = true := by
  rw [below_iff (h.comp (h.left k)) k]
  intro i j hi hj e
  obtain ⟨l, hl, e1, e2⟩ := (hB_comp h (h.left k) i j hi hj).1 e
  exact (left_iff h k l j hl hj).1 e2 i hi e1
theorem left_back {n : Nat} {a b : List Int} (h : Rl n a) (k : Rl n b) : belowB b (leftL a (compL a b)) = true := by
  rw [below_iff k (h.left (h.comp k))]
  intro i j hi hj e
  rw [left_iff h (h.comp k) i j hi hj]
  intro l hl ea
  exact (hB_comp h k l j hl hj).2 ⟨i, hi, ea, e⟩
theorem right_below {n : Nat} {a b : List Int} (h : Rl n a) (k : Rl n b) : belowB (compL (rightL a b) a) b = true := by
  rw [below_iff ((h.right k).comp h) k]
  intro i j hi hj e
  obtain ⟨l, hl, e1, e2⟩ := (hB_comp (h.right k) h i j hi hj).1 e
  unfold rightL at e1
  rw [hB_other (k.other.comp h.turn) i l hi hl, Bool.not_eq_true'] at e1
  cases hb : hB b i j with
  | true => rfl
  | false =>
    have : hB (compL (otherL b) (turnL a)) i l = true := (hB_comp k.other h.turn i l hi hl).2 ⟨j, hj, by rw [hB_other k i j hi hj, hb]; rfl, by rw [hB_turn h j l hj hl]; exact e2⟩
    rw [this] at e1
    cases e1
/-- a power of powers -/
theorem pow_add {xs : List Int} (h : Rl xs.length xs) (i j : Nat) (hi : i < xs.length) (hj : j < xs.length) (s t l : Nat) (hl : l < xs.length) (e1 : hB (powL xs s) i l = true) (e2 : hB (powL xs t) l j = true) : hB (powL xs (s + t)) i j = true := by
  induction t generalizing j with
  | zero =>
    have h2 : hB (sameL xs.length) l j = true := e2
    rw [hB_same h.four l j hl hj] at h2
    have := of_decide_eq_true h2
    subst this
    exact e1
  | succ t ih =>
    obtain ⟨m, hm, f1, f2⟩ := (hB_comp (h.pow t) h l j hl hj).1 e2
    exact (hB_comp (h.pow (s + t)) h i j hi hj).2 ⟨m, hm, ih m hm f1, f2⟩
theorem reach_trans {xs : List Int} (h : Rl xs.length xs) : belowB (compL (reachL xs) (reachL xs)) (reachL xs) = true := by
  rw [below_iff (h.reach.comp h.reach) h.reach]
  intro i j hi hj e
  obtain ⟨l, hl, e1, e2⟩ := (hB_comp h.reach h.reach i j hi hj).1 e
  obtain ⟨s, hs, f1⟩ := (hB_reach h i l hi hl).1 e1
  obtain ⟨t, _, f2⟩ := (hB_reach h l j hl hj).1 e2
  exact (hB_reach h i j hi hj).2 ⟨s + t, by omega, pow_add h i j hi hj s t l hl f1 f2⟩
theorem reach_has {xs : List Int} (h : Rl xs.length xs) : belowB xs (reachL xs) = true := by
  rw [below_iff h h.reach]
  intro i j hi hj e
  exact (hB_reach h i j hi hj).2 ⟨1, Nat.le_refl _, by rw [hB_pow1 h i j hi hj]; exact e⟩
/-- what is reached again is what was reached -/
theorem reach_reach {xs : List Int} (h : Rl xs.length xs) : reachL (reachL xs) = reachL xs := by
  have hr := h.reach
  have hlen := hr.len
  have h2 : Rl (reachL xs).length (reachL xs) := by rw [hlen]; exact hr
  have h3 : Rl xs.length (reachL (reachL xs)) := by have := h2.reach; rw [hlen] at this; exact this
  refine h3.ext hr fun i j hi hj => ?_
  rw [Bool.eq_iff_iff, hB_reach h2 i j (by omega) (by omega)]
  constructor
  · rintro ⟨t, ht, e⟩
    have key : ∀ t, 1 ≤ t → ∀ j, j < xs.length → hB (powL (reachL xs) t) i j = true → hB (reachL xs) i j = true := by
      intro t
      induction t with
      | zero => intro h0; omega
      | succ t ih =>
        intro _ j hj e
        obtain ⟨l, hl, f1, f2⟩ := (hB_comp (h2.pow t) h2 i j (by omega) (by omega)).1 e
        rw [hlen] at hl
        by_cases h0 : t = 0
        · subst h0
          have f3 : hB (sameL (reachL xs).length) i l = true := f1
          rw [hB_same h2.four i l (by omega) (by omega)] at f3
          have := of_decide_eq_true f3
          subst this
          exact f2
        · have g1 := ih (by omega) l hl f1
          exact (below_iff (hr.comp hr) hr).1 (reach_trans h) i j hi hj ((hB_comp hr hr i j hi hj).2 ⟨l, hl, g1, f2⟩)
    exact key t ht j hj e
  · intro e
    exact ⟨1, Nat.le_refl _, by rw [hB_pow1 h2 i j (by omega) (by omega)]; exact e⟩
end Go.Proofs.Ytcdiicckngndcab
