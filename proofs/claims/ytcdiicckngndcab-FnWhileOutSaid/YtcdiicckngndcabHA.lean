/-
  Kinds of relations by their pairs: what the model asks and what the program asks come to the same.
-/
import Derived.Test.YtcdiicckngndcabGA
namespace Go.Proofs.Ytcdiicckngndcab
open Go.RowKit

/-! both -/
theorem b_and : ∀ z y : Fin 16, ∀ j : Fin 4, hasB (bits .and .i64 (z.val : Int) (y.val : Int)) j.val = (hasB (z.val : Int) j.val && hasB (y.val : Int) j.val) := by decide +kernel
theorem b_andlt : ∀ n : Fin 5, ∀ z y : Fin 16, z.val < 2 ^ n.val → y.val < 2 ^ n.val → ∃ u : Fin 16, bits .and .i64 (z.val : Int) (y.val : Int) = (u.val : Int) ∧ u.val < 2 ^ n.val := by decide +kernel
theorem Rl.both {n : Nat} {xs ys : List Int} (h : Rl n xs) (k : Rl n ys) : Rl n (bothL xs ys) := by
  have hl : (bothL xs ys).length = n := by unfold bothL zipI; rw [List.length_zipWith, h.len, k.len, Nat.min_self]
  refine Rl.mk' hl h.one h.four fun i hi => ?_
  obtain ⟨y, hy, hy2⟩ := h.row i
  obtain ⟨z, hz, hz2⟩ := k.row i
  obtain ⟨u, hu, hu2⟩ := b_andlt ⟨n, by have := h.four; omega⟩ y z hy2 hz2
  refine ⟨u, ?_, hu2⟩
  unfold bothL
  rw [zipAt _ _ _ _ (by rw [h.len]; exact hi) (by rw [k.len]; exact hi), hy, hz, hu]
theorem hB_both {n : Nat} {xs ys : List Int} (h : Rl n xs) (k : Rl n ys) (i j : Nat) (hi : i < n) (hj : j < n) : hB (bothL xs ys) i j = (hB xs i j && hB ys i j) := by
  obtain ⟨y, hy, hy2⟩ := h.row i
  obtain ⟨z, hz, hz2⟩ := k.row i
  unfold hB bothL
  rw [zipAt _ _ _ _ (by rw [h.len]; exact hi) (by rw [k.len]; exact hi), hy, hz]
  exact b_and y z ⟨j, by have := h.four; omega⟩
theorem Rl.zeros {n : Nat} (h1 : 1 ≤ n) (h4 : n ≤ 4) : Rl n (List.replicate n 0) := ⟨List.length_replicate, h1, h4, zeros16 n⟩
theorem hB_zeros (n i j : Nat) (hj : j < 4) : hB (List.replicate n 0) i j = false := by
  unfold hB
  rw [zeros_at]
  exact b_zero ⟨j, hj⟩
theorem turn_turn {n : Nat} {xs : List Int} (h : Rl n xs) : turnL (turnL xs) = xs :=
  h.turn.turn.ext h fun i j hi hj => by rw [hB_turn h.turn i j hi hj, hB_turn h j i hj hi]

/-! the kinds, as the model asks -/
def kindR (xs : List Int) : Bool := belowB (sameL xs.length) xs
def kindI (xs : List Int) : Bool := belowB (sameL xs.length) (otherL xs)
def kindS (xs : List Int) : Bool := decide (xs = turnL xs)
def kindA (xs : List Int) : Bool := belowB (bothL xs (turnL xs)) (sameL xs.length)
def kindT (xs : List Int) : Bool := belowB (compL xs xs) xs
def kindC (xs : List Int) : Bool := belowB (otherL xs) (turnL xs)
def kindF (xs : List Int) : Bool := belowB (compL (turnL xs) xs) (sameL xs.length)
def kindD (xs : List Int) : Bool := belowB (sameL xs.length) (compL xs (turnL xs))
def kindJ (xs : List Int) : Bool := belowB (compL xs (turnL xs)) (sameL xs.length)
def kindO (xs : List Int) : Bool := belowB (sameL xs.length) (compL (turnL xs) xs)
def kindB (c : Nat) (xs : List Int) : Bool :=
  if c = 114 then kindR xs else if c = 105 then kindI xs else if c = 115 then kindS xs else if c = 97 then kindA xs else if c = 116 then kindT xs
  else if c = 99 then kindC xs else if c = 102 then kindF xs else if c = 100 then kindD xs else if c = 106 then kindJ xs else kindO xs

/-! the program's -/
def offI (xs : List Int) : List Int := bothL xs (otherL (sameL xs.length))
def twoW (xs : List Int) : List Int := bothL xs (turnL xs)
def allL (n : Nat) : List Int := otherL (List.replicate n 0)
def oneMost (xs : List Int) : Bool := xs.all fun x => decide (cnt x ≤ 1)
def oneLeast (xs : List Int) : Bool := xs.all fun x => !decide (cnt x = 0)

theorem same_below {n : Nat} {ys : List Int} (h : Rl n ys) : belowB (sameL n) ys = true ↔ ∀ i, i < n → hB ys i i = true := by
  rw [below_iff (Rl.same h.one h.four) h]
  constructor
  · intro e i hi
    exact e i i hi hi (by rw [hB_same h.four i i hi hi]; exact decide_eq_true rfl)
  · intro e i j hi hj hs
    rw [hB_same h.four i j hi hj] at hs
    obtain rfl := of_decide_eq_true hs
    exact e j hi
theorem below_same {n : Nat} {ys : List Int} (h : Rl n ys) : belowB ys (sameL n) = true ↔ ∀ i j, i < n → j < n → hB ys i j = true → j = i := by
  rw [below_iff h (Rl.same h.one h.four)]
  constructor
  · intro e i j hi hj hs
    have := e i j hi hj hs
    rw [hB_same h.four i j hi hj] at this
    exact of_decide_eq_true this
  · intro e i j hi hj hs
    rw [hB_same h.four i j hi hj]
    exact decide_eq_true (e i j hi hj hs)
theorem Rl.off {n : Nat} {xs : List Int} (h : Rl n xs) : Rl n (offI xs) := by
  unfold offI
  rw [h.len]
  exact h.both (Rl.same h.one h.four).other
theorem hB_off {n : Nat} {xs : List Int} (h : Rl n xs) (i j : Nat) (hi : i < n) (hj : j < n) : hB (offI xs) i j = (hB xs i j && !decide (j = i)) := by
  unfold offI
  rw [h.len, hB_both h (Rl.same h.one h.four).other i j hi hj, hB_other (Rl.same h.one h.four) i j hi hj, hB_same h.four i j hi hj]
theorem Rl.twoW {n : Nat} {xs : List Int} (h : Rl n xs) : Rl n (twoW xs) := h.both h.turn
theorem hB_twoW {n : Nat} {xs : List Int} (h : Rl n xs) (i j : Nat) (hi : i < n) (hj : j < n) : hB (twoW xs) i j = (hB xs i j && hB xs j i) := by
  show hB (bothL xs (turnL xs)) i j = _
  rw [hB_both h h.turn i j hi hj, hB_turn h i j hi hj]
theorem Rl.all {n : Nat} (h1 : 1 ≤ n) (h4 : n ≤ 4) : Rl n (allL n) := (Rl.zeros h1 h4).other
theorem hB_all {n : Nat} (h1 : 1 ≤ n) (h4 : n ≤ 4) (i j : Nat) (hi : i < n) (hj : j < n) : hB (allL n) i j = true := by
  unfold allL
  rw [hB_other (Rl.zeros h1 h4) i j hi hj, hB_zeros n i j (by omega)]
  rfl

theorem bool_iff {a b : Bool} (h : a = true ↔ b = true) : a = b := by rw [Bool.eq_iff_iff]; exact h
theorem isI {n : Nat} {xs : List Int} (h : Rl n xs) : decide (offI xs = xs) = kindI xs := by
  refine bool_iff ?_
  unfold kindI
  rw [decide_eq_true_iff, h.len, same_below h.other]
  constructor
  · intro e i hi
    rw [hB_other h i i hi hi, ← e, hB_off h i i hi hi]
    simp
  · intro e
    refine h.off.ext h fun i j hi hj => ?_
    rw [hB_off h i j hi hj]
    by_cases hij : j = i
    · subst hij
      have := e j hj
      rw [hB_other h j j hj hj] at this
      simp at this
      simp [this]
    · simp [hij]
theorem isS (xs : List Int) : decide (turnL xs = xs) = kindS xs := by
  refine bool_iff ?_
  unfold kindS
  rw [decide_eq_true_iff, decide_eq_true_iff]
  exact ⟨Eq.symm, Eq.symm⟩
theorem isC {n : Nat} {xs : List Int} (h : Rl n xs) : decide (eitherL xs (turnL xs) = allL n) = kindC xs := by
  refine bool_iff ?_
  unfold kindC
  rw [decide_eq_true_iff, below_iff h.other h.turn]
  have h1 := h.one
  have h4 := h.four
  constructor
  · intro e i j hi hj hs
    rw [hB_other h i j hi hj] at hs
    have := hB_all h1 h4 i j hi hj
    rw [← e, hB_either h h.turn i j hi hj] at this
    rw [Bool.not_eq_true'] at hs
    rw [hs] at this
    simpa using this
  · intro e
    refine (h.either h.turn).ext (Rl.all h1 h4) fun i j hi hj => ?_
    rw [hB_all h1 h4 i j hi hj, hB_either h h.turn i j hi hj]
    cases hx : hB xs i j with
    | true => rfl
    | false => rw [e i j hi hj (by rw [hB_other h i j hi hj, hx]; rfl)]; rfl

theorem cnt_most : ∀ n : Fin 5, ∀ z : Fin 16, z.val < 2 ^ n.val → (cnt (z.val : Int) ≤ 1 ↔ ∀ j k : Fin n.val, hasB (z.val : Int) j.val = true → hasB (z.val : Int) k.val = true → k = j) := by decide +kernel
theorem cnt_least : ∀ n : Fin 5, ∀ z : Fin 16, z.val < 2 ^ n.val → ((¬ cnt (z.val : Int) = 0) ↔ ∃ j : Fin n.val, hasB (z.val : Int) j.val = true) := by decide +kernel
theorem all_rows {n : Nat} {xs : List Int} (h : Rl n xs) (p : Int → Bool) : xs.all p = true ↔ ∀ i, i < n → p (rowAt xs i) = true := by
  rw [List.all_eq_true]
  constructor
  · intro e i hi
    exact e _ (List.mem_of_getElem? (rowAt_get (by rw [h.len]; exact hi)))
  · intro e x hx
    obtain ⟨i, hi, rfl⟩ := List.mem_iff_getElem.1 hx
    have := e i (by rw [← h.len]; exact hi)
    have e2 := rowAt_get hi
    rw [List.getElem?_eq_getElem hi] at e2
    rw [Option.some.inj e2]
    exact this
theorem most_iff {n : Nat} {xs : List Int} (h : Rl n xs) : oneMost xs = true ↔ ∀ i j k, i < n → j < n → k < n → hB xs i j = true → hB xs i k = true → k = j := by
  unfold oneMost
  rw [all_rows h]
  constructor
  · intro e i j k hi hj hk h1 h2
    obtain ⟨y, hy, hy2⟩ := h.row i
    have := e i hi
    rw [decide_eq_true_iff, hy] at this
    unfold hB at h1 h2
    rw [hy] at h1 h2
    have h3 := (cnt_most ⟨n, by have := h.four; omega⟩ y hy2).1 this ⟨j, hj⟩ ⟨k, hk⟩ h1 h2
    exact congrArg Fin.val h3
  · intro e i hi
    obtain ⟨y, hy, hy2⟩ := h.row i
    rw [decide_eq_true_iff, hy]
    refine (cnt_most ⟨n, by have := h.four; omega⟩ y hy2).2 fun j k h1 h2 => ?_
    exact Fin.ext (e i j.val k.val hi j.isLt k.isLt (by unfold hB; rw [hy]; exact h1) (by unfold hB; rw [hy]; exact h2))
theorem least_iff {n : Nat} {xs : List Int} (h : Rl n xs) : oneLeast xs = true ↔ ∀ i, i < n → ∃ j, j < n ∧ hB xs i j = true := by
  unfold oneLeast
  rw [all_rows h]
  constructor
  · intro e i hi
    obtain ⟨y, hy, hy2⟩ := h.row i
    have := e i hi
    rw [Bool.not_eq_true', decide_eq_false_iff_not, hy] at this
    obtain ⟨j, hj⟩ := (cnt_least ⟨n, by have := h.four; omega⟩ y hy2).1 this
    exact ⟨j.val, j.isLt, by unfold hB; rw [hy]; exact hj⟩
  · intro e i hi
    obtain ⟨y, hy, hy2⟩ := h.row i
    obtain ⟨j, hj, hb⟩ := e i hi
    rw [Bool.not_eq_true', decide_eq_false_iff_not, hy]
    refine (cnt_least ⟨n, by have := h.four; omega⟩ y hy2).2 ⟨⟨j, hj⟩, ?_⟩
    unfold hB at hb
    rw [hy] at hb
    exact hb
theorem isF {n : Nat} {xs : List Int} (h : Rl n xs) : oneMost xs = kindF xs := by
  refine bool_iff ?_
  unfold kindF
  rw [h.len, most_iff h, below_same (h.turn.comp h)]
  constructor
  · intro e i j hi hj hc
    obtain ⟨l, hl, h1, h2⟩ := (hB_comp h.turn h i j hi hj).1 hc
    rw [hB_turn h i l hi hl] at h1
    exact e l i j hl hi hj h1 h2
  · intro e i j k hi hj hk h1 h2
    exact e j k hj hk ((hB_comp h.turn h j k hj hk).2 ⟨i, hi, by rw [hB_turn h j i hj hi]; exact h1, h2⟩)
theorem isD {n : Nat} {xs : List Int} (h : Rl n xs) : oneLeast xs = kindD xs := by
  refine bool_iff ?_
  unfold kindD
  rw [h.len, least_iff h, same_below (h.comp h.turn)]
  constructor
  · intro e i hi
    obtain ⟨j, hj, hb⟩ := e i hi
    exact (hB_comp h h.turn i i hi hi).2 ⟨j, hj, hb, by rw [hB_turn h j i hj hi]; exact hb⟩
  · intro e i hi
    obtain ⟨l, hl, h1, _⟩ := (hB_comp h h.turn i i hi hi).1 (e i hi)
    exact ⟨l, hl, h1⟩
theorem isJ {n : Nat} {xs : List Int} (h : Rl n xs) : oneMost (turnL xs) = kindJ xs := by
  rw [isF h.turn]
  unfold kindF kindJ
  rw [turn_turn h, turnL_len]
theorem isO {n : Nat} {xs : List Int} (h : Rl n xs) : oneLeast (turnL xs) = kindO xs := by
  rw [isD h.turn]
  unfold kindD kindO
  rw [turn_turn h, turnL_len]
end Go.Proofs.Ytcdiicckngndcab
