/-
  The program's composition: relation.then, CompOf; for relations of at most 4 points.
-/
import Derived.Test.YtgmjdkhegbdbjaaGA
import Derived.StillTailTactics
import Derived.TacticsIn
import Derived.OrdersIn
import Derived.RangeFuncCalls
namespace Go.Proofs.Ytgmjdkhegbdbjaa
open Go.RowKit

/-! both -/
theorem b_and : ∀ z y : Fin 16, ∀ j : Fin 4, hasB (bits .and .i64 (z.val : Int) (y.val : Int)) j.val = (hasB (z.val : Int) j.val && hasB (y.val : Int) j.val) := by decide +kernel
theorem b_andlt : ∀ n : Fin 5, ∀ z y : Fin 16, z.val < 2 ^ n.val → y.val < 2 ^ n.val → ∃ u : Fin 16, bits .and .i64 (z.val : Int) (y.val : Int) = (u.val : Int) ∧ u.val < 2 ^ n.val := by decide +kernel
theorem Rl.both {n : Nat} {xs ys : List Int} (h : Rl n xs) (k : Rl n ys) : Rl n (bothL xs ys) := by
  have hl : (bothL xs ys).length = n := by unfold bothL zipI; rw [List.length_zipWith, h.len, k.len, Nat.min_self]
  refine Rl.mk' hl h.one h.four fun i hi => ?_
  obtain ⟨y, hy, hy2⟩ := h.row i
  obtain ⟨z, hz, hz2⟩ := k.row i
  obtain ⟨u, hu, hu2⟩ := b_andlt ⟨n, by have := h.four; omega⟩ y z hy2 hz2
  refine ⟨u, ?_, hu2⟩
  unfold bothL
  rw [zipAt _ _ _ _ (by rw [h.len]; exact hi) (by rw [k.len]; exact hi), hy, hz, hu]
theorem hB_both {n : Nat} {xs ys : List Int} (h : Rl n xs) (k : Rl n ys) (i j : Nat) (hi : i < n) (hj : j < n) : hB (bothL xs ys) i j = (hB xs i j && hB ys i j) := by
  obtain ⟨y, hy, hy2⟩ := h.row i
  obtain ⟨z, hz, hz2⟩ := k.row i
  unfold hB bothL
  rw [zipAt _ _ _ _ (by rw [h.len]; exact hi) (by rw [k.len]; exact hi), hy, hz]
  exact b_and y z ⟨j, by have := h.four; omega⟩
theorem Rl.zeros {n : Nat} (h1 : 1 ≤ n) (h4 : n ≤ 4) : Rl n (List.replicate n 0) := ⟨List.length_replicate, h1, h4, zeros16 n⟩
theorem hB_zeros (n i j : Nat) (hj : j < 4) : hB (List.replicate n 0) i j = false := by
  unfold hB
  rw [zeros_at]
  exact b_zero ⟨j, hj⟩
theorem turn_turn {n : Nat} {xs : List Int} (h : Rl n xs) : turnL (turnL xs) = xs :=
  h.turn.turn.ext h fun i j hi hj => by rw [hB_turn h.turn i j hi hj, hB_turn h j i hj hi]

/-! the kinds, as the model asks -/
def kindR (xs : List Int) : Bool := belowB (sameL xs.length) xs
def kindI (xs : List Int) : Bool := belowB (sameL xs.length) (otherL xs)
def kindS (xs : List Int) : Bool := decide (xs = turnL xs)
def kindA (xs : List Int) : Bool := belowB (bothL xs (turnL xs)) (sameL xs.length)
def kindT (xs : List Int) : Bool := belowB (compL xs xs) xs
def kindC (xs : List Int) : Bool := belowB (otherL xs) (turnL xs)
def kindF (xs : List Int) : Bool := belowB (compL (turnL xs) xs) (sameL xs.length)
def kindD (xs : List Int) : Bool := belowB (sameL xs.length) (compL xs (turnL xs))
def kindJ (xs : List Int) : Bool := belowB (compL xs (turnL xs)) (sameL xs.length)
def kindO (xs : List Int) : Bool := belowB (sameL xs.length) (compL (turnL xs) xs)
def kindB (c : Nat) (xs : List Int) : Bool :=
  if c = 114 then kindR xs else if c = 105 then kindI xs else if c = 115 then kindS xs else if c = 97 then kindA xs else if c = 116 then kindT xs
  else if c = 99 then kindC xs else if c = 102 then kindF xs else if c = 100 then kindD xs else if c = 106 then kindJ xs else kindO xs

/-! the program's -/
def offI (xs : List Int) : List Int := bothL xs (otherL (sameL xs.length))
def twoW (xs : List Int) : List Int := bothL xs (turnL xs)
def allL (n : Nat) : List Int := otherL (List.replicate n 0)
def oneMost (xs : List Int) : Bool := xs.all fun x => decide (cnt x ≤ 1)
def oneLeast (xs : List Int) : Bool := xs.all fun x => !decide (cnt x = 0)

theorem same_below {n : Nat} {ys : List Int} (h : Rl n ys) : belowB (sameL n) ys = true ↔ ∀ i, i < n → hB ys i i = true := by
  rw [below_iff (Rl.same h.one h.four) h]
  constructor
  · intro e i hi
    exact e i i hi hi (by rw [hB_same h.four i i hi hi]; exact decide_eq_true rfl)
  · intro e i j hi hj hs
    rw [hB_same h.four i j hi hj] at hs
    obtain rfl := of_decide_eq_true hs
    exact e j hi
theorem below_same {n : Nat} {ys : List Int} (h : Rl n ys) : belowB ys (sameL n) = true ↔ ∀ i j, i < n → j < n → hB ys i j = true → j = i := by
  rw [below_iff h (Rl.same h.one h.four)]
  constructor
  · intro e i j hi hj hs
    have := e i j hi hj hs
    rw [hB_same h.four i j hi hj] at this
    exact of_decide_eq_true this
  · intro e i j hi hj hs
    rw [hB_same h.four i j hi hj]
    exact decide_eq_true (e i j hi hj hs)
theorem Rl.off {n : Nat} {xs : List Int} (h : Rl n xs) : Rl n (offI xs) := by
  unfold offI
  rw [h.len]
  exact h.both (Rl.same h.one h.four).other
theorem hB_off {n : Nat} {xs : List Int} (h : Rl n xs) (i j : Nat) (hi : i < n) (hj : j < n) : hB (offI xs) i j = (hB xs i j && !decide (j = i)) := by
  unfold offI
  rw [h.len, hB_both h (Rl.same h.one h.four).other i j hi hj, hB_other (Rl.same h.one h.four) i j hi hj, hB_same h.four i j hi hj]
theorem Rl.twoW {n : Nat} {xs : List Int} (h : Rl n xs) : Rl n (twoW xs) := h.both h.turn
theorem hB_twoW {n : Nat} {xs : List Int} (h : Rl n xs) (i j : Nat) (hi : i < n) (hj : j < n) : hB (twoW xs) i j = (hB xs i j && hB xs j i) := by
  show hB (bothL xs (turnL xs)) i j = _
  rw [hB_both h h.turn i j hi hj, hB_turn h i j hi hj]
theorem Rl.all {n : Nat} (h1 : 1 ≤ n) (h4 : n ≤ 4) : Rl n (allL n) := (Rl.zeros h1 h4).other
theorem hB_all {n : Nat} (h1 : 1 ≤ n) (h4 : n ≤ 4) (i j : Nat) (hi : i < n) (hj : j < n) : hB (allL n) i j = true := by
  unfold allL
  rw [hB_other (Rl.zeros h1 h4) i j hi hj, hB_zeros n i j (by omega)]
  rfl

theorem bool_iff {a b : Bool} (h : a = true ↔ b = true) : a = b := by rw [Bool.eq_iff_iff]; exact h
theorem isI {n : Nat} {xs : List Int} (h : Rl n xs) : decide (offI xs = xs) = kindI xs := by
  refine bool_iff ?_
  unfold kindI
  rw [decide_eq_true_iff, h.len, same_below h.other]
  constructor
  · intro e i hi
    rw [hB_other h i i hi hi, ← e, hB_off h i i hi hi]
    simp
  · intro e
    refine h.off.ext h fun i j hi hj => ?_
    rw [hB_off h i j hi hj]
    by_cases hij : j = i
    · subst hij
      have := e j hj
      rw [hB_other h j j hj hj] at this
      simp at this
      simp [this]
    · simp [hij]
theorem isS (xs : List Int) : decide (turnL xs = xs) = kindS xs := by
  refine bool_iff ?_
  unfold kindS
  rw [decide_eq_true_iff, decide_eq_true_iff]
  exact ⟨Eq.symm, Eq.symm⟩
theorem isC {n : Nat} {xs : List Int} (h : Rl n xs) : decide (eitherL xs (turnL xs) = allL n) = kindC xs := by
  refine bool_iff ?_
  unfold kindC
  rw [decide_eq_true_iff, below_iff h.other h.turn]
  have h1 := h.one
  have h4 := h.four
  constructor
  · intro e i j hi hj hs
    rw [hB_other h i j hi hj] at hs
    have := hB_all h1 h4 i j hi hj
    rw [← e, hB_either h h.turn i j hi hj] at this
    rw [Bool.not_eq_true'] at hs
    rw [hs] at this
    simpa using this
  · intro e
    refine (h.either h.turn).ext (Rl.all h1 h4) fun i j hi hj => ?_
    rw [hB_all h1 h4 i j hi hj, hB_either h h.turn i j hi hj]
    cases hx : hB xs i j with
    | true => rfl
    | false => rw [e i j hi hj (by rw [hB_other h i j hi hj, hx]; rfl)]; rfl

theorem cnt_most : ∀ n : Fin 5, ∀ z : Fin 16, z.val < 2 ^ n.val → (cnt (z.val : Int) ≤ 1 ↔ ∀ j k : Fin n.val, hasB (z.val : Int) j.val = true → hasB (z.val : Int) k.val = true → k = j) := by decide +kernel
theorem cnt_least : ∀ n : Fin 5, ∀ z : Fin 16, z.val < 2 ^ n.val → ((¬ cnt (z.val : Int) = 0) ↔ ∃ j : Fin n.val, hasB (z.val : Int) j.val = true) := by decide +kernel
theorem all_rows {n : Nat} {xs : List Int} (h : Rl n xs) (p : Int → Bool) : xs.all p = true ↔ ∀ i, i < n → p (rowAt xs i) = true := by
  rw [List.all_eq_true]
  constructor
  · intro e i hi
    exact e _ (List.mem_of_getElem? (rowAt_get (by rw [h.len]; exact hi)))
  · intro e x hx
    obtain ⟨i, hi, rfl⟩ := List.mem_iff_getElem.1 hx
    have := e i (by rw [← h.len]; exact hi)
    have e2 := rowAt_get hi
    rw [List.getElem?_eq_getElem hi] at e2
    rw [Option.some.inj e2]
    exact this
theorem most_iff {n : Nat} {xs : List Int} (h : Rl n xs) : oneMost xs = true ↔ ∀ i j k, i < n → j < n → k < n → hB xs i j = true → hB xs i k = true → k = j := by
  unfold oneMost
  rw [all_rows h]
  constructor
  · intro e i j k hi hj hk h1 h2
    obtain ⟨y, hy, hy2⟩ := h.row i
    have := e i hi
    rw [decide_eq_true_iff, hy] at this
    unfold hB at h1 h2
    rw [hy] at h1 h2
    have h3 := (cnt_most ⟨n, by have := h.four; omega⟩ y hy2).1 this ⟨j, hj⟩ ⟨k, hk⟩ h1 h2
    exact congrArg Fin.val h3
  · intro e i hi
    obtain ⟨y, hy, hy2⟩ := h.row i
    rw [decide_eq_true_iff, hy]
    refine (cnt_most ⟨n, by have := h.four; omega⟩ y hy2).2 fun j k h1 h2 => ?_
    exact Fin.ext (e i j.val k.val hi j.isLt k.isLt (by unfold hB; rw [hy]; exact h1) (by unfold hB; rw [hy]; exact h2))
theorem least_iff {n : Nat} {xs : List Int} (h : Rl n xs) : oneLeast xs = true ↔ ∀ i, i < n → ∃ j, j < n ∧ hB xs i j = true := by
  unfold oneLeast
  rw [all_rows h]
  constructor
  · intro e i hi
    obtain ⟨y, hy, hy2⟩ := h.row i
    have := e i hi
    rw [Bool.not_eq_true', decide_eq_false_iff_not, hy] at this
    obtain ⟨j, hj⟩ := (cnt_least ⟨n, by have := h.four; omega⟩ y hy2).1 this
    exact ⟨j.val, j.isLt, by unfold hB; rw [hy]; exact hj⟩
  · intro e i hi
    obtain ⟨y, hy, hy2⟩ := h.row i
    obtain ⟨j, hj, hb⟩ := e i hi
    rw [Bool.not_eq_true', decide_eq_false_iff_not, hy]
    refine (cnt_least ⟨n, by have := h.four; omega⟩ y hy2).2 ⟨⟨j, hj⟩, ?_⟩
    unfold hB at hb
    rw [hy] at hb
    exact hb
theorem isF {n : Nat} {xs : List Int} (h : Rl n xs) : oneMost xs = kindF xs := by
  refine bool_iff ?_
  unfold kindF
  rw [h.len, most_iff h, below_same (h.turn.comp h)]
  constructor
  · intro e i j hi hj hc
    obtain ⟨l, hl, h1, h2⟩ := (hB_comp h.turn h i j hi hj).1 hc
    rw [hB_turn h i l hi hl] at h1
    exact e l i j hl hi hj h1 h2
  · intro e i j k hi hj hk h1 h2
    exact e j k hj hk ((hB_comp h.turn h j k hj hk).2 ⟨i, hi, by rw [hB_turn h j i hj hi]; exact h1, h2⟩)
theorem isD {n : Nat} {xs : List Int} (h : Rl n xs) : oneLeast xs = kindD xs := by
  refine bool_iff ?_
  unfold kindD
  rw [h.len, least_iff h, same_below (h.comp h.turn)]
  constructor
  · intro e i hi
    obtain ⟨j, hj, hb⟩ := e i hi
    exact (hB_comp h h.turn i i hi hi).2 ⟨j, hj, hb, by rw [hB_turn h j i hj hi]; exact hb⟩
  · intro e i hi
    obtain ⟨l, hl, h1, _⟩ := (hB_comp h h.turn i i hi hi).1 (e i hi)
    exact ⟨l, hl, h1⟩
theorem isJ {n : Nat} {xs : List Int} (h : Rl n xs) : oneMost (turnL xs) = kindJ xs := by
  rw [isF h.turn]
  unfold kindF kindJ
  rw [turn_turn h, turnL_len]
theorem isO {n : Nat} {xs : List Int} (h : Rl n xs) : oneLeast (turnL xs) = kindO xs := by
  rw [isD h.turn]
  unfold kindD kindO
  rw [turn_turn h, turnL_len]
end Go.Proofs.Ytgmjdkhegbdbjaa

namespace Go.Proofs.Ytgmjdkhegbdbjaa
open Go.RowKit

/-- what the first k points of a set are all related to -/
def relTo (xs : List Int) (z : Int) : Nat → Int
  | 0 => ((2 ^ xs.length - 1 : Nat) : Int)
  | k + 1 => if hasB z k then bits .and .i64 (relTo xs z k) (rowAt xs k) else relTo xs z k
/-- what all points of a set are related to -/
def relAll (xs : List Int) (z : Int) : Int := relTo xs z xs.length

theorem b_top : ∀ n : Fin 5, ∃ u : Fin 16, ((2 ^ n.val - 1 : Nat) : Int) = (u.val : Int) ∧ u.val < 2 ^ n.val ∧ ∀ j : Fin n.val, hasB (u.val : Int) j.val = true := by decide +kernel
theorem rel_row {n : Nat} {xs : List Int} (h : Rl n xs) (z : Int) : ∀ k, k ≤ n → ∃ u : Fin 16, relTo xs z k = (u.val : Int) ∧ u.val < 2 ^ n ∧
    ∀ j, j < n → (hasB (u.val : Int) j = true ↔ ∀ i, i < k → hasB z i = true → hB xs i j = true)
  | 0, _ => by
    obtain ⟨u, e, hlt, hj⟩ := b_top ⟨n, by have := h.four; omega⟩
    refine ⟨u, by rw [show relTo xs z 0 = ((2 ^ xs.length - 1 : Nat) : Int) from rfl, h.len]; exact e, hlt, fun j hjn => ?_⟩
    rw [hj ⟨j, hjn⟩]
    exact ⟨fun _ i hi => by omega, fun _ => rfl⟩
  | k + 1, hk => by
    obtain ⟨u, e, hlt, hj⟩ := rel_row h z k (by omega)
    cases hz : hasB z k with
    | false =>
      refine ⟨u, by rw [show relTo xs z (k + 1) = if hasB z k then bits .and .i64 (relTo xs z k) (rowAt xs k) else relTo xs z k from rfl, hz]; exact e, hlt, fun j hjn => ?_⟩
      rw [hj j hjn]
      constructor
      · intro g i hi hzi
        by_cases e : i = k
        · subst e
          rw [hz] at hzi
          cases hzi
        · exact g i (by omega) hzi
      · intro g i hi hzi
        exact g i (by omega) hzi
    | true =>
      obtain ⟨y, hy, hyl⟩ := h.row k
      obtain ⟨v, hv, hvl⟩ := b_andlt ⟨n, by have := h.four; omega⟩ u y hlt hyl
      refine ⟨v, ?_, hvl, fun j hjn => ?_⟩
      · rw [show relTo xs z (k + 1) = if hasB z k then bits .and .i64 (relTo xs z k) (rowAt xs k) else relTo xs z k from rfl, hz, if_pos rfl, e, hy]
        exact hv
      · have hb := b_and u y ⟨j, by have := h.four; omega⟩
        rw [hv] at hb
        rw [hb, Bool.and_eq_true, hj j hjn]
        have hyk : hasB (y.val : Int) j = hB xs k j := by unfold hB; rw [hy]
        rw [hyk]
        constructor
        · rintro ⟨g, g2⟩ i hi hzi
          by_cases e : i = k
          · subst e
            exact g2
          · exact g i (by omega) hzi
        · intro g
          exact ⟨fun i hi hzi => g i (by omega) hzi, g k (by omega) hz⟩
theorem relAll_row {n : Nat} {xs : List Int} (h : Rl n xs) (z : Int) : ∃ u : Fin 16, relAll xs z = (u.val : Int) ∧ u.val < 2 ^ n ∧
    ∀ j, j < n → (hasB (u.val : Int) j = true ↔ ∀ i, i < n → hasB z i = true → hB xs i j = true) := by
  have := rel_row h z n (Nat.le_refl _)
  unfold relAll
  rw [h.len]
  exact this

theorem rowA {xs : List Int} {k : Nat} {x : Int} (h : xs[k]? = some x) : x = rowAt xs k := by
  unfold rowAt
  rw [List.getD_eq_getElem?_getD, h]
  rfl
theorem relTo_step (xs : List Int) (z : Int) (k : Nat) : relTo xs z (k + 1) = if hasB z k then bits .and .i64 (relTo xs z k) (rowAt xs k) else relTo xs z k := rfl
theorem top_wrap (n : Nat) (h1 : 1 ≤ n) (h4 : n ≤ 4) : wrap64 (wrap64 (2 ^ n) - 1) = ((2 ^ n - 1 : Nat) : Int) := by
  rcases (by omega : n = 1 ∨ n = 2 ∨ n = 3 ∨ n = 4) with rfl | rfl | rfl | rfl <;> decide +kernel
theorem row_fin {n : Nat} {z : Int} (h4 : n ≤ 4) (h : rowIn n z = true) : ∃ u : Fin 16, z = (u.val : Int) ∧ u.val < 2 ^ n := by
  unfold rowIn at h
  rw [Bool.and_eq_true] at h
  have h1 := of_decide_eq_true h.1
  have h2 := of_decide_eq_true h.2
  have h3 : (2 : Int) ^ n ≤ 16 := by
    rcases (by omega : n = 0 ∨ n = 1 ∨ n = 2 ∨ n = 3 ∨ n = 4) with rfl | rfl | rfl | rfl | rfl <;> decide
  refine ⟨⟨z.toNat, by omega⟩, by show z = ((z.toNat : Nat) : Int); omega, ?_⟩
  show z.toNat < 2 ^ n
  have : ((2 ^ n : Nat) : Int) = (2 : Int) ^ n := by rcases (by omega : n = 0 ∨ n = 1 ∨ n = 2 ∨ n = 3 ∨ n = 4) with rfl | rfl | rfl | rfl | rfl <;> rfl
  omega
theorem pow_le16 {n : Nat} (h4 : n ≤ 4) : 2 ^ n ≤ 16 := by
  rcases (by omega : n = 0 ∨ n = 1 ∨ n = 2 ∨ n = 3 ∨ n = 4) with rfl | rfl | rfl | rfl | rfl <;> decide
theorem top_one (n : Nat) (h1 : 1 ≤ n) (h4 : n ≤ 4) : wrap64 (((2 ^ n - 1 : Nat) : Int) + 1) = ((2 ^ n : Nat) : Int) := by
  rcases (by omega : n = 1 ∨ n = 2 ∨ n = 3 ∨ n = 4) with rfl | rfl | rfl | rfl <;> decide +kernel
theorem pow_wrap (n : Nat) (h1 : 1 ≤ n) (h4 : n ≤ 4) : wrap64 (2 ^ n) = ((2 ^ n : Nat) : Int) := by
  rcases (by omega : n = 1 ∨ n = 2 ∨ n = 3 ∨ n = 4) with rfl | rfl | rfl | rfl <;> decide +kernel

/-- a set is a part of another one -/
def partB (s t : Int) : Bool := bits .andNot .i64 s t == 0
theorem isPartOf_any (s t : Int) (w : World) : Calls Try.prog 69 #[.int .i64 s, .int .i64 t] w fun e w' => e = .returned (.bool (partB s t)) ∧ w = w' := by
  go_enter Try.func69, Try.ntmps69
  go_wp2
  go_ret
  exact ⟨rfl, rfl⟩
end Go.Proofs.Ytgmjdkhegbdbjaa

namespace Go.Proofs.Ytgmjdkhegbdbjaa
open Go.RowKit

/-- a set of n points -/
def St (n : Nat) (z : Int) : Prop := ∃ u : Fin 16, z = (u.val : Int) ∧ u.val < 2 ^ n

theorem St.ext {n : Nat} {y z : Int} (h4 : n ≤ 4) (hy : St n y) (hz : St n z) (e : ∀ j, j < n → hasB y j = hasB z j) : y = z := by
  obtain ⟨u, rfl, hu⟩ := hy
  obtain ⟨v, rfl, hv⟩ := hz
  rw [b_ext ⟨n, by omega⟩ u v hu hv (fun j => e j.val j.isLt)]
theorem St.of {n : Nat} {z : Int} (h4 : n ≤ 4) (h : rowIn n z = true) : St n z := row_fin h4 h
theorem St.row {n : Nat} {xs : List Int} (h : Rl n xs) (i : Nat) : St n (rowAt xs i) := h.row i
theorem St.zero (n : Nat) : St n 0 := ⟨0, rfl, Nat.two_pow_pos _⟩
theorem St.and {n : Nat} {y z : Int} (h4 : n ≤ 4) (hy : St n y) (hz : St n z) : St n (bits .and .i64 y z) := by
  obtain ⟨u, rfl, hu⟩ := hy
  obtain ⟨v, rfl, hv⟩ := hz
  exact b_andlt ⟨n, by omega⟩ u v hu hv
theorem St.hasAnd {n : Nat} {y z : Int} (hy : St n y) (hz : St n z) (j : Nat) (hj : j < 4) : hasB (bits .and .i64 y z) j = (hasB y j && hasB z j) := by
  obtain ⟨u, rfl, hu⟩ := hy
  obtain ⟨v, rfl, hv⟩ := hz
  exact b_and u v ⟨j, hj⟩
theorem St.pt {n : Nat} (h4 : n ≤ 4) (i : Nat) (hi : i < n) : St n (pt i) := b_ptlt ⟨n, by omega⟩ ⟨i, hi⟩
theorem St.or {n : Nat} {y z : Int} (h4 : n ≤ 4) (hy : St n y) (hz : St n z) : St n (bits .or .i64 y z) := by
  obtain ⟨u, rfl, hu⟩ := hy
  obtain ⟨v, rfl, hv⟩ := hz
  exact b_orlt ⟨n, by omega⟩ u v hu hv
theorem St.hasOr {n : Nat} {y z : Int} (hy : St n y) (hz : St n z) (j : Nat) (hj : j < 4) : hasB (bits .or .i64 y z) j = (hasB y j || hasB z j) := by
  obtain ⟨u, rfl, hu⟩ := hy
  obtain ⟨v, rfl, hv⟩ := hz
  exact b_or u v ⟨j, hj⟩
theorem has_pt (i j : Nat) (hi : i < 4) (hj : j < 4) : hasB (pt i) j = decide (j = i) := b_pt ⟨i, hi⟩ ⟨j, hj⟩
theorem has_no (j : Nat) (hj : j < 4) : hasB 0 j = false := b_zero ⟨j, hj⟩

/-- all points but those of a set -/
def notA (n : Nat) (z : Int) : Int := bits .andNot .i64 (2 ^ n - 1) z
theorem St.not {n : Nat} {z : Int} (h4 : n ≤ 4) (hz : St n z) : St n (notA n z) := by
  obtain ⟨u, rfl, hu⟩ := hz
  obtain ⟨v, hv, hv2, _⟩ := b_not ⟨n, by omega⟩ u hu
  exact ⟨v, hv, hv2⟩
theorem St.hasNot {n : Nat} {z : Int} (h4 : n ≤ 4) (hz : St n z) (j : Nat) (hj : j < n) : hasB (notA n z) j = !hasB z j := by
  obtain ⟨u, rfl, hu⟩ := hz
  obtain ⟨v, hv, _, hv3⟩ := b_not ⟨n, by omega⟩ u hu
  have := hv3 ⟨j, hj⟩
  rw [← hv] at this
  exact this
theorem bP_less : ∀ n : Fin 5, ∀ z y : Fin 16, z.val < 2 ^ n.val → y.val < 2 ^ n.val → ∃ u : Fin 16, bits .andNot .i64 (z.val : Int) (y.val : Int) = (u.val : Int) ∧ u.val < 2 ^ n.val ∧ ∀ j : Fin 4, hasB (u.val : Int) j.val = (hasB (z.val : Int) j.val && !hasB (y.val : Int) j.val) := by decide +kernel
theorem St.less {n : Nat} {y z : Int} (h4 : n ≤ 4) (hy : St n y) (hz : St n z) : St n (bits .andNot .i64 y z) := by
  obtain ⟨u, rfl, hu⟩ := hy
  obtain ⟨v, rfl, hv⟩ := hz
  obtain ⟨t, ht, ht2, _⟩ := bP_less ⟨n, by omega⟩ u v hu hv
  exact ⟨t, ht, ht2⟩
theorem St.hasLess {n : Nat} {y z : Int} (h4 : n ≤ 4) (hy : St n y) (hz : St n z) (j : Nat) (hj : j < 4) : hasB (bits .andNot .i64 y z) j = (hasB y j && !hasB z j) := by
  obtain ⟨u, rfl, hu⟩ := hy
  obtain ⟨v, rfl, hv⟩ := hz
  obtain ⟨t, ht, _, ht3⟩ := bP_less ⟨n, by omega⟩ u v hu hv
  rw [ht]
  exact ht3 ⟨j, hj⟩
theorem bP_part : ∀ n : Fin 5, ∀ z y : Fin 16, z.val < 2 ^ n.val → y.val < 2 ^ n.val → (partB (z.val : Int) (y.val : Int) = true ↔ ∀ j : Fin n.val, hasB (z.val : Int) j.val = true → hasB (y.val : Int) j.val = true) := by decide +kernel
theorem St.part {n : Nat} {y z : Int} (h4 : n ≤ 4) (hy : St n y) (hz : St n z) : partB y z = true ↔ ∀ j, j < n → hasB y j = true → hasB z j = true := by
  obtain ⟨u, rfl, hu⟩ := hy
  obtain ⟨v, rfl, hv⟩ := hz
  rw [bP_part ⟨n, by omega⟩ u v hu hv]
  exact ⟨fun g j hj => g ⟨j, hj⟩, fun g j => g j.val j.isLt⟩

/-! after -/
/-- the points to which some of a set are related -/
def imgA (xs : List Int) (z : Int) : Int := imgTo xs z xs.length
theorem St.img {n : Nat} {xs : List Int} {z : Int} (h : Rl n xs) (hz : St n z) : St n (imgA xs z) := by
  obtain ⟨v, rfl, hv⟩ := hz
  obtain ⟨u, hu, hu2, _⟩ := img_row h v n (Nat.le_refl _)
  unfold imgA
  rw [h.len]
  exact ⟨u, hu, hu2⟩
theorem has_img {n : Nat} {xs : List Int} {z : Int} (h : Rl n xs) (hz : St n z) (j : Nat) (hj : j < n) : hasB (imgA xs z) j = true ↔ ∃ l, l < n ∧ hasB z l = true ∧ hB xs l j = true := by
  obtain ⟨v, rfl, hv⟩ := hz
  obtain ⟨u, hu, _, hu3⟩ := img_row h v n (Nat.le_refl _)
  unfold imgA
  rw [h.len, hu]
  exact hu3 j hj
/-- what a point alone is related to -/
theorem img_pt {n : Nat} {xs : List Int} (h : Rl n xs) (i : Nat) (hi : i < n) : imgA xs (pt i) = rowAt xs i := by
  have h4 := h.four
  refine St.ext h4 (St.img h (St.pt h4 i hi)) (St.row h i) fun j hj => ?_
  rw [Bool.eq_iff_iff, has_img h (St.pt h4 i hi) j hj]
  constructor
  · rintro ⟨l, hl, e, g⟩
    rw [has_pt i l (by omega) (by omega)] at e
    obtain rfl := of_decide_eq_true e
    exact g
  · intro g
    exact ⟨i, hi, by rw [has_pt i i (by omega) (by omega)]; exact decide_eq_true rfl, g⟩

/-! surely -/
/-- the states that lead to no state outside of a set, as the program finds them -/
def surA (n : Nat) (xs : List Int) (z : Int) : Int := notA n (imgA (turnL xs) (notA n z))
theorem St.sur {n : Nat} {xs : List Int} {z : Int} (h : Rl n xs) (hz : St n z) : St n (surA n xs z) :=
  St.not h.four (St.img h.turn (St.not h.four hz))
theorem has_sur {n : Nat} {xs : List Int} {z : Int} (h : Rl n xs) (hz : St n z) (j : Nat) (hj : j < n) : hasB (surA n xs z) j = true ↔ ∀ l, l < n → hB xs j l = true → hasB z l = true := by
  have h4 := h.four
  unfold surA
  rw [St.hasNot h4 (St.img h.turn (St.not h4 hz)) j hj, Bool.not_eq_true', ← Bool.not_eq_true, has_img h.turn (St.not h4 hz) j hj]
  constructor
  · intro g l hl e
    cases hc : hasB z l with
    | true => rfl
    | false => exact absurd ⟨l, hl, by rw [St.hasNot h4 hz l hl, hc]; rfl, by rw [hB_turn h l j hl hj]; exact e⟩ g
  · rintro g ⟨l, hl, e1, e2⟩
    rw [hB_turn h l j hl hj] at e2
    rw [St.hasNot h4 hz l hl, g l hl e2] at e1
    cases e1
/-- the same, as the model finds them: row by row -/
def surTo (xs : List Int) (z : Int) : Nat → Int
  | 0 => 0
  | k + 1 => if partB (rowAt xs k) z then bits .or .i64 (surTo xs z k) (pt k) else surTo xs z k
theorem surTo_step (xs : List Int) (z : Int) (k : Nat) : surTo xs z (k + 1) = if partB (rowAt xs k) z then bits .or .i64 (surTo xs z k) (pt k) else surTo xs z k := rfl
theorem surTo_has {n : Nat} {xs : List Int} {z : Int} (h : Rl n xs) (hz : St n z) : ∀ k, k ≤ n → St n (surTo xs z k) ∧ ∀ j, j < n → (hasB (surTo xs z k) j = true ↔ j < k ∧ partB (rowAt xs j) z = true)
  | 0, _ => ⟨St.zero n, fun j hj => by
      rw [show surTo xs z 0 = 0 from rfl, has_no j (by have := h.four; omega)]
      exact ⟨fun e => (by cases e), fun e => absurd e.1 (by omega)⟩⟩
  | k + 1, hk => by
    have h4 := h.four
    obtain ⟨g1, g2⟩ := surTo_has h hz k (by omega)
    rw [surTo_step]
    cases hp : partB (rowAt xs k) z with
    | true =>
      rw [if_pos rfl]
      refine ⟨St.or h4 g1 (St.pt h4 k (by omega)), fun j hj => ?_⟩
      rw [St.hasOr g1 (St.pt h4 k (by omega)) j (by omega), Bool.or_eq_true, g2 j hj, has_pt k j (by omega) (by omega), decide_eq_true_iff]
      constructor
      · rintro (⟨a, b⟩ | rfl)
        · exact ⟨by omega, b⟩
        · exact ⟨by omega, hp⟩
      · rintro ⟨a, b⟩
        by_cases e : j = k
        · exact .inr e
        · exact .inl ⟨by omega, b⟩
    | false =>
      rw [if_neg Bool.false_ne_true]
      refine ⟨g1, fun j hj => ?_⟩
      rw [g2 j hj]
      constructor
      · rintro ⟨a, b⟩
        exact ⟨by omega, b⟩
      · rintro ⟨a, b⟩
        refine ⟨?_, b⟩
        by_cases e : j = k
        · subst e
          rw [hp] at b
          cases b
        · omega
theorem sur_eq {n : Nat} {xs : List Int} {z : Int} (h : Rl n xs) (hz : St n z) : surTo xs z n = surA n xs z := by
  obtain ⟨g1, g2⟩ := surTo_has h hz n (Nat.le_refl _)
  refine St.ext h.four g1 (St.sur h hz) fun j hj => ?_
  rw [Bool.eq_iff_iff, g2 j hj, has_sur h hz j hj, St.part h.four (St.row h j) hz]
  exact ⟨fun e => e.2, fun e => ⟨hj, e⟩⟩

/-! by tests -/
theorem rowOf (n : Nat) (f : Nat → Int) (i : Nat) (hi : i < n) : rowAt ((List.range n).map f) i = f i := by
  unfold rowAt
  rw [List.getD_eq_getElem?_getD, List.getElem?_map, List.getElem?_range hi]
  rfl
theorem Rl.tell {n : Nat} (h1 : 1 ≤ n) (h4 : n ≤ 4) (f : Nat → Int) (hf : ∀ i, i < n → St n (f i)) : Rl n ((List.range n).map f) :=
  Rl.mk' (by rw [List.length_map, List.length_range]) h1 h4 fun i hi => by rw [rowOf n f i hi]; exact hf i hi
/-- the rows of a test, without the others -/
def wiL (z : Int) (xs : List Int) : List Int := (List.range xs.length).map fun i => if hasB z i then rowAt xs i else 0
/-- the rows of one relation for a test, of another one for other points -/
def ifL (z : Int) (xs ys : List Int) : List Int := (List.range xs.length).map fun i => if hasB z i then rowAt xs i else rowAt ys i
theorem wi_row {n : Nat} {xs : List Int} (h : Rl n xs) (z : Int) (i : Nat) (hi : i < n) : rowAt (wiL z xs) i = if hasB z i then rowAt xs i else 0 := by
  unfold wiL
  rw [h.len, rowOf n _ i hi]
theorem if_row {n : Nat} {xs : List Int} (h : Rl n xs) (z : Int) (ys : List Int) (i : Nat) (hi : i < n) : rowAt (ifL z xs ys) i = if hasB z i then rowAt xs i else rowAt ys i := by
  unfold ifL
  rw [h.len, rowOf n _ i hi]
theorem Rl.wi {n : Nat} {xs : List Int} (h : Rl n xs) (z : Int) : Rl n (wiL z xs) := by
  unfold wiL
  rw [h.len]
  refine Rl.tell h.one h.four _ fun i hi => ?_
  cases hasB z i
  · exact St.zero n
  · exact St.row h i
theorem Rl.ifL {n : Nat} {xs ys : List Int} (h : Rl n xs) (k : Rl n ys) (z : Int) : Rl n (ifL z xs ys) := by
  unfold Go.Proofs.Ytgmjdkhegbdbjaa.ifL
  rw [h.len]
  refine Rl.tell h.one h.four _ fun i hi => ?_
  cases hasB z i
  · exact St.row k i
  · exact St.row h i
theorem hB_wi {n : Nat} {xs : List Int} (h : Rl n xs) (z : Int) (i j : Nat) (hi : i < n) (hj : j < n) : hB (wiL z xs) i j = (hasB z i && hB xs i j) := by
  unfold hB
  rw [wi_row h z i hi]
  cases hasB z i
  · exact has_no j (by have := h.four; omega)
  · rfl
theorem hB_ifL {n : Nat} {xs : List Int} (h : Rl n xs) (z : Int) (ys : List Int) (i j : Nat) (hi : i < n) : hB (ifL z xs ys) i j = if hasB z i then hB xs i j else hB ys i j := by
  unfold hB
  rw [if_row h z ys i hi]
  cases hasB z i <;> rfl
/-- what is behind a test and a step, from a point -/
theorem img_test {n : Nat} {xs : List Int} (h : Rl n xs) {z : Int} (hz : St n z) (i : Nat) (hi : i < n) : imgA xs (bits .and .i64 (pt i) z) = if hasB z i then rowAt xs i else 0 := by
  have h4 := h.four
  have hp := St.pt h4 i hi
  have ha := St.and h4 hp hz
  have key : ∀ l, l < n → (hasB (bits .and .i64 (pt i) z) l = true ↔ l = i ∧ hasB z i = true) := by
    intro l hl
    rw [St.hasAnd hp hz l (by omega), Bool.and_eq_true, has_pt i l (by omega) (by omega), decide_eq_true_iff]
    constructor
    · rintro ⟨rfl, e⟩
      exact ⟨rfl, e⟩
    · rintro ⟨rfl, e⟩
      exact ⟨rfl, e⟩
  have hst : St n (if hasB z i then rowAt xs i else 0) := by
    cases hasB z i
    · exact St.zero n
    · exact St.row h i
  refine St.ext h4 (St.img h ha) hst fun j hj => ?_
  rw [Bool.eq_iff_iff, has_img h ha j hj]
  constructor
  · rintro ⟨l, hl, e, g⟩
    obtain ⟨rfl, e2⟩ := (key l hl).1 e
    rw [e2]
    exact g
  · intro g
    cases hc : hasB z i with
    | true =>
      rw [hc] at g
      exact ⟨i, hi, (key i hi).2 ⟨rfl, hc⟩, g⟩
    | false =>
      rw [hc] at g
      have := has_no j (by omega)
      rw [if_neg Bool.false_ne_true] at g
      rw [this] at g
      cases g
/-- both branches together -/
theorem if_either {n : Nat} {xs ys : List Int} (h : Rl n xs) (k : Rl n ys) {z : Int} (hz : St n z) : eitherL (wiL z xs) (wiL (notA n z) ys) = ifL z xs ys := by
  have h4 := h.four
  refine ((h.wi z).either (k.wi _)).ext (h.ifL k z) fun i j hi hj => ?_
  rw [hB_either (h.wi z) (k.wi _) i j hi hj, hB_wi h z i j hi hj, hB_wi k _ i j hi hj, hB_ifL h z ys i j hi, St.hasNot h4 hz i hi]
  cases hasB z i <;> simp

/-! sets that are put together step by step -/
def cardI (z : Int) : Nat := (List.finRange 4).countP fun j => hasB z j.val
theorem bP_card : ∀ n : Fin 5, ∀ z y : Fin 16, z.val < 2 ^ n.val → y.val < 2 ^ n.val → (∀ j : Fin n.val, hasB (z.val : Int) j.val = true → hasB (y.val : Int) j.val = true) → z ≠ y → cardI (z.val : Int) < cardI (y.val : Int) := by decide +kernel
theorem bP_most : ∀ n : Fin 5, ∀ z : Fin 16, z.val < 2 ^ n.val → cardI (z.val : Int) ≤ n.val := by decide +kernel
theorem card_lt {n : Nat} {y z : Int} (h4 : n ≤ 4) (hy : St n y) (hz : St n z) (h : ∀ j, j < n → hasB y j = true → hasB z j = true) (hne : y ≠ z) : cardI y < cardI z := by
  obtain ⟨u, rfl, hu⟩ := hy
  obtain ⟨v, rfl, hv⟩ := hz
  exact bP_card ⟨n, by omega⟩ u v hu hv (fun j => h j.val j.isLt) (fun e => hne (by rw [e]))
theorem card_most {n : Nat} {y : Int} (h4 : n ≤ 4) (hy : St n y) : cardI y ≤ n := by
  obtain ⟨u, rfl, hu⟩ := hy
  exact bP_most ⟨n, by omega⟩ u hu
/-- what stays once stays -/
theorem stays {s : Nat → Int} (f : ∀ k, s k = s (k + 1) → s (k + 1) = s (k + 2)) {k : Nat} (h : s k = s (k + 1)) : ∀ m, s k = s (k + m) ∧ s (k + m) = s (k + m + 1)
  | 0 => ⟨rfl, h⟩
  | m + 1 => by
    obtain ⟨a, b⟩ := stays f h m
    have := f (k + m) b
    exact ⟨by rw [a, b]; rfl, this⟩
theorem chain_up {n : Nat} (h4 : n ≤ 4) {s : Nat → Int} (hs : ∀ k, St n (s k)) (hu : ∀ k j, j < n → hasB (s k) j = true → hasB (s (k + 1)) j = true) (f : ∀ k, s k = s (k + 1) → s (k + 1) = s (k + 2)) : s n = s (n + 1) := by
  refine Classical.byContradiction fun hne => ?_
  have ne : ∀ k, k ≤ n → s k ≠ s (k + 1) := fun k hk e => hne (by
    have := (stays f e (n - k)).2
    rwa [show k + (n - k) = n by omega] at this)
  have hc : ∀ k, k ≤ n + 1 → k ≤ cardI (s k) := by
    intro k
    induction k with
    | zero => intro _; exact Nat.zero_le _
    | succ k ih =>
      intro hk
      have := card_lt h4 (hs k) (hs (k + 1)) (hu k) (ne k (by omega))
      have := ih (by omega)
      omega
  have h1 := hc (n + 1) (Nat.le_refl _)
  have h2 := card_most h4 (hs (n + 1))
  omega
theorem chain_down {n : Nat} (h4 : n ≤ 4) {s : Nat → Int} (hs : ∀ k, St n (s k)) (hd : ∀ k j, j < n → hasB (s (k + 1)) j = true → hasB (s k) j = true) (f : ∀ k, s k = s (k + 1) → s (k + 1) = s (k + 2)) : s n = s (n + 1) := by
  refine Classical.byContradiction fun hne => ?_
  have ne : ∀ k, k ≤ n → s k ≠ s (k + 1) := fun k hk e => hne (by
    have := (stays f e (n - k)).2
    rwa [show k + (n - k) = n by omega] at this)
  have hc : ∀ k, k ≤ n + 1 → cardI (s k) + k ≤ n := by
    intro k
    induction k with
    | zero => intro _; exact card_most h4 (hs 0)
    | succ k ih =>
      intro hk
      have := card_lt h4 (hs (k + 1)) (hs k) (hd k) (fun e => ne k (by omega) e.symm)
      have := ih (by omega)
      omega
  have h1 := hc (n + 1) (Nat.le_refl _)
  omega

/-! ends -/
/-- the states from which a program ends, after k rounds -/
def endTo (n : Nat) (xs : List Int) : Nat → Int
  | 0 => 0
  | k + 1 => surA n xs (endTo n xs k)
theorem end_st {n : Nat} {xs : List Int} (h : Rl n xs) : ∀ k, St n (endTo n xs k)
  | 0 => St.zero n
  | k + 1 => St.sur h (end_st h k)
theorem end_up {n : Nat} {xs : List Int} (h : Rl n xs) : ∀ k j, j < n → hasB (endTo n xs k) j = true → hasB (endTo n xs (k + 1)) j = true
  | 0, j, hj, e => by
    rw [show endTo n xs 0 = 0 from rfl, has_no j (by have := h.four; omega)] at e
    cases e
  | k + 1, j, hj, e => by
    have e1 : hasB (surA n xs (endTo n xs k)) j = true := e
    show hasB (surA n xs (endTo n xs (k + 1))) j = true
    rw [has_sur h (end_st h _) j hj] at e1 ⊢
    exact fun l hl g => end_up h k l hl (e1 l hl g)
theorem end_stays {n : Nat} {xs : List Int} (k : Nat) (e : endTo n xs k = endTo n xs (k + 1)) : endTo n xs (k + 1) = endTo n xs (k + 2) := congrArg (surA n xs) e
/-- all the states from which a program ends -/
def endA (n : Nat) (xs : List Int) : Int := endTo n xs n
theorem end_last {n : Nat} {xs : List Int} (h : Rl n xs) : endA n xs = endTo n xs (n + 1) := chain_up h.four (end_st h) (end_up h) end_stays
theorem end_here {n : Nat} {xs : List Int} (_h : Rl n xs) {k : Nat} (hk : k ≤ n) (e : endTo n xs k = endTo n xs (k + 1)) : endTo n xs k = endA n xs := by
  have := (stays (s := endTo n xs) end_stays e (n - k)).1
  rw [show k + (n - k) = n by omega] at this
  exact this
theorem end_soon {n : Nat} {xs : List Int} (h : Rl n xs) {k : Nat} (hk : k ≤ n) (e : endTo n xs k ≠ endTo n xs (k + 1)) : k + 1 ≤ n := by
  by_cases g : k = n
  · subst g
    exact absurd (end_last h) e
  · omega

/-! kept and largest sets -/
theorem hB_star8 {xs : List Int} (h : Rl xs.length xs) (i j : Nat) (hi : i < xs.length) (hj : j < xs.length) : hB (starL xs) i j = true ↔ ∃ t, hB (powL xs t) i j = true := by
  unfold starL
  rw [hB_either h.reach (Rl.same h.one h.four) i j hi hj, Bool.or_eq_true, hB_reach h i j hi hj]
  constructor
  · rintro (⟨t, _, e⟩ | e)
    · exact ⟨t, e⟩
    · exact ⟨0, e⟩
  · rintro ⟨t, e⟩
    by_cases h0 : t = 0
    · subst h0
      exact .inr e
    · exact .inl ⟨t, by omega, e⟩
/-- parts of a set that lead into it, after k rounds, as the model drops states -/
def larTo (n : Nat) (xs : List Int) (z : Int) : Nat → Int
  | 0 => z
  | k + 1 => bits .and .i64 (larTo n xs z k) (surA n xs (larTo n xs z k))
theorem lar_st {n : Nat} {xs : List Int} {z : Int} (h : Rl n xs) (hz : St n z) : ∀ k, St n (larTo n xs z k)
  | 0 => hz
  | k + 1 => St.and h.four (lar_st h hz k) (St.sur h (lar_st h hz k))
theorem lar_has {n : Nat} {xs : List Int} {z : Int} (h : Rl n xs) (hz : St n z) (k j : Nat) (hj : j < n) : hasB (larTo n xs z (k + 1)) j = true ↔ hasB (larTo n xs z k) j = true ∧ ∀ l, l < n → hB xs j l = true → hasB (larTo n xs z k) l = true := by
  have hs := lar_st h hz k
  show hasB (bits .and .i64 (larTo n xs z k) (surA n xs (larTo n xs z k))) j = true ↔ _
  rw [St.hasAnd hs (St.sur h hs) j (by have := h.four; omega), Bool.and_eq_true, has_sur h hs j hj]
theorem lar_last {n : Nat} {xs : List Int} {z : Int} (h : Rl n xs) (hz : St n z) : larTo n xs z n = larTo n xs z (n + 1) :=
  chain_down h.four (lar_st h hz) (fun k j hj e => ((lar_has h hz k j hj).1 e).1) (fun _ e => congrArg (fun s => bits .and .i64 s (surA n xs s)) e)
/-- the program's: what no number of steps leads out of -/
theorem lar_eq {xs : List Int} {z : Int} (h : Rl xs.length xs) (hz : St xs.length z) : larTo xs.length xs z (xs.length + 1) = surA xs.length (starL xs) z := by
  have h4 := h.four
  have hl := lar_last h hz
  rw [← hl]
  refine St.ext h4 (lar_st h hz _) (St.sur h.star hz) fun j hj => ?_
  rw [Bool.eq_iff_iff, has_sur h.star hz j hj]
  have sub : ∀ k i, i < xs.length → hasB (larTo xs.length xs z k) i = true → hasB z i = true := by
    intro k
    induction k with
    | zero => intro i _ e; exact e
    | succ k ih => intro i hi e; exact ih i hi ((lar_has h hz k i hi).1 e).1
  constructor
  · intro e
    have reach : ∀ t i l, i < xs.length → l < xs.length → hasB (larTo xs.length xs z xs.length) i = true → hB (powL xs t) i l = true → hasB (larTo xs.length xs z xs.length) l = true := by
      intro t
      induction t with
      | zero =>
        intro i l hi hl2 g e2
        have e3 : hB (sameL xs.length) i l = true := e2
        rw [hB_same h4 i l hi hl2] at e3
        obtain rfl := of_decide_eq_true e3
        exact g
      | succ t ih =>
        intro i l hi hl2 g e2
        have e3 : hB (compL (powL xs t) xs) i l = true := e2
        rw [hB_comp (h.pow t) h i l hi hl2] at e3
        obtain ⟨m, hm, e4, e5⟩ := e3
        have g2 := ih i m hi hm g e4
        rw [hl, lar_has h hz _ m hm] at g2
        exact g2.2 l hl2 e5
    intro l hl2 g
    obtain ⟨t, g2⟩ := (hB_star8 h j l hj hl2).1 g
    exact sub _ l hl2 (reach t j l hj hl2 e g2)
  · intro g
    have all : ∀ k i, i < xs.length → (∀ l, l < xs.length → hB (starL xs) i l = true → hasB z l = true) → hasB (larTo xs.length xs z k) i = true := by
      intro k
      induction k with
      | zero =>
        intro i hi g
        exact g i hi ((hB_star8 h i i hi hi).2 ⟨0, by show hB (sameL xs.length) i i = true; rw [hB_same h4 i i hi hi]; exact decide_eq_true rfl⟩)
      | succ k ih =>
        intro i hi g
        rw [lar_has h hz k i hi]
        refine ⟨ih i hi g, fun l hl2 e => ih l hl2 fun m hm e2 => g m hm ?_⟩
        obtain ⟨t, e3⟩ := (hB_star8 h l m hl2 hm).1 e2
        rw [hB_star8 h i m hi hm]
        exact ⟨1 + t, pow_add h i m hi hm 1 t l hl2 (by rw [hB_pow1 h i l hi hl2]; exact e) e3⟩
    exact all _ j hj g

/-! loops -/
/-- steps of a test, as many as one likes, and out of it -/
def whileL (z : Int) (xs : List Int) : List Int := (List.range xs.length).map fun i => bits .andNot .i64 (rowAt (starL (wiL z xs)) i) z
theorem wi_len (z : Int) (xs : List Int) : (wiL z xs).length = xs.length := by unfold wiL; rw [List.length_map, List.length_range]
theorem if_len (z : Int) (xs ys : List Int) : (ifL z xs ys).length = xs.length := by unfold ifL; rw [List.length_map, List.length_range]
theorem while_len (z : Int) (xs : List Int) : (whileL z xs).length = xs.length := by unfold whileL; rw [List.length_map, List.length_range]
theorem Rl.wiStar {n : Nat} {xs : List Int} (h : Rl n xs) (z : Int) : Rl n (starL (wiL z xs)) := by
  have hw := h.wi z
  have e : (wiL z xs).length = n := by rw [wi_len, h.len]
  rw [← e] at hw
  have := hw.star
  rw [e] at this
  exact this
theorem while_row {n : Nat} {xs : List Int} (h : Rl n xs) (z : Int) (i : Nat) (hi : i < n) : rowAt (whileL z xs) i = bits .andNot .i64 (rowAt (starL (wiL z xs)) i) z := by
  unfold whileL
  rw [h.len, rowOf n _ i hi]
theorem Rl.while {n : Nat} {xs : List Int} (h : Rl n xs) {z : Int} (hz : St n z) : Rl n (whileL z xs) := by
  unfold whileL
  rw [h.len]
  exact Rl.tell h.one h.four _ fun i hi => St.less h.four (St.row (h.wiStar z) i) hz
/-- what is behind the steps and outside of the test, from a point, as the program finds it -/
theorem while_out {n : Nat} {xs : List Int} (h : Rl n xs) {z : Int} (hz : St n z) (i : Nat) (hi : i < n) : bits .and .i64 (imgA (starL (wiL z xs)) (pt i)) (notA n z) = rowAt (whileL z xs) i := by
  have h4 := h.four
  have hw := h.wiStar z
  rw [img_pt hw i hi, while_row h z i hi]
  refine St.ext h4 (St.and h4 (St.row hw i) (St.not h4 hz)) (St.less h4 (St.row hw i) hz) fun j hj => ?_
  rw [St.hasAnd (St.row hw i) (St.not h4 hz) j (by omega), St.hasLess h4 (St.row hw i) hz j (by omega), St.hasNot h4 hz j hj]
end Go.Proofs.Ytgmjdkhegbdbjaa

namespace Go.Proofs.Ytgmjdkhegbdbjaa
open Go

section
variable {F : Fence} {n : Nat} {P : Program} {ops : Array Oper} {md : Region.Mode} {w : World}

theorem wpIn_of_stillF {o : Oper} {a : Act} {K : Act → Prop} {K' : Act → World → Prop} {Q' : Exit → Act → World → Prop} (hfn : ∀ f, F.fn f)
    (hcall : ∀ f args w R, Calls P f args w R → (F.depth.isSome = true → 1 ≤ n) ∧ CallsIn F (n - 1) P f args w R) (hd : ∀ ev : Operand → Value, o.semAt F.round ev = execOp ev o)
    (h : ∀ a, K a → K' a w) (hh : o.still P a w K) : o.wpIn F n P a w K' Q' := by
  unfold Oper.still at hh
  unfold Oper.wpIn
  refine ⟨fun f _ => hfn f, ?_⟩
  rw [hd]
  generalize (execOp a.eval o).run P w = r at *
  cases r with
  | ok x w' =>
    cases x <;> simp only [Oper.stillUpon] at hh <;> simp only [Oper.uponIn]
    case enter f args =>
      obtain ⟨rfl, v, hc, hn⟩ := hh
      refine ⟨(hcall _ _ _ _ hc).1, (hcall _ _ _ _ hc).2.mono ?_⟩
      rintro e w'' ⟨rfl, rfl⟩
      exact h _ hn
    all_goals (obtain ⟨rfl, h2⟩ := hh; exact h _ h2)
  | halt x w' => simp only [Oper.stillUpon] at hh

theorem wpOpIn_of_stillF {i : Nat} {a : Act} {K : Act → Prop} {K' : Act → World → Prop} {Q' : Exit → Act → World → Prop} (hfn : ∀ f, F.fn f)
    (hcall : ∀ f args w R, Calls P f args w R → (F.depth.isSome = true → 1 ≤ n) ∧ CallsIn F (n - 1) P f args w R) (hd : ∀ (i : Nat) (o : Oper), ops[i]? = some o → ∀ ev : Operand → Value, o.semAt F.round ev = execOp ev o)
    (h : ∀ a, K a → K' a w) (hh : stOp P ops w i K a) : wpOpIn F n P ops Q' i K' a w := by
  unfold stOp at hh
  unfold wpOpIn
  split
  · rename_i ho; simp only [ho] at hh; exact h _ hh
  · rename_i o ho
    simp only [ho] at hh
    split
    · rename_i hw; simp only [hw, if_true] at hh; exact wpIn_of_stillF hfn hcall (hd _ _ ho) h hh
    · rename_i hw; simp only [hw] at hh; exact ⟨fun f _ => hfn f, h _ hh⟩

theorem wpAnyIn_of_headF {m g : Nat} {L : Array Bool → Act → Prop} {Q' : Exit → Act → World → Prop} (hfn : ∀ f, F.fn f)
    (hcall : ∀ f args w R, Calls P f args w R → (F.depth.isSome = true → 1 ≤ n) ∧ CallsIn F (n - 1) P f args w R) (hd : ∀ (i : Nat) (o : Oper), ops[i]? = some o → ∀ ev : Operand → Value, o.semAt F.round ev = execOp ev o)
    (hL : ∀ listed a, L listed a → wpAnyIn F n P md ops Q' g listed a w) :
    ∀ (f : Nat) (listed : Array Bool) (a : Act), wpAnyL P md ops w m L f listed a → wpAnyIn F n P md ops Q' (f + g) listed a w
  | 0, listed, a, h => by rw [Nat.zero_add]; exact hL _ _ h
  | f + 1, listed, a, h => by
    rw [show f + 1 + g = (f + g) + 1 by omega]
    exact ⟨fun h0 => absurd h0 h.1, fun i hi => wpOpIn_of_stillF hfn hcall hd (fun a' h' => wpAnyIn_of_headF hfn hcall hd hL f _ a' h') (h.2 i hi).2⟩

theorem wpAnyIn_of_seqF {Q' : Exit → Act → World → Prop} : ∀ (l : List Oper) (k : Nat) (listed : Array Bool) (a : Act) (w : World), (∀ j, l[j]? = ops[k + j]?) →
    Region.seqB md ops l.length k listed = true → wpListIn F n P ops Q' l a w → wpAnyIn F n P md ops Q' l.length listed a w
  | [], _, _, _, _, _, hB, h => ⟨by simpa [Region.seqB] using hB, h⟩
  | o :: l, k, listed, a, w, hl, hB, h => by
    have h0 : ops[k]? = some o := by simpa using (hl 0).symm
    simp only [List.length_cons, Region.seqB, Bool.and_eq_true, decide_eq_true_eq] at hB
    refine ⟨fun h1 => (by rw [hB.1] at h1; cases h1), fun i hi => ?_⟩
    rw [hB.1] at hi
    have hik : i = k := by simpa using hi
    subst hik
    have hw : wpOpIn F n P ops Q' i (wpListIn F n P ops Q' l) a w := by unfold wpOpIn; simp only [h0]; exact h
    exact wpOpIn_mono (fun a' w' h' => wpAnyIn_of_seqF l (i + 1) _ a' w' (fun j => by have := hl (j + 1); simpa [Nat.add_assoc, Nat.add_comm 1 j] using this) hB.2 h') hw

theorem wpIn_region_loads_then {id : Nat} {Q : Exit → Act → World → Prop} {a : Act} {w : World} {l : List Oper} (m : Nat) (hm : P.follows .mixedOrders = true) (hB : Region.lexTailB .any l.toArray m = true)
    (hfn : ∀ f, F.fn f) (hcall : ∀ f args w R, Calls P f args w R → (F.depth.isSome = true → 1 ≤ n) ∧ CallsIn F (n - 1) P f args w R)
    (hd : l.all (fun o => match o.op with | .defer _ => false | _ => true) = true)
    (h : wpStill P l.toArray w.drew (fun a' => wpListIn F n P l.toArray Q (l.drop m) a' w.drew) (l.take m) a) : (Code.region id l.toArray true).wpIn F n P Q a w := by
  have hd' : ∀ (i : Nat) (o : Oper), l.toArray[i]? = some o → ∀ ev : Operand → Value, o.semAt F.round ev = execOp ev o := by
    intro i o ho ev
    have h1 := List.all_eq_true.1 hd o (List.mem_of_getElem? (by simpa using ho))
    exact Oper.semAt_eq _ _ _ (fun c hc => by rw [hc] at h1; cases h1)
  simp only [Region.lexTailB, Bool.and_eq_true, decide_eq_true_eq] at hB
  obtain ⟨⟨⟨⟨hsel, hn⟩, hs⟩, hc⟩, hlex⟩ := hB
  have hn' : m < l.length := by simpa using hn
  have htl : (l.take m).length = m := by simp; omega
  have hdl : (l.drop m).length = l.toArray.size - m := by simp
  have inv0 : HeadInv .any l.toArray m (Array.replicate l.toArray.size false) :=
    ⟨by simp, fun j oj _ hl => (by rw [getD_replicate_false] at hl; cases hl), fun t _ ht => getD_in (by simpa using ht) (getD_replicate_false _ _)⟩
  have H := wpAnyL_lex (md := .any) (g := l.toArray.size - m) hsel hs hc hn (l.take m) 0 _ a (fun j hj => by
    have hj' : j < m := by rw [htl] at hj; exact hj
    simp [hj']) (by simpa using htl) inv0 (by rw [htl]; exact hlex) h
  refine wpIn_region_any hm ?_
  have := wpAnyIn_of_headF (Q' := Q) (g := l.toArray.size - m) hfn hcall hd' (fun listed a' hL => by
    have := wpAnyIn_of_seqF (md := .any) (Q' := Q) (l.drop m) m listed a' w.drew (fun j => by simp [List.getElem?_drop]) (by rw [hdl]; exact hL.1) hL.2
    rwa [hdl] at this) _ _ _ H
  rw [htl, show m + (l.toArray.size - m) = l.toArray.size by omega] at this
  exact this
end

/-- the fence of a round in the wide one -/
theorem wide_round_calls {P : Program} {n l : Nat} : ∀ f args w R, Calls P f args w R → ((Fence.wide.inRound l).depth.isSome = true → 1 ≤ n) ∧ CallsIn (Fence.wide.inRound l) (n - 1) P f args w R :=
  fun _ _ _ _ h => ⟨(fun h => Bool.noConfusion h), CallsIn.inRound l (callsIn_wide.2 h)⟩
end Go.Proofs.Ytgmjdkhegbdbjaa

namespace Go.Proofs.Ytgmjdkhegbdbjaa
open Go.RowKit Go.Shelf
attribute [local go_sem] Oper.semAt_some

theorem below_five (w : World) (o p q r s : Obj) : Below w.heap.size w (((((w.alloc o).alloc p).alloc q).alloc r).alloc s) := (below_four w o p q r).alloc (by simp; omega) _


set_option maxRecDepth 100000 in
set_option maxHeartbeats 8000000 in
theorem then_in (xs ys : List Int) (w : World) (h1 : 1 ≤ xs.length) (h4 : xs.length ≤ 4) :
    CallsIn Fence.wide 6 Try.prog 55 #[relOf xs, relOf ys] w fun e w' => e = .returned (relOf (thenAcc xs.length ys (pairsOf xs))) ∧ Below w.heap.size w w' := by
  refine callsIn_of_wp_marks Try.func55 rfl trivial ?_ rfl
  simp only [Try.ntmps55, List.size_toArray, List.length_cons, List.length_nil, Nat.reduceAdd, Nat.reduceSub, Array.replicate_succ, Array.replicate_zero, List.push_toArray, List.append_toArray, List.nil_append, List.cons_append]
  have x1 := (((RelAt.new w xs).alloc (.cells #[.int .i64 ys.length, .int .i64 (rowAt ys 0), .int .i64 (rowAt ys 1), .int .i64 (rowAt ys 2), .int .i64 (rowAt ys 3)] 45)).alloc (.cells #[.int .i64 0, .int .i64 0, .int .i64 0, .int .i64 0, .int .i64 0] 45)).alloc (.cells #[.int .i64 xs.length, .int .i64 0, .int .i64 0, .int .i64 0, .int .i64 0] 45)
  have p0 := x1.cell0
  have p1 := x1.cell1
  have p2 := x1.cell2
  have p3 := x1.cell3
  have p4 := x1.cell4
  gi_wp2_with (refine ⟨trivial, ?_⟩; gi_at_call 71; refine (callsIn_wide.2 (pairs_any xs _)).mono ?_; rintro e w2 ⟨rfl, rfl⟩)
  clear x1 p0 p1 p2 p3 p4
  have y1 := (((RelAt.new (w.alloc (.cells #[.int .i64 xs.length, .int .i64 (rowAt xs 0), .int .i64 (rowAt xs 1), .int .i64 (rowAt xs 2), .int .i64 (rowAt xs 3)] 45)) ys).alloc (.cells #[.int .i64 0, .int .i64 0, .int .i64 0, .int .i64 0, .int .i64 0] 45)).alloc (.cells #[.int .i64 xs.length, .int .i64 0, .int .i64 0, .int .i64 0, .int .i64 0] 45)).alloc (.cells #[.int .i64 xs.length, .int .i64 (rowAt xs 0), .int .i64 (rowAt xs 1), .int .i64 (rowAt xs 2), .int .i64 (rowAt xs 3)] 45)
  have z1 := ((rel_zero ((w.alloc (.cells #[.int .i64 xs.length, .int .i64 (rowAt xs 0), .int .i64 (rowAt xs 1), .int .i64 (rowAt xs 2), .int .i64 (rowAt xs 3)] 45)).alloc (.cells #[.int .i64 ys.length, .int .i64 (rowAt ys 0), .int .i64 (rowAt ys 1), .int .i64 (rowAt ys 2), .int .i64 (rowAt ys 3)] 45))).alloc (.cells #[.int .i64 xs.length, .int .i64 0, .int .i64 0, .int .i64 0, .int .i64 0] 45)).alloc (.cells #[.int .i64 xs.length, .int .i64 (rowAt xs 0), .int .i64 (rowAt xs 1), .int .i64 (rowAt xs 2), .int .i64 (rowAt xs 3)] 45)
  have a1 := (zero_new (((w.alloc (.cells #[.int .i64 xs.length, .int .i64 (rowAt xs 0), .int .i64 (rowAt xs 1), .int .i64 (rowAt xs 2), .int .i64 (rowAt xs 3)] 45)).alloc (.cells #[.int .i64 ys.length, .int .i64 (rowAt ys 0), .int .i64 (rowAt ys 1), .int .i64 (rowAt ys 2), .int .i64 (rowAt ys 3)] 45)).alloc (.cells #[.int .i64 0, .int .i64 0, .int .i64 0, .int .i64 0, .int .i64 0] 45)) xs.length).alloc (.cells #[.int .i64 xs.length, .int .i64 (rowAt xs 0), .int .i64 (rowAt xs 1), .int .i64 (rowAt xs 2), .int .i64 (rowAt xs 3)] 45)
  have i1 := RelAt.new ((((w.alloc (.cells #[.int .i64 xs.length, .int .i64 (rowAt xs 0), .int .i64 (rowAt xs 1), .int .i64 (rowAt xs 2), .int .i64 (rowAt xs 3)] 45)).alloc (.cells #[.int .i64 ys.length, .int .i64 (rowAt ys 0), .int .i64 (rowAt ys 1), .int .i64 (rowAt ys 2), .int .i64 (rowAt ys 3)] 45)).alloc (.cells #[.int .i64 0, .int .i64 0, .int .i64 0, .int .i64 0, .int .i64 0] 45)).alloc (.cells #[.int .i64 xs.length, .int .i64 0, .int .i64 0, .int .i64 0, .int .i64 0] 45)) xs
  have B0 := below_five w (.cells #[.int .i64 xs.length, .int .i64 (rowAt xs 0), .int .i64 (rowAt xs 1), .int .i64 (rowAt xs 2), .int .i64 (rowAt xs 3)] 45) (.cells #[.int .i64 ys.length, .int .i64 (rowAt ys 0), .int .i64 (rowAt ys 1), .int .i64 (rowAt ys 2), .int .i64 (rowAt ys 3)] 45) (.cells #[.int .i64 0, .int .i64 0, .int .i64 0, .int .i64 0, .int .i64 0] 45) (.cells #[.int .i64 xs.length, .int .i64 0, .int .i64 0, .int .i64 0, .int .i64 0] 45) (.cells #[.int .i64 xs.length, .int .i64 (rowAt xs 0), .int .i64 (rowAt xs 1), .int .i64 (rowAt xs 2), .int .i64 (rowAt xs 3)] 45)
  have sz : w.heap.size + 1 + 1 + 1 + 1 + 1 = (((((w.alloc (.cells #[.int .i64 xs.length, .int .i64 (rowAt xs 0), .int .i64 (rowAt xs 1), .int .i64 (rowAt xs 2), .int .i64 (rowAt xs 3)] 45)).alloc (.cells #[.int .i64 ys.length, .int .i64 (rowAt ys 0), .int .i64 (rowAt ys 1), .int .i64 (rowAt ys 2), .int .i64 (rowAt ys 3)] 45)).alloc (.cells #[.int .i64 0, .int .i64 0, .int .i64 0, .int .i64 0, .int .i64 0] 45)).alloc (.cells #[.int .i64 xs.length, .int .i64 0, .int .i64 0, .int .i64 0, .int .i64 0] 45)).alloc (.cells #[.int .i64 xs.length, .int .i64 (rowAt xs 0), .int .i64 (rowAt xs 1), .int .i64 (rowAt xs 2), .int .i64 (rowAt xs 3)] 45)).heap.size := by simp
  simp only [World.size_alloc] at y1 z1 a1 i1
  obtain ⟨W0, hW0⟩ : ∃ W0, (((((w.alloc (.cells #[.int .i64 xs.length, .int .i64 (rowAt xs 0), .int .i64 (rowAt xs 1), .int .i64 (rowAt xs 2), .int .i64 (rowAt xs 3)] 45)).alloc (.cells #[.int .i64 ys.length, .int .i64 (rowAt ys 0), .int .i64 (rowAt ys 1), .int .i64 (rowAt ys 2), .int .i64 (rowAt ys 3)] 45)).alloc (.cells #[.int .i64 0, .int .i64 0, .int .i64 0, .int .i64 0, .int .i64 0] 45)).alloc (.cells #[.int .i64 xs.length, .int .i64 0, .int .i64 0, .int .i64 0, .int .i64 0] 45)).alloc (.cells #[.int .i64 xs.length, .int .i64 (rowAt xs 0), .int .i64 (rowAt xs 1), .int .i64 (rowAt xs 2), .int .i64 (rowAt xs 3)] 45)) = W0 := ⟨_, rfl⟩
  rw [hW0] at y1 z1 a1 i1 B0 sz ⊢
  clear hW0
  refine wpIn_rangeFunc_ownF (w0 := W0) rfl (by omega) (gf := 103) (lb := #[.pointer (some ⟨w.heap.size + 1 + 1 + 1 + 1, 0, none⟩)]) rfl trivial (enters_of Try.func103 (by kernel_rfl) rfl)
    (pairs_stops 5 (by omega) (w.heap.size + 1 + 1 + 1 + 1) xs h1 h4 W0 i1) KeepB.t (KeepB.b (by omega)) (Below.refl _ _) (fun _ => rfl)
    (fun pre W => (RelAt W (w.heap.size + 1 + 1 + 1) (thenAcc xs.length ys pre) ∧ RelAt W (w.heap.size + 1) ys ∧ RelAt W (w.heap.size + 1 + 1) [] ∧ RelAt W (w.heap.size + 1 + 1 + 1 + 1) xs) ∧ Below w.heap.size w W)
    (fun _ _ _ => False)
    (OwnFrom.and (Own.from (fun s A B row hs hg hr => ⟨relAt_own _ (thenAcc xs.length ys) s A B row hs.1 hg hr, relAt_own _ (fun _ => ys) s A B row hs.2.1 hg hr, relAt_own _ (fun _ => []) s A B row hs.2.2.1 hg hr, relAt_own _ (fun _ => xs) s A B row hs.2.2.2 hg hr⟩) _) (ownFrom_below (Nat.le_refl _) (by omega)))
    (fun _ _ _ _ _ hs _ _ => hs)
    ⟨⟨a1, y1, z1, i1⟩, B0⟩
    (fun x => { tmps := #[relOf xs, relOf ys, .pointer (some ⟨w.heap.size, 0, none⟩), .pointer (some ⟨w.heap.size + 1, 0, none⟩), .pointer (some ⟨w.heap.size + 1 + 1, 0, none⟩), .pointer (some ⟨w.heap.size + 1 + 1 + 1, 0, none⟩), .int .i64 (x.1.val : Int), .int .i64 (x.2.val : Int), .pointer (some ⟨w.heap.size, 0, none⟩), .int .i64 xs.length, .agg #[.int .i64 xs.length, .int .i64 0, .int .i64 0, .int .i64 0, .int .i64 0], relOf xs, .func (.func 103) #[] #[.pointer (some ⟨w.heap.size + 1 + 1 + 1 + 1, 0, none⟩)], .int .i64 (x.1.val : Int), .int .i64 (x.2.val : Int), undef, undef, undef, undef, undef, undef, undef, undef, undef, undef, undef, undef], defers := [] }) ?assign ?body ?done ?stop
  case assign =>
    intro l x W K hK
    gi_wp2
    exact hK
  case body =>
    rintro l pre x W ⟨⟨ha, hy, hz, hi⟩, hB⟩ hlen
    have hln := thenAcc_len xs.length ys pre
    have hx1 := x.1.isLt
    have hx2 := x.2.isLt
    have c1 := ha.row x.1.val (by omega)
    have c2 := hy.row x.2.val (by omega)
    have hq1 : ((x.1.val : Nat) : Int) < 4 := by omega
    have hq2 : ((x.2.val : Nat) : Int) < 4 := by omega
    have f1 := ha.free (1 + x.1.val)
    have hset := ha.set x.1.val (by rw [hln]; exact hx1) (by omega) (bits .or .i64 (rowAt (thenAcc xs.length ys pre) x.1.val) (rowAt ys x.2.val))
    rw [← thenAcc_snoc] at hset
    have HS := Lib.hid hset
    clear hset hln
    have hmo : Try.prog.follows .mixedOrders = true := by kernel_rfl
    obtain ⟨s1, hs1⟩ : ∃ s, rowAt (thenAcc xs.length ys pre) x.1.val = s := ⟨_, rfl⟩
    obtain ⟨s2, hs2⟩ : ∃ s, rowAt ys x.2.val = s := ⟨_, rfl⟩
    rw [hs1] at c1
    rw [hs2] at c2
    rw [hs1, hs2] at HS
    gi_wp2
    refine wpIn_region_loads_then 11 (by assumption) (by kernel_rfl) (fun _ => trivial) wide_round_calls rfl ?_
    simp only [List.take_succ_cons, List.take_zero, List.drop_succ_cons, List.drop_zero]
    repeat still_step
    refine wpStill_nil ?_
    gi_wp2
    exact ⟨(KeepsOthers.drew W).trans (KeepsOthers.setCell _ _ _), Below.heap_setCell W.drew ⟨w.heap.size + 1 + 1 + 1, 1 + x.1.val, none⟩ _ (w.heap.size + 1 + 1 + 1 + 1) (by simp), ⟨HS.out, hy.other (p := ⟨w.heap.size + 1 + 1 + 1, 1 + x.1.val, none⟩) (by simp) _, hz.other (p := ⟨w.heap.size + 1 + 1 + 1, 1 + x.1.val, none⟩) (by simp) _, hi.other (p := ⟨w.heap.size + 1 + 1 + 1, 1 + x.1.val, none⟩) (by simp) _⟩, hB.drew.setCell (by simp; omega) _⟩
  case done =>
    rintro D qs W hD rfl ⟨⟨ha, hy, hz, hi⟩, hB⟩ hK
    have hln := thenAcc_len xs.length ys (pairsOf xs)
    have p0 := ha.cell0
    rw [hln] at p0
    have p1 := ha.cell1
    have p2 := ha.cell2
    have p3 := ha.cell3
    have p4 := ha.cell4
    have q0 := hz.cell0
    have q1 := hz.cell1
    have q2 := hz.cell2
    have q3 := hz.cell3
    have q4 := hz.cell4
    have f0 := hz.free 0
    have f1 := hz.free 1
    have f2 := hz.free 2
    have f3 := hz.free 3
    have f4 := hz.free 4
    have HL := Lib.hid hln
    clear hln
    gi_wp2
    have P5 := put5_all W (w.heap.size + 1 + 1) (.int .i64 xs.length) (.int .i64 (rowAt (thenAcc xs.length ys (pairsOf xs)) 0)) (.int .i64 (rowAt (thenAcc xs.length ys (pairsOf xs)) 1)) (.int .i64 (rowAt (thenAcc xs.length ys (pairsOf xs)) 2)) (.int .i64 (rowAt (thenAcc xs.length ys (pairsOf xs)) 3))
    have hput := hz.put (thenAcc xs.length ys (pairsOf xs))
    rw [HL.out] at hput
    obtain ⟨W5, hW5⟩ : ∃ W5, (((((W.setCell ⟨w.heap.size + 1 + 1, 0, none⟩ (.int .i64 xs.length)).setCell ⟨w.heap.size + 1 + 1, 1, none⟩ (.int .i64 (rowAt (thenAcc xs.length ys (pairsOf xs)) 0))).setCell ⟨w.heap.size + 1 + 1, 2, none⟩ (.int .i64 (rowAt (thenAcc xs.length ys (pairsOf xs)) 1))).setCell ⟨w.heap.size + 1 + 1, 3, none⟩ (.int .i64 (rowAt (thenAcc xs.length ys (pairsOf xs)) 2))).setCell ⟨w.heap.size + 1 + 1, 4, none⟩ (.int .i64 (rowAt (thenAcc xs.length ys (pairsOf xs)) 3))) = W5 := ⟨_, rfl⟩
    rw [hW5] at P5 hput ⊢
    have hK5 := P5.1.same D _ hK rfl
    refine ⟨by simp, .inl ⟨_, _, rfl, run_takeDeferred hK5, ?_⟩⟩
    have hr6 : RelAt (W5.putObj D (.deferred none)) (w.heap.size + 1 + 1) (thenAcc xs.length ys (pairsOf xs)) := (World.putObj_heap_other (by omega)).trans hput
    have c0 := hr6.cell0
    have c1 := hr6.cell1
    have c2 := hr6.cell2
    have c3 := hr6.cell3
    have c4 := hr6.cell4
    exact ⟨relOf (thenAcc xs.length ys (pairsOf xs)), by simp [results, Try.results55, go_sem, c0, c1, c2, c3, c4], rfl, (hB.trans (P5.2.2 _ (by omega))).trans (belowK_b (w := w) (Nat.le_refl _) W5 D _ _ (by omega) hK5 rfl rfl)⟩
  case stop =>
    rintro D c pre W _ _ h _
    exact h.elim

theorem then_any {n : Nat} {xs ys : List Int} (h : Rl n xs) (k : Rl n ys) (w : World) :
    Calls Try.prog 55 #[relOf xs, relOf ys] w fun e w' => e = .returned (relOf (compL xs ys)) ∧ Below w.heap.size w w' := by
  obtain rfl := h.len
  have := callsIn_wide.1 (then_in xs ys w h.one h.four)
  rw [thenAcc_eq h k] at this
  exact this

theorem cf_then (args : Array Value) (w : World) : Sem.run Try.prog (callFunc 55 args) w = .ok (.enter 55 args) w := by kernel_rfl
theorem two_rl {xs ys : List Int} (h : twoIn xs ys = true) : Rl xs.length xs ∧ Rl xs.length ys := by
  obtain ⟨h1, h2, h3⟩ := twoIn_yes h
  exact ⟨Rl.of h1, h3 ▸ Rl.of h2⟩

end Go.Proofs.Ytgmjdkhegbdbjaa
