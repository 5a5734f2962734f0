/-
  Programs on sets of states, told by their states: after, before, surely, by tests, loops, ends, kept and largest sets; for relations of at most 4 points.
-/
import Derived.Test.YtcdiicckngndcabOBA
namespace Go.Proofs.Ytcdiicckngndcab
open Go.RowKit

/-- a set of n points -/
def St (n : Nat) (z : Int) : Prop := ∃ u : Fin 16, z = (u.val : Int) ∧ u.val < 2 ^ n

theorem St.ext {n : Nat} {y z : Int} (h4 : n ≤ 4) (hy : St n y) (hz : St n z) (e : ∀ j, j < n → hasB y j = hasB z j) : y = z := by
  obtain ⟨u, rfl, hu⟩ := hy
  obtain ⟨v, rfl, hv⟩ := hz
  rw [b_ext ⟨n, by omega⟩ u v hu hv (fun j => e j.val j.isLt)]
theorem St.of {n : Nat} {z : Int} (h4 : n ≤ 4) (h : rowIn n z = true) : St n z := row_fin h4 h
theorem St.row {n : Nat} {xs : List Int} (h : Rl n xs) (i : Nat) : St n (rowAt xs i) := h.row i
theorem St.zero (n : Nat) : St n 0 := ⟨0, rfl, Nat.two_pow_pos _⟩
theorem St.and {n : Nat} {y z : Int} (h4 : n ≤ 4) (hy : St n y) (hz : St n z) : St n (bits .and .i64 y z) := by
  obtain ⟨u, rfl, hu⟩ := hy
  obtain ⟨v, rfl, hv⟩ := hz
  exact b_andlt ⟨n, by omega⟩ u v hu hv
theorem St.hasAnd {n : Nat} {y z : Int} (hy : St n y) (hz : St n z) (j : Nat) (hj : j < 4) : hasB (bits .and .i64 y z) j = (hasB y j && hasB z j) := by
  obtain ⟨u, rfl, hu⟩ := hy
  obtain ⟨v, rfl, hv⟩ := hz
  exact b_and u v ⟨j, hj⟩
theorem St.pt {n : Nat} (h4 : n ≤ 4) (i : Nat) (hi : i < n) : St n (pt i) := b_ptlt ⟨n, by omega⟩ ⟨i, hi⟩
theorem St.or {n : Nat} {y z : Int} (h4 : n ≤ 4) (hy : St n y) (hz : St n z) : St n (bits .or .i64 y z) := by
  obtain ⟨u, rfl, hu⟩ := hy
  obtain ⟨v, rfl, hv⟩ := hz
  exact b_orlt ⟨n, by omega⟩ u v hu hv
theorem St.hasOr {n : Nat} {y z : Int} (hy : St n y) (hz : St n z) (j : Nat) (hj : j < 4) : hasB (bits .or .i64 y z) j = (hasB y j || hasB z j) := by
  obtain ⟨u, rfl, hu⟩ := hy
  obtain ⟨v, rfl, hv⟩ := hz
  exact b_or u v ⟨j, hj⟩
theorem has_pt (i j : Nat) (hi : i < 4) (hj : j < 4) : hasB (pt i) j = decide (j = i) := b_pt ⟨i, hi⟩ ⟨j, hj⟩
theorem has_no (j : Nat) (hj : j < 4) : hasB 0 j = false := b_zero ⟨j, hj⟩

/-- all points but those of a set -/
def notA (n : Nat) (z : Int) : Int := bits .andNot .i64 (2 ^ n - 1) z
theorem St.not {n : Nat} {z : Int} (h4 : n ≤ 4) (hz : St n z) : St n (notA n z) := by
  obtain ⟨u, rfl, hu⟩ := hz
  obtain ⟨v, hv, hv2, _⟩ := b_not ⟨n, by omega⟩ u hu
  exact ⟨v, hv, hv2⟩
theorem St.hasNot {n : Nat} {z : Int} (h4 : n ≤ 4) (hz : St n z) (j : Nat) (hj : j < n) : hasB (notA n z) j = !hasB z j := by
  obtain ⟨u, rfl, hu⟩ := hz
  obtain ⟨v, hv, _, hv3⟩ := b_not ⟨n, by omega⟩ u hu
  have := hv3 ⟨j, hj⟩
  rw [← hv] at this
  exact this
theorem bP_less : ∀ n : Fin 5, ∀ z y : Fin 16, z.val < 2 ^ n.val → y.val < 2 ^ n.val → ∃ u : Fin 16, bits .andNot .i64 (z.val : Int) (y.val : Int) = (u.val : Int) ∧ u.val < 2 ^ n.val ∧ ∀ j : Fin 4, hasB (u.val : Int) j.val = (hasB (z.val : Int) j.val && !hasB (y.val : Int) j.val) := by decide +kernel
theorem St.less {n : Nat} {y z : Int} (h4 : n ≤ 4) (hy : St n y) (hz : St n z) : St n (bits .andNot .i64 y z) := by
  obtain ⟨u, rfl, hu⟩ := hy
  obtain ⟨v, rfl, hv⟩ := hz
  obtain ⟨t, ht, ht2, _⟩ := bP_less ⟨n, by omega⟩ u v hu hv
  exact ⟨t, ht, ht2⟩
theorem St.hasLess {n : Nat} {y z : Int} (h4 : n ≤ 4) (hy : St n y) (hz : St n z) (j : Nat) (hj : j < 4) : hasB (bits .andNot .i64 y z) j = (hasB y j && !hasB z j) := by
  obtain ⟨u, rfl, hu⟩ := hy
  obtain ⟨v, rfl, hv⟩ := hz
  obtain ⟨t, ht, _, ht3⟩ := bP_less ⟨n, by omega⟩ u v hu hv
  rw [ht]
  exact ht3 ⟨j, hj⟩
theorem bP_part : ∀ n : Fin 5, ∀ z y : Fin 16, z.val < 2 ^ n.val → y.val < 2 ^ n.val → (partB (z.val : Int) (y.val : Int) = true ↔ ∀ j : Fin n.val, hasB (z.val : Int) j.val = true → hasB (y.val : Int) j.val = true) := by decide +kernel
theorem St.part {n : Nat} {y z : Int} (h4 : n ≤ 4) (hy : St n y) (hz : St n z) : partB y z = true ↔ ∀ j, j < n → hasB y j = true → hasB z j = true := by
  obtain ⟨u, rfl, hu⟩ := hy
  obtain ⟨v, rfl, hv⟩ := hz
  rw [bP_part ⟨n, by omega⟩ u v hu hv]
  exact ⟨fun g j hj => g ⟨j, hj⟩, fun g j => g j.val j.isLt⟩

/-! after -/
/-- the points to which some of a set are related -/
def imgA (xs : List Int) (z : Int) : Int := imgTo xs z xs.length
theorem St.img {n : Nat} {xs : List Int} {z : Int} (h : Rl n xs) (hz : St n z) : St n (imgA xs z) := by
  obtain ⟨v, rfl, hv⟩ := hz
  obtain ⟨u, hu, hu2, _⟩ := img_row h v n (Nat.le_refl _)
  unfold imgA
  rw [h.len]
  exact ⟨u, hu, hu2⟩
theorem has_img {n : Nat} {xs : List Int} {z : Int} (h : Rl n xs) (hz : St n z) (j : Nat) (hj : j < n) : hasB (imgA xs z) j = true ↔ ∃ l, l < n ∧ hasB z l = true ∧ hB xs l j = true := by
  obtain ⟨v, rfl, hv⟩ := hz
  obtain ⟨u, hu, _, hu3⟩ := img_row h v n (Nat.le_refl _)
  unfold imgA
  rw [h.len, hu]
  exact hu3 j hj
/-- what a point alone is related to -/
theorem img_pt {n : Nat} {xs : List Int} (h : Rl n xs) (i : Nat) (hi : i < n) : imgA xs (pt i) = rowAt xs i := by
  have h4 := h.four
  refine St.ext h4 (St.img h (St.pt h4 i hi)) (St.row h i) fun j hj => ?_
  rw [Bool.eq_iff_iff, has_img h (St.pt h4 i hi) j hj]
  constructor
  · rintro ⟨l, hl, e, g⟩
    rw [has_pt i l (by omega) (by omega)] at e
    obtain rfl := of_decide_eq_true e
    exact g
  · intro g
    exact ⟨i, hi, by rw [has_pt i i (by omega) (by omega)]; exact decide_eq_true rfl, g⟩

/-! surely -/
/-- the states that lead to no state outside of a set, as the program finds them -/
def surA (n : Nat) (xs : List Int) (z : Int) : Int := notA n (imgA (turnL xs) (notA n z))
theorem St.sur {n : Nat} {xs : List Int} {z : Int} (h : Rl n xs) (hz : St n z) : St n (surA n xs z) :=
  St.not h.four (St.img h.turn (St.not h.four hz))
theorem has_sur {n : Nat} {xs : List Int} {z : Int} (h : Rl n xs) (hz : St n z) (j : Nat) (hj : j < n) : hasB (surA n xs z) j = true ↔ ∀ l, l < n → hB xs j l = true → hasB z l = true := by
  have h4 := h.four
  unfold surA
  rw [St.hasNot h4 (St.img h.turn (St.not h4 hz)) j hj, Bool.not_eq_true', ← Bool.not_eq_true, has_img h.turn (St.not h4 hz) j hj]
  constructor
  · intro g l hl e
    cases hc : hasB z l with
    | true => rfl
    | false => exact absurd ⟨l, hl, by rw [St.hasNot h4 hz l hl, hc]; rfl, by rw [hB_turn h l j hl hj]; exact e⟩ g
  · rintro g ⟨l, hl, e1, e2⟩
    rw [hB_turn h l j hl hj] at e2
    rw [St.hasNot h4 hz l hl, g l hl e2] at e1
    cases e1
/-- the same, as the model finds them: row by row -/
def surTo (xs : List Int) (z : Int) : Nat → Int
  | 0 => 0
  | k + 1 => if partB (rowAt xs k) z then bits .or .i64 (surTo xs z k) (pt k) else surTo xs z k
theorem surTo_step (xs : List Int) (z : Int) (k : Nat) : surTo xs z (k + 1) = if partB (rowAt xs k) z then bits .or .i64 (surTo xs z k) (pt k) else surTo xs z k := rfl
theorem surTo_has {n : Nat} {xs : List Int} {z : Int} (h : Rl n xs) (hz : St n z) : ∀ k, k ≤ n → St n (surTo xs z k) ∧ ∀ j, j < n → (hasB (surTo xs z k) j = true ↔ j < k ∧ partB (rowAt xs j) z = true)
  | 0, _ => ⟨St.zero n, fun j hj => by
      rw [show surTo xs z 0 = 0 from rfl, has_no j (by have := h.four; omega)]
      exact ⟨fun e => (by cases e), fun e => absurd e.1 (by omega)⟩⟩
  | k + 1, hk => by
    have h4 := h.four
    obtain ⟨g1, g2⟩ := surTo_has h hz k (by omega)
    rw [surTo_step]
    cases hp : partB (rowAt xs k) z with
    | true =>
      rw [if_pos rfl]
      refine ⟨St.or h4 g1 (St.pt h4 k (by omega)), fun j hj => ?_⟩
      rw [St.hasOr g1 (St.pt h4 k (by omega)) j (by omega), Bool.or_eq_true, g2 j hj, has_pt k j (by omega) (by omega), decide_eq_true_iff]
      constructor
      · rintro (⟨a, b⟩ | rfl)
        · exact ⟨by omega, b⟩
        · exact ⟨by omega, hp⟩
      · rintro ⟨a, b⟩
        by_cases e : j = k
        · exact .inr e
        · exact .inl ⟨by omega, b⟩
    | false =>
      rw [if_neg Bool.false_ne_true]
      refine ⟨g1, fun j hj => ?_⟩
      rw [g2 j hj]
      constructor
      · rintro ⟨a, b⟩
        exact ⟨by omega, b⟩
      · rintro ⟨a, b⟩
        refine ⟨?_, b⟩
        by_cases e : j = k
        · subst e
          rw [hp] at b
          cases b
        · omega
theorem sur_eq {n : Nat} {xs : List Int} {z : Int} (h : Rl n xs) (hz : St n z) : surTo xs z n = surA n xs z := by
  obtain ⟨g1, g2⟩ := surTo_has h hz n (Nat.le_refl _)
  refine St.ext h.four g1 (St.sur h hz) fun j hj => ?_
  rw [Bool.eq_iff_iff, g2 j hj, has_sur h hz j hj, St.part h.four (St.row h j) hz]
  exact ⟨fun e => e.2, fun e => ⟨hj, e⟩⟩

/-! by tests -/
theorem rowOf (n : Nat) (f : Nat → Int) (i : Nat) (hi : i < n) : rowAt ((List.range n).map f) i = f i := by
  unfold rowAt
  rw [List.getD_eq_getElem?_getD, List.getElem?_map, List.getElem?_range hi]
  rfl
theorem Rl.tell {n : Nat} (h1 : 1 ≤ n) (h4 : n ≤ 4) (f : Nat → Int) (hf : ∀ i, i < n → St n (f i)) : Rl n ((List.range n).map f) :=
  Rl.mk' (by rw [List.length_map, List.length_range]) h1 h4 fun i hi => by rw [rowOf n f i hi]; exact hf i hi
/-- the rows of a test, without the others -/
def wiL (z : Int) (xs : List Int) : List Int := (List.range xs.length).map fun i => if hasB z i then rowAt xs i else 0
/-- the rows of one relation for a test, of another one for other points -/
def ifL (z : Int) (xs ys : List Int) : List Int := (List.range xs.length).map fun i => if hasB z i then rowAt xs i else rowAt ys i
theorem wi_row {n : Nat} {xs : List Int} (h : Rl n xs) (z : Int) (i : Nat) (hi : i < n) : rowAt (wiL z xs) i = if hasB z i then rowAt xs i else 0 := by
  unfold wiL
  rw [h.len, rowOf n _ i hi]
theorem if_row {n : Nat} {xs : List Int} (h : Rl n xs) (z : Int) (ys : List Int) (i : Nat) (hi : i < n) : rowAt (ifL z xs ys) i = if hasB z i then rowAt xs i else rowAt ys i := by
  unfold ifL
  rw [h.len, rowOf n _ i hi]
theorem Rl.wi {n : Nat} {xs : List Int} (h : Rl n xs) (z : Int) : Rl n (wiL z xs) := by
  unfold wiL
  rw [h.len]
  refine Rl.tell h.one h.four _ fun i hi => ?_
  cases hasB z i
  · exact St.zero n
  · exact St.row h i
theorem Rl.ifL {n : Nat} {xs ys : List Int} (h : Rl n xs) (k : Rl n ys) (z : Int) : Rl n (ifL z xs ys) := by
  unfold Go.Proofs.Ytcdiicckngndcab.ifL
  rw [h.len]
  refine Rl.tell h.one h.four _ fun i hi => ?_
  cases hasB z i
  · exact St.row k i
  · exact St.row h i
theorem hB_wi {n : Nat} {xs : List Int} (h : Rl n xs) (z : Int) (i j : Nat) (hi : i < n) (hj : j < n) : hB (wiL z xs) i j = (hasB z i && hB xs i j) := by
  unfold hB
  rw [wi_row h z i hi]
  cases hasB z i
  · exact has_no j (by have := h.four; omega)
  · rfl
theorem hB_ifL {n : Nat} {xs : List Int} (h : Rl n xs) (z : Int) (ys : List Int) (i j : Nat) (hi : i < n) : hB (ifL z xs ys) i j = if hasB z i then hB xs i j else hB ys i j := by
  unfold hB
  rw [if_row h z ys i hi]
  cases hasB z i <;> rfl
/-- what is behind a test and a step, from a point -/
theorem img_test {n : Nat} {xs : List Int} (h : Rl n xs) {z : Int} (hz : St n z) (i : Nat) (hi : i < n) : imgA xs (bits .and .i64 (pt i) z) = if hasB z i then rowAt xs i else 0 := by
  have h4 := h.four
  have hp := St.pt h4 i hi
  have ha := St.and h4 hp hz
  have key : ∀ l, l < n → (hasB (bits .and .i64 (pt i) z) l = true ↔ l = i ∧ hasB z i = true) := by
    intro l hl
    rw [St.hasAnd hp hz l (by omega), Bool.and_eq_true, has_pt i l (by omega) (by omega), decide_eq_true_iff]
    constructor
    · rintro ⟨rfl, e⟩
      exact ⟨rfl, e⟩
    · rintro ⟨rfl, e⟩
      exact ⟨rfl, e⟩
  have hst : St n (if hasB z i then rowAt xs i else 0) := by
    cases hasB z i
    · exact St.zero n
    · exact St.row h i
  refine St.ext h4 (St.img h ha) hst fun j hj => ?_
  rw [Bool.eq_iff_iff, has_img h ha j hj]
  constructor
  · rintro ⟨l, hl, e, g⟩
    obtain ⟨rfl, e2⟩ := (key l hl).1 e
    rw [e2]
    exact g
  · intro g
    cases hc : hasB z i with
    | true =>
      rw [hc] at g
      exact ⟨i, hi, (key i hi).2 ⟨rfl, hc⟩, g⟩
    | false =>
      rw [hc] at g
      have := has_no j (by omega)
      rw [if_neg Bool.false_ne_true] at g
      rw [this] at g
      cases g
/-- both branches together -/
theorem if_either {n : Nat} {xs ys : List Int} (h : Rl n xs) (k : Rl n ys) {z : Int} (hz : St n z) : eitherL (wiL z xs) (wiL (notA n z) ys) = ifL z xs ys := by
  have h4 := h.four
  refine ((h.wi z).either (k.wi _)).ext (h.ifL k z) fun i j hi hj => ?_
  rw [hB_either (h.wi z) (k.wi _) i j hi hj, hB_wi h z i j hi hj, hB_wi k _ i j hi hj, hB_ifL h z ys i j hi, St.hasNot h4 hz i hi]
  cases hasB z i <;> simp

/-! sets that are put together step by step -/
def cardI (z : Int) : Nat := (List.finRange 4).countP fun j => hasB z j.val
theorem bP_card : ∀ n : Fin 5, ∀ z y : Fin 16, z.val < 2 ^ n.val → y.val < 2 ^ n.val → (∀ j : Fin n.val, hasB (z.val : Int) j.val = true → hasB (y.val : Int) j.val = true) → z ≠ y → cardI (z.val : Int) < cardI (y.val : Int) := by decide +kernel
theorem bP_most : ∀ n : Fin 5, ∀ z : Fin 16, z.val < 2 ^ n.val → cardI (z.val : Int) ≤ n.val := by decide +kernel
theorem card_lt {n : Nat} {y z : Int} (h4 : n ≤ 4) (hy : St n y) (hz : St n z) (h : ∀ j, j < n → hasB y j = true → hasB z j = true) (hne : y ≠ z) : cardI y < cardI z := by
  obtain ⟨u, rfl, hu⟩ := hy
  obtain ⟨v, rfl, hv⟩ := hz
  exact bP_card ⟨n, by omega⟩ u v hu hv (fun j => h j.val j.isLt) (fun e => hne (by rw [e]))
theorem card_most {n : Nat} {y : Int} (h4 : n ≤ 4) (hy : St n y) : cardI y ≤ n := by
  obtain ⟨u, rfl, hu⟩ := hy
  exact bP_most ⟨n, by omega⟩ u hu
/-- what stays once stays -/
theorem stays {s : Nat → Int} (f : ∀ k, s k = s (k + 1) → s (k + 1) = s (k + 2)) {k : Nat} (h : s k = s (k + 1)) : ∀ m, s k = s (k + m) ∧ s (k + m) = s (k + m + 1)
  | 0 => ⟨rfl, h⟩
  | m + 1 => by
    obtain ⟨a, b⟩ := stays f h m
    have := f (k + m) b
    exact ⟨by rw [a, b]; rfl, this⟩
theorem chain_up {n : Nat} (h4 : n ≤ 4) {s : Nat → Int} (hs : ∀ k, St n (s k)) (hu : ∀ k j, j < n → hasB (s k) j = true → hasB (s (k + 1)) j = true) (f : ∀ k, s k = s (k + 1) → s (k + 1) = s (k + 2)) : s n = s (n + 1) := by
  refine Classical.byContradiction fun hne => ?_
  have ne : ∀ k, k ≤ n → s k ≠ s (k + 1) := fun k hk e => hne (by
    have := (stays f e (n - k)).2
    rwa [show k + (n - k) = n by omega] at this)
  have hc : ∀ k, k ≤ n + 1 → k ≤ cardI (s k) := by
    intro k
    induction k with
    | zero => intro _; exact Nat.zero_le _
    | succ k ih =>
      intro hk
      have := card_lt h4 (hs k) (hs (k + 1)) (hu k) (ne k (by omega))
      have := ih (by omega)
      omega
  have h1 := hc (n + 1) (Nat.le_refl _)
  have h2 := card_most h4 (hs (n + 1))
  omega
theorem chain_down {n : Nat} (h4 : n ≤ 4) {s : Nat → Int} (hs : ∀ k, St n (s k)) (hd : ∀ k j, j < n → hasB (s (k + 1)) j = true → hasB (s k) j = true) (f : ∀ k, s k = s (k + 1) → s (k + 1) = s (k + 2)) : s n = s (n + 1) := by
  refine Classical.byContradiction fun hne => ?_
  have ne : ∀ k, k ≤ n → s k ≠ s (k + 1) := fun k hk e => hne (by
    have := (stays f e (n - k)).2
    rwa [show k + (n - k) = n by omega] at this)
  have hc : ∀ k, k ≤ n + 1 → cardI (s k) + k ≤ n := by
    intro k
    induction k with
    | zero => intro _; exact card_most h4 (hs 0)
    | succ k ih =>
      intro hk
      have := card_lt h4 (hs (k + 1)) (hs k) (hd k) (fun e => ne k (by omega) e.symm)
      have := ih (by omega)
      omega
  have h1 := hc (n + 1) (Nat.le_refl _)
  omega

/-! ends -/
/-- the states from which a program ends, after k rounds -/
def endTo (n : Nat) (xs : List Int) : Nat → Int
  | 0 => 0
  | k + 1 => surA n xs (endTo n xs k)
theorem end_st {n : Nat} {xs : List Int} (h : Rl n xs) : ∀ k, St n (endTo n xs k)
  | 0 => St.zero n
  | k + 1 => St.sur h (end_st h k)
theorem end_up {n : Nat} {xs : List Int} (h : Rl n xs) : ∀ k j, j < n → hasB (endTo n xs k) j = true → hasB (endTo n xs (k + 1)) j = true
  | 0, j, hj, e => by
    rw [show endTo n xs 0 = 0 from rfl, has_no j (by have := h.four; omega)] at e
    cases e
  | k + 1, j, hj, e => by
    have e1 : hasB (surA n xs (endTo n xs k)) j = true := e
    show hasB (surA n xs (endTo n xs (k + 1))) j = true
    rw [has_sur h (end_st h _) j hj] at e1 ⊢
    exact fun l hl g => end_up h k l hl (e1 l hl g)
theorem end_stays {n : Nat} {xs : List Int} (k : Nat) (e : endTo n xs k = endTo n xs (k + 1)) : endTo n xs (k + 1) = endTo n xs (k + 2) := congrArg (surA n xs) e
/-- all the states from which a program ends -/
def endA (n : Nat) (xs : List Int) : Int := endTo n xs n
theorem end_last {n : Nat} {xs : List Int} (h : Rl n xs) : endA n xs = endTo n xs (n + 1) := chain_up h.four (end_st h) (end_up h) end_stays
theorem end_here {n : Nat} {xs : List Int} (_h : Rl n xs) {k : Nat} (hk : k ≤ n) (e : endTo n xs k = endTo n xs (k + 1)) : endTo n xs k = endA n xs := by
  have := (stays (s := endTo n xs) end_stays e (n - k)).1
  rw [show k + (n - k) = n by omega] at this
  exact this
theorem end_soon {n : Nat} {xs : List Int} (h : Rl n xs) {k : Nat} (hk : k ≤ n) (e : endTo n xs k ≠ endTo n xs (k + 1)) : k + 1 ≤ n := by
  by_cases g : k = n
  · subst g
    exact absurd (end_last h) e
  · omega

/-! kept and largest sets -/
theorem hB_star8 {xs : List Int} (h : Rl xs.length xs) (i j : Nat) (hi : i < xs.length) (hj : j < xs.length) : hB (starL xs) i j = true ↔ ∃ t, hB (powL xs t) i j = true := by
  unfold starL
  rw [hB_either h.reach (Rl.same h.one h.four) i j hi hj, Bool.or_eq_true, hB_reach h i j hi hj]
  constructor
  · rintro (⟨t, _, e⟩ | e)
    · exact ⟨t, e⟩
    · exact ⟨0, e⟩
  · rintro ⟨t, e⟩
    by_cases h0 : t = 0
    · subst h0
      exact .inr e
    · exact .inl ⟨t, by omega, e⟩
/-- parts of a set that lead into it, after k rounds, as the model drops states -/
def larTo (n : Nat) (xs : List Int) (z : Int) : Nat → Int
  | 0 => z
  | k + 1 => bits .and .i64 (larTo n xs z k) (surA n xs (larTo n xs z k))
theorem lar_st {n : Nat} {xs : List Int} {z : Int} (h : Rl n xs) (hz : St n z) : ∀ k, St n (larTo n xs z k)
  | 0 => hz
  | k + 1 => St.and h.four (lar_st h hz k) (St.sur h (lar_st h hz k))
theorem lar_has {n : Nat} {xs : List Int} {z : Int} (h : Rl n xs) (hz : St n z) (k j : Nat) (hj : j < n) : hasB (larTo n xs z (k + 1)) j = true ↔ hasB (larTo n xs z k) j = true ∧ ∀ l, l < n → hB xs j l = true → hasB (larTo n xs z k) l = true := by
  have hs := lar_st h hz k
  show hasB (bits .and .i64 (larTo n xs z k) (surA n xs (larTo n xs z k))) j = true ↔ _
  rw [St.hasAnd hs (St.sur h hs) j (by have := h.four; omega), Bool.and_eq_true, has_sur h hs j hj]
theorem lar_last {n : Nat} {xs : List Int} {z : Int} (h : Rl n xs) (hz : St n z) : larTo n xs z n = larTo n xs z (n + 1) :=
  chain_down h.four (lar_st h hz) (fun k j hj e => ((lar_has h hz k j hj).1 e).1) (fun _ e => congrArg (fun s => bits .and .i64 s (surA n xs s)) e)
/-- the program's: what no number of steps leads out of -/
theorem lar_eq {xs : List Int} {z : Int} (h : Rl xs.length xs) (hz : St xs.length z) : larTo xs.length xs z (xs.length + 1) = surA xs.length (starL xs) z := by
  have h4 := h.four
  have hl := lar_last h hz
  rw [← hl]
  refine St.ext h4 (lar_st h hz _) (St.sur h.star hz) fun j hj => ?_
  rw [Bool.eq_iff_iff, has_sur h.star hz j hj]
  have sub : ∀ k i, i < xs.length → hasB (larTo xs.length xs z k) i = true → hasB z i = true := by
    intro k
    induction k with
    | zero => intro i _ e; exact e
    | succ k ih => intro i hi e; exact ih i hi ((lar_has h hz k i hi).1 e).1
  constructor
  · intro e
    have reach : ∀ t i l, i < xs.length → l < xs.length → hasB (larTo xs.length xs z xs.length) i = true → hB (powL xs t) i l = true → hasB (larTo xs.length xs z xs.length) l = true := by
      intro t
      induction t with
      | zero =>
        intro i l hi hl2 g e2
        have e3 : hB (sameL xs.length) i l = true := e2
        rw [hB_same h4 i l hi hl2] at e3
        obtain rfl := of_decide_eq_true e3
        exact g
      | succ t ih =>
        intro i l hi hl2 g e2
        have e3 : hB (compL (powL xs t) xs) i l = true := e2
        rw [hB_comp (h.pow t) h i l hi hl2] at e3
        obtain ⟨m, hm, e4, e5⟩ := e3
        have g2 := ih i m hi hm g e4
        rw [hl, lar_has h hz _ m hm] at g2
        exact g2.2 l hl2 e5
    intro l hl2 g
    obtain ⟨t, g2⟩ := (hB_star8 h j l hj hl2).1 g
    exact sub _ l hl2 (reach t j l hj hl2 e g2)
  · intro g
    have all : ∀ k i, i < xs.length → (∀ l, l < xs.length → hB (starL xs) i l = true → hasB z l = true) → hasB (larTo xs.length xs z k) i = true := by
      intro k
      induction k with
      | zero =>
        intro i hi g
        exact g i hi ((hB_star8 h i i hi hi).2 ⟨0, by show hB (sameL xs.length) i i = true; rw [hB_same h4 i i hi hi]; exact decide_eq_true rfl⟩)
      | succ k ih =>
        intro i hi g
        rw [lar_has h hz k i hi]
        refine ⟨ih i hi g, fun l hl2 e => ih l hl2 fun m hm e2 => g m hm ?_⟩
        obtain ⟨t, e3⟩ := (hB_star8 h l m hl2 hm).1 e2
        rw [hB_star8 h i m hi hm]
        exact ⟨1 + t, pow_add h i m hi hm 1 t l hl2 (by rw [hB_pow1 h i l hi hl2]; exact e) e3⟩
    exact all _ j hj g

/-! loops -/
/-- steps of a test, as many as one likes, and out of it -/
def whileL (z : Int) (xs : List Int) : List Int := (List.range xs.length).map fun i => bits .andNot .i64 (rowAt (starL (wiL z xs)) i) z
theorem wi_len (z : Int) (xs : List Int) : (wiL z xs).length = xs.length := by unfold wiL; rw [List.length_map, List.length_range]
theorem if_len (z : Int) (xs ys : List Int) : (ifL z xs ys).length = xs.length := by unfold ifL; rw [List.length_map, List.length_range]
theorem while_len (z : Int) (xs : List Int) : (whileL z xs).length = xs.length := by unfold whileL; rw [List.length_map, List.length_range]
theorem Rl.wiStar {n : Nat} {xs : List Int} (h : Rl n xs) (z : Int) : Rl n (starL (wiL z xs)) := by
  have hw := h.wi z
  have e : (wiL z xs).length = n := by rw [wi_len, h.len]
  rw [← e] at hw
  have := hw.star
  rw [e] at this
  exact this
theorem while_row {n : Nat} {xs : List Int} (h : Rl n xs) (z : Int) (i : Nat) (hi : i < n) : rowAt (whileL z xs) i = bits .andNot .i64 (rowAt (starL (wiL z xs)) i) z := by
  unfold whileL
  rw [h.len, rowOf n _ i hi]
theorem Rl.while {n : Nat} {xs : List Int} (h : Rl n xs) {z : Int} (hz : St n z) : Rl n (whileL z xs) := by
  unfold whileL
  rw [h.len]
  exact Rl.tell h.one h.four _ fun i hi => St.less h.four (St.row (h.wiStar z) i) hz
/-- what is behind the steps and outside of the test, from a point, as the program finds it -/
theorem while_out {n : Nat} {xs : List Int} (h : Rl n xs) {z : Int} (hz : St n z) (i : Nat) (hi : i < n) : bits .and .i64 (imgA (starL (wiL z xs)) (pt i)) (notA n z) = rowAt (whileL z xs) i := by
  have h4 := h.four
  have hw := h.wiStar z
  rw [img_pt hw i hi, while_row h z i hi]
  refine St.ext h4 (St.and h4 (St.row hw i) (St.not h4 hz)) (St.less h4 (St.row hw i) hz) fun j hj => ?_
  rw [St.hasAnd (St.row hw i) (St.not h4 hz) j (by omega), St.hasLess h4 (St.row hw i) hz j (by omega), St.hasNot h4 hz j hj]
end Go.Proofs.Ytcdiicckngndcab
