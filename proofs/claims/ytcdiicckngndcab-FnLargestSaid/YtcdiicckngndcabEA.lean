/-
  Relations by their pairs: composition, residuals, powers and what they reach, for lists that are relations.
-/
import Derived.Test.YtcdiicckngndcabDB
namespace Go.Proofs.Ytcdiicckngndcab
open Go.RowKit

/-- whether a list relates two points -/
def hB (xs : List Int) (i j : Nat) : Bool := hasB (rowAt xs i) j

theorem b_or : ∀ z y : Fin 16, ∀ j : Fin 4, hasB (bits .or .i64 (z.val : Int) (y.val : Int)) j.val = (hasB (z.val : Int) j.val || hasB (y.val : Int) j.val) := by decide +kernel
theorem b_pt : ∀ i j : Fin 4, hasB (pt i.val) j.val = decide (j.val = i.val) := by decide +kernel
theorem b_bit : ∀ z : Fin 16, ∀ k : Fin 4, bitB (z.val : Int) k.val = hasB (z.val : Int) k.val := by decide +kernel
theorem b_zero : ∀ j : Fin 4, hasB 0 j.val = false := by decide +kernel
theorem b_ext : ∀ n : Fin 5, ∀ y z : Fin 16, y.val < 2 ^ n.val → z.val < 2 ^ n.val → (∀ j : Fin n.val, hasB (y.val : Int) j.val = hasB (z.val : Int) j.val) → y = z := by decide +kernel
theorem b_not : ∀ n : Fin 5, ∀ y : Fin 16, y.val < 2 ^ n.val → ∃ u : Fin 16, bits .andNot .i64 (2 ^ n.val - 1) (y.val : Int) = (u.val : Int) ∧ u.val < 2 ^ n.val ∧ ∀ j : Fin n.val, hasB (u.val : Int) j.val = !hasB (y.val : Int) j.val := by decide +kernel
theorem b_orlt : ∀ n : Fin 5, ∀ z y : Fin 16, z.val < 2 ^ n.val → y.val < 2 ^ n.val → ∃ u : Fin 16, bits .or .i64 (z.val : Int) (y.val : Int) = (u.val : Int) ∧ u.val < 2 ^ n.val := by decide +kernel
theorem b_ptlt : ∀ n : Fin 5, ∀ i : Fin n.val, ∃ u : Fin 16, pt i.val = (u.val : Int) ∧ u.val < 2 ^ n.val := by decide +kernel

/-- n rows, all of them sets of n points -/
structure Rl (n : Nat) (xs : List Int) : Prop where
  len : xs.length = n
  one : 1 ≤ n
  four : n ≤ 4
  row : ∀ i, ∃ y : Fin 16, rowAt xs i = (y.val : Int) ∧ y.val < 2 ^ n

theorem Rl.of {xs : List Int} (h : relIn xs = true) : Rl xs.length xs := by
  have h4 := relIn_len h
  refine ⟨rfl, h4.1, h4.2, fun i => ?_⟩
  by_cases hi : i < xs.length
  · obtain ⟨y, hy⟩ := row16 h i
    exact ⟨y, hy, row_lt h hi hy⟩
  · exact ⟨0, rowAt_out _ _ hi, Nat.two_pow_pos _⟩
theorem Rl.in16 {n : Nat} {xs : List Int} (h : Rl n xs) : In16 xs := fun i => by
  obtain ⟨y, hy, _⟩ := h.row i
  exact ⟨y, hy⟩
theorem Rl.ok {n : Nat} {xs : List Int} (h : Rl n xs) : relIn xs = true := by
  unfold relIn
  rw [Bool.and_eq_true, List.all_eq_true]
  refine ⟨decide_eq_true (by rw [h.len]; exact ⟨h.one, h.four⟩), fun x hx => ?_⟩
  obtain ⟨i, hi, rfl⟩ := List.mem_iff_getElem.1 hx
  obtain ⟨y, hy, hlt⟩ := h.row i
  have e := rowAt_get hi
  rw [List.getElem?_eq_getElem hi, hy] at e
  have e := Option.some.inj e
  rw [e, h.len]
  unfold rowIn
  have h2 : ((2 ^ n : Nat) : Int) = (2 : Int) ^ n := by simp
  rw [Bool.and_eq_true]
  exact ⟨decide_eq_true (by omega), decide_eq_true (by omega)⟩
theorem Rl.ext {n : Nat} {xs ys : List Int} (h : Rl n xs) (k : Rl n ys) (e : ∀ i j, i < n → j < n → hB xs i j = hB ys i j) : xs = ys := by
  apply List.ext_getElem?
  intro i
  by_cases hi : i < n
  · rw [rowAt_get (by rw [h.len]; exact hi), rowAt_get (by rw [k.len]; exact hi)]
    obtain ⟨y, hy, hy2⟩ := h.row i
    obtain ⟨z, hz, hz2⟩ := k.row i
    have := b_ext ⟨n, by have := h.four; omega⟩ y z hy2 hz2 (fun j => by
      have := e i j.val hi j.isLt
      unfold hB at this
      rw [hy, hz] at this
      exact this)
    rw [hy, hz, this]
  · rw [List.getElem?_eq_none (by rw [h.len]; omega), List.getElem?_eq_none (by rw [k.len]; omega)]

/-- a list of n numbers told by its rows -/
theorem Rl.mk' {n : Nat} {xs : List Int} (hl : xs.length = n) (h1 : 1 ≤ n) (h4 : n ≤ 4) (hr : ∀ i, i < n → ∃ y : Fin 16, rowAt xs i = (y.val : Int) ∧ y.val < 2 ^ n) : Rl n xs :=
  ⟨hl, h1, h4, fun i => if hi : i < n then hr i hi else ⟨0, rowAt_out _ _ (by rw [hl]; exact hi), Nat.two_pow_pos _⟩⟩

/-! composition -/
theorem img_row {n : Nat} {ys : List Int} (h : Rl n ys) (z : Fin 16) : ∀ k, k ≤ n → ∃ u : Fin 16, imgTo ys (z.val : Int) k = (u.val : Int) ∧ u.val < 2 ^ n ∧
    ∀ j, j < n → (hasB (u.val : Int) j = true ↔ ∃ l, l < k ∧ hasB (z.val : Int) l = true ∧ hB ys l j = true)
  | 0, _ => ⟨0, rfl, Nat.two_pow_pos _, fun j hj => by
      have := b_zero ⟨j, by have := h.four; omega⟩
      rw [show ((0 : Fin 16).val : Int) = 0 from rfl, this]
      exact ⟨fun e => (by cases e), fun ⟨l, hl, _⟩ => absurd hl (by omega)⟩⟩
  | k + 1, hk => by
    obtain ⟨u, hu, hu2, hu3⟩ := img_row h z k (by omega)
    have h4 := h.four
    rw [imgTo_succ, b_bit z ⟨k, by omega⟩]
    by_cases hb : hasB (z.val : Int) k = true
    · rw [if_pos hb, hu]
      obtain ⟨y, hy, hy2⟩ := h.row k
      obtain ⟨v, hv, hv2⟩ := b_orlt ⟨n, by omega⟩ u y hu2 hy2
      rw [hy]
      refine ⟨v, hv, hv2, fun j hj => ?_⟩
      have hor := b_or u y ⟨j, by omega⟩
      rw [hv] at hor
      rw [hor, Bool.or_eq_true, hu3 j hj]
      constructor
      · rintro (⟨l, hl, h1, h2⟩ | h1)
        · exact ⟨l, by omega, h1, h2⟩
        · exact ⟨k, by omega, hb, by unfold hB; rw [hy]; exact h1⟩
      · rintro ⟨l, hl, h1, h2⟩
        by_cases e : l = k
        · subst e
          right
          unfold hB at h2
          rw [hy] at h2
          exact h2
        · exact .inl ⟨l, by omega, h1, h2⟩
    · rw [if_neg hb]
      refine ⟨u, hu, hu2, fun j hj => ?_⟩
      rw [hu3 j hj]
      constructor
      · rintro ⟨l, hl, h1, h2⟩
        exact ⟨l, by omega, h1, h2⟩
      · rintro ⟨l, hl, h1, h2⟩
        by_cases e : l = k
        · subst e
          exact absurd h1 hb
        · exact ⟨l, by omega, h1, h2⟩

theorem comp_row {n : Nat} {xs ys : List Int} (h : Rl n xs) (k : Rl n ys) (i : Nat) (hi : i < n) : ∃ u : Fin 16, rowAt (compL xs ys) i = (u.val : Int) ∧ u.val < 2 ^ n ∧
    ∀ j, j < n → (hasB (u.val : Int) j = true ↔ ∃ l, l < n ∧ hB xs i l = true ∧ hB ys l j = true) := by
  obtain ⟨z, hz, _⟩ := h.row i
  obtain ⟨u, hu, hu2, hu3⟩ := img_row k z n (Nat.le_refl _)
  refine ⟨u, ?_, hu2, fun j hj => ?_⟩
  · unfold compL
    rw [rowAt_map _ _ _ (by rw [h.len]; exact hi), hz, k.len, hu]
  · rw [hu3 j hj]
    unfold hB
    rw [hz]
theorem Rl.comp {n : Nat} {xs ys : List Int} (h : Rl n xs) (k : Rl n ys) : Rl n (compL xs ys) :=
  Rl.mk' (by rw [compL_len, h.len]) h.one h.four fun i hi => by
    obtain ⟨u, hu, hu2, _⟩ := comp_row h k i hi
    exact ⟨u, hu, hu2⟩
theorem hB_comp {n : Nat} {xs ys : List Int} (h : Rl n xs) (k : Rl n ys) (i j : Nat) (hi : i < n) (hj : j < n) :
    hB (compL xs ys) i j = true ↔ ∃ l, l < n ∧ hB xs i l = true ∧ hB ys l j = true := by
  obtain ⟨u, hu, _, hu3⟩ := comp_row h k i hi
  rw [← hu3 j hj]
  unfold hB
  rw [hu]

/-! others, the same, either -/
theorem other_row {n : Nat} {xs : List Int} (h : Rl n xs) (i : Nat) (hi : i < n) : ∃ u : Fin 16, rowAt (otherL xs) i = (u.val : Int) ∧ u.val < 2 ^ n ∧ ∀ j, j < n → hasB (u.val : Int) j = !hB xs i j := by
  obtain ⟨y, hy, hy2⟩ := h.row i
  obtain ⟨u, hu, hu2, hu3⟩ := b_not ⟨n, by have := h.four; omega⟩ y hy2
  refine ⟨u, ?_, hu2, fun j hj => ?_⟩
  · unfold otherL
    rw [rowAt_map _ _ _ (by rw [h.len]; exact hi), hy, h.len, hu]
  · unfold hB
    rw [hy]
    exact hu3 ⟨j, hj⟩
theorem Rl.other {n : Nat} {xs : List Int} (h : Rl n xs) : Rl n (otherL xs) :=
  Rl.mk' (by unfold otherL; rw [List.length_map, h.len]) h.one h.four fun i hi => by
    obtain ⟨u, hu, hu2, _⟩ := other_row h i hi
    exact ⟨u, hu, hu2⟩
theorem hB_other {n : Nat} {xs : List Int} (h : Rl n xs) (i j : Nat) (hi : i < n) (hj : j < n) : hB (otherL xs) i j = !hB xs i j := by
  obtain ⟨u, hu, _, hu3⟩ := other_row h i hi
  rw [← hu3 j hj]
  unfold hB
  rw [hu]
theorem sameL_at (n i : Nat) (hi : i < n) : rowAt (sameL n) i = pt i := by
  unfold rowAt sameL
  rw [List.getD_eq_getElem?_getD, List.getElem?_map, List.getElem?_range hi]
  rfl
theorem Rl.same {n : Nat} (h1 : 1 ≤ n) (h4 : n ≤ 4) : Rl n (sameL n) :=
  Rl.mk' (sameL_len n) h1 h4 fun i hi => by
    rw [sameL_at n i hi]
    exact b_ptlt ⟨n, by omega⟩ ⟨i, hi⟩
theorem hB_same {n : Nat} (h4 : n ≤ 4) (i j : Nat) (hi : i < n) (hj : j < n) : hB (sameL n) i j = decide (j = i) := by
  unfold hB
  rw [sameL_at n i hi]
  exact b_pt ⟨i, by omega⟩ ⟨j, by omega⟩
theorem Rl.either {n : Nat} {xs ys : List Int} (h : Rl n xs) (k : Rl n ys) : Rl n (eitherL xs ys) := by
  have hl : (eitherL xs ys).length = n := by unfold eitherL zipI; rw [List.length_zipWith, h.len, k.len, Nat.min_self]
  refine Rl.mk' hl h.one h.four fun i hi => ?_
  obtain ⟨y, hy, hy2⟩ := h.row i
  obtain ⟨z, hz, hz2⟩ := k.row i
  obtain ⟨u, hu, hu2⟩ := b_orlt ⟨n, by have := h.four; omega⟩ y z hy2 hz2
  refine ⟨u, ?_, hu2⟩
  unfold eitherL
  rw [zipAt _ _ _ _ (by rw [h.len]; exact hi) (by rw [k.len]; exact hi), hy, hz, hu]
theorem hB_either {n : Nat} {xs ys : List Int} (h : Rl n xs) (k : Rl n ys) (i j : Nat) (hi : i < n) (hj : j < n) : hB (eitherL xs ys) i j = (hB xs i j || hB ys i j) := by
  obtain ⟨y, hy, hy2⟩ := h.row i
  obtain ⟨z, hz, hz2⟩ := k.row i
  unfold hB eitherL
  rw [zipAt _ _ _ _ (by rw [h.len]; exact hi) (by rw [k.len]; exact hi), hy, hz]
  exact b_or y z ⟨j, by have := h.four; omega⟩

/-! turned, and composed by pairs -/
theorem mem_allP {n : Nat} (p : Fin n × Fin n) : p ∈ allP n := by
  unfold allP
  rw [List.mem_flatMap]
  exact ⟨p.1, List.mem_finRange _, List.mem_map.2 ⟨p.2, List.mem_finRange _, rfl⟩⟩
theorem mem_pairs {xs : List Int} (h4 : xs.length ≤ 4) (p : Fin xs.length × Fin xs.length) : p ∈ pairsOf xs ↔ hB xs p.1.val p.2.val = true := by
  unfold pairsOf pairsTo
  have hl := allP_len ⟨xs.length, by omega⟩
  rw [List.take_of_length_le (by rw [hl]; exact Nat.le_refl _), List.mem_filter]
  exact ⟨fun h => h.2, fun h => ⟨mem_allP p, h⟩⟩
/-- pairs led on to rows, one by one -/
def thenAcc (n : Nat) (ys : List Int) (pre : List (Fin n × Fin n)) : List Int := pre.foldl (fun zs p => zs.set p.1.val (bits .or .i64 (rowAt zs p.1.val) (rowAt ys p.2.val))) (List.replicate n 0)
theorem thenAcc_snoc (n : Nat) (ys : List Int) (pre : List (Fin n × Fin n)) (p : Fin n × Fin n) : thenAcc n ys (pre ++ [p]) = (thenAcc n ys pre).set p.1.val (bits .or .i64 (rowAt (thenAcc n ys pre) p.1.val) (rowAt ys p.2.val)) := by
  unfold thenAcc
  rw [List.foldl_append]
  rfl
theorem thenAcc_len (n : Nat) (ys : List Int) (pre : List (Fin n × Fin n)) : (thenAcc n ys pre).length = n := by
  have h : ∀ (l : List (Fin n × Fin n)) (zs : List Int), (l.foldl (fun zs p => zs.set p.1.val (bits .or .i64 (rowAt zs p.1.val) (rowAt ys p.2.val))) zs).length = zs.length := by
    intro l
    induction l with
    | nil => intro zs; rfl
    | cons p r ih => intro zs; rw [List.foldl_cons, ih, List.length_set]
  unfold thenAcc
  rw [h]
  simp
theorem zeros_at (n i : Nat) : rowAt (List.replicate n 0) i = 0 := by
  unfold rowAt
  rw [List.getD_eq_getElem?_getD, List.getElem?_replicate]
  split <;> rfl
/-- what a fold of row changes makes -/
theorem fold_rows {n : Nat} (h4 : n ≤ 4) (f : Fin n × Fin n → Fin n) (g : Fin n × Fin n → Int) (hg : ∀ p, ∃ y : Fin 16, g p = (y.val : Int) ∧ y.val < 2 ^ n) :
    ∀ (l : List (Fin n × Fin n)) (zs : List Int), zs.length = n → (∀ i, ∃ y : Fin 16, rowAt zs i = (y.val : Int) ∧ y.val < 2 ^ n) →
      (l.foldl (fun zs p => zs.set (f p).val (bits .or .i64 (rowAt zs (f p).val) (g p))) zs).length = n ∧
      (∀ i, ∃ y : Fin 16, rowAt (l.foldl (fun zs p => zs.set (f p).val (bits .or .i64 (rowAt zs (f p).val) (g p))) zs) i = (y.val : Int) ∧ y.val < 2 ^ n) ∧
      ∀ i j, i < n → j < n → (hasB (rowAt (l.foldl (fun zs p => zs.set (f p).val (bits .or .i64 (rowAt zs (f p).val) (g p))) zs) i) j = true ↔ (hasB (rowAt zs i) j = true ∨ ∃ p, p ∈ l ∧ (f p).val = i ∧ hasB (g p) j = true))
  | [], zs, hl, hz => ⟨hl, hz, fun i j _ _ => ⟨fun h => .inl h, fun h => h.elim id (fun ⟨p, hp, _⟩ => absurd hp (by simp))⟩⟩
  | q :: r, zs, hl, hz => by
    rw [List.foldl_cons]
    obtain ⟨y, hy, hy2⟩ := hz (f q).val
    obtain ⟨z, hz1, hz2⟩ := hg q
    obtain ⟨u, hu, hu2⟩ := b_orlt ⟨n, by omega⟩ y z hy2 hz2
    have hq : (f q).val < zs.length := by rw [hl]; exact (f q).isLt
    have hrow : ∀ i, rowAt (zs.set (f q).val (bits .or .i64 (rowAt zs (f q).val) (g q))) i = if i = (f q).val then (u.val : Int) else rowAt zs i := by
      intro i
      rw [rowAt_set _ _ _ _ hq, hy, hz1, hu]
    obtain ⟨a1, a2, a3⟩ := fold_rows h4 f g hg r (zs.set (f q).val (bits .or .i64 (rowAt zs (f q).val) (g q))) (by rw [List.length_set, hl]) (fun i => by
      rw [hrow i]
      by_cases e : i = (f q).val
      · rw [if_pos e]; exact ⟨u, rfl, hu2⟩
      · rw [if_neg e]; exact hz i)
    refine ⟨a1, a2, fun i j hi hj => ?_⟩
    rw [a3 i j hi hj, hrow i]
    have hor := b_or y z ⟨j, by omega⟩
    rw [hu] at hor
    by_cases e : i = (f q).val
    · rw [if_pos e, hor, Bool.or_eq_true, e, hy, ← hz1]
      constructor
      · rintro ((h | h) | ⟨p, hp, h1, h2⟩)
        · exact .inl h
        · exact .inr ⟨q, List.mem_cons_self, rfl, h⟩
        · exact .inr ⟨p, List.mem_cons_of_mem _ hp, h1, h2⟩
      · rintro (h | ⟨p, hp, h1, h2⟩)
        · exact .inl (.inl h)
        · rcases List.mem_cons.1 hp with rfl | hp
          · exact .inl (.inr h2)
          · exact .inr ⟨p, hp, h1, h2⟩
    · rw [if_neg e]
      constructor
      · rintro (h | ⟨p, hp, h1, h2⟩)
        · exact .inl h
        · exact .inr ⟨p, List.mem_cons_of_mem _ hp, h1, h2⟩
      · rintro (h | ⟨p, hp, h1, h2⟩)
        · exact .inl h
        · rcases List.mem_cons.1 hp with rfl | hp
          · exact absurd h1.symm e
          · exact .inr ⟨p, hp, h1, h2⟩
theorem zeros16 (n : Nat) : ∀ i, ∃ y : Fin 16, rowAt (List.replicate n 0) i = (y.val : Int) ∧ y.val < 2 ^ n := fun i => ⟨0, zeros_at n i, Nat.two_pow_pos _⟩

theorem thenAcc_rel {n : Nat} {ys : List Int} (k : Rl n ys) (pre : List (Fin n × Fin n)) : Rl n (thenAcc n ys pre) := by
  obtain ⟨a1, a2, _⟩ := fold_rows k.four (fun p => p.1) (fun p => rowAt ys p.2.val) (fun p => k.row _) pre (List.replicate n 0) (List.length_replicate) (zeros16 n)
  exact ⟨a1, k.one, k.four, a2⟩
theorem thenAcc_eq {xs ys : List Int} (h : Rl xs.length xs) (k : Rl xs.length ys) : thenAcc xs.length ys (pairsOf xs) = compL xs ys := by
  refine (thenAcc_rel k _).ext (h.comp k) fun i j hi hj => ?_
  obtain ⟨_, _, a3⟩ := fold_rows k.four (fun p => p.1) (fun p => rowAt ys p.2.val) (fun p => k.row _) (pairsOf xs) (List.replicate xs.length 0) (List.length_replicate) (zeros16 _)
  rw [Bool.eq_iff_iff, hB_comp h k i j hi hj]
  refine (a3 i j hi hj).trans ?_
  rw [zeros_at, b_zero ⟨j, by have := h.four; omega⟩]
  constructor
  · rintro (e | ⟨p, hp, h1, h2⟩)
    · cases e
    · exact ⟨p.2.val, p.2.isLt, by rw [← h1]; exact (mem_pairs h.four p).1 hp, h2⟩
  · rintro ⟨l, hl, h1, h2⟩
    exact .inr ⟨(⟨i, hi⟩, ⟨l, hl⟩), (mem_pairs h.four _).2 h1, rfl, h2⟩
theorem Rl.turn {n : Nat} {xs : List Int} (h : Rl n xs) : Rl n (turnL xs) := by
  obtain rfl := h.len
  obtain ⟨a1, a2, _⟩ := fold_rows h.four (fun p => p.2) (fun p => pt p.1.val) (fun p => b_ptlt ⟨xs.length, by have := h.four; omega⟩ p.1) (pairsOf xs) (List.replicate xs.length 0) (List.length_replicate) (zeros16 _)
  exact ⟨a1, h.one, h.four, a2⟩
theorem hB_turn {n : Nat} {xs : List Int} (h : Rl n xs) (i j : Nat) (hi : i < n) (hj : j < n) : hB (turnL xs) i j = hB xs j i := by
  obtain rfl := h.len
  obtain ⟨_, _, a3⟩ := fold_rows h.four (fun p => p.2) (fun p => pt p.1.val) (fun p => b_ptlt ⟨xs.length, by have := h.four; omega⟩ p.1) (pairsOf xs) (List.replicate xs.length 0) (List.length_replicate) (zeros16 _)
  rw [Bool.eq_iff_iff]
  refine (a3 i j hi hj).trans ?_
  have h4 := h.four
  rw [zeros_at, b_zero ⟨j, by omega⟩]
  constructor
  · rintro (e | ⟨p, hp, h1, h2⟩)
    · cases e
    · have hb := b_pt ⟨p.1.val, by have := p.1.isLt; omega⟩ ⟨j, by omega⟩
      dsimp only at hb h1 h2
      rw [h2] at hb
      have hb := of_decide_eq_true hb.symm
      rw [hb, ← h1]
      exact (mem_pairs h.four p).1 hp
  · intro e
    refine .inr ⟨(⟨j, hj⟩, ⟨i, hi⟩), (mem_pairs h.four _).2 e, rfl, ?_⟩
    have hb := b_pt ⟨j, by omega⟩ ⟨j, by omega⟩
    dsimp only at hb ⊢
    rw [hb]
    exact decide_eq_true rfl

/-! residuals -/
def leftL (xs ys : List Int) : List Int := otherL (compL (turnL xs) (otherL ys))
def rightL (xs ys : List Int) : List Int := otherL (compL (otherL ys) (turnL xs))
theorem Rl.left {n : Nat} {xs ys : List Int} (h : Rl n xs) (k : Rl n ys) : Rl n (leftL xs ys) := (h.turn.comp k.other).other
theorem Rl.right {n : Nat} {xs ys : List Int} (h : Rl n xs) (k : Rl n ys) : Rl n (rightL xs ys) := (k.other.comp h.turn).other
theorem right_eq {n : Nat} {xs ys : List Int} (h : Rl n xs) (k : Rl n ys) : turnL (leftL (turnL xs) (turnL ys)) = rightL xs ys := by
  refine (h.turn.left k.turn).turn.ext (h.right k) fun i j hi hj => ?_
  rw [hB_turn (h.turn.left k.turn) i j hi hj]
  unfold leftL rightL
  rw [hB_other (h.turn.turn.comp k.turn.other) j i hj hi, hB_other (k.other.comp h.turn) i j hi hj]
  congr 1
  rw [Bool.eq_iff_iff, hB_comp h.turn.turn k.turn.other j i hj hi, hB_comp k.other h.turn i j hi hj]
  constructor
  · rintro ⟨l, hl, h1, h2⟩
    rw [hB_turn h.turn j l hj hl] at h1
    rw [hB_other k.turn l i hl hi, hB_turn k l i hl hi] at h2
    exact ⟨l, hl, by rw [hB_other k i l hi hl]; exact h2, h1⟩
  · rintro ⟨l, hl, h1, h2⟩
    rw [hB_other k i l hi hl] at h1
    exact ⟨l, hl, by rw [hB_turn h.turn j l hj hl]; exact h2, by rw [hB_other k.turn l i hl hi, hB_turn k l i hl hi]; exact h1⟩
end Go.Proofs.Ytcdiicckngndcab
