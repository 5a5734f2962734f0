/-
  Powers of a relation: they come round, what they reach, distances.
-/
import Derived.Test.YthdnpcpimggjnaaGreatDoorDC
namespace Go.Proofs.YthdnpcpimggjnaaGreatDoor
open Go.RowKit

/-- whether a list relates two points -/
def hB (xs : List Int) (i j : Nat) : Bool := hasB (rowAt xs i) j

theorem b_or : ∀ z y : Fin 16, ∀ j : Fin 4, hasB (bits .or .i64 (z.val : Int) (y.val : Int)) j.val = (hasB (z.val : Int) j.val || hasB (y.val : Int) j.val) := by decide +kernel
theorem b_pt : ∀ i j : Fin 4, hasB (pt i.val) j.val = decide (j.val = i.val) := by decide +kernel
theorem b_bit : ∀ z : Fin 16, ∀ k : Fin 4, bitB (z.val : Int) k.val = hasB (z.val : Int) k.val := by decide +kernel
theorem b_zero : ∀ j : Fin 4, hasB 0 j.val = false := by decide +kernel
theorem b_ext : ∀ n : Fin 5, ∀ y z : Fin 16, y.val < 2 ^ n.val → z.val < 2 ^ n.val → (∀ j : Fin n.val, hasB (y.val : Int) j.val = hasB (z.val : Int) j.val) → y = z := by decide +kernel
theorem b_not : ∀ n : Fin 5, ∀ y : Fin 16, y.val < 2 ^ n.val → ∃ u : Fin 16, bits .andNot .i64 (2 ^ n.val - 1) (y.val : Int) = (u.val : Int) ∧ u.val < 2 ^ n.val ∧ ∀ j : Fin n.val, hasB (u.val : Int) j.val = !hasB (y.val : Int) j.val := by decide +kernel
theorem b_orlt : ∀ n : Fin 5, ∀ z y : Fin 16, z.val < 2 ^ n.val → y.val < 2 ^ n.val → ∃ u : Fin 16, bits .or .i64 (z.val : Int) (y.val : Int) = (u.val : Int) ∧ u.val < 2 ^ n.val := by decide +kernel
theorem b_ptlt : ∀ n : Fin 5, ∀ i : Fin n.val, ∃ u : Fin 16, pt i.val = (u.val : Int) ∧ u.val < 2 ^ n.val := by decide +kernel

/-- n rows, all of them sets of n points -/
structure Rl (n : Nat) (xs : List Int) : Prop where
  len : xs.length = n
  one : 1 ≤ n
  four : n ≤ 4
  row : ∀ i, ∃ y : Fin 16, rowAt xs i = (y.val : Int) ∧ y.val < 2 ^ n

theorem Rl.of {xs : List Int} (h : relIn xs = true) : Rl xs.length xs := by
  have h4 := relIn_len h
  refine ⟨rfl, h4.1, h4.2, fun i => ?_⟩
  by_cases hi : i < xs.length
  · obtain ⟨y, hy⟩ := row16 h i
    exact ⟨y, hy, row_lt h hi hy⟩
  · exact ⟨0, rowAt_out _ _ hi, Nat.two_pow_pos _⟩
theorem Rl.in16 {n : Nat} {xs : List Int} (h : Rl n xs) : In16 xs := fun i => by
  obtain ⟨y, hy, _⟩ := h.row i
  exact ⟨y, hy⟩
theorem Rl.ok {n : Nat} {xs : List Int} (h : Rl n xs) : relIn xs = true := by
  unfold relIn
  rw [Bool.and_eq_true, List.all_eq_true]
  refine ⟨decide_eq_true (by rw [h.len]; exact ⟨h.one, h.four⟩), fun x hx => ?_⟩
  obtain ⟨i, hi, rfl⟩ := List.mem_iff_getElem.1 hx
  obtain ⟨y, hy, hlt⟩ := h.row i
  have e := rowAt_get hi
  rw [List.getElem?_eq_getElem hi, hy] at e
  have e := Option.some.inj e
  rw [e, h.len]
  unfold rowIn
  have h2 : ((2 ^ n : Nat) : Int) = (2 : Int) ^ n := by simp
  rw [Bool.and_eq_true]
  exact ⟨decide_eq_true (by omega), decide_eq_true (by omega)⟩
theorem Rl.ext {n : Nat} {xs ys : List Int} (h : Rl n xs) (k : Rl n ys) (e : ∀ i j, i < n → j < n → hB xs i j = hB ys i j) : xs = ys := by
  apply List.ext_getElem?
  intro i
  by_cases hi : i < n
  · rw [rowAt_get (by rw [h.len]; exact hi), rowAt_get (by rw [k.len]; exact hi)]
    obtain ⟨y, hy, hy2⟩ := h.row i
    obtain ⟨z, hz, hz2⟩ := k.row i
    have := b_ext ⟨n, by have := h.four; omega⟩ y z hy2 hz2 (fun j => by
      have := e i j.val hi j.isLt
      unfold hB at this
      rw [hy, hz] at this
      exact this)
    rw [hy, hz, this]
  · rw [List.getElem?_eq_none (by rw [h.len]; omega), List.getElem?_eq_none (by rw [k.len]; omega)]

/-- a list of n numbers told by its rows -/
theorem Rl.mk' {n : Nat} {xs : List Int} (hl : xs.length = n) (h1 : 1 ≤ n) (h4 : n ≤ 4) (hr : ∀ i, i < n → ∃ y : Fin 16, rowAt xs i = (y.val : Int) ∧ y.val < 2 ^ n) : Rl n xs :=
  ⟨hl, h1, h4, fun i => if hi : i < n then hr i hi else ⟨0, rowAt_out _ _ (by rw [hl]; exact hi), Nat.two_pow_pos _⟩⟩

/-! composition -/
theorem img_row {n : Nat} {ys : List Int} (h : Rl n ys) (z : Fin 16) : ∀ k, k ≤ n → ∃ u : Fin 16, imgTo ys (z.val : Int) k = (u.val : Int) ∧ u.val < 2 ^ n ∧
    ∀ j, j < n → (hasB (u.val : Int) j = true ↔ ∃ l, l < k ∧ hasB (z.val : Int) l = true ∧ hB ys l j = true)
  | 0, _ => ⟨0, rfl, Nat.two_pow_pos _, fun j hj => by
      have := b_zero ⟨j, by have := h.four; omega⟩
      rw [show ((0 : Fin 16).val : Int) = 0 from rfl, this]
      exact ⟨fun e => (by cases e), fun ⟨l, hl, _⟩ => absurd hl (by omega)⟩⟩
  | k + 1, hk => by
    obtain ⟨u, hu, hu2, hu3⟩ := img_row h z k (by omega)
    have h4 := h.four
    rw [imgTo_succ, b_bit z ⟨k, by omega⟩]
    by_cases hb : hasB (z.val : Int) k = true
    · rw [if_pos hb, hu]
      obtain ⟨y, hy, hy2⟩ := h.row k
      obtain ⟨v, hv, hv2⟩ := b_orlt ⟨n, by omega⟩ u y hu2 hy2
      rw [hy]
      refine ⟨v, hv, hv2, fun j hj => ?_⟩
      have hor := b_or u y ⟨j, by omega⟩
      rw [hv] at hor
      rw [hor, Bool.or_eq_true, hu3 j hj]
      constructor
      · rintro (⟨l, hl, h1, h2⟩ | h1)
        · exact ⟨l, by omega, h1, h2⟩
        · exact ⟨k, by omega, hb, by unfold hB; rw [hy]; exact h1⟩
      · rintro ⟨l, hl, h1, h2⟩
        by_cases e : l = k
        · subst e
          right
          unfold hB at h2
          rw [hy] at h2
          exact h2
        · exact .inl ⟨l, by omega, h1, h2⟩
    · rw [if_neg hb]
      refine ⟨u, hu, hu2, fun j hj => ?_⟩
      rw [hu3 j hj]
      constructor
      · rintro ⟨l, hl, h1, h2⟩
        exact ⟨l, by omega, h1, h2⟩
      · rintro ⟨l, hl, h1, h2⟩
        by_cases e : l = k
        · subst e
          exact absurd h1 hb
        · exact ⟨l, by omega, h1, h2⟩

theorem comp_row {n : Nat} {xs ys : List Int} (h : Rl n xs) (k : Rl n ys) (i : Nat) (hi : i < n) : ∃ u : Fin 16, rowAt (compL xs ys) i = (u.val : Int) ∧ u.val < 2 ^ n ∧
    ∀ j, j < n → (hasB (u.val : Int) j = true ↔ ∃ l, l < n ∧ hB xs i l = true ∧ hB ys l j = true) := by
  obtain ⟨z, hz, _⟩ := h.row i
  obtain ⟨u, hu, hu2, hu3⟩ := img_row k z n (Nat.le_refl _)
  refine ⟨u, ?_, hu2, fun j hj => ?_⟩
  · unfold compL
    rw [rowAt_map _ _ _ (by rw [h.len]; exact hi), hz, k.len, hu]
  · rw [hu3 j hj]
    unfold hB
    rw [hz]
theorem Rl.comp {n : Nat} {xs ys : List Int} (h : Rl n xs) (k : Rl n ys) : Rl n (compL xs ys) :=
  Rl.mk' (by rw [compL_len, h.len]) h.one h.four fun i hi => by
    obtain ⟨u, hu, hu2, _⟩ := comp_row h k i hi
    exact ⟨u, hu, hu2⟩
theorem hB_comp {n : Nat} {xs ys : List Int} (h : Rl n xs) (k : Rl n ys) (i j : Nat) (hi : i < n) (hj : j < n) :
    hB (compL xs ys) i j = true ↔ ∃ l, l < n ∧ hB xs i l = true ∧ hB ys l j = true := by
  obtain ⟨u, hu, _, hu3⟩ := comp_row h k i hi
  rw [← hu3 j hj]
  unfold hB
  rw [hu]

/-! others, the same, either -/
theorem other_row {n : Nat} {xs : List Int} (h : Rl n xs) (i : Nat) (hi : i < n) : ∃ u : Fin 16, rowAt (otherL xs) i = (u.val : Int) ∧ u.val < 2 ^ n ∧ ∀ j, j < n → hasB (u.val : Int) j = !hB xs i j := by
  obtain ⟨y, hy, hy2⟩ := h.row i
  obtain ⟨u, hu, hu2, hu3⟩ := b_not ⟨n, by have := h.four; omega⟩ y hy2
  refine ⟨u, ?_, hu2, fun j hj => ?_⟩
  · unfold otherL
    rw [rowAt_map _ _ _ (by rw [h.len]; exact hi), hy, h.len, hu]
  · unfold hB
    rw [hy]
    exact hu3 ⟨j, hj⟩
theorem Rl.other {n : Nat} {xs : List Int} (h : Rl n xs) : Rl n (otherL xs) :=
  Rl.mk' (by unfold otherL; rw [List.length_map, h.len]) h.one h.four fun i hi => by
    obtain ⟨u, hu, hu2, _⟩ := other_row h i hi
    exact ⟨u, hu, hu2⟩
theorem hB_other {n : Nat} {xs : List Int} (h : Rl n xs) (i j : Nat) (hi : i < n) (hj : j < n) : hB (otherL xs) i j = !hB xs i j := by
  obtain ⟨u, hu, _, hu3⟩ := other_row h i hi
  rw [← hu3 j hj]
  unfold hB
  rw [hu]
theorem sameL_at (n i : Nat) (hi : i < n) : rowAt (sameL n) i = pt i := by
  unfold rowAt sameL
  rw [List.getD_eq_getElem?_getD, List.getElem?_map, List.getElem?_range hi]
  rfl
theorem Rl.same {n : Nat} (h1 : 1 ≤ n) (h4 : n ≤ 4) : Rl n (sameL n) :=
  Rl.mk' (sameL_len n) h1 h4 fun i hi => by
    rw [sameL_at n i hi]
    exact b_ptlt ⟨n, by omega⟩ ⟨i, hi⟩
theorem hB_same {n : Nat} (h4 : n ≤ 4) (i j : Nat) (hi : i < n) (hj : j < n) : hB (sameL n) i j = decide (j = i) := by
  unfold hB
  rw [sameL_at n i hi]
  exact b_pt ⟨i, by omega⟩ ⟨j, by omega⟩
theorem Rl.either {n : Nat} {xs ys : List Int} (h : Rl n xs) (k : Rl n ys) : Rl n (eitherL xs ys) := by
  have hl : (eitherL xs ys).length = n := by unfold eitherL zipI; rw [List.length_zipWith, h.len, k.len, Nat.min_self]
  refine Rl.mk' hl h.one h.four fun i hi => ?_
  obtain ⟨y, hy, hy2⟩ := h.row i
  obtain ⟨z, hz, hz2⟩ := k.row i
  obtain ⟨u, hu, hu2⟩ := b_orlt ⟨n, by have := h.four; omega⟩ y z hy2 hz2
  refine ⟨u, ?_, hu2⟩
  unfold eitherL
  rw [zipAt _ _ _ _ (by rw [h.len]; exact hi) (by rw [k.len]; exact hi), hy, hz, hu]
theorem hB_either {n : Nat} {xs ys : List Int} (h : Rl n xs) (k : Rl n ys) (i j : Nat) (hi : i < n) (hj : j < n) : hB (eitherL xs ys) i j = (hB xs i j || hB ys i j) := by
  obtain ⟨y, hy, hy2⟩ := h.row i
  obtain ⟨z, hz, hz2⟩ := k.row i
  unfold hB eitherL
  rw [zipAt _ _ _ _ (by rw [h.len]; exact hi) (by rw [k.len]; exact hi), hy, hz]
  exact b_or y z ⟨j, by have := h.four; omega⟩

/-! turned, and composed by pairs -/
theorem mem_allP {n : Nat} (p : Fin n × Fin n) : p ∈ allP n := by
  unfold allP
  rw [List.mem_flatMap]
  exact ⟨p.1, List.mem_finRange _, List.mem_map.2 ⟨p.2, List.mem_finRange _, rfl⟩⟩
theorem mem_pairs {xs : List Int} (h4 : xs.length ≤ 4) (p : Fin xs.length × Fin xs.length) : p ∈ pairsOf xs ↔ hB xs p.1.val p.2.val = true := by
  unfold pairsOf pairsTo
  have hl := allP_len ⟨xs.length, by omega⟩
  rw [List.take_of_length_le (by rw [hl]; exact Nat.le_refl _), List.mem_filter]
  exact ⟨fun h => h.2, fun h => ⟨mem_allP p, h⟩⟩
/-- pairs led on to rows, one by one -/
def thenAcc (n : Nat) (ys : List Int) (pre : List (Fin n × Fin n)) : List Int := pre.foldl (fun zs p => zs.set p.1.val (bits .or .i64 (rowAt zs p.1.val) (rowAt ys p.2.val))) (List.replicate n 0)
theorem thenAcc_snoc (n : Nat) (ys : List Int) (pre : List (Fin n × Fin n)) (p : Fin n × Fin n) : thenAcc n ys (pre ++ [p]) = (thenAcc n ys pre).set p.1.val (bits .or .i64 (rowAt (thenAcc n ys pre) p.1.val) (rowAt ys p.2.val)) := by
  unfold thenAcc
  rw [List.foldl_append]
  rfl
theorem thenAcc_len (n : Nat) (ys : List Int) (pre : List (Fin n × Fin n)) : (thenAcc n ys pre).length = n := by
  have h : ∀ (l : List (Fin n × Fin n)) (zs : List Int), (l.foldl (fun zs p => zs.set p.1.val (bits .or .i64 (rowAt zs p.1.val) (rowAt ys p.2.val))) zs).length = zs.length := by
    intro l
    induction l with
    | nil => intro zs; rfl
    | cons p r ih => intro zs; rw [List.foldl_cons, ih, List.length_set]
  unfold thenAcc
  rw [h]
  simp
theorem zeros_at (n i : Nat) : rowAt (List.replicate n 0) i = 0 := by
  unfold rowAt
  rw [List.getD_eq_getElem?_getD, List.getElem?_replicate]
  split <;> rfl
/-- what a fold of row changes makes -/
theorem fold_rows {n : Nat} (h4 : n ≤ 4) (f : Fin n × Fin n → Fin n) (g : Fin n × Fin n → Int) (hg : ∀ p, ∃ y : Fin 16, g p = (y.val : Int) ∧ y.val < 2 ^ n) :
    ∀ (l : List (Fin n × Fin n)) (zs : List Int), zs.length = n → (∀ i, ∃ y : Fin 16, rowAt zs i = (y.val : Int) ∧ y.val < 2 ^ n) →
      (l.foldl (fun zs p => zs.set (f p).val (bits .or .i64 (rowAt zs (f p).val) (g p))) zs).length = n ∧
      (∀ i, ∃ y : Fin 16, rowAt (l.foldl (fun zs p => zs.set (f p).val (bits .or .i64 (rowAt zs (f p).val) (g p))) zs) i = (y.val : Int) ∧ y.val < 2 ^ n) ∧
      ∀ i j, i < n → j < n → (hasB (rowAt (l.foldl (fun zs p => zs.set (f p).val (bits .or .i64 (rowAt zs (f p).val) (g p))) zs) i) j = true ↔ (hasB (rowAt zs i) j = true ∨ ∃ p, p ∈ l ∧ (f p).val = i ∧ hasB (g p) j = true))
  | [], zs, hl, hz => ⟨hl, hz, fun i j _ _ => ⟨fun h => .inl h, fun h => h.elim id (fun ⟨p, hp, _⟩ => absurd hp (by simp))⟩⟩
  | q :: r, zs, hl, hz => by
    rw [List.foldl_cons]
    obtain ⟨y, hy, hy2⟩ := hz (f q).val
    obtain ⟨z, hz1, hz2⟩ := hg q
    obtain ⟨u, hu, hu2⟩ := b_orlt ⟨n, by omega⟩ y z hy2 hz2
    have hq : (f q).val < zs.length := by rw [hl]; exact (f q).isLt
    have hrow : ∀ i, rowAt (zs.set (f q).val (bits .or .i64 (rowAt zs (f q).val) (g q))) i = if i = (f q).val then (u.val : Int) else rowAt zs i := by
      intro i
      rw [rowAt_set _ _ _ _ hq, hy, hz1, hu]
    obtain ⟨a1, a2, a3⟩ := fold_rows h4 f g hg r (zs.set (f q).val (bits .or .i64 (rowAt zs (f q).val) (g q))) (by rw [List.length_set, hl]) (fun i => by
      rw [hrow i]
      by_cases e : i = (f q).val
      · rw [if_pos e]; exact ⟨u, rfl, hu2⟩
      · rw [if_neg e]; exact hz i)
    refine ⟨a1, a2, fun i j hi hj => ?_⟩
    rw [a3 i j hi hj, hrow i]
    have hor := b_or y z ⟨j, by omega⟩
    rw [hu] at hor
    by_cases e : i = (f q).val
    · rw [if_pos e, hor, Bool.or_eq_true, e, hy, ← hz1]
      constructor
      · rintro ((h | h) | ⟨p, hp, h1, h2⟩)
        · exact .inl h
        · exact .inr ⟨q, List.mem_cons_self, rfl, h⟩
        · exact .inr ⟨p, List.mem_cons_of_mem _ hp, h1, h2⟩
      · rintro (h | ⟨p, hp, h1, h2⟩)
        · exact .inl (.inl h)
        · rcases List.mem_cons.1 hp with rfl | hp
          · exact .inl (.inr h2)
          · exact .inr ⟨p, hp, h1, h2⟩
    · rw [if_neg e]
      constructor
      · rintro (h | ⟨p, hp, h1, h2⟩)
        · exact .inl h
        · exact .inr ⟨p, List.mem_cons_of_mem _ hp, h1, h2⟩
      · rintro (h | ⟨p, hp, h1, h2⟩)
        · exact .inl h
        · rcases List.mem_cons.1 hp with rfl | hp
          · exact absurd h1.symm e
          · exact .inr ⟨p, hp, h1, h2⟩
theorem zeros16 (n : Nat) : ∀ i, ∃ y : Fin 16, rowAt (List.replicate n 0) i = (y.val : Int) ∧ y.val < 2 ^ n := fun i => ⟨0, zeros_at n i, Nat.two_pow_pos _⟩

theorem thenAcc_rel {n : Nat} {ys : List Int} (k : Rl n ys) (pre : List (Fin n × Fin n)) : Rl n (thenAcc n ys pre) := by
  obtain ⟨a1, a2, _⟩ := fold_rows k.four (fun p => p.1) (fun p => rowAt ys p.2.val) (fun p => k.row _) pre (List.replicate n 0) (List.length_replicate) (zeros16 n)
  exact ⟨a1, k.one, k.four, a2⟩
theorem thenAcc_eq {xs ys : List Int} (h : Rl xs.length xs) (k : Rl xs.length ys) : thenAcc xs.length ys (pairsOf xs) = compL xs ys := by
  refine (thenAcc_rel k _).ext (h.comp k) fun i j hi hj => ?_
  obtain ⟨_, _, a3⟩ := fold_rows k.four (fun p => p.1) (fun p => rowAt ys p.2.val) (fun p => k.row _) (pairsOf xs) (List.replicate xs.length 0) (List.length_replicate) (zeros16 _)
  rw [Bool.eq_iff_iff, hB_comp h k i j hi hj]
  refine (a3 i j hi hj).trans ?_
  rw [zeros_at, b_zero ⟨j, by have := h.four; omega⟩]
  constructor
  · rintro (e | ⟨p, hp, h1, h2⟩)
    · cases e
    · exact ⟨p.2.val, p.2.isLt, by rw [← h1]; exact (mem_pairs h.four p).1 hp, h2⟩
  · rintro ⟨l, hl, h1, h2⟩
    exact .inr ⟨(⟨i, hi⟩, ⟨l, hl⟩), (mem_pairs h.four _).2 h1, rfl, h2⟩
theorem Rl.turn {n : Nat} {xs : List Int} (h : Rl n xs) : Rl n (turnL xs) := by
  obtain rfl := h.len
  obtain ⟨a1, a2, _⟩ := fold_rows h.four (fun p => p.2) (fun p => pt p.1.val) (fun p => b_ptlt ⟨xs.length, by have := h.four; omega⟩ p.1) (pairsOf xs) (List.replicate xs.length 0) (List.length_replicate) (zeros16 _)
  exact ⟨a1, h.one, h.four, a2⟩
theorem hB_turn {n : Nat} {xs : List Int} (h : Rl n xs) (i j : Nat) (hi : i < n) (hj : j < n) : hB (turnL xs) i j = hB xs j i := by
  obtain rfl := h.len
  obtain ⟨_, _, a3⟩ := fold_rows h.four (fun p => p.2) (fun p => pt p.1.val) (fun p => b_ptlt ⟨xs.length, by have := h.four; omega⟩ p.1) (pairsOf xs) (List.replicate xs.length 0) (List.length_replicate) (zeros16 _)
  rw [Bool.eq_iff_iff]
  refine (a3 i j hi hj).trans ?_
  have h4 := h.four
  rw [zeros_at, b_zero ⟨j, by omega⟩]
  constructor
  · rintro (e | ⟨p, hp, h1, h2⟩)
    · cases e
    · have hb := b_pt ⟨p.1.val, by have := p.1.isLt; omega⟩ ⟨j, by omega⟩
      dsimp only at hb h1 h2
      rw [h2] at hb
      have hb := of_decide_eq_true hb.symm
      rw [hb, ← h1]
      exact (mem_pairs h.four p).1 hp
  · intro e
    refine .inr ⟨(⟨j, hj⟩, ⟨i, hi⟩), (mem_pairs h.four _).2 e, rfl, ?_⟩
    have hb := b_pt ⟨j, by omega⟩ ⟨j, by omega⟩
    dsimp only at hb ⊢
    rw [hb]
    exact decide_eq_true rfl

/-! residuals -/
def leftL (xs ys : List Int) : List Int := otherL (compL (turnL xs) (otherL ys))
def rightL (xs ys : List Int) : List Int := otherL (compL (otherL ys) (turnL xs))
theorem Rl.left {n : Nat} {xs ys : List Int} (h : Rl n xs) (k : Rl n ys) : Rl n (leftL xs ys) := (h.turn.comp k.other).other
theorem Rl.right {n : Nat} {xs ys : List Int} (h : Rl n xs) (k : Rl n ys) : Rl n (rightL xs ys) := (k.other.comp h.turn).other
theorem right_eq {n : Nat} {xs ys : List Int} (h : Rl n xs) (k : Rl n ys) : turnL (leftL (turnL xs) (turnL ys)) = rightL xs ys := by
  refine (h.turn.left k.turn).turn.ext (h.right k) fun i j hi hj => ?_
  rw [hB_turn (h.turn.left k.turn) i j hi hj]
  unfold leftL rightL
  rw [hB_other (h.turn.turn.comp k.turn.other) j i hj hi, hB_other (k.other.comp h.turn) i j hi hj]
  congr 1
  rw [Bool.eq_iff_iff, hB_comp h.turn.turn k.turn.other j i hj hi, hB_comp k.other h.turn i j hi hj]
  constructor
  · rintro ⟨l, hl, h1, h2⟩
    rw [hB_turn h.turn j l hj hl] at h1
    rw [hB_other k.turn l i hl hi, hB_turn k l i hl hi] at h2
    exact ⟨l, hl, by rw [hB_other k i l hi hl]; exact h2, h1⟩
  · rintro ⟨l, hl, h1, h2⟩
    rw [hB_other k i l hi hl] at h1
    exact ⟨l, hl, by rw [hB_turn h.turn j l hj hl]; exact h2, by rw [hB_other k.turn l i hl hi, hB_turn k l i hl hi]; exact h1⟩
end Go.Proofs.YthdnpcpimggjnaaGreatDoor

namespace Go.Proofs.YthdnpcpimggjnaaGreatDoor
open Go.RowKit

/-- the power k -/
def powL (xs : List Int) : Nat → List Int
  | 0 => sameL xs.length
  | k + 1 => compL (powL xs k) xs
theorem Rl.pow {xs : List Int} (h : Rl xs.length xs) : ∀ k, Rl xs.length (powL xs k)
  | 0 => Rl.same h.one h.four
  | k + 1 => (Rl.pow h k).comp h
theorem pow_shift {xs : List Int} {a b : Nat} (e : powL xs a = powL xs b) : ∀ t, powL xs (a + t) = powL xs (b + t)
  | 0 => e
  | t + 1 => by
    show compL (powL xs (a + t)) xs = compL (powL xs (b + t)) xs
    rw [pow_shift e t]

/-- the power m is the first that has come before, as the power a -/
structure Rep (xs : List Int) (m a : Nat) : Prop where
  lt : a < m
  eq : powL xs m = powL xs a
  new : ∀ i j, i < j → j < m → powL xs i ≠ powL xs j
theorem Rep.uniq {xs : List Int} {m a m' a' : Nat} (h : Rep xs m a) (k : Rep xs m' a') : m = m' ∧ a = a' := by
  have e : m = m' := by
    rcases Nat.lt_trichotomy m m' with e | e | e
    · exact absurd h.eq.symm (k.new a m h.lt e)
    · exact e
    · exact absurd k.eq.symm (h.new a' m' k.lt e)
  subst e
  refine ⟨rfl, ?_⟩
  have e2 := h.eq.symm.trans k.eq
  rcases Nat.lt_trichotomy a a' with e | e | e
  · exact absurd e2 (h.new a a' e k.lt)
  · exact e
  · exact absurd e2.symm (h.new a' a e h.lt)
/-- each power is one of the first ones; of those from s on, s being 0 or 1, one from s on -/
theorem Rep.cover {xs : List Int} {m a : Nat} (h : Rep xs m a) (s : Nat) (hs : s ≤ 1) : ∀ k, s ≤ k → ∃ t, s ≤ t ∧ t ≤ m ∧ t ≤ k ∧ powL xs k = powL xs t := by
  intro k
  induction k using Nat.strongRecOn with
  | ind k ih =>
    intro hk
    by_cases hm : k ≤ m
    · exact ⟨k, hk, hm, Nat.le_refl _, rfl⟩
    · have hlt := h.lt
      obtain ⟨t, h1, h2, h3, h4⟩ := ih (a + (k - m)) (by omega) (by omega)
      refine ⟨t, h1, h2, by omega, ?_⟩
      rw [← h4, ← pow_shift h.eq (k - m)]
      congr 1
      omega
/-- a power beyond the list, by what comes again and again -/
theorem Rep.at {xs : List Int} {m a : Nat} (h : Rep xs m a) : ∀ k, a ≤ k → powL xs k = powL xs (a + (k - a) % (m - a)) := by
  have hlt := h.lt
  intro k
  induction k using Nat.strongRecOn with
  | ind k ih =>
    intro hk
    by_cases hm : k - a < m - a
    · rw [Nat.mod_eq_of_lt hm]
      congr 1
      omega
    · have e1 : powL xs k = powL xs (k - (m - a)) := by
        have := pow_shift h.eq (k - m)
        rw [show m + (k - m) = k by omega, show a + (k - m) = k - (m - a) by omega] at this
        exact this
      rw [e1, ih (k - (m - a)) (by omega) (by omega)]
      congr 2
      rw [show k - (m - a) - a = k - a - (m - a) by omega]
      exact (Nat.mod_eq_sub_mod (by omega)).symm

/-! only so many relations -/
def codeL (xs : List Int) : Nat := (rowAt xs 0).toNat + 16 * (rowAt xs 1).toNat + 256 * (rowAt xs 2).toNat + 4096 * (rowAt xs 3).toNat
theorem code_lt {xs : List Int} (h : In16 xs) : codeL xs < 65536 := by
  obtain ⟨a, ha⟩ := h 0
  obtain ⟨b, hb⟩ := h 1
  obtain ⟨c, hc⟩ := h 2
  obtain ⟨d, hd⟩ := h 3
  unfold codeL
  rw [ha, hb, hc, hd]
  have := a.isLt
  have := b.isLt
  have := c.isLt
  have := d.isLt
  simp only [Int.toNat_natCast]
  omega
theorem code_inj {n : Nat} {xs ys : List Int} (h : Rl n xs) (k : Rl n ys) (e : codeL xs = codeL ys) : xs = ys := by
  obtain ⟨a, ha⟩ := h.in16 0
  obtain ⟨b, hb⟩ := h.in16 1
  obtain ⟨c, hc⟩ := h.in16 2
  obtain ⟨d, hd⟩ := h.in16 3
  obtain ⟨a', ha'⟩ := k.in16 0
  obtain ⟨b', hb'⟩ := k.in16 1
  obtain ⟨c', hc'⟩ := k.in16 2
  obtain ⟨d', hd'⟩ := k.in16 3
  unfold codeL at e
  rw [ha, hb, hc, hd, ha', hb', hc', hd'] at e
  have := a.isLt
  have := b.isLt
  have := c.isLt
  have := d.isLt
  have := a'.isLt
  have := b'.isLt
  have := c'.isLt
  have := d'.isLt
  simp only [Int.toNat_natCast] at e
  have e0 : rowAt xs 0 = rowAt ys 0 := by rw [ha, ha']; omega
  have e1 : rowAt xs 1 = rowAt ys 1 := by rw [hb, hb']; omega
  have e2 : rowAt xs 2 = rowAt ys 2 := by rw [hc, hc']; omega
  have e3 : rowAt xs 3 = rowAt ys 3 := by rw [hd, hd']; omega
  apply List.ext_getElem?
  intro i
  by_cases hi : i < n
  · have h4 := h.four
    rw [rowAt_get (by rw [h.len]; exact hi), rowAt_get (by rw [k.len]; exact hi)]
    rcases (by omega : i = 0 ∨ i = 1 ∨ i = 2 ∨ i = 3) with rfl | rfl | rfl | rfl
    · rw [e0]
    · rw [e1]
    · rw [e2]
    · rw [e3]
  · rw [List.getElem?_eq_none (by rw [h.len]; omega), List.getElem?_eq_none (by rw [k.len]; omega)]
theorem pigeon : ∀ (l s : List Nat), l.Nodup → (∀ x, x ∈ l → x ∈ s) → l.length ≤ s.length
  | [], s, _, _ => Nat.zero_le _
  | a :: l, s, hn, hs => by
    have ha := hs a List.mem_cons_self
    obtain ⟨hn1, hn2⟩ := List.nodup_cons.1 hn
    have h := pigeon l (s.erase a) hn2 (fun x hx => (List.mem_erase_of_ne (fun e => hn1 (by rw [← e]; exact hx))).2 (hs x (List.mem_cons_of_mem _ hx)))
    rw [List.length_erase_of_mem ha] at h
    have : 0 < s.length := List.length_pos_of_mem ha
    simp only [List.length_cons]
    omega
/-- so many powers at most are all different -/
theorem new_le {xs : List Int} (h : Rl xs.length xs) (m : Nat) (hn : ∀ i j, i < j → j < m → powL xs i ≠ powL xs j) : m ≤ 65536 := by
  have hp := pigeon ((List.range m).map fun k => codeL (powL xs k)) (List.range 65536) ?_ ?_
  · simpa using hp
  · unfold List.Nodup
    rw [List.pairwise_map]
    refine List.Pairwise.imp_of_mem ?_ (List.pairwise_lt_range)
    intro i j hi hj hlt e
    exact hn i j hlt (List.mem_range.1 hj) (code_inj (h.pow i) (h.pow j) e)
  · intro x hx
    obtain ⟨k, _, rfl⟩ := List.mem_map.1 hx
    exact List.mem_range.2 (code_lt (h.pow k).in16)
theorem new_step {xs : List Int} (m : Nat) (hn : ∀ i j, i < j → j < m → powL xs i ≠ powL xs j) (hm : ∀ i, i < m → powL xs i ≠ powL xs m) : ∀ i j, i < j → j < m + 1 → powL xs i ≠ powL xs j := by
  intro i j h1 h2
  by_cases e : j = m
  · subst e; exact hm i h1
  · exact hn i j h1 (by omega)

/-! what powers reach -/
/-- what the powers up to k have -/
def upL (xs : List Int) : Nat → List Int
  | 0 => sameL xs.length
  | k + 1 => eitherL (upL xs k) (compL (upL xs k) xs)
theorem Rl.up {xs : List Int} (h : Rl xs.length xs) : ∀ k, Rl xs.length (upL xs k)
  | 0 => Rl.same h.one h.four
  | k + 1 => (Rl.up h k).either ((Rl.up h k).comp h)
theorem hB_up {xs : List Int} (h : Rl xs.length xs) (i j : Nat) (hi : i < xs.length) (hj : j < xs.length) (k : Nat) : hB (upL xs k) i j = true ↔ ∃ t, t ≤ k ∧ hB (powL xs t) i j = true := by
  induction k generalizing j with
  | zero =>
    constructor
    · intro e; exact ⟨0, Nat.le_refl _, e⟩
    · rintro ⟨t, ht, e⟩
      obtain rfl : t = 0 := by omega
      exact e
  | succ k ih =>
    show hB (eitherL (upL xs k) (compL (upL xs k) xs)) i j = true ↔ _
    rw [hB_either (h.up k) ((h.up k).comp h) i j hi hj, Bool.or_eq_true, ih j hj, hB_comp (h.up k) h i j hi hj]
    constructor
    · rintro (⟨t, ht, e⟩ | ⟨l, hl, e1, e2⟩)
      · exact ⟨t, by omega, e⟩
      · obtain ⟨t, ht, e⟩ := (ih l hl).1 e1
        exact ⟨t + 1, by omega, (hB_comp (h.pow t) h i j hi hj).2 ⟨l, hl, e, e2⟩⟩
    · rintro ⟨t, ht, e⟩
      by_cases hk : t ≤ k
      · exact .inl ⟨t, hk, e⟩
      · obtain rfl : t = k + 1 := by omega
        obtain ⟨l, hl, e1, e2⟩ := (hB_comp (h.pow k) h i j hi hj).1 e
        exact .inr ⟨l, hl, (ih l hl).2 ⟨k, Nat.le_refl _, e1⟩, e2⟩
/-- the number of points of a set -/
def cntN (z : Nat) : Nat := z % 2 + z / 2 % 2 + z / 4 % 2 + z / 8 % 2
theorem cnt_grow : ∀ z y : Fin 16, (∀ j : Fin 4, hasB (z.val : Int) j.val = true → hasB (y.val : Int) j.val = true) → z = y ∨ cntN z.val < cntN y.val := by decide +kernel
theorem cnt_top : ∀ n : Fin 5, ∀ z : Fin 16, z.val < 2 ^ n.val → cntN z.val ≤ n.val := by decide +kernel
theorem cnt_pt : ∀ z : Fin 16, z ≠ 0 → 1 ≤ cntN z.val := by decide +kernel
/-- sets of n points that grow until they stay, the first one not being empty, stay from n less 1 on -/
theorem grow {n : Nat} (h4 : n ≤ 4) (g : Nat → Fin 16) (h0 : g 0 ≠ 0) (hlt : ∀ k, (g k).val < 2 ^ n) (hm : ∀ k, ∀ j : Fin 4, hasB ((g k).val : Int) j.val = true → hasB ((g (k + 1)).val : Int) j.val = true)
    (hst : ∀ k, g k = g (k + 1) → g (k + 1) = g (k + 2)) : ∀ t, g (n - 1 + t) = g (n - 1) := by
  have key : ∀ k, (∃ i, i < k ∧ g i = g (i + 1)) ∨ k + 1 ≤ cntN (g k).val := by
    intro k
    induction k with
    | zero => exact .inr (cnt_pt _ h0)
    | succ k ih =>
      rcases ih with ⟨i, hi, e⟩ | h
      · exact .inl ⟨i, by omega, e⟩
      · rcases cnt_grow (g k) (g (k + 1)) (hm k) with e | e
        · exact .inl ⟨k, by omega, e⟩
        · exact .inr (by omega)
  obtain ⟨i, hi, e⟩ : ∃ i, i < n ∧ g i = g (i + 1) := by
    rcases key n with h | h
    · exact h
    · have := cnt_top ⟨n, by omega⟩ (g n) (hlt n)
      dsimp only at this
      omega
  have hs : ∀ t, g (i + t) = g (i + t + 1) := by
    intro t
    induction t with
    | zero => exact e
    | succ t ih => exact hst _ ih
  have hs2 : ∀ t, g (i + t) = g i := by
    intro t
    induction t with
    | zero => rfl
    | succ t ih => exact (hs t).symm.trans ih
  intro t
  rw [show n - 1 + t = i + (n - 1 - i + t) by omega, hs2, show n - 1 = i + (n - 1 - i) by omega, hs2]

theorem nat16 {a b : Fin 16} (h : (a.val : Int) = (b.val : Int)) : a = b := Fin.ext (by omega)
/-- what a power relates, a power below n does -/
theorem short {xs : List Int} (h : Rl xs.length xs) (i j : Nat) (hi : i < xs.length) (hj : j < xs.length) (t : Nat) (ht : hB (powL xs t) i j = true) : ∃ s, s < xs.length ∧ hB (powL xs s) i j = true := by
  have h1 := h.one
  have h4 := h.four
  have hr := fun k => (h.up k).row i
  obtain ⟨g, hg⟩ : ∃ g : Nat → Fin 16, ∀ k, rowAt (upL xs k) i = ((g k).val : Int) ∧ (g k).val < 2 ^ xs.length := ⟨fun k => (hr k).choose, fun k => (hr k).choose_spec⟩
  have hnext : ∀ k, g k = g (k + 1) → g (k + 1) = g (k + 2) := by
    intro k e
    have e1 : rowAt (upL xs k) i = rowAt (upL xs (k + 1)) i := by rw [(hg k).1, (hg (k + 1)).1, e]
    have hrow : ∀ k, rowAt (upL xs (k + 1)) i = bits .or .i64 (rowAt (upL xs k) i) (imgTo xs (rowAt (upL xs k) i) xs.length) := by
      intro k
      show rowAt (eitherL (upL xs k) (compL (upL xs k) xs)) i = _
      unfold eitherL
      rw [zipAt _ _ _ _ (by rw [(h.up k).len]; exact hi) (by rw [compL_len, (h.up k).len]; exact hi)]
      unfold compL
      rw [rowAt_map _ _ _ (by rw [(h.up k).len]; exact hi)]
    apply nat16
    rw [← (hg (k + 1)).1, ← (hg (k + 2)).1, hrow (k + 1), ← e1]
    exact e1.trans (hrow k)
  have hmono : ∀ k, ∀ j : Fin 4, hasB ((g k).val : Int) j.val = true → hasB ((g (k + 1)).val : Int) j.val = true := by
    intro k j e
    have hrow : rowAt (upL xs (k + 1)) i = bits .or .i64 (rowAt (upL xs k) i) (rowAt (compL (upL xs k) xs) i) := by
      show rowAt (eitherL (upL xs k) (compL (upL xs k) xs)) i = _
      unfold eitherL
      rw [zipAt _ _ _ _ (by rw [(h.up k).len]; exact hi) (by rw [compL_len, (h.up k).len]; exact hi)]
    obtain ⟨y, hy, _⟩ := ((h.up k).comp h).row i
    rw [← (hg (k + 1)).1, hrow, (hg k).1, hy, b_or (g k) y j, e, Bool.true_or]
  have h0 : g 0 ≠ 0 := by
    intro e
    have e2 := (hg 0).1
    rw [e] at e2
    have e3 : rowAt (sameL xs.length) i = 0 := e2
    rw [sameL_at _ _ hi] at e3
    have e4 := b_pt ⟨i, by omega⟩ ⟨i, by omega⟩
    dsimp only at e4
    rw [e3, b_zero ⟨i, by omega⟩] at e4
    exact absurd e4 (by simp)
  have hgr := grow h4 g h0 (fun k => (hg k).2) hmono hnext
  by_cases hlt : t < xs.length
  · exact ⟨t, hlt, ht⟩
  · have hup := (hB_up h i j hi hj t).2 ⟨t, Nat.le_refl _, ht⟩
    have e := hgr (t - (xs.length - 1))
    rw [show xs.length - 1 + (t - (xs.length - 1)) = t by omega] at e
    have hup2 : hB (upL xs (xs.length - 1)) i j = true := by
      unfold hB at hup ⊢
      rw [(hg _).1] at hup ⊢
      rw [← e]
      exact hup
    obtain ⟨s, hs, e⟩ := (hB_up h i j hi hj _).1 hup2
    exact ⟨s, by omega, e⟩
/-- what a power from 1 on relates, one from 1 to n does -/
theorem short1 {xs : List Int} (h : Rl xs.length xs) (i j : Nat) (hi : i < xs.length) (hj : j < xs.length) (t : Nat) (h1 : 1 ≤ t) (ht : hB (powL xs t) i j = true) : ∃ s, 1 ≤ s ∧ s ≤ xs.length ∧ hB (powL xs s) i j = true := by
  obtain ⟨u, rfl⟩ : ∃ u, t = u + 1 := ⟨t - 1, by omega⟩
  obtain ⟨l, hl, e1, e2⟩ := (hB_comp (h.pow u) h i j hi hj).1 ht
  obtain ⟨s, hs, e⟩ := short h i l hi hl u e1
  exact ⟨s + 1, by omega, by omega, (hB_comp (h.pow s) h i j hi hj).2 ⟨l, hl, e, e2⟩⟩

theorem Rl.reachTo {xs : List Int} (h : Rl xs.length xs) : ∀ k, Rl xs.length (reachTo xs k)
  | 0 => h
  | k + 1 => (Rl.reachTo h k).either ((Rl.reachTo h k).comp h)
theorem hB_pow1 {xs : List Int} (h : Rl xs.length xs) (i j : Nat) (hi : i < xs.length) (hj : j < xs.length) : hB (powL xs 1) i j = hB xs i j := by
  have h4 := h.four
  rw [Bool.eq_iff_iff, show powL xs 1 = compL (sameL xs.length) xs from rfl, hB_comp (Rl.same h.one h4) h i j hi hj]
  constructor
  · rintro ⟨l, hl, e1, e2⟩
    rw [hB_same h4 i l hi hl] at e1
    have := of_decide_eq_true e1
    subst this
    exact e2
  · intro e
    exact ⟨i, hi, by rw [hB_same h4 i i hi hi]; exact decide_eq_true rfl, e⟩
theorem hB_reachTo {xs : List Int} (h : Rl xs.length xs) (i j : Nat) (hi : i < xs.length) (hj : j < xs.length) (k : Nat) : hB (reachTo xs k) i j = true ↔ ∃ t, 1 ≤ t ∧ t ≤ k + 1 ∧ hB (powL xs t) i j = true := by
  induction k generalizing j with
  | zero =>
    constructor
    · intro e; exact ⟨1, Nat.le_refl _, Nat.le_refl _, by rw [hB_pow1 h i j hi hj]; exact e⟩
    · rintro ⟨t, ht, ht2, e⟩
      obtain rfl : t = 1 := by omega
      rw [hB_pow1 h i j hi hj] at e
      exact e
  | succ k ih =>
    show hB (eitherL (reachTo xs k) (compL (reachTo xs k) xs)) i j = true ↔ _
    rw [hB_either (h.reachTo k) ((h.reachTo k).comp h) i j hi hj, Bool.or_eq_true, ih j hj, hB_comp (h.reachTo k) h i j hi hj]
    constructor
    · rintro (⟨t, ht, ht2, e⟩ | ⟨l, hl, e1, e2⟩)
      · exact ⟨t, ht, by omega, e⟩
      · obtain ⟨t, ht, ht2, e⟩ := (ih l hl).1 e1
        exact ⟨t + 1, by omega, by omega, (hB_comp (h.pow t) h i j hi hj).2 ⟨l, hl, e, e2⟩⟩
    · rintro ⟨t, ht, ht2, e⟩
      by_cases hk : t ≤ k + 1
      · exact .inl ⟨t, ht, hk, e⟩
      · obtain rfl : t = k + 1 + 1 := by omega
        obtain ⟨l, hl, e1, e2⟩ := (hB_comp (h.pow (k + 1)) h i j hi hj).1 e
        exact .inr ⟨l, hl, (ih l hl).2 ⟨k + 1, by omega, Nat.le_refl _, e1⟩, e2⟩
theorem Rl.reach {xs : List Int} (h : Rl xs.length xs) : Rl xs.length (reachL xs) := h.reachTo _
theorem hB_reach {xs : List Int} (h : Rl xs.length xs) (i j : Nat) (hi : i < xs.length) (hj : j < xs.length) : hB (reachL xs) i j = true ↔ ∃ t, 1 ≤ t ∧ hB (powL xs t) i j = true := by
  rw [show reachL xs = reachTo xs xs.length from rfl, hB_reachTo h i j hi hj]
  constructor
  · rintro ⟨t, h1, _, e⟩
    exact ⟨t, h1, e⟩
  · rintro ⟨t, h1, e⟩
    obtain ⟨s, hs, hs2, e⟩ := short1 h i j hi hj t h1 e
    exact ⟨s, hs, by omega, e⟩
/-- the powers from s to k, together -/
def fromL (xs : List Int) (s : Nat) : Nat → List Int
  | 0 => powL xs s
  | k + 1 => eitherL (fromL xs s k) (powL xs (s + k + 1))
theorem Rl.from {xs : List Int} (h : Rl xs.length xs) (s : Nat) : ∀ k, Rl xs.length (fromL xs s k)
  | 0 => h.pow s
  | k + 1 => (Rl.from h s k).either (h.pow _)
theorem hB_from {xs : List Int} (h : Rl xs.length xs) (s i j : Nat) (hi : i < xs.length) (hj : j < xs.length) (k : Nat) : hB (fromL xs s k) i j = true ↔ ∃ t, s ≤ t ∧ t ≤ s + k ∧ hB (powL xs t) i j = true := by
  induction k with
  | zero =>
    constructor
    · intro e; exact ⟨s, Nat.le_refl _, Nat.le_refl _, e⟩
    · rintro ⟨t, ht, ht2, e⟩
      obtain rfl : t = s := by omega
      exact e
  | succ k ih =>
    show hB (eitherL (fromL xs s k) (powL xs (s + k + 1))) i j = true ↔ _
    rw [hB_either (h.from s k) (h.pow _) i j hi hj, Bool.or_eq_true, ih]
    constructor
    · rintro (⟨t, ht, ht2, e⟩ | e)
      · exact ⟨t, ht, by omega, e⟩
      · exact ⟨_, by omega, Nat.le_refl _, e⟩
    · rintro ⟨t, ht, ht2, e⟩
      by_cases hk : t ≤ s + k
      · exact .inl ⟨t, ht, hk, e⟩
      · obtain rfl : t = s + k + 1 := by omega
        exact .inr e
/-- the powers from 0 on, together -/
def starL (xs : List Int) : List Int := eitherL (reachL xs) (sameL xs.length)
theorem Rl.star {xs : List Int} (h : Rl xs.length xs) : Rl xs.length (starL xs) := h.reach.either (Rl.same h.one h.four)
theorem from_reach {xs : List Int} (h : Rl xs.length xs) {m a : Nat} (r : Rep xs m a) : fromL xs 1 (m - 1) = reachL xs := by
  have hm := r.lt
  refine (h.from 1 _).ext h.reach fun i j hi hj => ?_
  rw [Bool.eq_iff_iff, hB_from h 1 i j hi hj, hB_reach h i j hi hj]
  constructor
  · rintro ⟨t, h1, _, e⟩
    exact ⟨t, h1, e⟩
  · rintro ⟨t, h1, e⟩
    obtain ⟨s, h2, h3, _, h5⟩ := r.cover 1 (Nat.le_refl _) t h1
    exact ⟨s, h2, by omega, by rw [← h5]; exact e⟩
theorem from_star {xs : List Int} (h : Rl xs.length xs) {m a : Nat} (r : Rep xs m a) : fromL xs 0 m = starL xs := by
  refine (h.from 0 _).ext h.star fun i j hi hj => ?_
  unfold starL
  rw [Bool.eq_iff_iff, hB_from h 0 i j hi hj, hB_either h.reach (Rl.same h.one h.four) i j hi hj, Bool.or_eq_true, hB_reach h i j hi hj]
  constructor
  · rintro ⟨t, _, _, e⟩
    by_cases h0 : t = 0
    · subst h0; exact .inr e
    · exact .inl ⟨t, by omega, e⟩
  · rintro (⟨t, h1, e⟩ | e)
    · obtain ⟨s, _, h3, _, h5⟩ := r.cover 0 (by omega) t (by omega)
      exact ⟨s, by omega, by omega, by rw [← h5]; exact e⟩
    · exact ⟨0, by omega, by omega, e⟩

/-! the first power that comes again, and distances, as told -/
/-- where the powers come round -/
def roundM (xs : List Int) : Nat := ((List.range 65537).find? fun m => (List.range m).any fun a => decide (powL xs a = powL xs m)).getD 0
def roundA (xs : List Int) : Nat := ((List.range (roundM xs)).find? fun a => decide (powL xs a = powL xs (roundM xs))).getD 0
theorem round_eq {xs : List Int} (h : Rl xs.length xs) {m a : Nat} (r : Rep xs m a) : roundM xs = m ∧ roundA xs = a := by
  have hm : m ≤ 65536 := new_le h m r.new
  have e1 : roundM xs = m := by
    have e : ((List.range 65537).find? fun m => (List.range m).any fun a => decide (powL xs a = powL xs m)) = some m := by
      rw [List.find?_range_eq_some]
      refine ⟨?_, List.mem_range.2 (by omega), ?_⟩
      · rw [List.any_eq_true]
        exact ⟨a, List.mem_range.2 r.lt, decide_eq_true r.eq.symm⟩
      · intro j hj
        rw [Bool.not_eq_true', List.any_eq_false]
        intro i hi
        have := r.new i j (List.mem_range.1 hi) hj
        simp [this]
    unfold roundM
    rw [e]
    rfl
  refine ⟨e1, ?_⟩
  have e : ((List.range m).find? fun a => decide (powL xs a = powL xs m)) = some a := by
    rw [List.find?_range_eq_some]
    refine ⟨decide_eq_true r.eq.symm, List.mem_range.2 r.lt, ?_⟩
    intro j hj
    have : powL xs j ≠ powL xs m := by rw [r.eq]; exact r.new j a hj r.lt
    simp [this]
  unfold roundA
  rw [e1, e]
  rfl
/-- the distance of two points, if there is one -/
def farO (xs : List Int) (i j : Nat) : Option Nat := (List.range xs.length).find? fun k => hB (powL xs k) i j
theorem far_some {xs : List Int} (h : Rl xs.length xs) (i j : Nat) (hi : i < xs.length) (hj : j < xs.length) (k : Nat) (hk : hB (powL xs k) i j = true) (hn : ∀ t, t < k → hB (powL xs t) i j = false) : farO xs i j = some k := by
  obtain ⟨s, hs, e⟩ := short h i j hi hj k hk
  have hks : k ≤ s := by
    refine Nat.le_of_not_lt fun hlt => ?_
    rw [hn s hlt] at e
    cases e
  unfold farO
  rw [List.find?_range_eq_some]
  exact ⟨hk, List.mem_range.2 (by omega), fun t ht => by rw [hn t ht]; rfl⟩
theorem far_none {xs : List Int} (i j : Nat) (hn : ∀ t, t < xs.length → hB (powL xs t) i j = false) : farO xs i j = none := by
  unfold farO
  rw [List.find?_eq_none]
  intro t ht
  rw [hn t (List.mem_range.1 ht)]
  simp
theorem far_none' {xs : List Int} (i j : Nat) {m a : Nat} (r : Rep xs m a) (hn : ∀ t, t ≤ m → hB (powL xs t) i j = false) : farO xs i j = none := by
  refine far_none i j fun t _ => ?_
  obtain ⟨s, _, h3, _, h5⟩ := r.cover 0 (by omega) t (by omega)
  rw [h5]
  exact hn s h3
end Go.Proofs.YthdnpcpimggjnaaGreatDoor
