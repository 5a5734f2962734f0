/-
  Forests on at most 4 points: their least points, two classes joined; equivalences by pairs; relations told by a test of two points.
-/
import Derived.Test.YtebkeebgjjmdbabHA
namespace Go.Proofs.Ytebkeebgjjmdbab
open Go.RowKit

/-- the lesser point that a point is linked to, or itself -/
def lk (ps : List Nat) (i : Nat) : Nat := ps.getD i 0
/-- the least point of a class -/
def rt (ps : List Nat) (i : Nat) : Nat := lk ps (lk ps (lk ps i))
/-- two classes joined -/
def linkL (ps : List Nat) (x y : Nat) : List Nat :=
  if rt ps x < rt ps y then ps.set (rt ps y) (rt ps x) else if rt ps y < rt ps x then ps.set (rt ps x) (rt ps y) else ps
/-- links lead to lesser points -/
def Fo (ps : List Nat) : Prop := ∃ (a : Fin 2) (b : Fin 3) (c : Fin 4), ps = [0, a.val, b.val, c.val]

theorem fo_lk' : ∀ (a : Fin 2) (b : Fin 3) (c i : Fin 4), lk [0, a.val, b.val, c.val] i.val ≤ i.val := by decide +kernel
theorem fo_rt' : ∀ (a : Fin 2) (b : Fin 3) (c i : Fin 4), lk [0, a.val, b.val, c.val] (rt [0, a.val, b.val, c.val] i.val) = rt [0, a.val, b.val, c.val] i.val ∧ rt [0, a.val, b.val, c.val] i.val ≤ i.val ∧
    rt [0, a.val, b.val, c.val] (lk [0, a.val, b.val, c.val] i.val) = rt [0, a.val, b.val, c.val] i.val ∧ (lk [0, a.val, b.val, c.val] i.val = i.val → rt [0, a.val, b.val, c.val] i.val = i.val) := by decide +kernel
theorem fo_link' : ∀ (a : Fin 2) (b : Fin 3) (c x y : Fin 4), ∃ (a' : Fin 2) (b' : Fin 3) (c' : Fin 4), linkL [0, a.val, b.val, c.val] x.val y.val = [0, a'.val, b'.val, c'.val] := by decide +kernel
theorem rt_link' : ∀ (a : Fin 2) (b : Fin 3) (c x y i : Fin 4), rt (linkL [0, a.val, b.val, c.val] x.val y.val) i.val =
    if rt [0, a.val, b.val, c.val] i.val = rt [0, a.val, b.val, c.val] x.val ∨ rt [0, a.val, b.val, c.val] i.val = rt [0, a.val, b.val, c.val] y.val then min (rt [0, a.val, b.val, c.val] x.val) (rt [0, a.val, b.val, c.val] y.val) else rt [0, a.val, b.val, c.val] i.val := by decide +kernel
theorem Fo.le {ps : List Nat} (h : Fo ps) (i : Nat) (hi : i < 4) : lk ps i ≤ i := by
  obtain ⟨a, b, c, rfl⟩ := h
  exact fo_lk' a b c ⟨i, hi⟩
theorem Fo.fix {ps : List Nat} (h : Fo ps) (i : Nat) (hi : i < 4) : lk ps (rt ps i) = rt ps i := by
  obtain ⟨a, b, c, rfl⟩ := h
  exact (fo_rt' a b c ⟨i, hi⟩).1
theorem Fo.rle {ps : List Nat} (h : Fo ps) (i : Nat) (hi : i < 4) : rt ps i ≤ i := by
  obtain ⟨a, b, c, rfl⟩ := h
  exact (fo_rt' a b c ⟨i, hi⟩).2.1
theorem Fo.up {ps : List Nat} (h : Fo ps) (i : Nat) (hi : i < 4) : rt ps (lk ps i) = rt ps i := by
  obtain ⟨a, b, c, rfl⟩ := h
  exact (fo_rt' a b c ⟨i, hi⟩).2.2.1
theorem Fo.top {ps : List Nat} (h : Fo ps) (i : Nat) (hi : i < 4) (e : lk ps i = i) : rt ps i = i := by
  obtain ⟨a, b, c, rfl⟩ := h
  exact (fo_rt' a b c ⟨i, hi⟩).2.2.2 e
theorem Fo.link {ps : List Nat} (h : Fo ps) (x y : Nat) (hx : x < 4) (hy : y < 4) : Fo (linkL ps x y) := by
  obtain ⟨a, b, c, rfl⟩ := h
  exact fo_link' a b c ⟨x, hx⟩ ⟨y, hy⟩
theorem Fo.len {ps : List Nat} (h : Fo ps) : ps.length = 4 := by
  obtain ⟨a, b, c, rfl⟩ := h
  rfl
theorem rt_link {ps : List Nat} (h : Fo ps) (x y i : Nat) (hx : x < 4) (hy : y < 4) (hi : i < 4) :
    rt (linkL ps x y) i = if rt ps i = rt ps x ∨ rt ps i = rt ps y then min (rt ps x) (rt ps y) else rt ps i := by
  obtain ⟨a, b, c, rfl⟩ := h
  exact rt_link' a b c ⟨x, hx⟩ ⟨y, hy⟩ ⟨i, hi⟩
theorem lk_set (ps : List Nat) (k v i : Nat) (hk : k < ps.length) : lk (ps.set k v) i = if i = k then v else lk ps i := by
  unfold lk
  rw [List.getD_eq_getElem?_getD, List.getD_eq_getElem?_getD, List.getElem?_set]
  by_cases h : i = k
  · subst h
    rw [if_pos rfl, if_pos hk, if_pos rfl]
    rfl
  · rw [if_neg (fun e => h e.symm), if_neg h]

/-- no links -/
def fo0 : List Nat := [0, 1, 2, 3]
theorem Fo.zero : Fo fo0 := ⟨1, 2, 3, rfl⟩
/-- pairs joined, one by one -/
def linkAcc {n : Nat} (pre : List (Fin n × Fin n)) : List Nat := pre.foldl (fun ps p => linkL ps p.1.val p.2.val) fo0
theorem linkAcc_snoc {n : Nat} (pre : List (Fin n × Fin n)) (p : Fin n × Fin n) : linkAcc (pre ++ [p]) = linkL (linkAcc pre) p.1.val p.2.val := by
  unfold linkAcc
  rw [List.foldl_append]
  rfl
theorem rev_ind {α : Type} {P : List α → Prop} (h0 : P []) (h1 : ∀ l a, P l → P (l ++ [a])) (l : List α) : P l := by
  have h : ∀ (m : List α), P m.reverse := by
    intro m
    induction m with
    | nil => exact h0
    | cons a m ih => rw [List.reverse_cons]; exact h1 _ _ ih
  have := h l.reverse
  rwa [List.reverse_reverse] at this
theorem Fo.acc {n : Nat} (h4 : n ≤ 4) (pre : List (Fin n × Fin n)) : Fo (linkAcc pre) := by
  refine rev_ind (P := fun pre => Fo (linkAcc pre)) Fo.zero ?_ pre
  intro l p ih
  rw [linkAcc_snoc]
  exact ih.link _ _ (by have := p.1.isLt; omega) (by have := p.2.isLt; omega)
/-- what is joined is in one class -/
theorem acc_has {n : Nat} (h4 : n ≤ 4) (pre : List (Fin n × Fin n)) : ∀ p, p ∈ pre → rt (linkAcc pre) p.1.val = rt (linkAcc pre) p.2.val := by
  refine rev_ind (P := fun pre => ∀ p, p ∈ pre → rt (linkAcc pre) p.1.val = rt (linkAcc pre) p.2.val) (fun p hp => by cases hp) ?_ pre
  intro l q ih p hp
  have F := Fo.acc h4 l
  have q1 : q.1.val < 4 := by have := q.1.isLt; omega
  have q2 : q.2.val < 4 := by have := q.2.isLt; omega
  have p1 : p.1.val < 4 := by have := p.1.isLt; omega
  have p2 : p.2.val < 4 := by have := p.2.isLt; omega
  rw [linkAcc_snoc, rt_link F _ _ _ q1 q2 p1, rt_link F _ _ _ q1 q2 p2]
  rcases List.mem_append.1 hp with h | h
  · rw [ih p h]
  · rw [List.mem_singleton.1 h, if_pos (.inl rfl), if_pos (.inr rfl)]
/-- classes are the least ones -/
theorem acc_least {n : Nat} (h4 : n ≤ 4) (Q : Nat → Nat → Prop) (hr : ∀ i, i < n → Q i i) (hs : ∀ i j, i < n → j < n → Q i j → Q j i) (ht : ∀ i j k, i < n → j < n → k < n → Q i j → Q j k → Q i k)
    (pre : List (Fin n × Fin n)) (hp : ∀ p, p ∈ pre → Q p.1.val p.2.val) : ∀ i j, i < n → j < n → rt (linkAcc pre) i = rt (linkAcc pre) j → Q i j := by
  revert hp
  refine rev_ind (P := fun pre => (∀ p, p ∈ pre → Q p.1.val p.2.val) → ∀ i j, i < n → j < n → rt (linkAcc pre) i = rt (linkAcc pre) j → Q i j) ?_ ?_ pre
  · intro _ i j hi hj e
    have h0 : ∀ k : Fin 4, rt fo0 k.val = k.val := by decide +kernel
    have e2 : rt fo0 i = rt fo0 j := e
    rw [h0 ⟨i, by omega⟩, h0 ⟨j, by omega⟩] at e2
    have e3 : i = j := e2
    subst e3
    exact hr i hi
  · intro l q ih hp i j hi hj e
    have ih := ih fun p h => hp p (List.mem_append.2 (.inl h))
    have F := Fo.acc h4 l
    have q1 := q.1.isLt
    have q2 := q.2.isLt
    have hQ := hp q (List.mem_append.2 (.inr (List.mem_singleton.2 rfl)))
    have hQ' := hs _ _ q1 q2 hQ
    rw [linkAcc_snoc, rt_link F _ _ _ (by omega) (by omega) (by omega), rt_link F _ _ _ (by omega) (by omega) (by omega)] at e
    -- every point of the two classes is related to both points that are joined
    have key : ∀ k, k < n → (rt (linkAcc l) k = rt (linkAcc l) q.1.val ∨ rt (linkAcc l) k = rt (linkAcc l) q.2.val) → Q k q.1.val := by
      intro k hk h
      rcases h with h | h
      · exact ih k _ hk q1 h
      · exact ht _ _ _ hk q2 q1 (ih k _ hk q2 h) hQ'
    by_cases h1 : rt (linkAcc l) i = rt (linkAcc l) q.1.val ∨ rt (linkAcc l) i = rt (linkAcc l) q.2.val
    · by_cases h2 : rt (linkAcc l) j = rt (linkAcc l) q.1.val ∨ rt (linkAcc l) j = rt (linkAcc l) q.2.val
      · exact ht _ _ _ hi q1 hj (key i hi h1) (hs _ _ hj q1 (key j hj h2))
      · rw [if_pos h1, if_neg h2] at e
        exact absurd (by omega) h2
    · by_cases h2 : rt (linkAcc l) j = rt (linkAcc l) q.1.val ∨ rt (linkAcc l) j = rt (linkAcc l) q.2.val
      · rw [if_neg h1, if_pos h2] at e
        exact absurd (by omega) h1
      · rw [if_neg h1, if_neg h2] at e
        exact ih i j hi hj e

/-! relations told by a test of two points -/
/-- the pairs that pass, among the first m -/
def testTo (n : Nat) (f : Nat → Nat → Bool) (m : Nat) : List (Fin n × Fin n) := ((allP n).take m).filter fun p => f p.1.val p.2.val
theorem testTo_step (n : Nat) (h4 : n ≤ 4) (f : Nat → Nat → Bool) (i j : Fin n) :
    testTo n f (i.val * n + j.val + 1) = testTo n f (i.val * n + j.val) ++ (if f i.val j.val then [(i, j)] else []) := by
  have h := allP_at ⟨n, by omega⟩ i j
  unfold testTo
  rw [List.take_add_one, h, List.filter_append]
  congr 1
  by_cases hb : f i.val j.val = true <;> simp [hb]
def putAcc (n : Nat) (pre : List (Fin n × Fin n)) : List Int := pre.foldl (fun zs p => addPair zs p.1.val p.2.val) (List.replicate n 0)
theorem putAcc_snoc (n : Nat) (pre : List (Fin n × Fin n)) (p : Fin n × Fin n) : putAcc n (pre ++ [p]) = addPair (putAcc n pre) p.1.val p.2.val := by
  unfold putAcc
  rw [List.foldl_append]
  rfl
theorem putAcc_len (n : Nat) (pre : List (Fin n × Fin n)) : (putAcc n pre).length = n := by
  refine rev_ind (P := fun pre => (putAcc n pre).length = n) (by simp [putAcc]) ?_ pre
  intro l a ih
  rw [putAcc_snoc, addPair_len, ih]
/-- the relation made by the first m pairs -/
def testAcc (n : Nat) (f : Nat → Nat → Bool) (m : Nat) : List Int := putAcc n (testTo n f m)
theorem testAcc_len (n : Nat) (f : Nat → Nat → Bool) (m : Nat) : (testAcc n f m).length = n := putAcc_len n _
theorem testAcc_zero (n : Nat) (f : Nat → Nat → Bool) : testAcc n f 0 = List.replicate n 0 := by simp [testAcc, testTo, putAcc]
theorem testAcc_step (n : Nat) (h4 : n ≤ 4) (f : Nat → Nat → Bool) (i j : Nat) (hi : i < n) (hj : j < n) :
    testAcc n f (i * n + (j + 1)) = if f i j then addPair (testAcc n f (i * n + j)) i j else testAcc n f (i * n + j) := by
  have h := testTo_step n h4 f ⟨i, hi⟩ ⟨j, hj⟩
  unfold testAcc
  rw [← Nat.add_assoc, h]
  by_cases hb : f i j = true
  · rw [if_pos hb, if_pos hb, putAcc_snoc]
  · rw [if_neg hb, if_neg hb, List.append_nil]
/-- the relation of all pairs that pass -/
def testR (n : Nat) (f : Nat → Nat → Bool) : List Int := testAcc n f (n * n)
theorem testR_fold {n : Nat} (h1 : 1 ≤ n) (h4 : n ≤ 4) (pre : List (Fin n × Fin n)) : Rl n (putAcc n pre) ∧ ∀ i j, i < n → j < n → (hB (putAcc n pre) i j = true ↔ ∃ p, p ∈ pre ∧ p.1.val = i ∧ p.2.val = j) := by
  refine rev_ind (P := fun pre => Rl n (putAcc n pre) ∧ ∀ i j, i < n → j < n → (hB (putAcc n pre) i j = true ↔ ∃ p, p ∈ pre ∧ p.1.val = i ∧ p.2.val = j)) ?_ ?_ pre
  · refine ⟨Rl.zeros h1 h4, fun i j hi hj => ?_⟩
    rw [show putAcc n [] = List.replicate n 0 from rfl, hB_zeros n i j (by omega)]
    exact ⟨fun h => (by cases h), fun ⟨p, hp, _⟩ => (by cases hp)⟩
  · rintro l a ⟨R, ih⟩
    have a1 := a.1.isLt
    have a2 := a.2.isLt
    obtain ⟨y, hy, hy2⟩ := R.row a.1.val
    obtain ⟨z, hz, hz2⟩ := b_ptlt ⟨n, by omega⟩ a.2
    have hz' : pt a.2.val = (z.val : Int) := hz
    obtain ⟨u, hu, hu2⟩ := b_orlt ⟨n, by omega⟩ y z hy2 hz2
    have hat := fun i => addPair_at (putAcc n l) a.1.val a.2.val i (by rw [putAcc_len]; exact a1)
    rw [putAcc_snoc]
    refine ⟨Rl.mk' (by rw [addPair_len, putAcc_len]) h1 h4 fun i hi => ?_, fun i j hi hj => ?_⟩
    · rw [hat i]
      by_cases e : i = a.1.val
      · rw [if_pos e, hy, hz']
        exact ⟨u, hu, hu2⟩
      · rw [if_neg e]
        exact R.row i
    · have hih := ih i j hi hj
      unfold hB at hih ⊢
      rw [hat i]
      by_cases e : i = a.1.val
      · rw [if_pos e, hy, hz']
        have ho := b_or y z ⟨j, by omega⟩
        have hp := b_pt ⟨a.2.val, by omega⟩ ⟨j, by omega⟩
        rw [show pt (⟨a.2.val, by omega⟩ : Fin 4).val = pt a.2.val from rfl, hz'] at hp
        rw [show hasB (bits .or .i64 (y.val : Int) (z.val : Int)) j = (hasB (y.val : Int) j || hasB (z.val : Int) j) from ho, show hasB (z.val : Int) j = decide (j = a.2.val) from hp]
        rw [e, hy] at hih
        rw [Bool.or_eq_true, hih, decide_eq_true_iff]
        constructor
        · rintro (⟨p, hp, h1, h2⟩ | h1)
          · exact ⟨p, List.mem_append.2 (.inl hp), by rw [h1, e], h2⟩
          · exact ⟨a, List.mem_append.2 (.inr (List.mem_singleton.2 rfl)), e.symm, h1.symm⟩
        · rintro ⟨p, hp, h1, h2⟩
          rcases List.mem_append.1 hp with h | h
          · exact .inl ⟨p, h, by rw [h1, e], h2⟩
          · rw [List.mem_singleton.1 h] at h2
            exact .inr h2.symm
      · rw [if_neg e, hih]
        constructor
        · rintro ⟨p, hp, h1, h2⟩
          exact ⟨p, List.mem_append.2 (.inl hp), h1, h2⟩
        · rintro ⟨p, hp, h1, h2⟩
          rcases List.mem_append.1 hp with h | h
          · exact ⟨p, h, h1, h2⟩
          · rw [List.mem_singleton.1 h] at h1
            exact absurd h1.symm e
theorem Rl.test {n : Nat} (h1 : 1 ≤ n) (h4 : n ≤ 4) (f : Nat → Nat → Bool) : Rl n (testR n f) := (testR_fold h1 h4 _).1
theorem hB_test {n : Nat} (h1 : 1 ≤ n) (h4 : n ≤ 4) (f : Nat → Nat → Bool) (i j : Nat) (hi : i < n) (hj : j < n) : hB (testR n f) i j = f i j := by
  refine bool_iff ?_
  unfold testR testAcc
  rw [(testR_fold h1 h4 _).2 i j hi hj]
  have hl := allP_len ⟨n, by omega⟩
  have ht : (allP n).take (n * n) = allP n := List.take_of_length_le (Nat.le_of_eq hl)
  unfold testTo
  rw [ht]
  constructor
  · rintro ⟨p, hp, rfl, rfl⟩
    exact (List.mem_filter.1 hp).2
  · intro h
    exact ⟨(⟨i, hi⟩, ⟨j, hj⟩), List.mem_filter.2 ⟨mem_allP _, h⟩, rfl, rfl⟩

/-! equivalences -/
def equB (xs : List Int) : Bool := relIn xs && (kindR xs && (kindS xs && kindT xs))
structure Eqv (n : Nat) (xs : List Int) : Prop where
  rl : Rl n xs
  refl : ∀ i, i < n → hB xs i i = true
  symm : ∀ i j, i < n → j < n → hB xs i j = true → hB xs j i = true
  trans : ∀ i j k, i < n → j < n → k < n → hB xs i j = true → hB xs j k = true → hB xs i k = true
theorem kindT_iff {n : Nat} {xs : List Int} (h : Rl n xs) : kindT xs = true ↔ ∀ i j k, i < n → j < n → k < n → hB xs i j = true → hB xs j k = true → hB xs i k = true := by
  unfold kindT
  rw [below_iff (h.comp h) h]
  constructor
  · intro e i j k hi hj hk h1 h2
    exact e i k hi hk ((hB_comp h h i k hi hk).2 ⟨j, hj, h1, h2⟩)
  · intro e i k hi hk hc
    obtain ⟨j, hj, h1, h2⟩ := (hB_comp h h i k hi hk).1 hc
    exact e i j k hi hj hk h1 h2
theorem kindS_iff {n : Nat} {xs : List Int} (h : Rl n xs) : kindS xs = true ↔ ∀ i j, i < n → j < n → hB xs i j = true → hB xs j i = true := by
  unfold kindS
  rw [decide_eq_true_iff]
  constructor
  · intro e i j hi hj h1
    rw [e, hB_turn h i j hi hj] at h1
    exact h1
  · intro e
    refine h.ext h.turn fun i j hi hj => ?_
    rw [hB_turn h i j hi hj]
    exact bool_iff ⟨e i j hi hj, e j i hj hi⟩
theorem equ_iff (xs : List Int) : equB xs = true ↔ Eqv xs.length xs := by
  unfold equB
  constructor
  · intro h
    rw [Bool.and_eq_true, Bool.and_eq_true, Bool.and_eq_true] at h
    obtain ⟨h1, h2, h3, h4⟩ := h
    have R := Rl.of h1
    exact ⟨R, (same_below R).1 h2, (kindS_iff R).1 h3, (kindT_iff R).1 h4⟩
  · intro h
    rw [Bool.and_eq_true, Bool.and_eq_true, Bool.and_eq_true]
    exact ⟨h.rl.ok, (same_below h.rl).2 h.refl, (kindS_iff h.rl).2 h.symm, (kindT_iff h.rl).2 h.trans⟩

/-- the points of a relation's pairs in one class -/
theorem link_iff {n : Nat} {xs : List Int} (R : Rl n xs) (Q : Nat → Nat → Prop) (hr : ∀ i, i < n → Q i i) (hs : ∀ i j, i < n → j < n → Q i j → Q j i) (ht : ∀ i j k, i < n → j < n → k < n → Q i j → Q j k → Q i k)
    (hh : ∀ i j, i < n → j < n → hB xs i j = true → Q i j) (i j : Nat) (hi : i < n) (hj : j < n) (e : rt (linkAcc (pairsOf xs)) i = rt (linkAcc (pairsOf xs)) j) : Q i j := by
  obtain rfl := R.len
  exact acc_least R.four Q hr hs ht _ (fun p hp => hh _ _ p.1.isLt p.2.isLt ((mem_pairs R.four p).1 hp)) i j hi hj e
theorem link_has {n : Nat} {xs : List Int} (R : Rl n xs) (i j : Nat) (hi : i < n) (hj : j < n) (e : hB xs i j = true) : rt (linkAcc (pairsOf xs)) i = rt (linkAcc (pairsOf xs)) j := by
  obtain rfl := R.len
  exact acc_has R.four (pairsOf xs) (⟨i, hi⟩, ⟨j, hj⟩) ((mem_pairs R.four _).2 e)
theorem link_equ {n : Nat} {xs : List Int} (E : Eqv n xs) (i j : Nat) (hi : i < n) (hj : j < n) : rt (linkAcc (pairsOf xs)) i = rt (linkAcc (pairsOf xs)) j ↔ hB xs i j = true :=
  ⟨link_iff E.rl (fun i j => hB xs i j = true) E.refl E.symm E.trans (fun _ _ _ _ h => h) i j hi hj, link_has E.rl i j hi hj⟩

/-- the equivalence of a forest's classes -/
def forestR (n : Nat) (ps : List Nat) : List Int := testR n fun i j => decide (rt ps i = rt ps j)
/-- the join, by powers of the composition -/
theorem join_eq {n : Nat} {xs ys : List Int} (E : Eqv n xs) (F : Eqv n ys) : forestR n (linkAcc (pairsOf (eitherL xs ys))) = reachL (compL xs ys) := by
  have R := E.rl
  have S := F.rl
  have C := R.comp S
  have h1 := R.one
  have h4 := R.four
  have RR : Rl n (reachL (compL xs ys)) := by
    have h := Rl.reach (xs := compL xs ys) (by rw [C.len]; exact C)
    rw [C.len] at h
    exact h
  have C' : Rl (compL xs ys).length (compL xs ys) := by rw [C.len]; exact C
  have hq : ∀ i j, i < n → j < n → (hB (reachL (compL xs ys)) i j = true ↔ ∃ t, 1 ≤ t ∧ hB (powL (compL xs ys) t) i j = true) := fun i j hi hj => hB_reach C' i j (by rw [C.len]; exact hi) (by rw [C.len]; exact hj)
  have hone : ∀ i j, i < n → j < n → hB (compL xs ys) i j = true → hB (reachL (compL xs ys)) i j = true := fun i j hi hj h => (hq i j hi hj).2 ⟨1, Nat.le_refl _, by rw [hB_pow1 C' i j (by rw [C.len]; exact hi) (by rw [C.len]; exact hj)]; exact h⟩
  have hcx : ∀ i j, i < n → j < n → hB xs i j = true → hB (reachL (compL xs ys)) i j = true := fun i j hi hj h => hone i j hi hj ((hB_comp R S i j hi hj).2 ⟨j, hj, h, F.refl j hj⟩)
  have hcy : ∀ i j, i < n → j < n → hB ys i j = true → hB (reachL (compL xs ys)) i j = true := fun i j hi hj h => hone i j hi hj ((hB_comp R S i j hi hj).2 ⟨i, hi, E.refl i hi, h⟩)
  have htr : ∀ i j k, i < n → j < n → k < n → hB (reachL (compL xs ys)) i j = true → hB (reachL (compL xs ys)) j k = true → hB (reachL (compL xs ys)) i k = true := by
    have := reach_trans C'
    rw [below_iff (RR.comp RR) RR] at this
    intro i j k hi hj hk a b
    exact this i k hi hk ((hB_comp RR RR i k hi hk).2 ⟨j, hj, a, b⟩)
  have hcs : ∀ i j, i < n → j < n → hB (compL xs ys) i j = true → hB (reachL (compL xs ys)) j i = true := by
    intro i j hi hj h
    obtain ⟨k, hk, a, b⟩ := (hB_comp R S i j hi hj).1 h
    exact htr j k i hj hk hi (hcy j k hj hk (F.symm k j hk hj b)) (hcx k i hk hi (E.symm i k hi hk a))
  have hsy : ∀ t, 1 ≤ t → ∀ i j, i < n → j < n → hB (powL (compL xs ys) t) i j = true → hB (reachL (compL xs ys)) j i = true := by
    intro t
    induction t with
    | zero => intro h; omega
    | succ t ih =>
      intro _ i j hi hj h
      rcases Nat.eq_zero_or_pos t with e | e
      · subst e
        rw [hB_pow1 C' i j (by rw [C.len]; exact hi) (by rw [C.len]; exact hj)] at h
        exact hcs i j hi hj h
      · have P : Rl n (powL (compL xs ys) t) := by have := C'.pow t; rw [C.len] at this; exact this
        obtain ⟨l, hl, a, b⟩ := (hB_comp P C i j hi hj).1 h
        exact htr j l i hj hl hi (hcs l j hl hj b) (ih e i l hi hl a)
  have hey : Rl n (eitherL xs ys) := R.either S
  refine (Rl.test h1 h4 _).ext RR fun i j hi hj => ?_
  rw [hB_test h1 h4 _ i j hi hj]
  refine bool_iff ?_
  rw [decide_eq_true_iff]
  constructor
  · refine link_iff hey (fun i j => hB (reachL (compL xs ys)) i j = true) (fun i hi => hcx i i hi hi (E.refl i hi)) (fun i j hi hj h => ?_) htr (fun i j hi hj h => ?_) i j hi hj
    · obtain ⟨t, ht, hp⟩ := (hq i j hi hj).1 h
      exact hsy t ht i j hi hj hp
    · rw [hB_either R S i j hi hj, Bool.or_eq_true] at h
      rcases h with h | h
      · exact hcx i j hi hj h
      · exact hcy i j hi hj h
  · intro h
    obtain ⟨t, ht, hp⟩ := (hq i j hi hj).1 h
    have hc : ∀ i j, i < n → j < n → hB (compL xs ys) i j = true → rt (linkAcc (pairsOf (eitherL xs ys))) i = rt (linkAcc (pairsOf (eitherL xs ys))) j := by
      intro i j hi hj h
      obtain ⟨k, hk, a, b⟩ := (hB_comp R S i j hi hj).1 h
      exact (link_has hey i k hi hk (by rw [hB_either R S i k hi hk, a]; rfl)).trans (link_has hey k j hk hj (by rw [hB_either R S k j hk hj, b, Bool.or_true]))
    have hw : ∀ t, 1 ≤ t → ∀ i j, i < n → j < n → hB (powL (compL xs ys) t) i j = true → rt (linkAcc (pairsOf (eitherL xs ys))) i = rt (linkAcc (pairsOf (eitherL xs ys))) j := by
      intro t
      induction t with
      | zero => intro h; omega
      | succ t ih =>
        intro _ i j hi hj h
        rcases Nat.eq_zero_or_pos t with e | e
        · subst e
          rw [hB_pow1 C' i j (by rw [C.len]; exact hi) (by rw [C.len]; exact hj)] at h
          exact hc i j hi hj h
        · have P : Rl n (powL (compL xs ys) t) := by have := C'.pow t; rw [C.len] at this; exact this
          obtain ⟨l, hl, a, b⟩ := (hB_comp P C i j hi hj).1 h
          exact (ih e i l hi hl a).trans (hc l j hl hj b)
    exact hw t ht i j hi hj hp

/-- kept equivalences -/
def keptB (xs ys : List Int) : Bool := belowB (compL xs ys) (compL ys xs)
theorem kept_iff {n : Nat} {xs ys : List Int} (E : Eqv n xs) (S : Rl n ys) : keptB xs ys = true ↔ ∀ i j, i < n → j < n → hB xs i j = true → rowAt (compL ys xs) i = rowAt (compL ys xs) j := by
  have R := E.rl
  unfold keptB
  rw [below_iff (R.comp S) (S.comp R)]
  have hrow : ∀ i j, i < n → j < n → (∀ k, k < n → hB (compL ys xs) i k = hB (compL ys xs) j k) → rowAt (compL ys xs) i = rowAt (compL ys xs) j := by
    intro i j hi hj h
    obtain ⟨y, hy, hy2⟩ := (S.comp R).row i
    obtain ⟨z, hz, hz2⟩ := (S.comp R).row j
    have h4 := R.four
    have := b_ext ⟨n, by omega⟩ y z hy2 hz2 (fun k => by
      have := h k.val k.isLt
      unfold hB at this
      rw [hy, hz] at this
      exact this)
    rw [hy, hz, this]
  constructor
  · intro e i j hi hj hx
    have half : ∀ i j, i < n → j < n → hB xs i j = true → ∀ k, k < n → hB (compL ys xs) i k = true → hB (compL ys xs) j k = true := by
      intro i j hi hj hx k hk h
      obtain ⟨l, hl, a, b⟩ := (hB_comp S R i k hi hk).1 h
      have h2 := e j l hj hl ((hB_comp R S j l hj hl).2 ⟨i, hi, E.symm i j hi hj hx, a⟩)
      obtain ⟨m, hm, c, d⟩ := (hB_comp S R j l hj hl).1 h2
      exact (hB_comp S R j k hj hk).2 ⟨m, hm, c, E.trans m l k hm hl hk d b⟩
    exact hrow i j hi hj fun k hk => bool_iff ⟨half i j hi hj hx k hk, half j i hj hi (E.symm i j hi hj hx) k hk⟩
  · intro e i j hi hj h
    obtain ⟨k, hk, a, b⟩ := (hB_comp R S i j hi hj).1 h
    have h2 : hB (compL ys xs) k j = true := (hB_comp S R k j hk hj).2 ⟨j, hj, b, E.refl j hj⟩
    unfold hB at h2 ⊢
    rw [e i k hi hk a]
    exact h2
end Go.Proofs.Ytebkeebgjjmdbab
