/-
  Ranks: at most the number of points, the same turned, none for no pairs, not more for what is composed with itself.
-/
import Derived.Test.YtpbkgdohfnjjpabQJ
namespace Go.Proofs.Ytpbkgdohfnjjpab
open Go.RowKit

/-- so many rectangles, each one below the relation, have all its pairs -/
def CR (n : Nat) (k : Nat) (xs : List Int) : Prop := ∃ x : List (Int × Int), x.length ≤ k ∧ (∀ r, r ∈ x → isRect n r ∧ ∀ i j, i < n → j < n → hasR r i j = true → hB xs i j = true) ∧ ∀ i j, i < n → j < n → hB xs i j = true → ∃ r, r ∈ x ∧ hasR r i j = true

/-- each rectangle below it is part of a full one -/
theorem rect_full {xs : List Int} (R : Rl xs.length xs) {r : Int × Int} (hr : isRect xs.length r) (hb : ∀ i j, i < xs.length → j < xs.length → hasR r i j = true → hB xs i j = true) (hne : ∃ i j, i < xs.length ∧ j < xs.length ∧ hasR r i j = true) :
    ∃ f, f ∈ fullL xs ∧ ∀ i j, i < xs.length → j < xs.length → hasR r i j = true → hasR f i j = true := by
  obtain ⟨s, t, rfl, hs, ht⟩ := hr
  have h4 := R.four
  have T : Rl xs.length (turnL xs) := R.turn
  have T' : Rl (turnL xs).length (turnL xs) := by rw [T.len]; exact T
  obtain ⟨q, hq, hql, hqj⟩ := relAll_row R (s.val : Int)
  obtain ⟨c, hc, hcl, hcj⟩ := relAll_row T (q.val : Int)
  obtain ⟨d, hd, hdl, hdj⟩ := relAll_row R (c.val : Int)
  have hsc : ∀ i, i < xs.length → hasB (s.val : Int) i = true → hasB (c.val : Int) i = true := fun i hi h => (hcj i hi).2 fun l hl hh => by
    rw [hB_turn R l i hl hi]
    exact (hqj l hl).1 hh i hi h
  have hdq : d = q := b_ext ⟨xs.length, by omega⟩ d q hdl hql (fun l => by
    rw [Bool.eq_iff_iff, hdj l.val l.isLt]
    constructor
    · intro g
      exact (hqj l.val l.isLt).2 fun i hi h => g i hi (hsc i hi h)
    · intro g i hi h
      have := (hcj i hi).1 h l.val l.isLt g
      rw [hB_turn R l.val i l.isLt hi] at this
      exact this)
  have hclo : clo xs (c.val : Int) = (c.val : Int) := by
    unfold clo
    rw [hd, hdq, hc]
  refine ⟨((c.val : Int), relAll xs (c.val : Int)), ?_, fun i j hi hj h => ?_⟩
  · unfold fullL fullTo
    refine List.mem_map.2 ⟨c.val, List.mem_filter.2 ⟨List.mem_range.2 hcl, ?_⟩, rfl⟩
    rw [hclo]
    exact beq_self_eq_true _
  · obtain ⟨h1, h2⟩ := hasR_iff.1 h
    refine hasR_iff.2 ⟨hsc i hi h1, ?_⟩
    show hasB (relAll xs (c.val : Int)) j = true
    rw [hd, hdq]
    exact (hqj j hj).2 fun l hl hl2 => hb l j hl hj (hasR_iff.2 ⟨hl2, h2⟩)
theorem cv_cr {xs : List Int} (R : Rl xs.length xs) {k : Nat} : CV xs.length (fullL xs) k xs → CR xs.length k xs :=
  fun ⟨x, hl, hm, hc⟩ => ⟨x, hl, fun r hr => full_mem R (hm r hr), hc⟩
theorem cr_cv {xs : List Int} (R : Rl xs.length xs) {k : Nat} (h : CR xs.length k xs) : CV xs.length (fullL xs) k xs := by
  obtain ⟨x, hl, hm, hc⟩ := h
  have key : ∀ x : List (Int × Int), (∀ r, r ∈ x → isRect xs.length r ∧ ∀ i j, i < xs.length → j < xs.length → hasR r i j = true → hB xs i j = true) →
      ∃ y : List (Int × Int), y.length ≤ x.length ∧ (∀ f, f ∈ y → f ∈ fullL xs) ∧ ∀ r, r ∈ x → ∀ i j, i < xs.length → j < xs.length → hasR r i j = true → ∃ f, f ∈ y ∧ hasR f i j = true := by
    intro x
    induction x with
    | nil => exact fun _ => ⟨[], Nat.le_refl _, fun _ h => absurd h (by simp), fun r hr => absurd hr (by simp)⟩
    | cons r x ih =>
      intro hm
      obtain ⟨y, hyl, hyf, hyc⟩ := ih fun r hr => hm r (List.mem_cons_of_mem _ hr)
      obtain ⟨h1, h2⟩ := hm r List.mem_cons_self
      by_cases hne : ∃ i j, i < xs.length ∧ j < xs.length ∧ hasR r i j = true
      · obtain ⟨f, hf, hfc⟩ := rect_full R h1 h2 hne
        refine ⟨f :: y, by simp; omega, fun g hg => ?_, fun g hg i j hi hj e => ?_⟩
        · rcases List.mem_cons.1 hg with rfl | hg
          · exact hf
          · exact hyf g hg
        · rcases List.mem_cons.1 hg with rfl | hg
          · exact ⟨f, List.mem_cons_self, hfc i j hi hj e⟩
          · obtain ⟨f2, hf2, e2⟩ := hyc g hg i j hi hj e
            exact ⟨f2, List.mem_cons_of_mem _ hf2, e2⟩
      · refine ⟨y, by simp; omega, hyf, fun g hg i j hi hj e => ?_⟩
        rcases List.mem_cons.1 hg with rfl | hg
        · exact absurd ⟨i, j, hi, hj, e⟩ hne
        · exact hyc g hg i j hi hj e
  obtain ⟨y, hyl, hyf, hyc⟩ := key x hm
  refine ⟨y, by omega, hyf, fun i j hi hj e => ?_⟩
  obtain ⟨r, hr, e2⟩ := hc i j hi hj e
  exact hyc r hr i j hi hj e2
/-- the least number, by rectangles that need not be full -/
theorem least_le {xs : List Int} (R : Rl xs.length xs) {k m : Nat} (h : LeastC xs.length (fullL xs) xs k) (hc : CR xs.length m xs) : k ≤ m := by
  by_cases e : m < k
  · exact absurd (cr_cv R hc) (h.2 m e)
  · omega
theorem cr_turn {n k : Nat} {xs : List Int} (R : Rl n xs) (h : CR n k xs) : CR n k (turnL xs) := by
  obtain ⟨x, hl, hm, hc⟩ := h
  refine ⟨x.map fun r => (r.2, r.1), by rw [List.length_map]; exact hl, fun r hr => ?_, fun i j hi hj e => ?_⟩
  · obtain ⟨q, hq, rfl⟩ := List.mem_map.1 hr
    obtain ⟨⟨s, t, rfl, hs, ht⟩, hb⟩ := hm q hq
    refine ⟨⟨t, s, rfl, ht, hs⟩, fun i j hi hj e => ?_⟩
    rw [hB_turn R i j hi hj]
    obtain ⟨e1, e2⟩ := hasR_iff.1 e
    exact hb j i hj hi (hasR_iff.2 ⟨e2, e1⟩)
  · rw [hB_turn R i j hi hj] at e
    obtain ⟨r, hr, e2⟩ := hc j i hj hi e
    obtain ⟨e1, e2⟩ := hasR_iff.1 e2
    exact ⟨(r.2, r.1), List.mem_map.2 ⟨r, hr, rfl⟩, hasR_iff.2 ⟨e2, e1⟩⟩
theorem four_bits : ∀ b0 b1 b2 b3 : Bool, ∃ u : Fin 16, hasB (u.val : Int) 0 = b0 ∧ hasB (u.val : Int) 1 = b1 ∧ hasB (u.val : Int) 2 = b2 ∧ hasB (u.val : Int) 3 = b3 := by decide +kernel
theorem b_lt : ∀ n : Fin 5, ∀ u : Fin 16, (∀ j : Fin 4, ¬ j.val < n.val → hasB (u.val : Int) j.val = false) → u.val < 2 ^ n.val := by decide +kernel
/-- a set told point by point -/
theorem set_of (n : Nat) (h4 : n ≤ 4) (p : Nat → Bool) : ∃ u : Fin 16, u.val < 2 ^ n ∧ ∀ j, j < n → hasB (u.val : Int) j = p j := by
  obtain ⟨u, h0, h1, h2, h3⟩ := four_bits (decide (0 < n) && p 0) (decide (1 < n) && p 1) (decide (2 < n) && p 2) (decide (3 < n) && p 3)
  have key : ∀ j, j < 4 → hasB (u.val : Int) j = (decide (j < n) && p j) := by
    intro j hj
    rcases (by omega : j = 0 ∨ j = 1 ∨ j = 2 ∨ j = 3) with rfl | rfl | rfl | rfl
    · exact h0
    · exact h1
    · exact h2
    · exact h3
  refine ⟨u, b_lt ⟨n, by omega⟩ u fun j hj => ?_, fun j hj => ?_⟩
  · rw [key j.val j.isLt, decide_eq_false hj]
    rfl
  · rw [key j (by omega), decide_eq_true hj]
    rfl
theorem cr_comp {n k : Nat} {xs : List Int} (R : Rl n xs) (h : CR n k xs) : CR n k (compL xs xs) := by
  obtain ⟨x, hl, hm, hc⟩ := h
  have h4 := R.four
  have hex : ∀ r : Int × Int, ∃ u : Fin 16, u.val < 2 ^ n ∧ ∀ j, j < n → hasB (u.val : Int) j = (List.range n).any fun l => hasB r.2 l && hB xs l j := fun r => set_of n h4 _
  refine ⟨x.map fun r => (r.1, (((hex r).choose).val : Int)), by rw [List.length_map]; exact hl, fun r hr => ?_, fun i j hi hj e => ?_⟩
  · obtain ⟨q, hq, rfl⟩ := List.mem_map.1 hr
    obtain ⟨⟨s, t, rfl, hs, ht⟩, hb⟩ := hm q hq
    have hu := (hex ((s.val : Int), (t.val : Int))).choose_spec
    refine ⟨⟨s, _, rfl, hs, hu.1⟩, fun i j hi hj e => ?_⟩
    obtain ⟨e1, e2⟩ := hasR_iff.1 e
    have e2 : hasB ((((hex ((s.val : Int), (t.val : Int))).choose).val : Nat) : Int) j = true := e2
    rw [hu.2 j hj, List.any_eq_true] at e2
    obtain ⟨l, hl2, e3⟩ := e2
    rw [Bool.and_eq_true] at e3
    have hln := List.mem_range.1 hl2
    exact (hB_comp R R i j hi hj).2 ⟨l, hln, hb i l hi hln (hasR_iff.2 ⟨e1, e3.1⟩), e3.2⟩
  · obtain ⟨l, hl2, e1, e2⟩ := (hB_comp R R i j hi hj).1 e
    obtain ⟨r, hr, e3⟩ := hc i l hi hl2 e1
    obtain ⟨e4, e5⟩ := hasR_iff.1 e3
    refine ⟨(r.1, (((hex r).choose).val : Int)), List.mem_map.2 ⟨r, hr, rfl⟩, hasR_iff.2 ⟨e4, ?_⟩⟩
    show hasB ((((hex r).choose).val : Nat) : Int) j = true
    rw [(hex r).choose_spec.2 j hj, List.any_eq_true]
    exact ⟨l, List.mem_range.2 hl2, by rw [e5, e2]; rfl⟩
/-- rows -/
theorem cr_rows {n : Nat} {xs : List Int} (R : Rl n xs) : CR n n xs := by
  have h4 := R.four
  refine ⟨(List.range n).map fun i => (pt i, rowAt xs i), by simp, fun r hr => ?_, fun i j hi hj e => ?_⟩
  · obtain ⟨i, hi, rfl⟩ := List.mem_map.1 hr
    have hi := List.mem_range.1 hi
    obtain ⟨p, hp, hpl⟩ := b_ptlt ⟨n, by omega⟩ ⟨i, hi⟩
    obtain ⟨y, hy, hyl⟩ := R.row i
    dsimp only at hp
    refine ⟨⟨p, y, by rw [hp, hy], hpl, hyl⟩, fun a j ha hj e => ?_⟩
    obtain ⟨e1, e2⟩ := hasR_iff.1 e
    have e1 : hasB (pt i) a = true := e1
    have := b_pt ⟨i, by omega⟩ ⟨a, by omega⟩
    dsimp only at this
    rw [this, decide_eq_true_iff] at e1
    subst e1
    exact e2
  · refine ⟨(pt i, rowAt xs i), List.mem_map.2 ⟨i, List.mem_range.2 hi, rfl⟩, hasR_iff.2 ⟨?_, e⟩⟩
    have := b_pt ⟨i, by omega⟩ ⟨i, by omega⟩
    dsimp only at this
    rw [this]
    simp
theorem cr_zero {n : Nat} {xs : List Int} : CR n 0 xs ↔ ∀ i j, i < n → j < n → hB xs i j = false := by
  constructor
  · rintro ⟨x, hl, _, hc⟩ i j hi hj
    cases e : hB xs i j with
    | false => rfl
    | true =>
      obtain ⟨r, hr, _⟩ := hc i j hi hj e
      rw [List.eq_nil_of_length_eq_zero (Nat.le_zero.1 hl)] at hr
      cases hr
  · intro h
    exact ⟨[], Nat.le_refl _, fun r hr => absurd hr (by simp), fun i j hi hj e => by rw [h i j hi hj] at e; cases e⟩
/-- all that the law asks -/
theorem ranks {xs : List Int} (R : Rl xs.length xs) : ∃ k m : Nat, (k ≤ (fullL xs).length ∧ LeastC xs.length (fullL xs) xs k) ∧ (k ≤ (fullL (turnL xs)).length ∧ LeastC (turnL xs).length (fullL (turnL xs)) (turnL xs) k) ∧
    (m ≤ (fullL (compL xs xs)).length ∧ LeastC (compL xs xs).length (fullL (compL xs xs)) (compL xs xs) m) ∧ k ≤ xs.length ∧ m ≤ k ∧ (k = 0 ↔ ∀ i j, i < xs.length → j < xs.length → hB xs i j = false) := by
  have T := R.turn
  have C := R.comp R
  have T' : Rl (turnL xs).length (turnL xs) := by rw [T.len]; exact T
  have C' : Rl (compL xs xs).length (compL xs xs) := by rw [C.len]; exact C
  obtain ⟨k, hk, hkl⟩ := least_ex R
  obtain ⟨k2, hk2, hkl2⟩ := least_ex T'
  obtain ⟨m, hm, hml⟩ := least_ex C'
  have c1 := cv_cr R hkl.1
  have c2 := cv_cr T' hkl2.1
  have a1 : k2 ≤ k := least_le T' hkl2 (by rw [T.len]; exact cr_turn R c1)
  have a2 : k ≤ k2 := by
    have h := cr_turn T' c2
    rw [turn_turn R, T.len] at h
    exact least_le R hkl h
  obtain rfl : k2 = k := by omega
  have a3 : m ≤ k2 := least_le C' hml (by rw [C.len]; exact cr_comp R c1)
  refine ⟨k2, m, ⟨hk, hkl⟩, ⟨hk2, hkl2⟩, ⟨hm, hml⟩, least_le R hkl (cr_rows R), a3, ?_⟩
  constructor
  · intro e
    rw [e] at c1
    exact cr_zero.1 c1
  · intro h
    have := least_le R hkl (cr_zero.2 h)
    omega
end Go.Proofs.Ytpbkgdohfnjjpab
