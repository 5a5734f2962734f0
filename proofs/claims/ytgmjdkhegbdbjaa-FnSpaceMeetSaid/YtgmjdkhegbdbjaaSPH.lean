/-
  Meets: whichever set comes first, and the meet with its own set.
-/
import Derived.Test.YtgmjdkhegbdbjaaSPD
namespace Go.Proofs.Ytgmjdkhegbdbjaa
open Go.RowKit

theorem smB_swap (xs : List Int) (x y : Int) : smB xs y x = smB xs x y := by
  unfold smB
  cases relIn xs <;> cases rowIn xs.length x <;> cases rowIn xs.length y <;> cases madeB xs x.toNat <;> cases madeB xs y.toNat <;> rfl
theorem sm_parts {xs : List Int} {x y : Int} (h : smB xs x y = true) : relIn xs = true ∧ St xs.length x ∧ St xs.length y ∧ x ∈ spL xs ∧ y ∈ spL xs := by
  have hr : relIn xs = true := by
    unfold smB at h
    rw [Bool.and_eq_true] at h
    exact h.1
  rw [smB_is hr, Bool.and_eq_true] at h
  have h4 := (Rl.of hr).four
  have c1 := h.1
  have c2 := h.2
  rw [contains_spL (Rl.of hr), Bool.and_eq_true] at c1 c2
  exact ⟨hr, St.of h4 c1.1, St.of h4 c2.1, List.contains_iff_mem.1 h.1, List.contains_iff_mem.1 h.2⟩
theorem and_swap {n : Nat} {x y : Int} (h4 : n ≤ 4) (hx : St n x) (hy : St n y) : bits .and .i64 y x = bits .and .i64 x y :=
  St.ext h4 (St.and h4 hy hx) (St.and h4 hx hy) fun j hj => by rw [St.hasAnd hy hx j (by omega), St.hasAnd hx hy j (by omega), Bool.and_comm]
theorem smI_swap {xs : List Int} {x y : Int} (h : smB xs x y = true) : smI xs y x = smI xs x y := by
  obtain ⟨hr, hx, hy, _, _⟩ := sm_parts h
  unfold smI
  rw [smB_swap, h, if_pos rfl, if_pos rfl, and_swap (Rl.of hr).four hx hy]
/-- the points whose rows lie in m -/
def selTo (xs : List Int) (m : Int) : Nat → Int
  | 0 => 0
  | k + 1 => if partB (rowAt xs k) m then bits .or .i64 (selTo xs m k) (pt k) else selTo xs m k
theorem selTo_has {n : Nat} (h4 : n ≤ 4) (xs : List Int) (m : Int) : ∀ k, k ≤ n → St n (selTo xs m k) ∧ ∀ j, j < n → (hasB (selTo xs m k) j = true ↔ j < k ∧ partB (rowAt xs j) m = true)
  | 0, _ => ⟨St.zero n, fun j hj => by
      have : selTo xs m 0 = 0 := rfl
      rw [this, has_no j (by omega)]
      simp⟩
  | k + 1, hk => by
    obtain ⟨s, ih⟩ := selTo_has h4 xs m k (by omega)
    unfold selTo
    cases hb : partB (rowAt xs k) m with
    | true =>
      rw [if_pos rfl]
      refine ⟨St.or h4 s (St.pt h4 k hk), fun j hj => ?_⟩
      rw [St.hasOr s (St.pt h4 k hk) j (by omega), has_pt k j (by omega) (by omega), Bool.or_eq_true, ih j hj, decide_eq_true_eq]
      constructor
      · rintro (⟨h1, h2⟩ | rfl)
        · exact ⟨by omega, h2⟩
        · exact ⟨by omega, hb⟩
      · rintro ⟨h1, h2⟩
        by_cases e : j = k
        · exact .inr e
        · exact .inl ⟨by omega, h2⟩
    | false =>
      rw [if_neg Bool.false_ne_true]
      refine ⟨s, fun j hj => ?_⟩
      rw [ih j hj]
      constructor
      · rintro ⟨h1, h2⟩; exact ⟨by omega, h2⟩
      · rintro ⟨h1, h2⟩
        by_cases e : j = k
        · subst e; rw [hb] at h2; cases h2
        · exact ⟨by omega, h2⟩
theorem meet_made {xs : List Int} (h : Rl xs.length xs) {m : Int} (_hm : St xs.length m) : meetTo xs m xs.length ∈ spL xs := by
  have h4 := h.four
  obtain ⟨s, hs⟩ := selTo_has h4 xs m xs.length (Nat.le_refl _)
  obtain ⟨z, hz, e⟩ := st_nat s
  refine (mem_spL h _).2 ⟨z, hz, ?_⟩
  rw [← e]
  refine St.ext h4 (meetTo_st h4 (fun i => St.row h i) m _) (St.img h s) fun j hj => ?_
  rw [Bool.eq_iff_iff, meetTo_has h4 (fun i => St.row h i) m j hj, has_img h s j hj]
  constructor
  · rintro ⟨i, hi, h1, h2⟩; exact ⟨i, hi, (hs i hi).2 ⟨hi, h1⟩, h2⟩
  · rintro ⟨i, hi, h1, h2⟩; exact ⟨i, hi, ((hs i hi).1 h1).2, h2⟩
theorem meet_part {xs : List Int} (h : Rl xs.length xs) {m : Int} (hm : St xs.length m) : partB (meetTo xs m xs.length) m = true := by
  have h4 := h.four
  rw [St.part h4 (meetTo_st h4 (fun i => St.row h i) m _) hm]
  intro j hj hh
  obtain ⟨i, hi, h1, h2⟩ := (meetTo_has h4 (fun i => St.row h i) m j hj _).1 hh
  exact (St.part h4 (St.row h i) hm).1 h1 j hj h2
theorem meet_own {xs : List Int} (h : Rl xs.length xs) {m : Int} (_hm : St xs.length m) : meetTo xs (meetTo xs m xs.length) xs.length = meetTo xs m xs.length := by
  have h4 := h.four
  have hM := meetTo_st h4 (fun i => St.row h i) m xs.length
  refine St.ext h4 (meetTo_st h4 (fun i => St.row h i) _ _) hM fun j hj => ?_
  rw [Bool.eq_iff_iff, meetTo_has h4 (fun i => St.row h i) _ j hj]
  constructor
  · rintro ⟨i, hi, h1, h2⟩
    exact (St.part h4 (St.row h i) hM).1 h1 j hj h2
  · intro hh
    obtain ⟨i, hi, h1, h2⟩ := (meetTo_has h4 (fun i => St.row h i) m j hj _).1 hh
    refine ⟨i, hi, ?_, h2⟩
    rw [St.part h4 (St.row h i) hM]
    intro j' hj' hr
    exact (meetTo_has h4 (fun i => St.row h i) m j' hj' _).2 ⟨i, hi, h1, hr⟩
/-- What the meet of two sets of the space is. -/
theorem sm_facts {xs : List Int} {x y : Int} (h : smB xs x y = true) : smB xs (smI xs x y) x = true ∧ smI xs (smI xs x y) x = smI xs x y ∧ partB (smI xs x y) (bits .and .i64 x y) = true := by
  obtain ⟨hr, hx, hy, mx, my⟩ := sm_parts h
  have hR := Rl.of hr
  have h4 := hR.four
  have hA := St.and h4 hx hy
  have e : smI xs x y = meetTo xs (bits .and .i64 x y) xs.length := by unfold smI; rw [h, if_pos rfl]
  have hM := meetTo_st h4 (fun i => St.row hR i) (bits .and .i64 x y) xs.length
  have hin := meet_made hR hA
  have hb : smB xs (smI xs x y) x = true := by
    rw [smB_is hr, e, Bool.and_eq_true]
    exact ⟨List.contains_iff_mem.2 hin, List.contains_iff_mem.2 mx⟩
  have hp := meet_part hR hA
  refine ⟨hb, ?_, by rw [e]; exact hp⟩
  have e2 : smI xs (smI xs x y) x = meetTo xs (bits .and .i64 (smI xs x y) x) xs.length := by
    have : smI xs (smI xs x y) x = if smB xs (smI xs x y) x then meetTo xs (bits .and .i64 (smI xs x y) x) xs.length else 0 := rfl
    rw [this, hb, if_pos rfl]
  have e3 : bits .and .i64 (meetTo xs (bits .and .i64 x y) xs.length) x = meetTo xs (bits .and .i64 x y) xs.length := by
    refine St.ext h4 (St.and h4 hM hx) hM fun j hj => ?_
    rw [St.hasAnd hM hx j (by omega)]
    cases hh : hasB (meetTo xs (bits .and .i64 x y) xs.length) j with
    | false => rfl
    | true =>
      have := (St.part h4 hM hA).1 hp j hj hh
      rw [St.hasAnd hx hy j (by omega), Bool.and_eq_true] at this
      rw [this.1]; rfl
  rw [e2, e, e3]
  exact meet_own hR hA
end Go.Proofs.Ytgmjdkhegbdbjaa
