/-
  Polars and closed sets: facts for laws on drawn relations with a set.
-/
import Derived.Test.YtnmgoeklcmoalabQA
namespace Go.Proofs.Ytnmgoeklcmoalab
open Go.RowKit

theorem or_one : ∀ n : Fin 5, 1 ≤ n.val → ∀ z : Fin 16, z.val < 2 ^ n.val → ∃ u : Fin 16, bits .or .i64 (z.val : Int) 1 = (u.val : Int) ∧ u.val < 2 ^ n.val ∧ ∀ j : Fin 4, hasB (z.val : Int) j.val = true → hasB (u.val : Int) j.val = true := by decide +kernel
theorem bR_less : ∀ n : Fin 5, ∀ z y : Fin 16, z.val < 2 ^ n.val → (∀ j : Fin n.val, hasB (z.val : Int) j.val = true → hasB (y.val : Int) j.val = true) → bits .andNot .i64 (z.val : Int) (y.val : Int) = 0 := by decide +kernel

/-- a greater set has a smaller polar -/
theorem pol_anti {n : Nat} {xs : List Int} (R : Rl n xs) (z u : Int) (h : ∀ j, j < n → hasB z j = true → hasB u j = true) : bits .andNot .i64 (relAll xs u) (relAll xs z) = 0 := by
  obtain ⟨p, hp, hpl, hpj⟩ := relAll_row R z
  obtain ⟨q, hq, hql, hqj⟩ := relAll_row R u
  have h4 := R.four
  rw [hp, hq]
  refine bR_less ⟨n, by omega⟩ q p hql fun j hj => ?_
  exact (hpj j.val j.isLt).2 fun i hi hz => (hqj j.val j.isLt).1 hj i hi (h i hi hz)
/-- what is in the polar of the polar -/
theorem clo_row {n : Nat} {xs : List Int} (R : Rl n xs) (z : Int) : ∃ c : Fin 16, clo xs z = (c.val : Int) ∧ c.val < 2 ^ n ∧
    ∀ a, a < n → (hasB (c.val : Int) a = true ↔ ∀ l, l < n → hasB (relAll xs z) l = true → hB xs a l = true) := by
  obtain ⟨c, hc, hcl, hcj⟩ := relAll_row R.turn (relAll xs z)
  refine ⟨c, hc, hcl, fun a ha => ?_⟩
  rw [hcj a ha]
  constructor
  · intro g l hl hh
    have := g l hl hh
    rw [hB_turn R l a hl ha] at this
    exact this
  · intro g l hl hh
    rw [hB_turn R l a hl ha]
    exact g l hl hh
theorem clo_has {n : Nat} {xs : List Int} (R : Rl n xs) (z : Int) (a : Nat) (ha : a < n) (h : hasB z a = true) : hasB (clo xs z) a = true := by
  obtain ⟨p, hp, hpl, hpj⟩ := relAll_row R z
  obtain ⟨c, hc, hcl, hcj⟩ := clo_row R z
  rw [hc]
  refine (hcj a ha).2 fun l hl hh => ?_
  rw [hp] at hh
  exact (hpj l hl).1 hh a ha h
/-- the polar of what is closed is the polar -/
theorem pol_clo {n : Nat} {xs : List Int} (R : Rl n xs) (z : Int) : relAll xs (clo xs z) = relAll xs z := by
  obtain ⟨p, hp, hpl, hpj⟩ := relAll_row R z
  obtain ⟨c, hc, hcl, hcj⟩ := clo_row R z
  obtain ⟨d, hd, hdl, hdj⟩ := relAll_row R (clo xs z)
  have h4 := R.four
  rw [hd, hp, b_ext ⟨n, by omega⟩ d p hdl hpl fun j => by
    rw [Bool.eq_iff_iff, hdj j.val j.isLt]
    constructor
    · intro g
      exact (hpj j.val j.isLt).2 fun i hi hz => g i hi (clo_has R z i hi hz)
    · intro g i hi hz
      rw [hc] at hz
      exact (hcj i hi).1 hz j.val j.isLt (by rw [hp]; exact g)]
theorem clo_clo {n : Nat} {xs : List Int} (R : Rl n xs) (z : Int) : clo xs (clo xs z) = clo xs z := by
  show relAll (turnL xs) (relAll xs (clo xs z)) = relAll (turnL xs) (relAll xs z)
  rw [pol_clo R]
theorem clo_more {n : Nat} {xs : List Int} (R : Rl n xs) (z : Fin 16) (hz : z.val < 2 ^ n) : bits .andNot .i64 (z.val : Int) (clo xs (z.val : Int)) = 0 := by
  obtain ⟨c, hc, hcl, hcj⟩ := clo_row R (z.val : Int)
  have h4 := R.four
  rw [hc]
  refine bR_less ⟨n, by omega⟩ z c hz fun j hj => ?_
  rw [← hc]
  exact clo_has R _ j.val j.isLt hj
theorem clo_mono {n : Nat} {xs : List Int} (R : Rl n xs) (z u : Int) (h : ∀ j, j < n → hasB z j = true → hasB u j = true) : bits .andNot .i64 (clo xs z) (clo xs u) = 0 := by
  obtain ⟨c, hc, hcl, hcj⟩ := clo_row R z
  obtain ⟨d, hd, hdl, hdj⟩ := clo_row R u
  obtain ⟨p, hp, hpl, hpj⟩ := relAll_row R z
  obtain ⟨q, hq, hql, hqj⟩ := relAll_row R u
  have h4 := R.four
  rw [hc, hd]
  refine bR_less ⟨n, by omega⟩ c d hcl fun j hj => ?_
  refine (hdj j.val j.isLt).2 fun l hl hh => (hcj j.val j.isLt).1 hj l hl ?_
  rw [hq] at hh
  rw [hp]
  exact (hpj l hl).2 fun i hi hz => (hqj l hl).1 hh i hi (h i hi hz)
/-- a set of points, as a number -/
theorem set_fin {xs : List Int} {z : Int} (h : setB xs z = true) : ∃ u : Fin 16, z = (u.val : Int) ∧ u.val < 2 ^ xs.length ∧ Rl xs.length xs := by
  unfold setB rowIn at h
  rw [Bool.and_eq_true, Bool.and_eq_true, decide_eq_true_iff, decide_eq_true_iff] at h
  have R := Rl.of h.1
  have h4 := R.four
  have h16 : (2 : Nat) ^ xs.length ≤ 16 := by rcases (by omega : xs.length = 0 ∨ xs.length = 1 ∨ xs.length = 2 ∨ xs.length = 3 ∨ xs.length = 4) with e | e | e | e | e <;> rw [e] <;> decide
  have hz : z.toNat < 2 ^ xs.length := by
    have h1 := h.2.1
    have h2 := h.2.2
    have : ((z.toNat : Nat) : Int) < ((2 ^ xs.length : Nat) : Int) := by rw [Int.toNat_of_nonneg h1]; simpa using h2
    exact Int.ofNat_lt.1 this
  exact ⟨⟨z.toNat, by omega⟩, (Int.toNat_of_nonneg h.2.1).symm, hz, R⟩
theorem fin_set {xs : List Int} (R : Rl xs.length xs) (u : Fin 16) (h : u.val < 2 ^ xs.length) : setB xs (u.val : Int) = true := by
  unfold setB rowIn
  rw [R.ok, Bool.true_and, Bool.and_eq_true, decide_eq_true_iff, decide_eq_true_iff]
  refine ⟨by omega, ?_⟩
  have : ((u.val : Nat) : Int) < ((2 ^ xs.length : Nat) : Int) := by omega
  simpa using this
/-- all that the laws on polars ask -/
theorem polars {xs : List Int} {z : Int} (h : setB xs z = true) : ∃ u c : Int, bits .or .i64 z 1 = u ∧ clo xs z = c ∧ setB xs u = true ∧ setB xs c = true ∧ bits .andNot .i64 (relAll xs u) (relAll xs z) = 0 ∧ relAll xs c = relAll xs z ∧
    clo xs c = c ∧ bits .andNot .i64 z c = 0 ∧ bits .andNot .i64 c (clo xs u) = 0 := by
  obtain ⟨k, rfl, hk, R⟩ := set_fin h
  have h4 := R.four
  obtain ⟨u, hu, hul, huj⟩ := or_one ⟨xs.length, by omega⟩ R.one k hk
  obtain ⟨c, hc, hcl, _⟩ := clo_row R (k.val : Int)
  have hj : ∀ j, j < xs.length → hasB (k.val : Int) j = true → hasB (u.val : Int) j = true := fun j hj g => huj ⟨j, by omega⟩ g
  refine ⟨(u.val : Int), (c.val : Int), hu, hc, fin_set R u hul, fin_set R c hcl, pol_anti R _ _ hj, ?_, ?_, ?_, ?_⟩
  · rw [← hc]; exact pol_clo R _
  · rw [← hc]; exact clo_clo R _
  · rw [← hc]; exact clo_more R k hk
  · rw [← hc]; exact clo_mono R _ _ hj
end Go.Proofs.Ytnmgoeklcmoalab
