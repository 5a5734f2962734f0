/-
  Least stepped relations: facts for laws on drawn relations.
-/
import Derived.Test.YtnmgoeklcmoalaaQC
namespace Go.Proofs.Ytnmgoeklcmoalaa
open Go.RowKit

theorem step_below {n : Nat} {xs : List Int} (R : Rl n xs) : belowB xs (stepL xs) = true := (below_iff R (stepL_rl R)).2 (step_has R)
theorem step_step {n : Nat} {xs : List Int} (R : Rl n xs) : stepL (stepL xs) = stepL xs := by
  have S := stepL_rl R
  refine (stepL_rl S).ext S fun i j hi hj => ?_
  rw [Bool.eq_iff_iff]
  exact ⟨fun h => step_in S S (fun _ _ _ _ h => h) (step_stepped R) i j hi hj h, fun h => step_has S i j hi hj h⟩
theorem rStepped {n : Nat} {xs : List Int} (R : Rl n xs) (h : stepB xs = true) (ao : Option Addr) (ca : Nat) (w : World) (hx : Rd w ao xs) : Calls Try.prog 17 #[.slice ao xs.length ca] w fun e w' => e = .returned (.bool true) ∧ Below w.heap.size w w' := by
  have hl : xs.length ≤ 1048576 := by have := R.len; have := R.four; omega
  have := implRectStepped_any ao ca xs w hl hx
  rw [R.ok, h] at this
  exact this
/-- stepped turned -/
theorem step_turn {n : Nat} {xs : List Int} (R : Rl n xs) (h : stepB xs = true) : stepB (turnL xs) = true := by
  rw [step_iff R] at h
  rw [step_iff R.turn]
  intro i j p q hi hj hp hq h1 h2 h3
  rw [hB_turn R _ _ hi hp] at h1
  rw [hB_turn R _ _ hq hp] at h2
  rw [hB_turn R _ _ hq hj] at h3
  rw [hB_turn R _ _ hi hj]
  exact h j i q p hj hi hq hp h3 h2 h1
/-- rows that meet are equal -/
theorem step_rows {n : Nat} {xs : List Int} (R : Rl n xs) (h : stepB xs = true) (i k : Nat) (hi : i < n) (hk : k < n) (hm : bits .and .i64 (rowAt xs i) (rowAt xs k) ≠ 0) : rowAt xs i = rowAt xs k := by
  have h4 := R.four
  obtain ⟨y, hy, hyl⟩ := R.row i
  obtain ⟨z, hz, hzl⟩ := R.row k
  obtain ⟨u, hu, hul⟩ := b_andlt ⟨n, by omega⟩ y z hyl hzl
  rw [hy, hz] at hm
  have hne : ∃ j : Fin n, hasB (u.val : Int) j.val = true := by
    by_cases g : ∃ j : Fin n, hasB (u.val : Int) j.val = true
    · exact g
    · exfalso
      apply hm
      rw [hu]
      have : u = 0 := b_ext ⟨n, by omega⟩ u 0 hul (Nat.two_pow_pos n) fun j => by
        have h0 : hasB (((0 : Fin 16).val : Nat) : Int) j.val = false := b_zero ⟨j.val, Nat.lt_of_lt_of_le j.isLt (by show n ≤ 4; omega)⟩
        rw [h0]
        cases e : hasB (u.val : Int) j.val with
        | false => rfl
        | true => exact absurd ⟨j, e⟩ g
      rw [this]
      rfl
  obtain ⟨p, hp⟩ := hne
  have hb := b_and y z ⟨p.val, by omega⟩
  rw [hu] at hb
  rw [hb, Bool.and_eq_true] at hp
  rw [step_iff R] at h
  have hyk : ∀ j, hasB (y.val : Int) j = hB xs i j := fun j => by unfold hB; rw [hy]
  have hzk : ∀ j, hasB (z.val : Int) j = hB xs k j := fun j => by unfold hB; rw [hz]
  rw [hyk, hzk] at hp
  rw [hy, hz, b_ext ⟨n, by omega⟩ y z hyl hzl fun j => by
    rw [Bool.eq_iff_iff, hyk, hzk]
    exact ⟨fun g => h k j.val p.val i hk j.isLt p.isLt hi hp.2 hp.1 g, fun g => h i j.val p.val k hi j.isLt p.isLt hk hp.1 hp.2 g⟩]
end Go.Proofs.Ytnmgoeklcmoalaa
