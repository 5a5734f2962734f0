/-
  Least bounds: what the law of bounds asks of all orders of up to 4 points.
-/
import Derived.Test.YtnmgoeklcmoalaaOW
namespace Go.Proofs.Ytnmgoeklcmoalaa
open Go.RowKit

theorem or_pt : ∀ n : Fin 5, ∀ z : Fin 16, ∀ k : Fin n.val, z.val < 2 ^ n.val → ∃ u : Fin 16, bits .or .i64 (z.val : Int) (2 ^ k.val) = (u.val : Int) ∧ u.val < 2 ^ n.val := by decide +kernel
theorem b_bit0 : ∀ z : Fin 16, ∀ k : Fin 4, (bits .and .i64 ((z.val : Int) / 2 ^ k.val) 1 == 0) = !bitB (z.val : Int) k.val := by decide +kernel
theorem bndO_lt {xs : List Int} {z : Int} {k : Nat} (h : bndO xs z = some k) : k < xs.length := by
  unfold bndO at h
  rw [List.find?_range_eq_some] at h
  exact List.mem_range.1 h.2.1
theorem oRow_fin {n : Nat} {z : Int} (h4 : n ≤ 4) (h : rowIn n z = true) : ∃ u : Fin 16, z = (u.val : Int) ∧ u.val < 2 ^ n := by
  unfold rowIn at h
  rw [Bool.and_eq_true, decide_eq_true_iff, decide_eq_true_iff] at h
  have h16 : (2 : Nat) ^ n ≤ 16 := by rcases (by omega : n = 0 ∨ n = 1 ∨ n = 2 ∨ n = 3 ∨ n = 4) with e | e | e | e | e <;> rw [e] <;> decide
  have hz : z.toNat < 2 ^ n := by
    have h1 := h.1
    have h2 := h.2
    have : ((z.toNat : Nat) : Int) < ((2 ^ n : Nat) : Int) := by rw [Int.toNat_of_nonneg h1]; simpa using h2
    exact Int.ofNat_lt.1 this
  exact ⟨⟨z.toNat, by omega⟩, (Int.toNat_of_nonneg h.1).symm, hz⟩
theorem oFin_row {n : Nat} {u : Fin 16} (h : u.val < 2 ^ n) : rowIn n (u.val : Int) = true := by
  unfold rowIn
  rw [Bool.and_eq_true, decide_eq_true_iff, decide_eq_true_iff]
  refine ⟨by omega, ?_⟩
  have : ((u.val : Nat) : Int) < ((2 ^ n : Nat) : Int) := by omega
  simpa using this
/-- a least bound is one of the set with it, and a bound -/
theorem bound_all {xs : List Int} {z : Int} {k : Nat} (h : ordO xs z = some k) : ordB xs = true ∧ k < xs.length ∧ ordO xs (bits .or .i64 z (2 ^ k)) = some k ∧
    ∀ i, i < xs.length → (bits .and .i64 (z / 2 ^ i) 1 == 1) = true → (bits .and .i64 (rowAt xs i / 2 ^ k) 1 == 0) = false := by
  unfold ordO at h
  by_cases hs : ordS xs z = true
  case neg => rw [if_neg hs] at h; cases h
  rw [if_pos hs] at h
  unfold ordS at hs
  rw [Bool.and_eq_true] at hs
  have R : Rl xs.length xs := by
    have := hs.1
    unfold ordB at this
    simp only [Bool.and_eq_true] at this
    exact Rl.of this.1
  have h4 := R.four
  obtain ⟨u, rfl, hu⟩ := oRow_fin h4 hs.2
  have hk := bndO_lt h
  have hb := bnd_all xs (ord_enum hs.1)
  unfold bndF at hb
  rw [List.all_eq_true] at hb
  have hb := hb u.val (List.mem_range.2 hu)
  rw [h] at hb
  dsimp only at hb
  rw [Bool.and_eq_true, decide_eq_true_iff, List.all_eq_true] at hb
  obtain ⟨v, hv, hvl⟩ := or_pt ⟨xs.length, by omega⟩ u ⟨k, hk⟩ hu
  dsimp only at hv
  refine ⟨hs.1, hk, ?_, fun i hi e => ?_⟩
  · unfold ordO ordS
    rw [hv, hs.1, oFin_row hvl, ← hv]
    exact hb.1
  · have h5 := hb.2 i (List.mem_range.2 hi)
    have e2 : bitB (u.val : Int) i = true := e
    rw [e2] at h5
    have h6 : bitB (rowAt xs i) k = true := h5
    obtain ⟨y, hy, _⟩ := R.row i
    rw [hy] at h6 ⊢
    have h7 := b_bit0 y ⟨k, by omega⟩
    dsimp only at h7
    rw [h7, h6]
    rfl
end Go.Proofs.Ytnmgoeklcmoalaa
