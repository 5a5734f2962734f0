/-
  What is made of rectangles is a relation whose rank is at most as many.
-/
import Derived.Test.YtnmgoeklcmoalabRW
namespace Go.Proofs.Ytnmgoeklcmoalab
open Go.RowKit

theorem rRow_fin {n : Nat} {z : Int} (h4 : n ≤ 4) (h : rowIn n z = true) : ∃ u : Fin 16, z = (u.val : Int) ∧ u.val < 2 ^ n := by
  unfold rowIn at h
  rw [Bool.and_eq_true, decide_eq_true_iff, decide_eq_true_iff] at h
  have h16 : (2 : Nat) ^ n ≤ 16 := by rcases (by omega : n = 0 ∨ n = 1 ∨ n = 2 ∨ n = 3 ∨ n = 4) with e | e | e | e | e <;> rw [e] <;> decide
  have hz : z.toNat < 2 ^ n := by
    have h1 := h.1
    have h2 := h.2
    have : ((z.toNat : Nat) : Int) < ((2 ^ n : Nat) : Int) := by rw [Int.toNat_of_nonneg h1]; simpa using h2
    exact Int.ofNat_lt.1 this
  exact ⟨⟨z.toNat, by omega⟩, (Int.toNat_of_nonneg h.1).symm, hz⟩
theorem okR_list {n : Nat} (h4 : n ≤ 4) : ∀ xss : List (List Int), xss.all (okR n) = true → ∃ L : List (Int × Int), xss = L.map rowR ∧ ∀ r, r ∈ L → isRect n r
  | [], _ => ⟨[], rfl, fun r hr => absurd hr (by simp)⟩
  | p :: q, h => by
    rw [List.all_cons, Bool.and_eq_true] at h
    obtain ⟨L, rfl, hL⟩ := okR_list h4 q h.2
    have h1 := h.1
    unfold okR at h1
    rw [Bool.and_eq_true, Bool.and_eq_true, decide_eq_true_iff] at h1
    obtain ⟨⟨h2, h3⟩, h5⟩ := h1
    obtain ⟨x, y, rfl⟩ : ∃ x y, p = [x, y] := by
      match p, h2 with
      | [x, y], _ => exact ⟨x, y, rfl⟩
    obtain ⟨s, hs, hsl⟩ := rRow_fin h4 h3
    obtain ⟨t, ht, htl⟩ := rRow_fin h4 h5
    have hs : x = (s.val : Int) := hs
    have ht : y = (t.val : Int) := ht
    refine ⟨(x, y) :: L, rfl, fun r hr => ?_⟩
    rcases List.mem_cons.1 hr with rfl | hr
    · exact ⟨s, t, by rw [hs, ht], hsl, htl⟩
    · exact hL r hr
theorem made_rank {n : Nat} {xss : List (List Int)} (h1 : 1 ≤ n) (h4 : n ≤ 4) (h : xss.all (okR n) = true) : Rl n (rofL n xss) ∧
    ∃ k, (k ≤ (fullL (rofL n xss)).length ∧ LeastC (rofL n xss).length (fullL (rofL n xss)) (rofL n xss) k) ∧ k ≤ xss.length := by
  obtain ⟨L, rfl, hL⟩ := okR_list h4 xss h
  rw [rof_union]
  have R := union_rl h1 h4 hL
  have hU := fun i j hi hj => hB_union h1 h4 hL i j hi hj
  obtain ⟨Z, hZ⟩ : ∃ Z, unionL n L = Z := ⟨_, rfl⟩
  rw [hZ] at R hU ⊢
  obtain rfl := R.len
  refine ⟨R, ?_⟩
  obtain ⟨k, hk, hkl⟩ := least_ex R
  refine ⟨k, ⟨hk, hkl⟩, ?_⟩
  rw [List.length_map]
  exact least_le R hkl ⟨L, Nat.le_refl _, fun r hr => ⟨hL r hr, fun i j hi hj e => (hU i j hi hj).2 ⟨r, hr, e⟩⟩, fun i j hi hj e => (hU i j hi hj).1 e⟩
end Go.Proofs.Ytnmgoeklcmoalab
