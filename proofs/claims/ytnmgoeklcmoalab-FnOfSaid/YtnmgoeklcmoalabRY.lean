/-
  What is made of pairs is a relation, and has at most as many pairs.
-/
import Derived.Test.YtnmgoeklcmoalabRQ
import Derived.Test.YtnmgoeklcmoalabQJ
namespace Go.Proofs.Ytnmgoeklcmoalab
open Go.RowKit

theorem ok_list {n : Nat} : ∀ xss : List (List Int), xss.all (okP n) = true → ∃ P : List (Fin n × Fin n), xss = P.map rowQ
  | [], _ => ⟨[], rfl⟩
  | p :: r, h => by
    rw [List.all_cons, Bool.and_eq_true] at h
    obtain ⟨P, rfl⟩ := ok_list r h.2
    have h1 := h.1
    unfold okP ptB at h1
    rw [Bool.and_eq_true, Bool.and_eq_true, decide_eq_true_iff, decide_eq_true_iff, decide_eq_true_iff] at h1
    obtain ⟨⟨h2, h3⟩, h4⟩ := h1
    obtain ⟨x, y, rfl⟩ := two_of h2
    have h3 : 0 ≤ x ∧ x < (n : Int) := h3
    have h4 : 0 ≤ y ∧ y < (n : Int) := h4
    obtain ⟨i, rfl⟩ := Int.eq_ofNat_of_zero_le h3.1
    obtain ⟨j, rfl⟩ := Int.eq_ofNat_of_zero_le h4.1
    exact ⟨(⟨i, by omega⟩, ⟨j, by omega⟩) :: P, rfl⟩
theorem of_fold {n : Nat} (h1 : 1 ≤ n) (h4 : n ≤ 4) (P : List (Fin n × Fin n)) : Rl n (ofL n (P.map rowQ)) ∧ ∀ i j, i < n → j < n → hB (ofL n (P.map rowQ)) i j = true → ∃ p, p ∈ P ∧ p.1.val = i ∧ p.2.val = j := by
  have hz : ∀ i, ∃ y : Fin 16, rowAt (List.replicate n 0) i = (y.val : Int) ∧ y.val < 2 ^ n := (Rl.zeros h1 h4).row
  obtain ⟨a1, a2, a3⟩ := fold_rows h4 (fun p => p.1) (fun p => pt p.2.val) (fun p => b_ptlt ⟨n, by omega⟩ p.2) P (List.replicate n 0) List.length_replicate hz
  have he : ofL n (P.map rowQ) = P.foldl (fun zs p => zs.set p.1.val (bits .or .i64 (rowAt zs p.1.val) (pt p.2.val))) (List.replicate n 0) := by
    unfold ofL
    rw [List.foldl_map]
    rfl
  rw [he]
  refine ⟨⟨a1, h1, h4, a2⟩, fun i j hi hj e => ?_⟩
  rcases (a3 i j hi hj).1 e with h | ⟨p, hp, e1, e2⟩
  · have : hB (List.replicate n 0) i j = true := h
    rw [hB_zeros n i j (by omega)] at this
    cases this
  · have h5 := b_pt ⟨p.2.val, by have := p.2.isLt; omega⟩ ⟨j, by omega⟩
    dsimp only at h5
    rw [h5, decide_eq_true_iff] at e2
    exact ⟨p, hp, e1, e2.symm⟩
theorem of_made {n : Nat} {xss : List (List Int)} (h1 : 1 ≤ n) (h4 : n ≤ 4) (h : xss.all (okP n) = true) : Rl n (ofL n xss) ∧ sizeL (ofL n xss) ≤ (xss.length : Int) := by
  obtain ⟨P, rfl⟩ := ok_list xss h
  obtain ⟨R, hB'⟩ := of_fold h1 h4 P
  refine ⟨R, ?_⟩
  obtain ⟨L, hL⟩ : ∃ L, ofL n (P.map rowQ) = L := ⟨_, rfl⟩
  rw [hL] at R hB' ⊢
  obtain rfl := R.len
  rw [size_pairs R]
  have hn : ((pairsOf L).map fun p => ((p.1.val : Int), (p.2.val : Int))).Nodup := by
    rw [List.Nodup, List.pairwise_map]
    have hp : (pairsOf L).Pairwise lexP := by
      rw [pairs_eq L h4]
      exact List.Pairwise.filter _ (allP_lex ⟨L.length, by omega⟩)
    refine hp.imp ?_
    intro p q h e
    injection e with e1 e2
    unfold lexP at h
    omega
  have := nodup_le hn (s := P.map fun p => ((p.1.val : Int), (p.2.val : Int))) fun x hx => by
    obtain ⟨p, hp, rfl⟩ := List.mem_map.1 hx
    obtain ⟨q, hq, e1, e2⟩ := hB' p.1.val p.2.val p.1.isLt p.2.isLt ((mem_pairs h4 p).1 hp)
    exact List.mem_map.2 ⟨q, hq, by rw [e1, e2]⟩
  rw [List.length_map, List.length_map] at this
  rw [List.length_map]
  omega
end Go.Proofs.Ytnmgoeklcmoalab
