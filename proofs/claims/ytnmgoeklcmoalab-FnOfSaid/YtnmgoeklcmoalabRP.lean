/-
  The pairs of a relation: in order, as many as its size, and all that it is made of.
-/
import Derived.Test.YtnmgoeklcmoalabFG
import Derived.Test.YtnmgoeklcmoalabFE
import Derived.Test.YtnmgoeklcmoalabT
import Derived.Test.YtnmgoeklcmoalabEA
import Derived.Test.YtnmgoeklcmoalabHA
namespace Go.Proofs.Ytnmgoeklcmoalab
open Go.RowKit

def rowQ {n : Nat} (p : Fin n × Fin n) : List Int := [(p.1.val : Int), (p.2.val : Int)]
theorem PR_map {n : Nat} (L : List (Fin n × Fin n)) : (List.range L.length).map (PR L) = L.map rowQ := by
  apply List.ext_getElem?
  intro i
  rw [List.getElem?_map, List.getElem?_map]
  by_cases h : i < L.length
  · rw [List.getElem?_range h, List.getElem?_eq_getElem h]
    show some (PR L i) = some (rowQ L[i])
    unfold PR
    rw [List.getElem?_eq_getElem h]
    rfl
  · rw [List.getElem?_eq_none (by simpa using h), List.getElem?_eq_none (by simpa using h)]
    rfl
theorem pairs_eq (xs : List Int) (h4 : xs.length ≤ 4) : pairsOf xs = (allP xs.length).filter fun p => hB xs p.1.val p.2.val := by
  unfold pairsOf pairsTo
  have hl := allP_len ⟨xs.length, by omega⟩
  rw [List.take_of_length_le (by rw [hl]; exact Nat.le_refl _)]
  rfl
/-- one pair is ahead of another one -/
def lexP {n : Nat} (p q : Fin n × Fin n) : Prop := p.1.val < q.1.val ∨ (p.1.val = q.1.val ∧ p.2.val < q.2.val)
instance {n : Nat} (p q : Fin n × Fin n) : Decidable (lexP p q) := by unfold lexP; infer_instance
theorem allP_lex : ∀ n : Fin 5, (allP n.val).Pairwise lexP := by decide +kernel
theorem pairs_lex (xs : List Int) (h4 : xs.length ≤ 4) (i : Nat) (h : i + 1 < (pairsOf xs).length) : lexP (pairsOf xs)[i] (pairsOf xs)[i + 1] := by
  have hp : (pairsOf xs).Pairwise lexP := by
    rw [pairs_eq xs h4]
    exact List.Pairwise.filter _ (allP_lex ⟨xs.length, by omega⟩)
  exact List.pairwise_iff_getElem.1 hp i (i + 1) (by omega) h (by omega)
/-- a relation is made of its pairs -/
theorem of_pairs {xs : List Int} (R : Rl xs.length xs) : ofL xs.length ((pairsOf xs).map rowQ) = xs := by
  have h4 := R.four
  have h1 := R.one
  have hz : ∀ i, ∃ y : Fin 16, rowAt (List.replicate xs.length 0) i = (y.val : Int) ∧ y.val < 2 ^ xs.length := (Rl.zeros h1 h4).row
  obtain ⟨a1, a2, a3⟩ := fold_rows h4 (fun p => p.1) (fun p => pt p.2.val) (fun p => b_ptlt ⟨xs.length, by omega⟩ p.2) (pairsOf xs) (List.replicate xs.length 0) List.length_replicate hz
  have he : ofL xs.length ((pairsOf xs).map rowQ) = (pairsOf xs).foldl (fun zs p => zs.set p.1.val (bits .or .i64 (rowAt zs p.1.val) (pt p.2.val))) (List.replicate xs.length 0) := by
    unfold ofL
    rw [List.foldl_map]
    rfl
  rw [he]
  refine Rl.ext (n := xs.length) ⟨a1, h1, h4, a2⟩ R fun i j hi hj => ?_
  rw [Bool.eq_iff_iff]
  refine (a3 i j hi hj).trans ?_
  constructor
  · rintro (h | ⟨p, hp, e1, e2⟩)
    · have : hB (List.replicate xs.length 0) i j = true := h
      rw [hB_zeros xs.length i j (by omega)] at this
      cases this
    · have h3 := (mem_pairs h4 p).1 hp
      have h5 := b_pt ⟨p.2.val, by have := p.2.isLt; omega⟩ ⟨j, by omega⟩
      dsimp only at h5
      rw [h5, decide_eq_true_iff] at e2
      rw [← e1, e2]
      exact h3
  · intro h
    refine .inr ⟨(⟨i, hi⟩, ⟨j, hj⟩), (mem_pairs h4 _).2 h, rfl, ?_⟩
    have h5 := b_pt ⟨j, by omega⟩ ⟨j, by omega⟩
    dsimp only at h5
    rw [h5]
    simp
theorem ok_pairs {n : Nat} (L : List (Fin n × Fin n)) : (L.map rowQ).all (okP n) = true := by
  rw [List.all_eq_true]
  intro p hp
  obtain ⟨q, _, rfl⟩ := List.mem_map.1 hp
  have h1 := q.1.isLt
  have h2 := q.2.isLt
  unfold okP rowQ ptB
  rw [show rowAt [(q.1.val : Int), (q.2.val : Int)] 0 = (q.1.val : Int) from rfl, show rowAt [(q.1.val : Int), (q.2.val : Int)] 1 = (q.2.val : Int) from rfl, decide_eq_true (⟨by omega, by omega⟩ : (0 : Int) ≤ (q.1.val : Int) ∧ (q.1.val : Int) < (n : Int)), decide_eq_true (⟨by omega, by omega⟩ : (0 : Int) ≤ (q.2.val : Int) ∧ (q.2.val : Int) < (n : Int))]
  rfl
end Go.Proofs.Ytnmgoeklcmoalab
