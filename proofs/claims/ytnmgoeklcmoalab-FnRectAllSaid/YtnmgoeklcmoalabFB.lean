/-
  The model's RelPairs; for lists of at most 2^20 numbers.
-/
import Derived.Test.YtnmgoeklcmoalabFA
namespace Go.Proofs.Ytnmgoeklcmoalab
open Go.RowKit

theorem Try.info223 : (Try.prog.info? 23).map (fun i => (i.zero, i.size, i.bytes)) = some (some (.slice none 0 0), 1, 24) := by kernel_rfl

/-- the rows of a list of pairs -/
def PR {n : Nat} (L : List (Fin n × Fin n)) (j : Nat) : List Int := match L[j]? with
  | some p => [(p.1.val : Int), (p.2.val : Int)]
  | none => []
theorem PR_old {n : Nat} (L : List (Fin n × Fin n)) (p : Fin n × Fin n) (j : Nat) (hj : j < L.length) : PR (L ++ [p]) j = PR L j := by
  unfold PR
  rw [List.getElem?_append_left hj]
theorem PR_new {n : Nat} (L : List (Fin n × Fin n)) (p : Fin n × Fin n) : PR (L ++ [p]) L.length = [(p.1.val : Int), (p.2.val : Int)] := by
  unfold PR
  rw [List.getElem?_append_right (Nat.le_refl _), Nat.sub_self]
  rfl
theorem Own2.empty {w : World} {lo : Nat} {v : Value} {r : Nat → List Int} {gs : Nat → Nat} (h : w.ownsRow lo 23 1 v 0 []) : Own2 w lo w.heap.size v 0 r gs :=
  ⟨h, fun k hk => (h.lt k hk).2, Nat.le_refl _, fun i j _ hj => by omega, fun j hj => by omega⟩
theorem Own2.hi {w : World} {lo hi n : Nat} {v : Value} {r : Nat → List Int} {gs : Nat → Nat} (h : Own2 w lo hi v n r gs) : Own2 w lo w.heap.size v n r gs :=
  ⟨h.row, fun k hk => (h.row.lt k hk).2, Nat.le_refl _, h.apart, fun j hj => ⟨(h.rows j hj).1, (h.rows j hj).2.row, fun k hk => ((h.rows j hj).2.row.lt k hk).2, Nat.le_refl _⟩⟩
/-- a row more -/
theorem Own2.push {W w3 : World} {lo n : Nat} {v v' : Value} {r r' : Nat → List Int} {gs : Nat → Nat} (h : Own2 W lo W.heap.size v n r gs) (hlo : lo ≤ W.heap.size) (a b : Int)
    (hown : w3.ownsRow lo 23 1 v' (n + 1) ((List.range n).map (fun k => sl2 (gs k)) ++ [sl2 W.heap.size]))
    (hgrow : ((W.alloc (.cells #[.int .i64 a, .int .i64 b] 3)).alloc (.cells #[sl2 W.heap.size] 23)).grownBy w3 v.ownBlock)
    (hr : ∀ j, j < n → r' j = r j) (hrn : r' n = [a, b]) : Own2 w3 lo w3.heap.size v' (n + 1) r' (fun j => if j = n then W.heap.size else gs j) := by
  have hsz := hgrow.size
  simp only [World.size_alloc] at hsz
  have hold : ∀ j, j < n → gs j < W.heap.size := fun j hj => ((h.rows j hj).2.row.lt _ rfl).2
  refine ⟨?_, fun k hk => (hown.lt k hk).2, Nat.le_refl _, ?_, ?_⟩
  · have e : (List.range (n + 1)).map (fun k => sl2 (if k = n then W.heap.size else gs k)) = (List.range n).map (fun k => sl2 (gs k)) ++ [sl2 W.heap.size] := by
      rw [List.range_succ, List.map_append]
      congr 1
      · apply List.map_congr_left
        intro k hk
        have := List.mem_range.1 hk
        rw [if_neg (by omega)]
      · simp
    rw [e]
    exact hown
  · intro i j hij hj
    show (if i = n then W.heap.size else gs i) ≠ (if j = n then W.heap.size else gs j)
    rw [if_neg (by omega)]
    by_cases e : j = n
    · rw [if_pos e]
      have := hold i (by omega)
      omega
    · rw [if_neg e]
      exact h.apart i j hij (by omega)
  · intro j hj
    by_cases e : j = n
    · subst e
      show (r' j).length = 2 ∧ OwnR w3 lo w3.heap.size (sl2 (if j = j then W.heap.size else gs j)) (r' j)
      rw [if_pos rfl, hrn]
      refine ⟨rfl, ?_, ?_, Nat.le_refl _⟩
      · have h0 : (W.alloc (.cells #[.int .i64 a, .int .i64 b] 3)).ownsRow lo 3 1 (sl2 W.heap.size) 2 [.int .i64 a, .int .i64 b] := World.ownsRow_lit W _ 2 hlo (by unfold maxLen; omega) rfl
        refine own_same (h0.alloc (.cells #[sl2 W.heap.size] 23)) fun k hk => ?_
        cases hk
        refine hgrow.block W.heap.size (by simp; omega) fun e => ?_
        have := (h.row.lt _ e.symm).2
        omega
      · intro k hk
        cases hk
        show W.heap.size < w3.heap.size
        omega
    · show (r' j).length = 2 ∧ OwnR w3 lo w3.heap.size (sl2 (if j = n then W.heap.size else gs j)) (r' j)
      rw [if_neg e, hr j (by omega)]
      obtain ⟨l1, r1⟩ := h.rows j (by omega)
      have hj1 := hold j (by omega)
      refine ⟨l1, own_same r1.row fun k hk => ?_, ?_, Nat.le_refl _⟩
      · cases hk
        refine (hgrow.block (gs j) (by simp; omega) fun e => ?_).trans ((Below.heap_alloc _ _ _ (by simp; omega)).trans (Below.heap_alloc _ _ _ hj1))
        rcases h.row.2 with ⟨rfl, _⟩ | ⟨gp, cap, cur, rfl, _⟩
        · simp [Value.ownBlock] at e
        · have := rows_apart2 r1.row h.row
          simp [Value.ownBlock] at e
          exact this e
      · intro k hk
        cases hk
        show gs j < w3.heap.size
        omega

/-- a contract over lists of rows of two -/
def Gave2 (w : World) (n : Nat) (r : Nat → List Int) (ok : Bool) (e : Ending) (w' : World) : Prop :=
  ∃ v gs, e = .returned (.tuple #[v, .bool ok]) ∧ Own2 w' w.heap.size w'.heap.size v n r gs ∧ Below w.heap.size w w'
def ifPn (xs : List Int) : Nat := if relIn xs then (pairsOf xs).length else 0

end Go.Proofs.Ytnmgoeklcmoalab
