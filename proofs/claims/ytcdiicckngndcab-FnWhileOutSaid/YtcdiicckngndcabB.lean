/-
  Contracts of markIntS and heldIntS: a list of the call's own is filled with marks, and found to hold them; for lists of at most 2^20 numbers.
-/
import Derived.Test.YtcdiicckngndcabA
namespace Go.Proofs.Ytcdiicckngndcab
open Go.RowKit

/-- the marks from k on -/
def marks (k n : Nat) : List Int := (List.range n).map fun i => ((k + i : Nat) : Int)

theorem marks_get (k n i : Nat) (h : i < n) : (marks k n)[i]? = some (((k + i : Nat) : Int)) := by simp [marks, h]
theorem marks_len (k n : Nat) : (marks k n).length = n := by simp [marks]

theorem grown_setCell (w : World) (g j : Nat) (u : Value) : w.grownBy (w.setCell ⟨g, j, none⟩ u) (some g) :=
  ⟨rfl, rfl, rfl, by simp, fun k _ hk => heap_setCell_other w ⟨g, j, none⟩ k u (fun e => hk (by simp [e]))⟩

theorem marks_step (xs : List Value) (k n i : Nat) (h : i < n) (hx : xs.length = n) :
    ((marks k i).map (Value.int .i64) ++ xs.drop i).set i (Value.int .i64 ((k + i : Nat) : Int)) = (marks k (i + 1)).map (Value.int .i64) ++ xs.drop (i + 1) := by
  have hd : xs.drop i = xs[i] :: xs.drop (i + 1) := List.drop_eq_getElem_cons (by omega)
  rw [hd, List.set_append_right _ _ (by simp [marks])]
  have : i - (List.map (Value.int .i64) (marks k i)).length = 0 := by simp [marks]
  rw [this, List.set_cons_zero]
  simp [marks, List.range_succ]

end Go.Proofs.Ytcdiicckngndcab
