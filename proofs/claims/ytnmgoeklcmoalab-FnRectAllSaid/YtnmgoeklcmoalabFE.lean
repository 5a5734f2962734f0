/-
  toIntSS (the laws' helper); the model's RelOf.
-/
import Derived.Test.YtnmgoeklcmoalabFD
import Derived.Test.YtnmgoeklcmoalabAA
namespace Go.Proofs.Ytnmgoeklcmoalab
open Go.RowKit

theorem setS (us : Nat → Value) (z v : Value) (n k : Nat) (hk : k < n) :
    ((List.range k).map us ++ List.replicate (n - k) z).set k v = (List.range (k + 1)).map (fun j => if j = k then v else us j) ++ List.replicate (n - (k + 1)) z := by
  obtain ⟨m, hm⟩ : ∃ m, n - k = m + 1 := ⟨n - k - 1, by omega⟩
  have hm2 : n - (k + 1) = m := by omega
  have h0 : k - ((List.range k).map us).length = 0 := by simp
  rw [hm, hm2, List.set_append_right _ _ (by simp), h0, List.replicate_succ, List.set_cons_zero, List.range_succ, List.map_append, List.append_assoc]
  congr 1
  · apply List.map_congr_left
    intro j hj
    have := List.mem_range.1 hj
    rw [if_neg (by omega)]
  · simp

end Go.Proofs.Ytnmgoeklcmoalab
