/-
  The walk of FnExactRelIn, out of the contracts; no conditions but what the reading of the argument gives.
-/
import Derived.Test.YtglhbejdnfafgabD
namespace Go.Proofs.Ytglhbejdnfafgab
open Go.RowKit

theorem row_rd {w : World} {base : Nat} {e : TypeId} {v : Value} {xs : List Int} (h : w.ownsRow base e 1 v xs.length (xs.map (Value.int .i64))) :
    ∃ ao cap, v = .slice ao xs.length cap ∧ Rd w ao xs := by
  rcases h.2 with ⟨rfl, hn⟩ | ⟨g, cap, cur, rfl, hb, hg, hnc, hcm, hcs, htake⟩
  · refine ⟨none, 0, by rw [hn], ?_⟩
    intro k x hx
    rw [List.eq_nil_of_length_eq_zero hn] at hx
    simp at hx
  · refine ⟨_, cap, rfl, ?_⟩
    intro k x hx
    refine ⟨g, 0, rfl, (Array.getElem?_eq_some_iff.1 hg).1, ?_⟩
    have hk : k < xs.length := (List.getElem?_eq_some_iff.1 hx).1
    have := h.cellAt k (by omega)
    rw [Nat.zero_add, this]
    simp [hx]

end Go.Proofs.Ytglhbejdnfafgab
