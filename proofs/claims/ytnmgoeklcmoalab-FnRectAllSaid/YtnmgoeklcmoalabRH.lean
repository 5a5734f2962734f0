/-
  There are as many full rectangles turned.
-/
import Derived.Test.YtnmgoeklcmoalabQJ
import Derived.Test.YtnmgoeklcmoalabRA
namespace Go.Proofs.Ytnmgoeklcmoalab
open Go.RowKit

theorem full_swap {xs : List Int} (R : Rl xs.length xs) {r : Int × Int} (h : r ∈ fullL xs) : (r.2, r.1) ∈ fullL (turnL xs) := by
  unfold fullL fullTo at h
  obtain ⟨z, hz, rfl⟩ := List.mem_map.1 h
  obtain ⟨hz1, hz2⟩ := List.mem_filter.1 hz
  have hc : clo xs (z : Int) = (z : Int) := by simpa using hz2
  have T := R.turn
  obtain ⟨q, hq, hql, _⟩ := relAll_row R (z : Int)
  have hq2 : relAll (turnL xs) (q.val : Int) = (z : Int) := by rw [← hq]; exact hc
  unfold fullL fullTo
  rw [T.len]
  refine List.mem_map.2 ⟨q.val, List.mem_filter.2 ⟨List.mem_range.2 hql, ?_⟩, ?_⟩
  · have : clo (turnL xs) (q.val : Int) = (q.val : Int) := by
      unfold clo
      rw [turn_turn R, hq2, hq]
    rw [this]
    exact beq_self_eq_true _
  · show ((q.val : Int), relAll (turnL xs) (q.val : Int)) = (relAll xs (z : Int), (z : Int))
    rw [hq2, hq]
theorem full_le {xs : List Int} (R : Rl xs.length xs) : (fullL xs).length ≤ (fullL (turnL xs)).length := by
  have h := nodup_le (l := (fullL xs).map fun r => (r.2, r.1)) (s := fullL (turnL xs)) (List.Pairwise.map _ (fun a b hab e => hab (by
    have h1 := congrArg Prod.fst e
    have h2 := congrArg Prod.snd e
    exact Prod.ext h2 h1)) (full_nodup xs)) (fun x hx => by
    obtain ⟨r, hr, rfl⟩ := List.mem_map.1 hx
    exact full_swap R hr)
  rwa [List.length_map] at h
theorem full_turned {xs : List Int} (R : Rl xs.length xs) : (fullL (turnL xs)).length = (fullL xs).length := by
  have T := R.turn
  have T' : Rl (turnL xs).length (turnL xs) := by rw [T.len]; exact T
  have h1 := full_le R
  have h2 := full_le T'
  rw [turn_turn R] at h2
  omega
theorem fullN_le {a : List Int} (hrl : a.length ≤ 4) : fullN a ≤ 1048576 := by
  have h1 : (fullL a).length ≤ 2 ^ a.length := full_len a (2 ^ a.length)
  have h2 : 2 ^ a.length ≤ 2 ^ 4 := Nat.pow_le_pow_right (by decide) hrl
  unfold fullN
  by_cases e : relIn a = true
  · rw [if_pos e]; omega
  · rw [if_neg e]; omega
end Go.Proofs.Ytnmgoeklcmoalab
