/-
  Full rectangles have all pairs, are told by polars, and ascend.
-/
import Derived.Test.YtnmgoeklcmoalabQJ
import Derived.Test.YtnmgoeklcmoalabRA
namespace Go.Proofs.Ytnmgoeklcmoalab
open Go.RowKit

def rowR (r : Int × Int) : List Int := [r.1, r.2]
theorem PI_map (L : List (Int × Int)) : (List.range L.length).map (PI L) = L.map rowR := by
  apply List.ext_getElem?
  intro i
  rw [List.getElem?_map, List.getElem?_map]
  by_cases h : i < L.length
  · rw [List.getElem?_range h, List.getElem?_eq_getElem h]
    show some (PI L i) = some (rowR L[i])
    rw [PI_at (List.getElem?_eq_getElem h)]
    rfl
  · rw [List.getElem?_eq_none (by simpa using h), List.getElem?_eq_none (by simpa using h)]
    rfl
theorem rof_union (n : Nat) (L : List (Int × Int)) : rofL n (L.map rowR) = unionL n L := by
  unfold rofL unionL
  rw [List.foldl_map]
  rfl
theorem rect_okR {n : Nat} {r : Int × Int} (h : isRect n r) : okR n (rowR r) = true := by
  obtain ⟨s, t, rfl, hs, ht⟩ := h
  have h1 : ((s.val : Nat) : Int) < 2 ^ n := by
    have : ((s.val : Nat) : Int) < ((2 ^ n : Nat) : Int) := by omega
    simpa using this
  have h2 : ((t.val : Nat) : Int) < 2 ^ n := by
    have : ((t.val : Nat) : Int) < ((2 ^ n : Nat) : Int) := by omega
    simpa using this
  unfold okR rowR rowIn
  rw [show rowAt [(s.val : Int), (t.val : Int)] 0 = (s.val : Int) from rfl, show rowAt [(s.val : Int), (t.val : Int)] 1 = (t.val : Int) from rfl, decide_eq_true h1, decide_eq_true h2, decide_eq_true (show (0 : Int) ≤ (s.val : Int) by omega), decide_eq_true (show (0 : Int) ≤ (t.val : Int) by omega)]
  rfl
theorem rects_ok {n : Nat} {L : List (Int × Int)} (h : ∀ r, r ∈ L → isRect n r) : (L.map rowR).all (okR n) = true := by
  rw [List.all_eq_true]
  intro p hp
  obtain ⟨r, hr, rfl⟩ := List.mem_map.1 hp
  exact rect_okR (h r hr)
/-- all full rectangles together are the relation -/
theorem full_union {xs : List Int} (R : Rl xs.length xs) : rofL xs.length ((fullL xs).map rowR) = xs := by
  rw [rof_union]
  refine (union_rl R.one R.four fun r hr => (full_mem R hr).1).ext R fun i j hi hj => ?_
  rw [Bool.eq_iff_iff, hB_union R.one R.four (fun r hr => (full_mem R hr).1) i j hi hj]
  exact ⟨fun ⟨r, hr, e⟩ => (full_mem R hr).2 i j hi hj e, fun e => full_at R i j hi hj e⟩
/-- a full rectangle by its place -/
theorem full_idx {xs : List Int} (R : Rl xs.length xs) (t : Nat) (h : t < (fullL xs).length) :
    ∃ z p : Int, ((fullL xs).map rowR)[t]? = some [z, p] ∧ setB xs z = true ∧ polI xs z = p ∧ setB (turnL xs) p = true ∧ polI (turnL xs) p = z := by
  have hm : (fullL xs)[t] ∈ fullL xs := List.getElem_mem h
  obtain ⟨z, hz, e⟩ : ∃ z : Nat, (z < 2 ^ xs.length ∧ clo xs (z : Int) = (z : Int)) ∧ (fullL xs)[t] = ((z : Int), relAll xs (z : Int)) := by
    have hm2 : (fullL xs)[t] ∈ fullTo xs (2 ^ xs.length) := hm
    unfold fullTo at hm2
    obtain ⟨z, hz, e⟩ := List.mem_map.1 hm2
    obtain ⟨h1, h2⟩ := List.mem_filter.1 hz
    exact ⟨z, ⟨List.mem_range.1 h1, by simpa using h2⟩, e.symm⟩
  have h4 := R.four
  have h16 : 2 ^ xs.length ≤ 16 := by rcases (by omega : xs.length = 0 ∨ xs.length = 1 ∨ xs.length = 2 ∨ xs.length = 3 ∨ xs.length = 4) with e | e | e | e | e <;> rw [e] <;> decide
  have T := R.turn
  have T' : Rl (turnL xs).length (turnL xs) := by rw [T.len]; exact T
  obtain ⟨q, hq, hql, _⟩ := relAll_row R (z : Int)
  have s1 : setB xs (z : Int) = true := fin_set R ⟨z, by omega⟩ hz.1
  have s2 : setB (turnL xs) (relAll xs (z : Int)) = true := by rw [hq]; exact fin_set T' q (by rw [T.len]; exact hql)
  refine ⟨(z : Int), relAll xs (z : Int), ?_, s1, ?_, s2, ?_⟩
  · rw [List.getElem?_map, List.getElem?_eq_getElem h, e]
    rfl
  · unfold polI
    rw [s1]
    rfl
  · unfold polI
    rw [s2]
    exact hz.2
theorem full_asc {xs : List Int} (t : Nat) (h : t + 1 < (fullL xs).length) : decide ((fullL xs)[t + 1].1 ≤ (fullL xs)[t].1) = false := by
  have hp : (fullL xs).Pairwise fun a b => a.1 < b.1 := by
    unfold fullL fullTo
    rw [List.pairwise_map]
    refine List.Pairwise.imp ?_ (List.Pairwise.filter _ (List.pairwise_lt_range (n := 2 ^ xs.length)))
    intro a b hab
    show ((a : Nat) : Int) < ((b : Nat) : Int)
    omega
  have := List.pairwise_iff_getElem.1 hp t (t + 1) (by omega) h (by omega)
  exact decide_eq_false (by omega)
end Go.Proofs.Ytnmgoeklcmoalab
