/-
  The model's and the program's RelOf; for lists of lists of at most 2^20 numbers in all.
-/
import Derived.Test.YtnmgoeklcmoalaaFE
namespace Go.Proofs.Ytnmgoeklcmoalaa
open Go.RowKit

/-- a pair of points -/
def okP (n : Nat) (p : List Int) : Bool := decide (p.length = 2) && ptB (rowAt p 0) n && ptB (rowAt p 1) n
def addP (zs p : List Int) : List Int := addPair zs (rowAt p 0).toNat (rowAt p 1).toNat
def ofL (n : Nat) (xss : List (List Int)) : List Int := xss.foldl addP (List.replicate n 0)
theorem ofL_snoc (n : Nat) (xss : List (List Int)) (p : List Int) : ofL n (xss ++ [p]) = addP (ofL n xss) p := by
  unfold ofL
  rw [List.foldl_append]
  rfl
theorem ofL_len (n : Nat) (xss : List (List Int)) : (ofL n xss).length = n := by
  have h : ∀ (l : List (List Int)) (zs : List Int), (l.foldl addP zs).length = zs.length := by
    intro l
    induction l with
    | nil => intro zs; rfl
    | cons p r ih => intro zs; rw [List.foldl_cons, ih]; exact addPair_len _ _ _
  unfold ofL
  rw [h]
  simp
theorem ofL16 (n : Nat) (xss : List (List Int)) (h : xss.all (okP n) = true) (h4 : n ≤ 4) : ∀ i, ∃ z : Fin 16, rowAt (ofL n xss) i = (z.val : Int) := by
  have key : ∀ (l : List (List Int)) (zs : List Int), l.all (okP n) = true → zs.length = n → (∀ i, ∃ z : Fin 16, rowAt zs i = (z.val : Int)) → ∀ i, ∃ z : Fin 16, rowAt (l.foldl addP zs) i = (z.val : Int) := by
    intro l
    induction l with
    | nil => intro zs _ _ hz; exact hz
    | cons p r ih =>
      intro zs hl hn hz
      rw [List.all_cons, Bool.and_eq_true] at hl
      rw [List.foldl_cons]
      have hp := hl.1
      unfold okP at hp
      rw [Bool.and_eq_true, Bool.and_eq_true] at hp
      have a0 : 0 ≤ rowAt p 0 ∧ rowAt p 0 < n := of_decide_eq_true hp.1.2
      have a1 : 0 ≤ rowAt p 1 ∧ rowAt p 1 < n := of_decide_eq_true hp.2
      refine ih _ hl.2 (by show (addPair _ _ _).length = n; rw [addPair_len, hn]) fun i => ?_
      show ∃ z : Fin 16, rowAt (addPair zs (rowAt p 0).toNat (rowAt p 1).toNat) i = (z.val : Int)
      rw [addPair_at zs _ _ i (by omega)]
      split
      · obtain ⟨z, hz2⟩ := hz (rowAt p 0).toNat
        rw [hz2]
        exact or16 z ⟨(rowAt p 1).toNat, by omega⟩
      · exact hz i
  exact key xss _ h (by simp) (fun i => ⟨0, zeros_at n i⟩)
theorem all_bad {n : Nat} {xss : List (List Int)} {k : Nat} {p : List Int} (h : xss[k]? = some p) (hb : okP n p = false) : xss.all (okP n) = false := by
  rw [List.all_eq_false]
  exact ⟨p, List.mem_of_getElem? h, by simp [hb]⟩
theorem all_step {n : Nat} {xss : List (List Int)} {k : Nat} {p : List Int} (h : xss[k]? = some p) (hb : okP n p = true) (ha : (xss.take k).all (okP n) = true) : (xss.take (k + 1)).all (okP n) = true := by
  rw [List.take_add_one, h]
  simp [ha, hb]
theorem ofL_step {n : Nat} {xss : List (List Int)} {k : Nat} {p : List Int} (h : xss[k]? = some p) : ofL n (xss.take (k + 1)) = addP (ofL n (xss.take k)) p := by
  rw [List.take_add_one, h]
  exact ofL_snoc _ _ _
theorem ptB_eq (x : Int) (n : Nat) : inB x 0 ((n : Int) - 1) = ptB x n := by
  unfold inB ptB
  by_cases h : 0 ≤ x ∧ x < n
  · rw [decide_eq_true h, decide_eq_true (by omega)]
  · rw [decide_eq_false h, decide_eq_false (by omega)]
theorem pt_wrapF (k : Nat) (h : k < 4) : wrap64 (2 ^ k) = pt k := by
  rcases (by omega : k = 0 ∨ k = 1 ∨ k = 2 ∨ k = 3) with rfl | rfl | rfl | rfl <;> decide +kernel
theorem two_of {p : List Int} (h : p.length = 2) : ∃ x y, p = [x, y] := by
  match p, h with
  | [x, y], _ => exact ⟨x, y, rfl⟩

end Go.Proofs.Ytnmgoeklcmoalaa
