/-
  The program's composition: relation.then, CompOf; for relations of at most 4 points.
-/
import Derived.Test.YtgmjdkhegbdbjaaGA
import Derived.StillTailTactics
import Derived.TacticsIn
import Derived.OrdersIn
import Derived.RangeFuncCalls
namespace Go.Proofs.Ytgmjdkhegbdbjaa
open Go.RowKit

/-! both -/
theorem b_and : ∀ z y : Fin 16, ∀ j : Fin 4, hasB (bits .and .i64 (z.val : Int) (y.val : Int)) j.val = (hasB (z.val : Int) j.val && hasB (y.val : Int) j.val) := by decide +kernel
theorem b_andlt : ∀ n : Fin 5, ∀ z y : Fin 16, z.val < 2 ^ n.val → y.val < 2 ^ n.val → ∃ u : Fin 16, bits .and .i64 (z.val : Int) (y.val : Int) = (u.val : Int) ∧ u.val < 2 ^ n.val := by decide +kernel
theorem Rl.both {n : Nat} {xs ys : List Int} (h : Rl n xs) (k : Rl n ys) : Rl n (bothL xs ys) := by
  have hl : (bothL xs ys).length = n := by unfold bothL zipI; rw [List.length_zipWith, h.len, k.len, Nat.min_self]
  refine Rl.mk' hl h.one h.four fun i hi => ?_
  obtain ⟨y, hy, hy2⟩ := h.row i
  obtain ⟨z, hz, hz2⟩ := k.row i
  obtain ⟨u, hu, hu2⟩ := b_andlt ⟨n, by have := h.four; omega⟩ y z hy2 hz2
  refine ⟨u, ?_, hu2⟩
  unfold bothL
  rw [zipAt _ _ _ _ (by rw [h.len]; exact hi) (by rw [k.len]; exact hi), hy, hz, hu]
theorem Rl.zeros {n : Nat} (h1 : 1 ≤ n) (h4 : n ≤ 4) : Rl n (List.replicate n 0) := ⟨List.length_replicate, h1, h4, zeros16 n⟩
/-! the kinds, as the model asks -/
/-! the program's -/
def offI (xs : List Int) : List Int := bothL xs (otherL (sameL xs.length))
def allL (n : Nat) : List Int := otherL (List.replicate n 0)
theorem Rl.off {n : Nat} {xs : List Int} (h : Rl n xs) : Rl n (offI xs) := by
  unfold offI
  rw [h.len]
  exact h.both (Rl.same h.one h.four).other
theorem Rl.all {n : Nat} (h1 : 1 ≤ n) (h4 : n ≤ 4) : Rl n (allL n) := (Rl.zeros h1 h4).other
end Go.Proofs.Ytgmjdkhegbdbjaa

namespace Go.Proofs.Ytgmjdkhegbdbjaa
open Go.RowKit

theorem row_fin {n : Nat} {z : Int} (h4 : n ≤ 4) (h : rowIn n z = true) : ∃ u : Fin 16, z = (u.val : Int) ∧ u.val < 2 ^ n := by
  unfold rowIn at h
  rw [Bool.and_eq_true] at h
  have h1 := of_decide_eq_true h.1
  have h2 := of_decide_eq_true h.2
  have h3 : (2 : Int) ^ n ≤ 16 := by
    rcases (by omega : n = 0 ∨ n = 1 ∨ n = 2 ∨ n = 3 ∨ n = 4) with rfl | rfl | rfl | rfl | rfl <;> decide
  refine ⟨⟨z.toNat, by omega⟩, by show z = ((z.toNat : Nat) : Int); omega, ?_⟩
  show z.toNat < 2 ^ n
  have : ((2 ^ n : Nat) : Int) = (2 : Int) ^ n := by rcases (by omega : n = 0 ∨ n = 1 ∨ n = 2 ∨ n = 3 ∨ n = 4) with rfl | rfl | rfl | rfl | rfl <;> rfl
  omega
/-- a set is a part of another one -/
def partB (s t : Int) : Bool := bits .andNot .i64 s t == 0
theorem isPartOf_any (s t : Int) (w : World) : Calls Try.prog 69 #[.int .i64 s, .int .i64 t] w fun e w' => e = .returned (.bool (partB s t)) ∧ w = w' := by
  go_enter Try.func69, Try.ntmps69
  go_wp2
  go_ret
  exact ⟨rfl, rfl⟩
end Go.Proofs.Ytgmjdkhegbdbjaa

namespace Go.Proofs.Ytgmjdkhegbdbjaa
open Go.RowKit

/-- a set of n points -/
def St (n : Nat) (z : Int) : Prop := ∃ u : Fin 16, z = (u.val : Int) ∧ u.val < 2 ^ n

theorem St.ext {n : Nat} {y z : Int} (h4 : n ≤ 4) (hy : St n y) (hz : St n z) (e : ∀ j, j < n → hasB y j = hasB z j) : y = z := by
  obtain ⟨u, rfl, hu⟩ := hy
  obtain ⟨v, rfl, hv⟩ := hz
  rw [b_ext ⟨n, by omega⟩ u v hu hv (fun j => e j.val j.isLt)]
theorem St.of {n : Nat} {z : Int} (h4 : n ≤ 4) (h : rowIn n z = true) : St n z := row_fin h4 h
theorem St.row {n : Nat} {xs : List Int} (h : Rl n xs) (i : Nat) : St n (rowAt xs i) := h.row i
theorem St.zero (n : Nat) : St n 0 := ⟨0, rfl, Nat.two_pow_pos _⟩
theorem St.and {n : Nat} {y z : Int} (h4 : n ≤ 4) (hy : St n y) (hz : St n z) : St n (bits .and .i64 y z) := by
  obtain ⟨u, rfl, hu⟩ := hy
  obtain ⟨v, rfl, hv⟩ := hz
  exact b_andlt ⟨n, by omega⟩ u v hu hv
theorem St.hasAnd {n : Nat} {y z : Int} (hy : St n y) (hz : St n z) (j : Nat) (hj : j < 4) : hasB (bits .and .i64 y z) j = (hasB y j && hasB z j) := by
  obtain ⟨u, rfl, hu⟩ := hy
  obtain ⟨v, rfl, hv⟩ := hz
  exact b_and u v ⟨j, hj⟩
theorem St.pt {n : Nat} (h4 : n ≤ 4) (i : Nat) (hi : i < n) : St n (pt i) := b_ptlt ⟨n, by omega⟩ ⟨i, hi⟩
theorem St.or {n : Nat} {y z : Int} (h4 : n ≤ 4) (hy : St n y) (hz : St n z) : St n (bits .or .i64 y z) := by
  obtain ⟨u, rfl, hu⟩ := hy
  obtain ⟨v, rfl, hv⟩ := hz
  exact b_orlt ⟨n, by omega⟩ u v hu hv
theorem St.hasOr {n : Nat} {y z : Int} (hy : St n y) (hz : St n z) (j : Nat) (hj : j < 4) : hasB (bits .or .i64 y z) j = (hasB y j || hasB z j) := by
  obtain ⟨u, rfl, hu⟩ := hy
  obtain ⟨v, rfl, hv⟩ := hz
  exact b_or u v ⟨j, hj⟩
theorem has_pt (i j : Nat) (hi : i < 4) (hj : j < 4) : hasB (pt i) j = decide (j = i) := b_pt ⟨i, hi⟩ ⟨j, hj⟩
theorem has_no (j : Nat) (hj : j < 4) : hasB 0 j = false := b_zero ⟨j, hj⟩

/-- all points but those of a set -/
def notA (n : Nat) (z : Int) : Int := bits .andNot .i64 (2 ^ n - 1) z
theorem St.not {n : Nat} {z : Int} (h4 : n ≤ 4) (hz : St n z) : St n (notA n z) := by
  obtain ⟨u, rfl, hu⟩ := hz
  obtain ⟨v, hv, hv2, _⟩ := b_not ⟨n, by omega⟩ u hu
  exact ⟨v, hv, hv2⟩
theorem bP_less : ∀ n : Fin 5, ∀ z y : Fin 16, z.val < 2 ^ n.val → y.val < 2 ^ n.val → ∃ u : Fin 16, bits .andNot .i64 (z.val : Int) (y.val : Int) = (u.val : Int) ∧ u.val < 2 ^ n.val ∧ ∀ j : Fin 4, hasB (u.val : Int) j.val = (hasB (z.val : Int) j.val && !hasB (y.val : Int) j.val) := by decide +kernel
theorem St.less {n : Nat} {y z : Int} (h4 : n ≤ 4) (hy : St n y) (hz : St n z) : St n (bits .andNot .i64 y z) := by
  obtain ⟨u, rfl, hu⟩ := hy
  obtain ⟨v, rfl, hv⟩ := hz
  obtain ⟨t, ht, ht2, _⟩ := bP_less ⟨n, by omega⟩ u v hu hv
  exact ⟨t, ht, ht2⟩
theorem bP_part : ∀ n : Fin 5, ∀ z y : Fin 16, z.val < 2 ^ n.val → y.val < 2 ^ n.val → (partB (z.val : Int) (y.val : Int) = true ↔ ∀ j : Fin n.val, hasB (z.val : Int) j.val = true → hasB (y.val : Int) j.val = true) := by decide +kernel
theorem St.part {n : Nat} {y z : Int} (h4 : n ≤ 4) (hy : St n y) (hz : St n z) : partB y z = true ↔ ∀ j, j < n → hasB y j = true → hasB z j = true := by
  obtain ⟨u, rfl, hu⟩ := hy
  obtain ⟨v, rfl, hv⟩ := hz
  rw [bP_part ⟨n, by omega⟩ u v hu hv]
  exact ⟨fun g j hj => g ⟨j, hj⟩, fun g j => g j.val j.isLt⟩

/-! after -/
/-- the points to which some of a set are related -/
def imgA (xs : List Int) (z : Int) : Int := imgTo xs z xs.length
theorem St.img {n : Nat} {xs : List Int} {z : Int} (h : Rl n xs) (hz : St n z) : St n (imgA xs z) := by
  obtain ⟨v, rfl, hv⟩ := hz
  obtain ⟨u, hu, hu2, _⟩ := img_row h v n (Nat.le_refl _)
  unfold imgA
  rw [h.len]
  exact ⟨u, hu, hu2⟩
theorem has_img {n : Nat} {xs : List Int} {z : Int} (h : Rl n xs) (hz : St n z) (j : Nat) (hj : j < n) : hasB (imgA xs z) j = true ↔ ∃ l, l < n ∧ hasB z l = true ∧ hB xs l j = true := by
  obtain ⟨v, rfl, hv⟩ := hz
  obtain ⟨u, hu, _, hu3⟩ := img_row h v n (Nat.le_refl _)
  unfold imgA
  rw [h.len, hu]
  exact hu3 j hj
/-- what a point alone is related to -/
theorem img_pt {n : Nat} {xs : List Int} (h : Rl n xs) (i : Nat) (hi : i < n) : imgA xs (pt i) = rowAt xs i := by
  have h4 := h.four
  refine St.ext h4 (St.img h (St.pt h4 i hi)) (St.row h i) fun j hj => ?_
  rw [Bool.eq_iff_iff, has_img h (St.pt h4 i hi) j hj]
  constructor
  · rintro ⟨l, hl, e, g⟩
    rw [has_pt i l (by omega) (by omega)] at e
    obtain rfl := of_decide_eq_true e
    exact g
  · intro g
    exact ⟨i, hi, by rw [has_pt i i (by omega) (by omega)]; exact decide_eq_true rfl, g⟩

/-! surely -/
/-! by tests -/
theorem rowOf (n : Nat) (f : Nat → Int) (i : Nat) (hi : i < n) : rowAt ((List.range n).map f) i = f i := by
  unfold rowAt
  rw [List.getD_eq_getElem?_getD, List.getElem?_map, List.getElem?_range hi]
  rfl
theorem Rl.tell {n : Nat} (h1 : 1 ≤ n) (h4 : n ≤ 4) (f : Nat → Int) (hf : ∀ i, i < n → St n (f i)) : Rl n ((List.range n).map f) :=
  Rl.mk' (by rw [List.length_map, List.length_range]) h1 h4 fun i hi => by rw [rowOf n f i hi]; exact hf i hi
/-- the rows of a test, without the others -/
def wiL (z : Int) (xs : List Int) : List Int := (List.range xs.length).map fun i => if hasB z i then rowAt xs i else 0
theorem Rl.wi {n : Nat} {xs : List Int} (h : Rl n xs) (z : Int) : Rl n (wiL z xs) := by
  unfold wiL
  rw [h.len]
  refine Rl.tell h.one h.four _ fun i hi => ?_
  cases hasB z i
  · exact St.zero n
  · exact St.row h i
/-! sets that are put together step by step -/
/-! ends -/
/-! kept and largest sets -/
/-! loops -/
/-- steps of a test, as many as one likes, and out of it -/
def whileL (z : Int) (xs : List Int) : List Int := (List.range xs.length).map fun i => bits .andNot .i64 (rowAt (starL (wiL z xs)) i) z
theorem wi_len (z : Int) (xs : List Int) : (wiL z xs).length = xs.length := by unfold wiL; rw [List.length_map, List.length_range]
theorem Rl.wiStar {n : Nat} {xs : List Int} (h : Rl n xs) (z : Int) : Rl n (starL (wiL z xs)) := by
  have hw := h.wi z
  have e : (wiL z xs).length = n := by rw [wi_len, h.len]
  rw [← e] at hw
  have := hw.star
  rw [e] at this
  exact this
theorem Rl.while {n : Nat} {xs : List Int} (h : Rl n xs) {z : Int} (hz : St n z) : Rl n (whileL z xs) := by
  unfold whileL
  rw [h.len]
  exact Rl.tell h.one h.four _ fun i hi => St.less h.four (St.row (h.wiStar z) i) hz
end Go.Proofs.Ytgmjdkhegbdbjaa

namespace Go.Proofs.Ytgmjdkhegbdbjaa
open Go

section
variable {F : Fence} {n : Nat} {P : Program} {ops : Array Oper} {md : Region.Mode} {w : World}

end

end Go.Proofs.Ytgmjdkhegbdbjaa

namespace Go.Proofs.Ytgmjdkhegbdbjaa
open Go.RowKit Go.Shelf
attribute [local go_sem] Oper.semAt_some

end Go.Proofs.Ytgmjdkhegbdbjaa
