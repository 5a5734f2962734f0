/-
  All orders of up to 4 points: the products and sums of their greatest chains and antichains.
-/
import Derived.Test.YtnmgoeklcmoalaaOF
import Derived.Test.YtnmgoeklcmoalaaJA
namespace Go.Proofs.Ytnmgoeklcmoalaa
open Go.RowKit

/-- what is asked of the sizes -/
def szB (xs : List Int) : Bool := decide ((xs.length : Int) ≤ togTo (lnkL xs) (2 ^ xs.length) * togTo (aptL xs) (2 ^ xs.length)) && decide (togTo (lnkL xs) (2 ^ xs.length) + togTo (aptL xs) (2 ^ xs.length) ≤ (xs.length : Int) + 1)
theorem sz1 : ∀ a : Fin 2, hasB (a.val : Int) 0 = true → szB [(a.val : Int)] = true := by decide +kernel
theorem sz2 : ∀ a : Fin 4, hasB (a.val : Int) 0 = true → ∀ b : Fin 4, hasB (b.val : Int) 1 = true → (hasB (a.val : Int) 1 && hasB (b.val : Int) 0) = false → szB [(a.val : Int), (b.val : Int)] = true := by decide +kernel
theorem sz3 : ∀ a : Fin 8, hasB (a.val : Int) 0 = true → ∀ b : Fin 8, hasB (b.val : Int) 1 = true → (hasB (a.val : Int) 1 && hasB (b.val : Int) 0) = false →
    ∀ c : Fin 8, hasB (c.val : Int) 2 = true → (hasB (a.val : Int) 2 && hasB (c.val : Int) 0) = false → (hasB (b.val : Int) 2 && hasB (c.val : Int) 1) = false →
    kindT [(a.val : Int), (b.val : Int), (c.val : Int)] = true → szB [(a.val : Int), (b.val : Int), (c.val : Int)] = true := by decide +kernel
theorem sz4 : ∀ a : Fin 16, hasB (a.val : Int) 0 = true → ∀ b : Fin 16, hasB (b.val : Int) 1 = true → (hasB (a.val : Int) 1 && hasB (b.val : Int) 0) = false →
    ∀ c : Fin 16, hasB (c.val : Int) 2 = true → (hasB (a.val : Int) 2 && hasB (c.val : Int) 0) = false → (hasB (b.val : Int) 2 && hasB (c.val : Int) 1) = false →
    ∀ d : Fin 16, hasB (d.val : Int) 3 = true → (hasB (a.val : Int) 3 && hasB (d.val : Int) 0) = false → (hasB (b.val : Int) 3 && hasB (d.val : Int) 1) = false → (hasB (c.val : Int) 3 && hasB (d.val : Int) 2) = false →
    kindT [(a.val : Int), (b.val : Int), (c.val : Int), (d.val : Int)] = true → szB [(a.val : Int), (b.val : Int), (c.val : Int), (d.val : Int)] = true := by decide +kernel

theorem ord_facts {xs : List Int} (h : ordB xs = true) : (∀ i, i < xs.length → hB xs i i = true) ∧ (∀ i j, i < xs.length → j < xs.length → i ≠ j → (hB xs i j && hB xs j i) = false) ∧ kindT xs = true := by
  have R := ord_rl h
  have h2 := (ord_yes h).2
  rw [Bool.and_eq_true, Bool.and_eq_true] at h2
  refine ⟨(same_below R).1 h2.1, fun i j hi hj hne => ?_, h2.2.2⟩
  have ha := (below_same R.twoW).1 h2.2.1 i j hi hj
  rw [hB_twoW R i j hi hj] at ha
  cases hb : (hB xs i j && hB xs j i) with
  | false => rfl
  | true => exact absurd (ha hb).symm hne
theorem order_sz {xs : List Int} (h : ordB xs = true) : szB xs = true := by
  obtain ⟨hr, ha, hT⟩ := ord_facts h
  have R := ord_rl h
  have h1 := R.one
  have h4 := R.four
  have row : ∀ i, ∃ y : Nat, rowAt xs i = (y : Int) ∧ y < 2 ^ xs.length := fun i => by
    obtain ⟨y, hy, hy2⟩ := R.row i
    exact ⟨y.val, hy, hy2⟩
  clear R h
  match xs, h1, h4 with
  | [x0], _, _ =>
    obtain ⟨a, ha', ha2⟩ := row 0
    have ha' : x0 = (a : Int) := ha'
    subst ha'
    exact sz1 ⟨a, ha2⟩ (hr 0 (by simp))
  | [x0, x1], _, _ =>
    obtain ⟨a, ha', ha2⟩ := row 0
    obtain ⟨b, hb', hb2⟩ := row 1
    have ha' : x0 = (a : Int) := ha'
    have hb' : x1 = (b : Int) := hb'
    subst ha' hb'
    exact sz2 ⟨a, ha2⟩ (hr 0 (by simp)) ⟨b, hb2⟩ (hr 1 (by simp)) (ha 0 1 (by simp) (by simp) (by decide))
  | [x0, x1, x2], _, _ =>
    obtain ⟨a, ha', ha2⟩ := row 0
    obtain ⟨b, hb', hb2⟩ := row 1
    obtain ⟨c, hc', hc2⟩ := row 2
    have ha' : x0 = (a : Int) := ha'
    have hb' : x1 = (b : Int) := hb'
    have hc' : x2 = (c : Int) := hc'
    subst ha' hb' hc'
    exact sz3 ⟨a, ha2⟩ (hr 0 (by simp)) ⟨b, hb2⟩ (hr 1 (by simp)) (ha 0 1 (by simp) (by simp) (by decide)) ⟨c, hc2⟩ (hr 2 (by simp)) (ha 0 2 (by simp) (by simp) (by decide)) (ha 1 2 (by simp) (by simp) (by decide)) hT
  | [x0, x1, x2, x3], _, _ =>
    obtain ⟨a, ha', ha2⟩ := row 0
    obtain ⟨b, hb', hb2⟩ := row 1
    obtain ⟨c, hc', hc2⟩ := row 2
    obtain ⟨d, hd', hd2⟩ := row 3
    have ha' : x0 = (a : Int) := ha'
    have hb' : x1 = (b : Int) := hb'
    have hc' : x2 = (c : Int) := hc'
    have hd' : x3 = (d : Int) := hd'
    subst ha' hb' hc' hd'
    exact sz4 ⟨a, ha2⟩ (hr 0 (by simp)) ⟨b, hb2⟩ (hr 1 (by simp)) (ha 0 1 (by simp) (by simp) (by decide)) ⟨c, hc2⟩ (hr 2 (by simp)) (ha 0 2 (by simp) (by simp) (by decide)) (ha 1 2 (by simp) (by simp) (by decide)) ⟨d, hd2⟩ (hr 3 (by simp)) (ha 0 3 (by simp) (by simp) (by decide)) (ha 1 3 (by simp) (by simp) (by decide)) (ha 2 3 (by simp) (by simp) (by decide)) hT
  | _ :: _ :: _ :: _ :: _ :: _, _, h => exact absurd h (by simp)
theorem chain_anti {xs : List Int} (h : ordB xs = true) : (xs.length : Int) ≤ chainN xs * antiN xs ∧ chainN xs + antiN xs ≤ (xs.length : Int) + 1 := by
  have hs := order_sz h
  unfold szB at hs
  rw [Bool.and_eq_true] at hs
  have e1 := of_decide_eq_true hs.1
  have e2 := of_decide_eq_true hs.2
  unfold chainN antiN ifN
  rw [h, if_pos rfl, if_pos rfl]
  exact ⟨e1, e2⟩
end Go.Proofs.Ytnmgoeklcmoalaa
