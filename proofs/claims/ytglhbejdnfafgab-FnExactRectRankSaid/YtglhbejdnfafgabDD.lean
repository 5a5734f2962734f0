/-
  The contract of the model's KindLeast, for whatever texts.
-/
import Derived.Test.YtglhbejdnfafgabDC
namespace Go.Proofs.Ytglhbejdnfafgab
open Go.RowKit

def rst : ByteArray := ⟨#[114, 115, 116]⟩
def leastS (xs : List Int) (b : Bool) : List Int := if b then zipI (bits .or .i64) xs (turnL xs) else xs
def leastT (xs : List Int) (b : Bool) : List Int := if b then reachL xs else xs
def leastR (xs : List Int) (b : Bool) : List Int := if b then zipI (bits .or .i64) xs (sameL xs.length) else xs
def leastL (xs : List Int) (st : ByteArray) : List Int := leastR (leastT (leastS xs (hasTo st 115 st.size)) (hasTo st 116 st.size)) (hasTo st 114 st.size)
def leastB (xs : List Int) (st : ByteArray) : Bool := relIn xs && textTo st rst st.size
theorem leastS_len (xs : List Int) (b : Bool) : (leastS xs b).length = xs.length := by
  cases b
  · rfl
  · show (zipI _ xs (turnL xs)).length = _
    unfold zipI; rw [List.length_zipWith, turnL_len, Nat.min_self]
theorem leastT_len (xs : List Int) (b : Bool) : (leastT xs b).length = xs.length := by
  cases b
  · rfl
  · exact reachTo_len xs _
theorem leastR_len (xs : List Int) (b : Bool) : (leastR xs b).length = xs.length := by
  cases b
  · rfl
  · show (zipI _ xs (sameL xs.length)).length = _
    unfold zipI; rw [List.length_zipWith, sameL_len, Nat.min_self]
theorem In16.zip {xs ys : List Int} (h : In16 xs) (h2 : In16 ys) : In16 (zipI (bits .or .i64) xs ys) := by
  intro k
  by_cases hk : k < (zipI (bits .or .i64) xs ys).length
  · have hl : k < xs.length ∧ k < ys.length := by unfold zipI at hk; rw [List.length_zipWith] at hk; omega
    rw [zipAt _ _ _ _ hl.1 hl.2]
    obtain ⟨z, hz⟩ := h k
    obtain ⟨y, hy⟩ := h2 k
    rw [hz, hy]
    exact or1616 z y
  · exact ⟨0, rowAt_out _ _ hk⟩
theorem leastS16 {xs : List Int} (h : relIn xs = true) (b : Bool) : In16 (leastS xs b) := by
  cases b
  · exact row16 h
  · exact In16.zip (row16 h) (turn16 _ (relIn_len h).2 _)
theorem leastT16 {xs : List Int} (h : In16 xs) (b : Bool) : In16 (leastT xs b) := by
  cases b
  · exact h
  · exact reachTo16 h _

theorem news_of {w : World} {b off : Nat} {xs : List Int} (hx : Rd w (some ⟨b, off, none⟩) xs) (j : Nat) (u : Value) (hu : (xs.map (Value.int .i64))[j]? = some u) : (w.alloc (.cells #[] 3)).cell? ((⟨b, off, none⟩ : Addr).add j) = some u := by
  rw [List.getElem?_map] at hu
  cases hxj : xs[j]? with
  | none => rw [hxj] at hu; cases hu
  | some y =>
    rw [hxj] at hu
    cases hu
    obtain ⟨b, off, he, _, hc⟩ := (hx.below (below_one w (.cells #[] 3))) j y hxj
    cases he
    simp only [Addr.add]
    split
    · rename_i h0
      subst h0
      exact hc
    · exact hc

theorem mix_zip {xs ys zs : List Int} {j : Nat} (h : Mix xs (zipI (bits .or .i64) xs ys) j zs) (hj : j < xs.length) (hy : j < ys.length) :
    Mix xs (zipI (bits .or .i64) xs ys) (j + 1) (zs.set j (bits .or .i64 (rowAt xs j) (rowAt ys j))) := by
  refine h.step hj ?_
  rw [rowAt_get (by unfold zipI; rw [List.length_zipWith]; omega), zipAt _ _ _ _ hj hy]
theorem pt_wrap (k : Nat) (h : k < 4) : wrap64 (2 ^ k) = pt k := by
  rcases (by omega : k = 0 ∨ k = 1 ∨ k = 2 ∨ k = 3) with rfl | rfl | rfl | rfl <;> decide +kernel
theorem sameL_row (n k : Nat) (h : k < n) : rowAt (sameL n) k = pt k := by
  have h1 := rowAt_get (xs := sameL n) (k := k) (by rw [sameL_len]; exact h)
  have h2 : (sameL n)[k]? = some (pt k) := by unfold sameL; simp [h]
  rw [h1] at h2
  exact Option.some.inj h2



theorem leastL_len (xs : List Int) (st : ByteArray) : (leastL xs st).length = xs.length := by
  unfold leastL; rw [leastR_len, leastT_len, leastS_len]
end Go.Proofs.Ytglhbejdnfafgab
