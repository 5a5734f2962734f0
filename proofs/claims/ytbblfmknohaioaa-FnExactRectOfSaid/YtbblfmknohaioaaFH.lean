/-
  A list of lists that came in reads as lists of numbers.
-/
import Derived.Test.YtbblfmknohaioaaFE
import Derived.Deep.Matrix
namespace Go.Proofs.Ytbblfmknohaioaa
open Go.RowKit

theorem lists_of {P : Nat → List Int → Prop} : ∀ (n : Nat), (∀ k, k < n → ∃ xs, P k xs) → ∃ xss : List (List Int), xss.length = n ∧ ∀ (k : Nat) (xs : List Int), xss[k]? = some xs → P k xs
  | 0, _ => ⟨[], rfl, fun k xs h => by simp at h⟩
  | n + 1, h => by
    obtain ⟨xss, hl, hp⟩ := lists_of n (fun k hk => h k (by omega))
    obtain ⟨xs, hx⟩ := h n (by omega)
    refine ⟨xss ++ [xs], by simp [hl], fun k ys hk => ?_⟩
    by_cases e : k < n
    · rw [List.getElem?_append_left (by omega)] at hk
      exact hp k ys hk
    · have hk2 : k < (xss ++ [xs]).length := (List.getElem?_eq_some_iff.1 hk).1
      obtain rfl : k = n := by simp at hk2; omega
      rw [List.getElem?_append_right (by omega), hl, Nat.sub_self] at hk
      have : xs = ys := by simpa using hk
      rw [← this]
      exact hx

theorem rdS_of_rows {w : World} {a : Addr} {len cap : Nat} {A : Nat → Option Addr} {L C : Nat → Nat} {Z : Nat → List Int} (hlc : len ≤ cap) (hm : cap ≤ maxLen)
    (h : ∀ r, r < cap → w.cell? (a.add r) = some (.slice (A r) (L r) (C r)) ∧ L r ≤ C r ∧ C r ≤ maxLen ∧ (Z r).length = C r ∧ (∀ n ∈ Z r, (Lit.int .i64 n).wf = true) ∧ (A r = none → C r = 0) ∧
        ∀ a', A r = some a' → 0 ≤ a'.block ∧ ∀ c, c < C r → w.cell? (a'.add c) = some (.int .i64 ((Z r).getD c 0))) :
    ∃ xss : List (List Int), xss.length = len ∧ len ≤ maxLen ∧ (∀ (k : Nat) (xs : List Int), xss[k]? = some xs → xs.length ≤ maxLen) ∧ RdS w (some a) xss := by
  obtain ⟨xss, hl, hp⟩ := lists_of (P := fun k xs => xs.length ≤ maxLen ∧ xs.length = L k ∧ Rd w (A k) xs) len (fun k hk => by
    obtain ⟨_, h2, h3, h4, h5, h6, h7⟩ := h k (by omega)
    have hrow : (A k = none ∧ L k = 0 ∧ C k = 0 ∧ Z k = []) ∨
      ∃ x, A k = some x ∧ L k ≤ C k ∧ C k ≤ maxLen ∧ (Z k).length = C k ∧ (∀ i, i < (Z k).length → w.cell? (x.add i) = some (.int .i64 ((Z k).getD i 0))) ∧ ∀ n ∈ Z k, (Lit.int .i64 n).wf = true := by
      cases hA : A k with
      | none =>
        have := h6 hA
        exact .inl ⟨rfl, by omega, this, List.eq_nil_of_length_eq_zero (by omega)⟩
      | some x => exact .inr ⟨x, rfl, h2, h3, h4, fun i hi => (h7 x hA).2 i (by omega), h5⟩
    obtain ⟨xs, e, hml, hr, _⟩ := rd_of_row hrow
    exact ⟨xs, by omega, e, hr⟩)
  refine ⟨xss, hl, by omega, fun k xs hk => (hp k xs hk).1, fun k xs hk => ?_⟩
  obtain ⟨_, e, hr⟩ := hp k xs hk
  have hk2 : k < len := by have := (List.getElem?_eq_some_iff.1 hk).1; omega
  have h1 := (h k (by omega)).1
  rw [← e] at h1
  obtain ⟨b, off, sp⟩ := a
  cases sp with
  | none =>
    have hadd : (⟨b, off, none⟩ : Addr).add k = ⟨b, off + k, none⟩ := by unfold Addr.add; split <;> simp_all
    rw [hadd] at h1
    refine ⟨b, off, A k, C k, rfl, ?_, h1, hr⟩
    unfold World.cell? at h1
    cases hh : w.heap[b]? with
    | none => rw [hh] at h1; simp at h1
    | some o => exact (Array.getElem?_eq_some_iff.1 hh).1
  | some s =>
    exfalso
    have h0 := (h 0 (by omega)).1
    unfold World.cell? Addr.add at h0
    simp at h0
    split at h0 <;> simp_all
end Go.Proofs.Ytbblfmknohaioaa
