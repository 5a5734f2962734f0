/-
  What the reading of a slice of ints gives; no conditions.
-/
import Derived.Test.YtglhbejdnfafgabE
namespace Go.Proofs.Ytglhbejdnfafgab
open Go.RowKit

/-- what the reading of a slice of ints gives -/
theorem rd_of_row {w : World} {a : Option Addr} {len cap : Nat} {zs : List Int}
    (h : (a = none ∧ len = 0 ∧ cap = 0 ∧ zs = []) ∨
      ∃ x, a = some x ∧ len ≤ cap ∧ cap ≤ maxLen ∧ zs.length = cap ∧ (∀ i, i < zs.length → w.cell? (x.add i) = some (.int .i64 (zs.getD i 0))) ∧ ∀ n ∈ zs, (Lit.int .i64 n).wf = true) :
    ∃ xs : List Int, xs.length = len ∧ len ≤ maxLen ∧ Rd w a xs ∧ ∀ n ∈ xs, (Lit.int .i64 n).wf = true := by
  rcases h with ⟨rfl, rfl, rfl, rfl⟩ | ⟨x, rfl, hlc, hcm, hz, hc, hwf⟩
  · exact ⟨[], rfl, Nat.zero_le _, fun k x hx => by simp at hx, by simp⟩
  · refine ⟨zs.take len, by simp; omega, by omega, ?_, fun n hn => hwf n (List.mem_of_mem_take hn)⟩
    intro k y hy
    have hk : k < len := by
      have := (List.getElem?_eq_some_iff.1 hy).1
      simp at this
      omega
    rw [List.getElem?_take, if_pos hk] at hy
    have h1 := hc k (by omega)
    have hg : zs.getD k 0 = y := by rw [List.getD_eq_getElem?_getD, hy]; rfl
    rw [hg] at h1
    obtain ⟨b, off, sp⟩ := x
    cases sp with
    | none =>
      have hadd : (⟨b, off, none⟩ : Addr).add k = ⟨b, off + k, none⟩ := by unfold Addr.add; split <;> simp_all
      rw [hadd] at h1
      refine ⟨b, off, rfl, ?_, h1⟩
      unfold World.cell? at h1
      cases hh : w.heap[b]? with
      | none => rw [hh] at h1; simp at h1
      | some o => exact (Array.getElem?_eq_some_iff.1 hh).1
    | some s =>
      exfalso
      have h0 := hc 0 (by omega)
      unfold World.cell? Addr.add at h0
      simp at h0
      split at h0 <;> simp_all
end Go.Proofs.Ytglhbejdnfafgab
