/-
  The contract of the laws' sameInts: equality of two lists of numbers. Bytes that came in.
-/
import Derived.Test.YtgmjdkhegbdbjaaT
import Derived.Test.YtgmjdkhegbdbjaaGA
namespace Go.Proofs.Ytgmjdkhegbdbjaa
open Go.RowKit

/-- a slice of bytes that came in reads as bytes -/
theorem rdB_of_row {w : World} {a : Option Addr} {len cap : Nat} {zs : List Int}
    (h : (a = none ∧ len = 0 ∧ cap = 0 ∧ zs = []) ∨
      ∃ x, a = some x ∧ len ≤ cap ∧ cap ≤ maxLen ∧ zs.length = cap ∧ (∀ i, i < zs.length → w.cell? (x.add i) = some (.int .u8 (zs.getD i 0))) ∧ ∀ n ∈ zs, (Lit.int .u8 n).wf = true) :
    ∃ bs : List Nat, bs.length = len ∧ len ≤ maxLen ∧ len ≤ cap ∧ RdB w a bs ∧ (bs ≠ [] → ∀ y, a = some y → y.block < w.heap.size) := by
  rcases h with ⟨rfl, rfl, rfl, rfl⟩ | ⟨x, rfl, hlc, hcm, hz, hc, hwf⟩
  · exact ⟨[], rfl, Nat.zero_le _, Nat.le_refl _, fun k x hx => by simp at hx, fun h => absurd rfl h⟩
  · have key : ∀ k, k < len → (zs.getD k 0).toNat < 256 ∧ ((zs.getD k 0).toNat : Int) = zs.getD k 0 ∧ ∃ b off, x = ⟨b, off, none⟩ ∧ b < w.heap.size ∧ w.cell? ⟨b, off + k, none⟩ = some (.int .u8 (zs.getD k 0)) := by
      intro k hk
      have h1 := hc k (by omega)
      have hm : zs.getD k 0 ∈ zs := by
        rw [List.getD_eq_getElem?_getD, List.getElem?_eq_getElem (by omega)]
        exact List.getElem_mem _
      obtain ⟨y, hy⟩ : ∃ y, zs.getD k 0 = y := ⟨_, rfl⟩
      rw [hy] at hm h1 ⊢
      have hb := hwf _ hm
      simp [Lit.wf, IntKind.min, IntKind.max, IntKind.bits, IntKind.signed] at hb
      refine ⟨by omega, by omega, ?_⟩
      obtain ⟨b, off, sp⟩ := x
      cases sp with
      | none =>
        have hadd : (⟨b, off, none⟩ : Addr).add k = ⟨b, off + k, none⟩ := by unfold Addr.add; split <;> simp_all
        rw [hadd] at h1
        refine ⟨b, off, rfl, ?_, h1⟩
        unfold World.cell? at h1
        cases hh : w.heap[b]? with
        | none => rw [hh] at h1; simp at h1
        | some o => exact (Array.getElem?_eq_some_iff.1 hh).1
      | some s =>
        exfalso
        have h0 := hc 0 (by omega)
        unfold World.cell? Addr.add at h0
        simp at h0
        split at h0 <;> simp_all
    refine ⟨(zs.take len).map Int.toNat, by simp; omega, by omega, hlc, ?_, ?_⟩
    · intro k y hy
      have hk : k < len := by
        have := (List.getElem?_eq_some_iff.1 hy).1
        simp at this
        omega
      obtain ⟨h1, h2, b, off, rfl, h3, h4⟩ := key k hk
      have hy2 : y = (zs.getD k 0).toNat := by
        rw [List.getElem?_map, List.getElem?_take, if_pos hk, List.getElem?_eq_getElem (by omega)] at hy
        have hg : zs.getD k 0 = zs[k]'(by omega) := by rw [List.getD_eq_getElem?_getD, List.getElem?_eq_getElem (by omega)]; rfl
        rw [hg]
        simpa using hy.symm
      rw [hy2]
      exact ⟨h1, b, off, rfl, h3, by rw [h2]; exact h4⟩
    · intro hne y hy
      cases hy
      have hlen : 0 < len := by
        rcases Nat.eq_zero_or_pos len with e | e
        · exact absurd (by rw [e]; rfl) hne
        · exact e
      obtain ⟨_, _, b, off, rfl, h3, _⟩ := key 0 hlen
      exact h3

end Go.Proofs.Ytgmjdkhegbdbjaa
