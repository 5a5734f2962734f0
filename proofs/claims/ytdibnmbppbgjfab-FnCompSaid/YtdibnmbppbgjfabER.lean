/-
  The walk of FnRelEnds, out of the contracts of the draw, of RelEnds and of RelTurned; for whatever bytes.
-/
import Derived.Test.YtdibnmbppbgjfabDF
import Derived.Test.YtdibnmbppbgjfabEC
namespace Go.Proofs.Ytdibnmbppbgjfab
open Go.RowKit

/-- a slice of bytes that came in reads as bytes -/
theorem rdB_of_row {w : World} {a : Option Addr} {len cap : Nat} {zs : List Int}
    (h : (a = none ∧ len = 0 ∧ cap = 0 ∧ zs = []) ∨
      ∃ x, a = some x ∧ len ≤ cap ∧ cap ≤ maxLen ∧ zs.length = cap ∧ (∀ i, i < zs.length → w.cell? (x.add i) = some (.int .u8 (zs.getD i 0))) ∧ ∀ n ∈ zs, (Lit.int .u8 n).wf = true) :
    ∃ bs : List Nat, bs.length = len ∧ len ≤ maxLen ∧ len ≤ cap ∧ RdB w a bs ∧ (bs ≠ [] → ∀ y, a = some y → y.block < w.heap.size) := by
  rcases h with ⟨rfl, rfl, rfl, rfl⟩ | ⟨x, rfl, hlc, hcm, hz, hc, hwf⟩
  · exact ⟨[], rfl, Nat.zero_le _, Nat.le_refl _, fun k x hx => by simp at hx, fun h => absurd rfl h⟩
  · have key : ∀ k, k < len → (zs.getD k 0).toNat < 256 ∧ ((zs.getD k 0).toNat : Int) = zs.getD k 0 ∧ ∃ b off, x = ⟨b, off, none⟩ ∧ b < w.heap.size ∧ w.cell? ⟨b, off + k, none⟩ = some (.int .u8 (zs.getD k 0)) := by
      intro k hk
      have h1 := hc k (by omega)
      have hm : zs.getD k 0 ∈ zs := by
        rw [List.getD_eq_getElem?_getD, List.getElem?_eq_getElem (by omega)]
        exact List.getElem_mem _
      obtain ⟨y, hy⟩ : ∃ y, zs.getD k 0 = y := ⟨_, rfl⟩
      rw [hy] at hm h1 ⊢
      have hb := hwf _ hm
      simp [Lit.wf, IntKind.min, IntKind.max, IntKind.bits, IntKind.signed] at hb
      refine ⟨by omega, by omega, ?_⟩
      obtain ⟨b, off, sp⟩ := x
      cases sp with
      | none =>
        have hadd : (⟨b, off, none⟩ : Addr).add k = ⟨b, off + k, none⟩ := by unfold Addr.add; split <;> simp_all
        rw [hadd] at h1
        refine ⟨b, off, rfl, ?_, h1⟩
        unfold World.cell? at h1
        cases hh : w.heap[b]? with
        | none => rw [hh] at h1; simp at h1
        | some o => exact (Array.getElem?_eq_some_iff.1 hh).1
      | some s =>
        exfalso
        have h0 := hc 0 (by omega)
        unfold World.cell? Addr.add at h0
        simp at h0
        split at h0 <;> simp_all
    refine ⟨(zs.take len).map Int.toNat, by simp; omega, by omega, hlc, ?_, ?_⟩
    · intro k y hy
      have hk : k < len := by
        have := (List.getElem?_eq_some_iff.1 hy).1
        simp at this
        omega
      obtain ⟨h1, h2, b, off, rfl, h3, h4⟩ := key k hk
      have hy2 : y = (zs.getD k 0).toNat := by
        rw [List.getElem?_map, List.getElem?_take, if_pos hk, List.getElem?_eq_getElem (by omega)] at hy
        have hg : zs.getD k 0 = zs[k]'(by omega) := by rw [List.getD_eq_getElem?_getD, List.getElem?_eq_getElem (by omega)]; rfl
        rw [hg]
        simpa using hy.symm
      rw [hy2]
      exact ⟨h1, b, off, rfl, h3, by rw [h2]; exact h4⟩
    · intro hne y hy
      cases hy
      have hlen : 0 < len := by
        rcases Nat.eq_zero_or_pos len with e | e
        · exact absurd (by rw [e]; rfl) hne
        · exact e
      obtain ⟨_, _, b, off, rfl, h3, _⟩ := key 0 hlen
      exact h3

theorem relEnds_long (ao : Option Addr) (cap n : Nat) (w : World) (hm : n ≤ maxLen) (hl : ¬ n ≤ 1048576) :
    Calls Try.prog 3 #[.slice ao n cap] w fun e w' => e = .returned (.bool true) ∧ Below w.heap.size w w' := by
  unfold maxLen at hm
  go_enter Try.func3, Try.ntmps3
  go_wp2
  go_ret
  exact ⟨rfl, Below.refl _ _⟩

set_option maxHeartbeats 4000000 in
theorem relEnds_walk (ao : Option Addr) (c : Nat) (bs : List Nat) (w : World) (hl : bs.length ≤ 1048576) (hb : RdB w ao bs) (hc : bs.length ≤ c) (hbA : bs ≠ [] → ∀ a, ao = some a → a.block < w.heap.size) :
    Calls Try.prog 3 #[.slice ao bs.length c] w fun e w' => e = .returned (.bool true) ∧ Below w.heap.size w w' := by
  have HD := Lib.hid (drawRelEnds_any ao c bs w hb hc hbA)
  clear hb hbA
  go_enter Try.func3, Try.ntmps3
  go_wp2_with fail
  refine HD.out.mono ?_
  rintro e w1 ⟨v, rs, rfl, hrl, ho, B1⟩
  obtain ⟨ra, rc, rfl, hr⟩ := row_rd ho
  have HR := Lib.hid hr
  clear hr ho HD
  have hl4 : rs.length ≤ 1048576 := by omega
  go_wp2_with fail
  refine (implRelEnds_any ra rc rs w1 hl4 HR.out).mono ?_
  rintro e w2 ⟨rfl, b2⟩
  have HR2 := Lib.hid (HR.out.below b2)
  have B2 := B1.trans (b2.mono B1.size)
  clear b2 B1
  go_wp2_with fail
  refine (specRelEnds_any ra rc rs w2 hl4 HR2.out).mono ?_
  rintro e w3 ⟨rfl, b3⟩
  have HR3 := Lib.hid (HR2.out.below b3)
  have B3 := B2.trans (b3.mono B2.size)
  clear b3 B2
  obtain ⟨S, hS⟩ : ∃ S, ifN (relIn rs) (startsOf rs) = S := ⟨_, rfl⟩
  obtain ⟨T, hT⟩ : ∃ T, ifN (relIn rs) (targetsOf rs) = T := ⟨_, rfl⟩
  rw [hS, hT]
  have HST := Lib.hid (And.intro hS hT)
  have eS : (S != S) = false := by simp
  have eT : (T != T) = false := by simp
  clear hS hT
  cases hp : relIn rs with
  | false =>
    go_wp2
    go_ret
    exact ⟨rfl, B3⟩
  | true =>
    have HP := Lib.hid hp
    have h4 := implRelTurned_any ra rc rs w3 hl4 HR3.out
    rw [hp] at h4
    have H4 := Lib.hid h4
    clear hp h4
    go_wp2_with fail
    refine H4.out.mono ?_
    rintro e w4 ⟨v, rfl, ho, b4⟩
    have hlt : (turnL rs).length = rs.length := turnL_len rs
    obtain ⟨ta, tc, rfl, ht⟩ := row_rd ho
    have R := Rl.of HP.out
    have h5 := implRelEnds_any ta tc (turnL rs) w4 (by rw [hlt]; exact hl4) ht
    obtain ⟨e1, e2⟩ := ends_turn HP.out
    rw [R.turn.ok, e1, e2, show ifN true (targetsOf rs) = T from by rw [← HST.out.2, HP.out], show ifN true (startsOf rs) = S from by rw [← HST.out.1, HP.out]] at h5
    have H5 := Lib.hid h5
    have B4 := B3.trans (b4.mono B3.size)
    clear h5 e1 e2 R ht ho b4 B3 hlt
    go_wp2_with fail
    refine H5.out.mono ?_
    rintro e w5 ⟨rfl, b5⟩
    have B5 := B4.trans (b5.mono B4.size)
    go_wp2
    go_ret
    exact ⟨rfl, B5⟩
end Go.Proofs.Ytdibnmbppbgjfab
