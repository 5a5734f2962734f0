/-
  The walk of FnRectClosed, out of the contracts of the draw and of the functions that it calls; for whatever bytes.
-/
import Derived.Test.YtpbkgdohfnjjpabRA
import Derived.Test.YtpbkgdohfnjjpabRD
import Derived.Test.YtpbkgdohfnjjpabSI
namespace Go.Proofs.Ytpbkgdohfnjjpab
open Go.RowKit

theorem fnRectClosed_long (ao : Option Addr) (cap n : Nat) (w : World) (hm : n ≤ maxLen) (hl : ¬ n ≤ 1048576) :
    Calls Try.prog 7 #[.slice ao n cap] w fun e w' => e = .returned (.bool true) ∧ Below w.heap.size w w' := by
  unfold maxLen at hm
  go_enter Try.func7, Try.ntmps7
  go_wp2
  go_ret
  exact ⟨rfl, Below.refl _ _⟩

set_option maxHeartbeats 8000000 in
theorem fnRectClosed_walk (ao : Option Addr) (c : Nat) (bs : List Nat) (w : World) (hl : bs.length ≤ 1048576) (hb : RdB w ao bs) (hc : bs.length ≤ c) (hbA : bs ≠ [] → ∀ a, ao = some a → a.block < w.heap.size) :
    Calls Try.prog 7 #[.slice ao bs.length c] w fun e w' => e = .returned (.bool true) ∧ Below w.heap.size w w' := by
  have HD := Lib.hid (drawRectClosed_any ao c bs w hb hc hbA)
  clear hb hbA
  go_enter Try.func7, Try.ntmps7
  go_wp2_with fail
  refine HD.out.mono ?_
  rintro e w1 ⟨v, a, z, rfl, hrl, ho1, B1⟩
  obtain ⟨aa, ac, rfl, ra⟩ := row_rd ho1
  have hl1 : a.length ≤ 1048576 := by omega
  clear ho1 HD
  cases hp : setB a z with
  | false =>
    have hI := fun w h => implRectClosed_any aa ac a z w hl1 h
    have hS := fun w h => specRectClosed_any aa ac a z w hl1 h
    rw [hp] at hI hS
    obtain ⟨o, Eo⟩ : ∃ kk, cloI a z = kk := ⟨_, rfl⟩
    rw [Eo] at hI
    rw [Eo] at hS
    have e1 : (o == o) = true := by simp
    have e2 : (o != o) = false := by simp
    have HC := Lib.hid (And.intro hI hS)
    clear hI hS hp Eo
    go_wp2_with fail
    refine (HC.out.1 _ ra).mono ?_
    rintro e w2 ⟨rfl, b2⟩
    have ra_2 := ra.below b2
    have B2 := B1.trans (b2.mono B1.size)
    clear b2 B1 ra
    go_wp2_with fail
    refine (HC.out.2 _ ra_2).mono ?_
    rintro e w3 ⟨rfl, b3⟩
    have ra_3 := ra_2.below b3
    have B3 := B2.trans (b3.mono B2.size)
    clear b3 B2 ra_2
    go_wp2
    go_ret
    exact ⟨rfl, B3⟩
  | true =>
    have hI := fun w h => implRectClosed_any aa ac a z w hl1 h
    have hS := fun w h => specRectClosed_any aa ac a z w hl1 h
    obtain ⟨u, c, hu, hc, su, sc, h1, h2, h3, h4, h5⟩ := polars hp
    have hX := fun w h => implRectClosed_any aa ac a c w hl1 h
    have hY := fun w h => implRectClosed_any aa ac a (bits .or .i64 z 1) w hl1 h
    rw [hp, show cloI a z = c by unfold cloI; rw [hp]; exact hc] at hI hS
    rw [sc, show cloI a c = c by unfold cloI; rw [sc]; exact h3] at hX
    rw [hu, su, show cloI a u = clo a u by unfold cloI; rw [su]; rfl, ← hu] at hY
    rw [← hu] at h5
    obtain ⟨y, Ey⟩ : ∃ kk, clo a (bits .or .i64 z 1) = kk := ⟨_, rfl⟩
    rw [Ey] at hY
    rw [Ey] at h5
    have e1 : (c == c) = true := by simp
    have e2 : (c != c) = false := by simp
    have e3 : (bits .andNot .i64 z c == 0) = true := by rw [h4]; rfl
    have e4 : (bits .andNot .i64 c y == 0) = true := by rw [h5]; rfl
    have HC := Lib.hid (And.intro hI (And.intro hS (And.intro hX hY)))
    clear hI hS hX hY hp Ey hu hc su sc h1 h2 h3 h4 h5
    go_wp2_with fail
    refine (HC.out.1 _ ra).mono ?_
    rintro e w2 ⟨rfl, b2⟩
    have ra_2 := ra.below b2
    have B2 := B1.trans (b2.mono B1.size)
    clear b2 B1 ra
    go_wp2_with fail
    refine (HC.out.2.1 _ ra_2).mono ?_
    rintro e w3 ⟨rfl, b3⟩
    have ra_3 := ra_2.below b3
    have B3 := B2.trans (b3.mono B2.size)
    clear b3 B2 ra_2
    go_wp2_with fail
    refine (HC.out.2.2.1 _ ra_3).mono ?_
    rintro e w4 ⟨rfl, b4⟩
    have ra_4 := ra_3.below b4
    have B4 := B3.trans (b4.mono B3.size)
    clear b4 B3 ra_3
    go_wp2_with fail
    refine (HC.out.2.2.2 _ ra_4).mono ?_
    rintro e w5 ⟨rfl, b5⟩
    have ra_5 := ra_4.below b5
    have B5 := B4.trans (b5.mono B4.size)
    clear b5 B4 ra_4
    go_wp2
    go_ret
    exact ⟨rfl, B5⟩
end Go.Proofs.Ytpbkgdohfnjjpab
