/-
  The walk of FnProgKept, out of the contracts of the draw and of the functions that it calls; for whatever bytes.
-/
import Derived.Test.YtcdiicckngndcabPV
import Derived.Test.YtcdiicckngndcabPU
import Derived.Test.YtcdiicckngndcabSI
namespace Go.Proofs.Ytcdiicckngndcab
open Go.RowKit

theorem fnProgKept_long (ao : Option Addr) (cap n : Nat) (w : World) (hm : n ≤ maxLen) (hl : ¬ n ≤ 1048576) :
    Calls Try.prog 10 #[.slice ao n cap] w fun e w' => e = .returned (.bool true) ∧ Below w.heap.size w w' := by
  unfold maxLen at hm
  go_enter Try.func10, Try.ntmps10
  go_wp2
  go_ret
  exact ⟨rfl, Below.refl _ _⟩

set_option maxHeartbeats 8000000 in
theorem fnProgKept_walk (ao : Option Addr) (c : Nat) (bs : List Nat) (w : World) (hl : bs.length ≤ 1048576) (hb : RdB w ao bs) (hc : bs.length ≤ c) (hbA : bs ≠ [] → ∀ a, ao = some a → a.block < w.heap.size) :
    Calls Try.prog 10 #[.slice ao bs.length c] w fun e w' => e = .returned (.bool true) ∧ Below w.heap.size w w' := by
  have HD := Lib.hid (drawProgKept_any ao c bs w hb hc hbA)
  clear hb hbA
  go_enter Try.func10, Try.ntmps10
  go_wp2_with fail
  refine HD.out.mono ?_
  rintro e w1 ⟨v, a, z, rfl, hrl, ho1, B1⟩
  obtain ⟨aa, ac, rfl, ra⟩ := row_rd ho1
  have hl1 : a.length ≤ 1048576 := by omega
  clear ho1 HD
  have hI := fun w h => implProgKept_any aa ac a z w hl1 h
  have hS := fun w h => specProgKept_any aa ac a z w hl1 h
  cases hp : setB a z with
  | false =>
    rw [show setI a z (imgA (starL a) z) = 0 by unfold setI; rw [hp]; rfl, hp] at hI
    rw [show setJ a z (imgA (starL a) z) = 0 by unfold setJ; rw [hp]; rfl, hp] at hS
    have HC := Lib.hid (And.intro hI hS)
    clear hI hS hp
    go_wp2_with fail
    refine (HC.out.1 _ ra).mono ?_
    rintro e w2 ⟨rfl, b2⟩
    have ra_2 := ra.below b2
    have B2 := B1.trans (b2.mono B1.size)
    clear b2 B1 ra
    go_wp2_with fail
    refine (HC.out.2 _ ra_2).mono ?_
    rintro e w3 ⟨rfl, b3⟩
    have ra_3 := ra_2.below b3
    have B3 := B2.trans (b3.mono B2.size)
    clear b3 B2 ra_2
    go_wp2
    go_ret
    exact ⟨rfl, B3⟩
  | true =>
    obtain ⟨R, hz⟩ := set_st hp
    have h1 := R.one
    have h4 := R.four
    rw [show setI a z (imgA (starL a) z) = imgA (starL a) z by unfold setI; rw [hp]; rfl, hp] at hI
    rw [show setJ a z (imgA (starL a) z) = imgA (starL a) z by unfold setJ; rw [hp]; rfl, hp] at hS
    obtain ⟨o, ho, so, h2, h3, h5⟩ := kept_all R hz
    have hX := fun w h => pKept R so h2 aa ac w h
    have hT := fun w h => pTriple R h5 aa ac w h
    rw [ho] at hI hS
    have e1 : (o == o) = true := by simp
    have e2 : (o != o) = false := by simp
    have HC := Lib.hid (And.intro hI (And.intro hS (And.intro hX hT)))
    clear hI hS hX hT hp R hz ho so h2 h5
    go_wp2_with fail
    refine (HC.out.1 _ ra).mono ?_
    rintro e w2 ⟨rfl, b2⟩
    have ra_2 := ra.below b2
    have B2 := B1.trans (b2.mono B1.size)
    clear b2 B1 ra
    go_wp2_with fail
    refine (HC.out.2.1 _ ra_2).mono ?_
    rintro e w3 ⟨rfl, b3⟩
    have ra_3 := ra_2.below b3
    have B3 := B2.trans (b3.mono B2.size)
    clear b3 B2 ra_2
    go_wp2_with fail
    refine (HC.out.2.2.1 _ ra_3).mono ?_
    rintro e w4 ⟨rfl, b4⟩
    have ra_4 := ra_3.below b4
    have B4 := B3.trans (b4.mono B3.size)
    clear b4 B3 ra_3
    go_wp2_with fail
    refine (HC.out.2.2.2 _ ra_4).mono ?_
    rintro e w5 ⟨rfl, b5⟩
    have ra_5 := ra_4.below b5
    have B5 := B4.trans (b5.mono B4.size)
    clear b5 B4 ra_4
    go_wp2
    go_ret
    exact ⟨rfl, B5⟩
end Go.Proofs.Ytcdiicckngndcab
