/-
  The walk of FnSize, out of the contracts of the draw and of the functions that it calls; for whatever bytes.
-/
import Derived.Test.YtpbkgdohfnjjpaaKC
import Derived.Test.YtpbkgdohfnjjpaaKD
namespace Go.Proofs.Ytpbkgdohfnjjpaa
open Go.RowKit

theorem fnSize_long (ao : Option Addr) (cap n : Nat) (w : World) (hm : n ≤ maxLen) (hl : ¬ n ≤ 1048576) :
    Calls Try.prog 4 #[.slice ao n cap] w fun e w' => e = .returned (.bool true) ∧ Below w.heap.size w w' := by
  unfold maxLen at hm
  go_enter Try.func4, Try.ntmps4
  go_wp2
  go_ret
  exact ⟨rfl, Below.refl _ _⟩

set_option maxHeartbeats 8000000 in
theorem fnSize_walk (ao : Option Addr) (c : Nat) (bs : List Nat) (w : World) (hl : bs.length ≤ 1048576) (hb : RdB w ao bs) (hc : bs.length ≤ c) (hbA : bs ≠ [] → ∀ a, ao = some a → a.block < w.heap.size) :
    Calls Try.prog 4 #[.slice ao bs.length c] w fun e w' => e = .returned (.bool true) ∧ Below w.heap.size w w' := by
  have HD := Lib.hid (drawRelSize_any ao c bs w hb hc hbA)
  clear hb hbA
  go_enter Try.func4, Try.ntmps4
  go_wp2_with fail
  refine HD.out.mono ?_
  rintro e w1 ⟨v, a, rfl, hrl, ho1, B1⟩
  obtain ⟨aa, ac, rfl, ra⟩ := row_rd ho1
  have hl1 : a.length ≤ 1048576 := by omega
  clear ho1 HD
  cases hp : relIn a with
  | false =>
    have hI := fun w h => implRelSize_any aa ac a w hl1 h
    have hS := fun w h => specRelSize_any aa ac a w hl1 h
    rw [hp] at hI hS
    have HC := Lib.hid (And.intro hI hS)
    clear hI hS hp
    go_wp2_with fail
    refine (HC.out.1 _ ra).mono ?_
    rintro e w2 ⟨rfl, b2⟩
    have ra_2 := ra.below b2
    have B2 := B1.trans (b2.mono B1.size)
    clear b2 B1 ra
    go_wp2_with fail
    refine (HC.out.2 _ ra_2).mono ?_
    rintro e w3 ⟨rfl, b3⟩
    have ra_3 := ra_2.below b3
    have B3 := B2.trans (b3.mono B2.size)
    clear b3 B2 ra_2
    go_wp2
    go_ret
    exact ⟨rfl, B3⟩
  | true =>
    have hI := fun w h => implRelSize_any aa ac a w hl1 h
    have hS := fun w h => specRelSize_any aa ac a w hl1 h
    rw [hp] at hI hS
    rw [show ifN true (sizeL a) = sizeL a from rfl] at hI hS
    have R1 := Rl.of hp
    obtain ⟨z, hz0, hz1, hz2⟩ := size_ends R1
    have hsq := size_sq R1
    have h1 := R1.one
    have h4 := R1.four
    have hK := fun w h => uEnds R1 aa ac w h
    obtain ⟨s, Es⟩ : ∃ s, sizeL a = s := ⟨_, rfl⟩
    obtain ⟨x, Ex⟩ : ∃ x, startsOf a = x := ⟨_, rfl⟩
    obtain ⟨y, Ey⟩ : ∃ y, targetsOf a = y := ⟨_, rfl⟩
    rw [Es] at hI hS hz0 hsq
    rw [Ex, Ey] at hK
    rw [Ex] at hz1
    rw [Ey] at hz2
    obtain ⟨n, hn⟩ : ∃ n, a.length = n := ⟨_, rfl⟩
    rw [hn] at hI hS hK hsq h1 h4
    have HC := Lib.hid (And.intro hI (And.intro hS hK))
    have HZ := Lib.hid (And.intro hz0 (And.intro hz1 hz2))
    have HSQ := Lib.hid hsq
    have e1 : (s == s) = true := by simp
    have e2 : (s != s) = false := by simp
    clear hI hS hK hp R1 Es Ex Ey hz0 hz1 hz2 hsq hl1
    rw [hn]
    clear hn hrl
    rcases (by omega : n = 1 ∨ n = 2 ∨ n = 3 ∨ n = 4) with rfl | rfl | rfl | rfl
    all_goals
      go_wp2_with fail
      refine (HC.out.1 _ ra).mono ?_
      rintro e w2 ⟨rfl, b2⟩
      have ra_2 := ra.below b2
      have B2 := B1.trans (b2.mono B1.size)
      clear b2 B1 ra
      go_wp2_with fail
      refine (HC.out.2.1 _ ra_2).mono ?_
      rintro e w3 ⟨rfl, b3⟩
      have ra_3 := ra_2.below b3
      have B3 := B2.trans (b3.mono B2.size)
      clear b3 B2 ra_2
      go_wp2_with fail
      refine (HC.out.2.2 _ ra_3).mono ?_
      rintro e w4 ⟨rfl, b4⟩
      have ra_4 := ra_3.below b4
      have B4 := B3.trans (b4.mono B3.size)
      clear b4 B3 ra_3
      have hsq := HSQ.out
      simp at hsq
      obtain ⟨hz0, hz1, hz2⟩ := HZ.out
      cases z
      all_goals
        go_wp2
        go_ret
        exact ⟨rfl, B4⟩
end Go.Proofs.Ytpbkgdohfnjjpaa
