/-
  The walk of FnRel, out of the contracts of the draw and of the functions that it calls; for whatever bytes.
-/
import Derived.Test.YtnmgoeklcmoalaaSR
import Derived.Test.YtnmgoeklcmoalaaRP
import Derived.Test.YtnmgoeklcmoalaaRD
import Derived.Test.YtnmgoeklcmoalaaFG
import Derived.Test.YtnmgoeklcmoalaaFC
import Derived.Test.YtnmgoeklcmoalaaGB
namespace Go.Proofs.Ytnmgoeklcmoalaa
open Go.RowKit

theorem fnRel_long (ao : Option Addr) (cap n : Nat) (w : World) (hm : n ≤ maxLen) (hl : ¬ n ≤ 1048576) :
    Calls Try.prog 7 #[.slice ao n cap] w fun e w' => e = .returned (.bool true) ∧ Below w.heap.size w w' := by
  unfold maxLen at hm
  go_enter Try.func7, Try.ntmps7
  go_wp2
  go_ret
  exact ⟨rfl, Below.refl _ _⟩

set_option maxHeartbeats 8000000 in
theorem fnRel_walk (ao : Option Addr) (c : Nat) (bs : List Nat) (w : World) (hl : bs.length ≤ 1048576) (hb : RdB w ao bs) (hc : bs.length ≤ c) (hbA : bs ≠ [] → ∀ a, ao = some a → a.block < w.heap.size) :
    Calls Try.prog 7 #[.slice ao bs.length c] w fun e w' => e = .returned (.bool true) ∧ Below w.heap.size w w' := by
  have HD := Lib.hid (drawRelIn_any ao c bs w hb hc hbA)
  clear hb hbA
  go_enter Try.func7, Try.ntmps7
  go_wp2_with fail
  refine HD.out.mono ?_
  rintro e w1 ⟨v, a, rfl, hrl, ho1, B1⟩
  obtain ⟨aa, ac, rfl, ra⟩ := row_rd ho1
  have hl1 : a.length ≤ 1048576 := by omega
  clear ho1 HD
  cases hp : relIn a with
  | false =>
    have hI := fun w h => implRelIn_any aa ac a w hl1 h
    have hS := fun w h => specRelIn_any aa ac a w hl1 h
    rw [hp] at hI hS
    have HC := Lib.hid (And.intro hI hS)
    clear hI hS hp
    go_wp2_with fail
    refine (HC.out.1 _ ra).mono ?_
    rintro e w2 ⟨rfl, b2⟩
    have ra_2 := ra.below b2
    have B2 := B1.trans (b2.mono B1.size)
    clear b2 B1 ra
    go_wp2_with fail
    refine (HC.out.2 _ ra_2).mono ?_
    rintro e w3 ⟨rfl, d3⟩
    have ra_3 := d3.rd ra_2
    have B3 := B2.trans (d3.below _)
    clear d3 B2 ra_2
    go_wp2
    go_ret
    exact ⟨rfl, B3⟩
  | true =>
    have hI := fun w h => implRelIn_any aa ac a w hl1 h
    have hS := fun w h => specRelIn_any aa ac a w hl1 h
    rw [hp] at hI hS
    have R1 := Rl.of hp
    have hP := fun w h => gave_rows (implRelPairs_any aa ac a w hl1 h)
    rw [hp, show ifPn a = (pairsOf a).length by unfold ifPn; rw [hp]; rfl, PR_map] at hP
    have h16 : (pairsOf a).length ≤ 1048576 := by
      have h1 := pairsTo_le a.length a (a.length * a.length)
      have h2 : a.length * a.length ≤ 4 * 4 := Nat.mul_le_mul hrl hrl
      unfold pairsOf
      omega
    have hxl : ((pairsOf a).map rowQ).length = (pairsOf a).length := by simp
    have hO := fun ao ca w h => implRelOf_any ao ca (a.length : Int) ((pairsOf a).map rowQ) w (by rw [hxl]; exact h16) h
    rw [Int.toNat_natCast, ok_pairs, of_pairs R1, inB_yes (show (1 : Int) ≤ (a.length : Int) by have := R1.one; omega) (show (a.length : Int) ≤ 4 by omega), hxl] at hO
    rw [show (true && true) = true from rfl, show ifR true a = a from rfl] at hO
    obtain ⟨xss, Ex⟩ : ∃ l, (pairsOf a).map rowQ = l := ⟨_, rfl⟩
    rw [Ex] at hP hO hxl
    obtain ⟨n, En⟩ : ∃ n, (pairsOf a).length = n := ⟨_, rfl⟩
    rw [En] at hP hO hxl h16
    have HC := Lib.hid (And.intro hI (And.intro hS (And.intro hP hO)))
    clear hI hS hP hO hp R1 Ex En hxl
    go_wp2_with fail
    refine (HC.out.1 _ ra).mono ?_
    rintro e w2 ⟨rfl, b2⟩
    have ra_2 := ra.below b2
    have B2 := B1.trans (b2.mono B1.size)
    clear b2 B1 ra
    go_wp2_with fail
    refine (HC.out.2.1 _ ra_2).mono ?_
    rintro e w3 ⟨rfl, d3⟩
    have ra_3 := d3.rd ra_2
    have B3 := B2.trans (d3.below _)
    clear d3 B2 ra_2
    go_wp2_with fail
    refine (HC.out.2.2.1 _ ra_3).mono ?_
    rintro e w4 ⟨la, lc, rfl, rl_4, hl2, b4⟩
    have ra_4 := ra_3.below b4
    have B4 := B3.trans (b4.mono B3.size)
    clear b4 B3 ra_3
    go_wp2_with fail
    refine (HC.out.2.2.2 la lc _ rl_4).mono ?_
    rintro e w5 ⟨v, rfl, ho, b5⟩
    obtain ⟨xa, xc, rfl, rx_5⟩ := row_rd ho
    clear ho
    have ra_5 := ra_4.below b5
    have rl_5 := rl_4.below b5
    have B5 := B4.trans (b5.mono B4.size)
    clear b5 B4 ra_4 rl_4
    go_wp2_with fail
    refine (sameInts_refl xa aa xc ac _ _ hl1 rx_5 ra_5).mono ?_
    rintro e w6 ⟨rfl, d6⟩
    have ra_6 := d6.rd ra_5
    have rl_6 := rl_5.dn d6
    have rx_6 := d6.rd rx_5
    have B6 := B5.trans (d6.below _)
    clear d6 B5 ra_5 rl_5 rx_5
    go_wp2
    go_ret
    exact ⟨rfl, B6⟩
end Go.Proofs.Ytnmgoeklcmoalaa
