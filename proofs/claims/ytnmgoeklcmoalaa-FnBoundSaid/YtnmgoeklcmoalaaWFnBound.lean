/-
  The walk of FnBound, out of the contracts of the draw and of the functions that it calls; for whatever bytes.
-/
import Derived.Test.YtnmgoeklcmoalaaRO
import Derived.Test.YtnmgoeklcmoalaaRN
import Derived.Test.YtnmgoeklcmoalaaOC
import Derived.Test.YtnmgoeklcmoalaaSI
namespace Go.Proofs.Ytnmgoeklcmoalaa
open Go.RowKit

theorem fnBound_long (ao : Option Addr) (cap n : Nat) (w : World) (hm : n ≤ maxLen) (hl : ¬ n ≤ 1048576) :
    Calls Try.prog 5 #[.slice ao n cap] w fun e w' => e = .returned (.bool true) ∧ Below w.heap.size w w' := by
  unfold maxLen at hm
  go_enter Try.func5, Try.ntmps5
  go_wp2
  go_ret
  exact ⟨rfl, Below.refl _ _⟩

set_option maxHeartbeats 8000000 in
theorem fnBound_walk (ao : Option Addr) (c : Nat) (bs : List Nat) (w : World) (hl : bs.length ≤ 1048576) (hb : RdB w ao bs) (hc : bs.length ≤ c) (hbA : bs ≠ [] → ∀ a, ao = some a → a.block < w.heap.size) :
    Calls Try.prog 5 #[.slice ao bs.length c] w fun e w' => e = .returned (.bool true) ∧ Below w.heap.size w w' := by
  have HD := Lib.hid (drawOrderBound_any ao c bs w hb hc hbA)
  clear hb hbA
  go_enter Try.func5, Try.ntmps5
  go_wp2_with fail
  refine HD.out.mono ?_
  rintro e w1 ⟨v, a, z, rfl, hrl, ho1, B1⟩
  obtain ⟨aa, ac, rfl, ra⟩ := row_rd ho1
  have hl1 : a.length ≤ 1048576 := by omega
  clear ho1 HD
  cases hp : ordO a z with
  | none =>
    have hI := fun w h => implOrderBound_any aa ac a z w hl1 h
    have hS := fun w h => specOrderBound_any aa ac a z w hl1 h
    rw [hp] at hI hS
    rw [show (((none : Option Nat).getD 0 : Nat) : Int) = 0 from rfl, show (none : Option Nat).isSome = false from rfl] at hI hS
    have HC := Lib.hid (And.intro hI hS)
    clear hI hS hp
    go_wp2_with fail
    refine (HC.out.1 _ ra).mono ?_
    rintro e w2 ⟨rfl, b2⟩
    have ra_2 := ra.below b2
    have B2 := B1.trans (b2.mono B1.size)
    clear b2 B1 ra
    go_wp2_with fail
    refine (HC.out.2 _ ra_2).mono ?_
    rintro e w3 ⟨rfl, b3⟩
    have ra_3 := ra_2.below b3
    have B3 := B2.trans (b3.mono B2.size)
    clear b3 B2 ra_2
    go_wp2
    go_ret
    exact ⟨rfl, B3⟩
  | some k =>
    have hI := fun w h => implOrderBound_any aa ac a z w hl1 h
    have hS := fun w h => specOrderBound_any aa ac a z w hl1 h
    rw [hp] at hI hS
    obtain ⟨_, hk, h2, hall⟩ := bound_all hp
    have hX := fun w h => implOrderBound_any aa ac a (bits .or .i64 z (2 ^ k)) w hl1 h
    rw [h2] at hX
    rw [show (((some k).getD 0 : Nat) : Int) = (k : Int) from rfl, show (some k).isSome = true from rfl] at hI hS hX
    have hw : wrap64 ((2 : Int) ^ k) = 2 ^ k := by
      rcases (by omega : k = 0 ∨ k = 1 ∨ k = 2 ∨ k = 3) with rfl | rfl | rfl | rfl <;> decide +kernel
    have e1 : ((k : Int) == (k : Int)) = true := by simp
    have e2 : ((k : Int) != (k : Int)) = false := by simp
    have HC := Lib.hid (And.intro hI (And.intro hS hX))
    have HA := Lib.hid hall
    clear hI hS hX hp h2 hall
    go_wp2_with fail
    refine (HC.out.1 _ ra).mono ?_
    rintro e w2 ⟨rfl, b2⟩
    have ra_2 := ra.below b2
    have B2 := B1.trans (b2.mono B1.size)
    clear b2 B1 ra
    go_wp2_with fail
    refine (HC.out.2.1 _ ra_2).mono ?_
    rintro e w3 ⟨rfl, b3⟩
    have ra_3 := ra_2.below b3
    have B3 := B2.trans (b3.mono B2.size)
    clear b3 B2 ra_2
    go_wp2_with fail
    refine (HC.out.2.2 _ ra_3).mono ?_
    rintro e w4 ⟨rfl, b4⟩
    have ra_4 := ra_3.below b4
    have B4 := B3.trans (b4.mono B3.size)
    clear b4 B3 ra_3
    go_wp2
    go_loopw [11] (fun i wr => ∃ t : Nat, t ≤ a.length ∧ i = .int .i64 t ∧ w4 = wr)
      (fun i _ => a.length - (intOf i).toNat)
    case atStart => exact ⟨0, Nat.zero_le _, rfl, rfl⟩
    case round =>
      obtain ⟨t, ht, rfl, rfl⟩ := hrel
      by_cases hlt : t < a.length
      · obtain ⟨b, off, y, hyk, rfl, hbl2, hc2⟩ := ra_4.get t hlt
        have hye := rowAt_get (xs := a) (k := t) hlt
        rw [hyk] at hye
        have hyy : rowAt a t = y := (Option.some.inj hye).symm
        have hi2 : ((t : Nat) : Int) < (a.length : Int) := by omega
        have hA2 := HA.out t hlt
        rw [hyy] at hA2
        clear hyk hye hyy
        cases hb1 : (bits .and .i64 (z / 2 ^ t) 1 == 1) with
        | true =>
          have hb2 := hA2 hb1
          clear hA2
          go_wp2
          go_roundw
          case rel => exact ⟨t + 1, by omega, by go_num, by trivial⟩
          case measure => simp [intOf]; omega
        | false =>
          clear hA2
          go_wp2
          go_roundw
          case rel => exact ⟨t + 1, by omega, by go_num, by trivial⟩
          case measure => simp [intOf]; omega
      · obtain rfl : t = a.length := by omega
        go_wp2
        go_ret
        exact ⟨rfl, B4⟩
end Go.Proofs.Ytnmgoeklcmoalaa
