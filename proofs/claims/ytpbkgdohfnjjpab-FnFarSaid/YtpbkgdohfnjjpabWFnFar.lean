/-
  The walk of FnFar, out of the contracts of the draw and of the functions that it calls; for whatever bytes.
-/
import Derived.Test.YtpbkgdohfnjjpabGB
import Derived.Test.YtpbkgdohfnjjpabRG
import Derived.Test.YtpbkgdohfnjjpabRF
import Derived.Test.YtpbkgdohfnjjpabEI
import Derived.Test.YtpbkgdohfnjjpabEOB
namespace Go.Proofs.Ytpbkgdohfnjjpab
open Go.RowKit

theorem fnFar_long (ao : Option Addr) (cap n : Nat) (w : World) (hm : n ≤ maxLen) (hl : ¬ n ≤ 1048576) :
    Calls Try.prog 5 #[.slice ao n cap] w fun e w' => e = .returned (.bool true) ∧ Below w.heap.size w w' := by
  unfold maxLen at hm
  go_enter Try.func5, Try.ntmps5
  go_wp2
  go_ret
  exact ⟨rfl, Below.refl _ _⟩

set_option maxHeartbeats 8000000 in
theorem fnFar_walk (ao : Option Addr) (c : Nat) (bs : List Nat) (w : World) (hl : bs.length ≤ 1048576) (hb : RdB w ao bs) (hc : bs.length ≤ c) (hbA : bs ≠ [] → ∀ a, ao = some a → a.block < w.heap.size) :
    Calls Try.prog 5 #[.slice ao bs.length c] w fun e w' => e = .returned (.bool true) ∧ Below w.heap.size w w' := by
  have HD := Lib.hid (drawCompFar_any ao c bs w hb hc hbA)
  clear hb hbA
  go_enter Try.func5, Try.ntmps5
  go_wp2_with fail
  refine HD.out.mono ?_
  rintro e w1 ⟨v, a, x, y, rfl, hrl, ho1, B1⟩
  obtain ⟨aa, ac, rfl, ra⟩ := row_rd ho1
  have hl1 : a.length ≤ 1048576 := by omega
  clear ho1 HD
  cases hp : farR a x y with
  | none =>
    have hI := fun w h => implCompFar_any aa ac a x y w hl1 h
    have hS := fun w h => specCompFar_any aa ac a x y w hl1 h
    unfold FarGave at hI hS
    rw [hp] at hI hS
    rw [show (((none : Option Nat).getD 0 : Nat) : Int) = 0 from rfl, show (none : Option Nat).isSome = false from rfl] at hI hS
    have HC := Lib.hid (And.intro hI hS)
    clear hI hS hp
    go_wp2_with fail
    refine (HC.out.1 _ ra).mono ?_
    rintro e w2 ⟨rfl, b2⟩
    have ra_2 := ra.below b2
    have B2 := B1.trans (b2.mono B1.size)
    clear b2 B1 ra
    go_wp2_with fail
    refine (HC.out.2 _ ra_2).mono ?_
    rintro e w3 ⟨rfl, b3⟩
    have ra_3 := ra_2.below b3
    have B3 := B2.trans (b3.mono B2.size)
    clear b3 B2 ra_2
    go_wp2
    go_ret
    exact ⟨rfl, B3⟩
  | some k =>
    have hI := fun w h => implCompFar_any aa ac a x y w hl1 h
    have hS := fun w h => specCompFar_any aa ac a x y w hl1 h
    unfold FarGave at hI hS
    rw [hp] at hI hS
    rw [show (((some k).getD 0 : Nat) : Int) = (k : Int) from rfl, show (some k).isSome = true from rfl] at hI hS
    unfold farR at hp
    by_cases hc3 : (relIn a && ptIn x a.length && ptIn y a.length) = true
    case neg => rw [if_neg hc3] at hp; cases hp
    rw [if_pos hc3] at hp
    rw [Bool.and_eq_true, Bool.and_eq_true] at hc3
    have R1 := Rl.of hc3.1.1
    have hx := of_decide_eq_true hc3.1.2
    have hy := of_decide_eq_true hc3.2
    obtain ⟨i, rfl⟩ := Int.eq_ofNat_of_zero_le hx.1
    obtain ⟨j, rfl⟩ := Int.eq_ofNat_of_zero_le hy.1
    have hi : i < a.length := by omega
    have hj : j < a.length := by omega
    rw [Int.toNat_natCast, Int.toNat_natCast] at hp
    obtain ⟨hB1, hk, hk0⟩ := far_is R1 hi hj hp
    have P1 := R1.pow k
    have h4 := R1.four
    have hX := fun w h => implCompPower_any aa ac a (k : Int) w hl1 h
    rw [hc3.1.1, Bool.true_and, inB_yes (show (0 : Int) ≤ (k : Int) by omega) (show (k : Int) ≤ 100 by omega), Int.toNat_natCast, show ifR true (powL a k) = powL a k from rfl] at hX
    obtain ⟨z, hz, _⟩ := P1.row i
    have hat := rowAt_get (xs := powL a k) (k := i) (by rw [P1.len]; exact hi)
    have hbit := b_bit z ⟨j, by omega⟩
    unfold hB at hB1
    rw [hz] at hB1 hat
    dsimp only at hbit
    rw [hB1] at hbit
    unfold bitB at hbit
    have hk2 : (k : Int) < (a.length : Int) := by omega
    have hkk : ((k : Int) == 0) = ((i : Int) == (j : Int)) := by
      rw [Bool.eq_iff_iff, beq_iff_eq, beq_iff_eq]
      constructor
      · intro e
        have := hk0.1 (by omega)
        omega
      · intro e
        have := hk0.2 (by omega)
        omega
    obtain ⟨lp, Elp⟩ : ∃ kk, powL a k = kk := ⟨_, rfl⟩
    rw [Elp] at hX
    rw [Elp] at hat
    obtain ⟨q, Eq⟩ : ∃ b, ((i : Int) == (j : Int)) = b := ⟨_, rfl⟩
    rw [Eq] at hkk
    have hil : (i : Int) < (lp.length : Int) := by
      have := (List.getElem?_eq_some_iff.1 hat).1
      omega
    have e1 : ((k : Int) == (k : Int)) = true := by simp
    have e2 : ((k : Int) != (k : Int)) = false := by simp
    have e3 : (q == q) = true := by simp
    have HC := Lib.hid (And.intro hI (And.intro hS hX))
    have HAT := Lib.hid hat
    clear hI hS hX hp R1 P1 Elp hc3 hx hy hB1 hk0 hz hat
    go_wp2_with fail
    refine (HC.out.1 _ ra).mono ?_
    rintro e w2 ⟨rfl, b2⟩
    have ra_2 := ra.below b2
    have B2 := B1.trans (b2.mono B1.size)
    clear b2 B1 ra
    go_wp2_with fail
    refine (HC.out.2.1 _ ra_2).mono ?_
    rintro e w3 ⟨rfl, b3⟩
    have ra_3 := ra_2.below b3
    have B3 := B2.trans (b3.mono B2.size)
    clear b3 B2 ra_2
    go_wp2_with fail
    refine (HC.out.2.2 _ ra_3).mono ?_
    rintro e w4 ⟨v, rfl, ho, b4⟩
    obtain ⟨pa, pc, rfl, rp_4⟩ := row_rd ho
    obtain ⟨pb, po, rfl, hpl, hpc⟩ := rp_4 i _ HAT.out
    clear ho
    have ra_4 := ra_3.below b4
    have B4 := B3.trans (b4.mono B3.size)
    clear b4 B3 ra_3
    go_wp2
    go_ret
    exact ⟨rfl, B4⟩
end Go.Proofs.Ytpbkgdohfnjjpab
