/-
  The walk of FnIndex, out of the contracts of the draw and of the functions that it calls; for whatever bytes.
-/
import Derived.Test.YtpbkgdohfnjjpabGB
import Derived.Test.YtpbkgdohfnjjpabRG
import Derived.Test.YtpbkgdohfnjjpabRD
import Derived.Test.YtpbkgdohfnjjpabEI
import Derived.Test.YtpbkgdohfnjjpabEJ
import Derived.Test.YtpbkgdohfnjjpabEP
namespace Go.Proofs.Ytpbkgdohfnjjpab
open Go.RowKit

theorem fnIndex_long (ao : Option Addr) (cap n : Nat) (w : World) (hm : n ≤ maxLen) (hl : ¬ n ≤ 1048576) :
    Calls Try.prog 4 #[.slice ao n cap] w fun e w' => e = .returned (.bool true) ∧ Below w.heap.size w w' := by
  unfold maxLen at hm
  go_enter Try.func4, Try.ntmps4
  go_wp2
  go_ret
  exact ⟨rfl, Below.refl _ _⟩

set_option maxHeartbeats 8000000 in
theorem fnIndex_walk (ao : Option Addr) (c : Nat) (bs : List Nat) (w : World) (hl : bs.length ≤ 1048576) (hb : RdB w ao bs) (hc : bs.length ≤ c) (hbA : bs ≠ [] → ∀ a, ao = some a → a.block < w.heap.size) :
    Calls Try.prog 4 #[.slice ao bs.length c] w fun e w' => e = .returned (.bool true) ∧ Below w.heap.size w w' := by
  have HD := Lib.hid (drawCompIndex_any ao c bs w hb hc hbA)
  clear hb hbA
  go_enter Try.func4, Try.ntmps4
  go_wp2_with fail
  refine HD.out.mono ?_
  rintro e w1 ⟨v, a, rfl, hrl, ho1, B1⟩
  obtain ⟨aa, ac, rfl, ra⟩ := row_rd ho1
  have hl1 : a.length ≤ 1048576 := by omega
  clear ho1 HD
  cases hp : relIn a with
  | false =>
    have hI := fun w h => implCompIndex_any aa ac a w hl1 h
    have hS := fun w h => specCompIndex_any aa ac a w hl1 h
    rw [hp] at hI hS
    rw [show ifN false ((roundA a : Nat) : Int) = 0 from rfl, show ifN false ((roundM a - roundA a : Nat) : Int) = 0 from rfl] at hI hS
    have HC := Lib.hid (And.intro hI hS)
    clear hI hS hp
    go_wp2_with fail
    refine (HC.out.1 _ ra).mono ?_
    rintro e w2 ⟨rfl, b2⟩
    have ra_2 := ra.below b2
    have B2 := B1.trans (b2.mono B1.size)
    clear b2 B1 ra
    go_wp2_with fail
    refine (HC.out.2 _ ra_2).mono ?_
    rintro e w3 ⟨rfl, b3⟩
    have ra_3 := ra_2.below b3
    have B3 := B2.trans (b3.mono B2.size)
    clear b3 B2 ra_2
    go_wp2
    go_ret
    exact ⟨rfl, B3⟩
  | true =>
    have hI := fun w h => implCompIndex_any aa ac a w hl1 h
    have hS := fun w h => specCompIndex_any aa ac a w hl1 h
    rw [hp] at hI hS
    have R1 := Rl.of hp
    obtain ⟨p, d, hd, hpd, hA, hD, heq⟩ := index_ex R1
    rw [hD, hA, show ifN true (p : Int) = (p : Int) from rfl, show ifN true (d : Int) = (d : Int) from rfl] at hI hS
    have hX := fun w h => implCompPower_any aa ac a (p : Int) w hl1 h
    have hY := fun w h => implCompPower_any aa ac a ((p : Int) + (d : Int)) w hl1 h
    rw [hp, Bool.true_and] at hX hY
    rw [Int.toNat_natCast] at hX
    rw [show ((p : Int) + (d : Int)).toNat = p + d by omega, heq] at hY
    have Lx : (powL a p).length ≤ 1048576 := rl_short (R1.pow _)
    have hN : ¬ ((p : Int) + (d : Int) > 100) → inB (p : Int) 0 100 = true ∧ inB ((p : Int) + (d : Int)) 0 100 = true := fun h => ⟨inB_yes (by omega) (by omega), inB_yes (by omega) (by omega)⟩
    obtain ⟨lp, Elp⟩ : ∃ kk, powL a p = kk := ⟨_, rfl⟩
    rw [Elp] at hX
    rw [Elp] at hY
    rw [Elp] at Lx
    obtain ⟨b1, Eb1⟩ : ∃ b, inB (p : Int) 0 100 = b := ⟨_, rfl⟩
    rw [Eb1] at hX hN
    obtain ⟨b2', Eb2⟩ : ∃ b, inB ((p : Int) + (d : Int)) 0 100 = b := ⟨_, rfl⟩
    rw [Eb2] at hY hN
    have e1 : ((p : Int) == (p : Int)) = true := by simp
    have e2 : ((p : Int) != (p : Int)) = false := by simp
    have e3 : ((d : Int) == (d : Int)) = true := by simp
    have e4 : ((d : Int) != (d : Int)) = false := by simp
    have hd2 : (d : Int) > 0 := by omega
    have HC := Lib.hid (And.intro hI hS)
    have HX := Lib.hid hX
    have HY := Lib.hid hY
    have HN := Lib.hid hN
    have HD := Lib.hid hd2
    clear hI hS hX hY hN hp R1 Elp Eb1 Eb2 hA hD heq hd hd2
    by_cases hg : (p : Int) + (d : Int) > 100
    · obtain ⟨l1, El1⟩ : ∃ l, ifR b1 lp = l := ⟨_, rfl⟩
      obtain ⟨l2, El2⟩ : ∃ l, ifR b2' lp = l := ⟨_, rfl⟩
      have HX2 := HX.out
      have HY2 := HY.out
      rw [El1] at HX2
      rw [El2] at HY2
      have HX3 := Lib.hid HX2
      have HY3 := Lib.hid HY2
      clear HX2 HY2 El1 El2 HX HY
      go_wp2_with fail
      refine (HC.out.1 _ ra).mono ?_
      rintro e w2 ⟨rfl, b2⟩
      have ra_2 := ra.below b2
      have B2 := B1.trans (b2.mono B1.size)
      clear b2 B1 ra
      go_wp2_with fail
      refine (HC.out.2 _ ra_2).mono ?_
      rintro e w3 ⟨rfl, b3⟩
      have ra_3 := ra_2.below b3
      have B3 := B2.trans (b3.mono B2.size)
      clear b3 B2 ra_2
      go_wp2_with fail
      refine (HX3.out _ ra_3).mono ?_
      rintro e w4 ⟨v, rfl, ho, b4⟩
      obtain ⟨xa, xc, rfl, rx_4⟩ := row_rd ho
      clear ho
      have ra_4 := ra_3.below b4
      have B4 := B3.trans (b4.mono B3.size)
      clear b4 B3 ra_3
      go_wp2_with fail
      refine (HY3.out _ ra_4).mono ?_
      rintro e w5 ⟨v, rfl, ho, b5⟩
      obtain ⟨ya, yc, rfl, ry_5⟩ := row_rd ho
      clear ho
      have ra_5 := ra_4.below b5
      have rx_5 := rx_4.below b5
      have B5 := B4.trans (b5.mono B4.size)
      clear b5 B4 ra_4 rx_4
      go_wp2
      go_ret
      exact ⟨rfl, B5⟩
    · obtain ⟨rfl, rfl⟩ := HN.out hg
      have HX2 := HX.out
      have HY2 := HY.out
      rw [show ifR true lp = lp from rfl] at HX2 HY2
      have HX3 := Lib.hid HX2
      have HY3 := Lib.hid HY2
      clear HX2 HY2 HX HY
      go_wp2_with fail
      refine (HC.out.1 _ ra).mono ?_
      rintro e w2 ⟨rfl, b2⟩
      have ra_2 := ra.below b2
      have B2 := B1.trans (b2.mono B1.size)
      clear b2 B1 ra
      go_wp2_with fail
      refine (HC.out.2 _ ra_2).mono ?_
      rintro e w3 ⟨rfl, b3⟩
      have ra_3 := ra_2.below b3
      have B3 := B2.trans (b3.mono B2.size)
      clear b3 B2 ra_2
      go_wp2_with fail
      refine (HX3.out _ ra_3).mono ?_
      rintro e w4 ⟨v, rfl, ho, b4⟩
      obtain ⟨xa, xc, rfl, rx_4⟩ := row_rd ho
      clear ho
      have ra_4 := ra_3.below b4
      have B4 := B3.trans (b4.mono B3.size)
      clear b4 B3 ra_3
      go_wp2_with fail
      refine (HY3.out _ ra_4).mono ?_
      rintro e w5 ⟨v, rfl, ho, b5⟩
      obtain ⟨ya, yc, rfl, ry_5⟩ := row_rd ho
      clear ho
      have ra_5 := ra_4.below b5
      have rx_5 := rx_4.below b5
      have B5 := B4.trans (b5.mono B4.size)
      clear b5 B4 ra_4 rx_4
      have hd2 := HD.out
      go_wp2_with fail
      refine (sameInts_refl xa ya xc yc _ _ Lx rx_5 ry_5).mono ?_
      rintro e w6 ⟨rfl, d6⟩
      have ra_6 := d6.rd ra_5
      have rx_6 := d6.rd rx_5
      have ry_6 := d6.rd ry_5
      have B6 := B5.trans (d6.below _)
      clear d6 B5 ra_5 rx_5 ry_5
      go_wp2
      go_ret
      exact ⟨rfl, B6⟩
end Go.Proofs.Ytpbkgdohfnjjpab
