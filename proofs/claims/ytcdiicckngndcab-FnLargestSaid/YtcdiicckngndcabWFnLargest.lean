/-
  The walk of FnLargest, out of the contracts of the draw and of the functions that it calls; for whatever bytes.
-/
import Derived.Test.YtcdiicckngndcabPV
import Derived.Test.YtcdiicckngndcabPU
import Derived.Test.YtcdiicckngndcabSI
namespace Go.Proofs.Ytcdiicckngndcab
open Go.RowKit

theorem fnLargest_long (ao : Option Addr) (cap n : Nat) (w : World) (hm : n ≤ maxLen) (hl : ¬ n ≤ 1048576) :
    Calls Try.prog 11 #[.slice ao n cap] w fun e w' => e = .returned (.bool true) ∧ Below w.heap.size w w' := by
  unfold maxLen at hm
  go_enter Try.func11, Try.ntmps11
  go_wp2
  go_ret
  exact ⟨rfl, Below.refl _ _⟩

set_option maxHeartbeats 8000000 in
theorem fnLargest_walk (ao : Option Addr) (c : Nat) (bs : List Nat) (w : World) (hl : bs.length ≤ 1048576) (hb : RdB w ao bs) (hc : bs.length ≤ c) (hbA : bs ≠ [] → ∀ a, ao = some a → a.block < w.heap.size) :
    Calls Try.prog 11 #[.slice ao bs.length c] w fun e w' => e = .returned (.bool true) ∧ Below w.heap.size w w' := by
  have HD := Lib.hid (drawProgLargest_any ao c bs w hb hc hbA)
  clear hb hbA
  go_enter Try.func11, Try.ntmps11
  go_wp2_with fail
  refine HD.out.mono ?_
  rintro e w1 ⟨v, a, z, rfl, hrl, ho1, B1⟩
  obtain ⟨aa, ac, rfl, ra⟩ := row_rd ho1
  have hl1 : a.length ≤ 1048576 := by omega
  clear ho1 HD
  have hI := fun w h => implProgLargest_any aa ac a z w hl1 h
  have hS := fun w h => specProgLargest_any aa ac a z w hl1 h
  cases hp : setB a z with
  | false =>
    rw [show setI a z (surA a.length (starL a) z) = 0 by unfold setI; rw [hp]; rfl, hp] at hI
    rw [show setJ a z (surA a.length (starL a) z) = 0 by unfold setJ; rw [hp]; rfl, hp] at hS
    have HC := Lib.hid (And.intro hI hS)
    clear hI hS hp
    go_wp2_with fail
    refine (HC.out.1 _ ra).mono ?_
    rintro e w2 ⟨rfl, b2⟩
    have ra_2 := ra.below b2
    have B2 := B1.trans (b2.mono B1.size)
    clear b2 B1 ra
    go_wp2_with fail
    refine (HC.out.2 _ ra_2).mono ?_
    rintro e w3 ⟨rfl, b3⟩
    have ra_3 := ra_2.below b3
    have B3 := B2.trans (b3.mono B2.size)
    clear b3 B2 ra_2
    go_wp2
    go_ret
    exact ⟨rfl, B3⟩
  | true =>
    obtain ⟨R, hz⟩ := set_st hp
    have h1 := R.one
    have h4 := R.four
    rw [show setI a z (surA a.length (starL a) z) = surA a.length (starL a) z by unfold setI; rw [hp]; rfl, hp] at hI
    rw [show setJ a z (surA a.length (starL a) z) = surA a.length (starL a) z by unfold setJ; rw [hp]; rfl, hp] at hS
    obtain ⟨o, ho, so, h2, h3, h5⟩ := largest_all R hz
    have hT := fun w h => qTurn R aa ac w h
    have hK := fun ao ca w h => pKept R.turn (St.not h4 hz) h2 ao ca w h
    have h3t := fun w h => pTriple R h5 aa ac w h
    have htop := top_wrap a.length h1 h4
    have hz2 := not_top h1 h4 z
    have ho2 := not_top h1 h4 o
    rw [ho] at hI hS
    obtain ⟨y, hy⟩ : ∃ y, notA a.length z = y := ⟨_, rfl⟩
    rw [hy] at hK hz2
    obtain ⟨x, hx⟩ : ∃ x, notA a.length o = x := ⟨_, rfl⟩
    rw [hx] at hK ho2
    obtain ⟨T, hT2⟩ : ∃ T : Int, ((2 ^ a.length - 1 : Nat) : Int) = T := ⟨_, rfl⟩
    rw [hT2] at htop hz2 ho2
    obtain ⟨t, ht⟩ : ∃ t, turnL a = t := ⟨_, rfl⟩
    rw [ht] at hT hK
    have e3 : (x == x) = true := by simp
    have e1 : (o == o) = true := by simp
    have e2 : (o != o) = false := by simp
    have HC := Lib.hid (And.intro hI (And.intro hS (And.intro hT (And.intro hK h3t))))
    clear hI hS hT hK h3t hp R hz ho so h2 h5 hy hx hT2 ht
    go_wp2_with fail
    refine (HC.out.1 _ ra).mono ?_
    rintro e w2 ⟨rfl, b2⟩
    have ra_2 := ra.below b2
    have B2 := B1.trans (b2.mono B1.size)
    clear b2 B1 ra
    go_wp2_with fail
    refine (HC.out.2.1 _ ra_2).mono ?_
    rintro e w3 ⟨rfl, b3⟩
    have ra_3 := ra_2.below b3
    have B3 := B2.trans (b3.mono B2.size)
    clear b3 B2 ra_2
    go_wp2_with fail
    refine (HC.out.2.2.1 _ ra_3).mono ?_
    rintro e w4 ⟨v, rfl, ho, b4⟩
    obtain ⟨ta, tc, rfl, rt_4⟩ := row_rd ho
    clear ho
    have ra_4 := ra_3.below b4
    have B4 := B3.trans (b4.mono B3.size)
    clear b4 B3 ra_3
    go_wp2_with fail
    refine (HC.out.2.2.2.1 _ _ _ rt_4).mono ?_
    rintro e w5 ⟨rfl, b5⟩
    have ra_5 := ra_4.below b5
    have rt_5 := rt_4.below b5
    have B5 := B4.trans (b5.mono B4.size)
    clear b5 B4 ra_4 rt_4
    go_wp2_with fail
    refine (HC.out.2.2.2.2 _ ra_5).mono ?_
    rintro e w6 ⟨rfl, b6⟩
    have ra_6 := ra_5.below b6
    have rt_6 := rt_5.below b6
    have B6 := B5.trans (b6.mono B5.size)
    clear b6 B5 ra_5 rt_5
    go_wp2
    go_ret
    exact ⟨rfl, B6⟩
end Go.Proofs.Ytcdiicckngndcab
