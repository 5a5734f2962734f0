/-
  The walk of FnBefore, out of the contracts of the draw and of the functions that it calls; for whatever bytes.
-/
import Derived.Test.YtcdiicckngndcabPV
import Derived.Test.YtcdiicckngndcabPU
import Derived.Test.YtcdiicckngndcabSI
namespace Go.Proofs.Ytcdiicckngndcab
open Go.RowKit

theorem fnBefore_long (ao : Option Addr) (cap n : Nat) (w : World) (hm : n ≤ maxLen) (hl : ¬ n ≤ 1048576) :
    Calls Try.prog 4 #[.slice ao n cap] w fun e w' => e = .returned (.bool true) ∧ Below w.heap.size w w' := by
  unfold maxLen at hm
  go_enter Try.func4, Try.ntmps4
  go_wp2
  go_ret
  exact ⟨rfl, Below.refl _ _⟩

set_option maxHeartbeats 8000000 in
theorem fnBefore_walk (ao : Option Addr) (c : Nat) (bs : List Nat) (w : World) (hl : bs.length ≤ 1048576) (hb : RdB w ao bs) (hc : bs.length ≤ c) (hbA : bs ≠ [] → ∀ a, ao = some a → a.block < w.heap.size) :
    Calls Try.prog 4 #[.slice ao bs.length c] w fun e w' => e = .returned (.bool true) ∧ Below w.heap.size w w' := by
  have HD := Lib.hid (drawProgBefore_any ao c bs w hb hc hbA)
  clear hb hbA
  go_enter Try.func4, Try.ntmps4
  go_wp2_with fail
  refine HD.out.mono ?_
  rintro e w1 ⟨v, a, z, rfl, hrl, ho1, B1⟩
  obtain ⟨aa, ac, rfl, ra⟩ := row_rd ho1
  have hl1 : a.length ≤ 1048576 := by omega
  clear ho1 HD
  have hI := fun w h => implProgBefore_any aa ac a z w hl1 h
  have hS := fun w h => specProgBefore_any aa ac a z w hl1 h
  cases hp : setB a z with
  | false =>
    rw [show setI a z (imgA (turnL a) z) = 0 by unfold setI; rw [hp]; rfl, hp] at hI
    rw [show setJ a z (imgA (turnL a) z) = 0 by unfold setJ; rw [hp]; rfl, hp] at hS
    have HC := Lib.hid (And.intro hI hS)
    clear hI hS hp
    go_wp2_with fail
    refine (HC.out.1 _ ra).mono ?_
    rintro e w2 ⟨rfl, b2⟩
    have ra_2 := ra.below b2
    have B2 := B1.trans (b2.mono B1.size)
    clear b2 B1 ra
    go_wp2_with fail
    refine (HC.out.2 _ ra_2).mono ?_
    rintro e w3 ⟨rfl, b3⟩
    have ra_3 := ra_2.below b3
    have B3 := B2.trans (b3.mono B2.size)
    clear b3 B2 ra_2
    go_wp2
    go_ret
    exact ⟨rfl, B3⟩
  | true =>
    obtain ⟨R, hz⟩ := set_st hp
    have h1 := R.one
    have h4 := R.four
    rw [show setI a z (imgA (turnL a) z) = imgA (turnL a) z by unfold setI; rw [hp]; rfl, hp] at hI
    rw [show setJ a z (imgA (turnL a) z) = imgA (turnL a) z by unfold setJ; rw [hp]; rfl, hp] at hS
    have hX := fun w h => pSurely R (St.not h4 hz) (r := surA a.length a (notA a.length z)) rfl aa ac w h
    have hf := before_others R hz
    have htop := top_wrap a.length h1 h4
    have hz2 := not_top h1 h4 z
    have hx2 := not_top h1 h4 (surA a.length a (notA a.length z))
    obtain ⟨o, ho⟩ : ∃ o, imgA (turnL a) z = o := ⟨_, rfl⟩
    rw [ho] at hI hS hf
    obtain ⟨x, hx⟩ : ∃ x, surA a.length a (notA a.length z) = x := ⟨_, rfl⟩
    rw [hx] at hX hf hx2
    rw [hf] at hx2
    obtain ⟨y, hy⟩ : ∃ y, notA a.length z = y := ⟨_, rfl⟩
    rw [hy] at hX hz2
    obtain ⟨T, hT⟩ : ∃ T : Int, ((2 ^ a.length - 1 : Nat) : Int) = T := ⟨_, rfl⟩
    rw [hT] at htop hz2 hx2
    have e1 : (o == o) = true := by simp
    have e2 : (o != o) = false := by simp
    have HC := Lib.hid (And.intro hI (And.intro hS hX))
    clear hI hS hX hp R hz ho hx hf hy hT
    go_wp2_with fail
    refine (HC.out.1 _ ra).mono ?_
    rintro e w2 ⟨rfl, b2⟩
    have ra_2 := ra.below b2
    have B2 := B1.trans (b2.mono B1.size)
    clear b2 B1 ra
    go_wp2_with fail
    refine (HC.out.2.1 _ ra_2).mono ?_
    rintro e w3 ⟨rfl, b3⟩
    have ra_3 := ra_2.below b3
    have B3 := B2.trans (b3.mono B2.size)
    clear b3 B2 ra_2
    go_wp2_with fail
    refine (HC.out.2.2 _ ra_3).mono ?_
    rintro e w4 ⟨rfl, b4⟩
    have ra_4 := ra_3.below b4
    have B4 := B3.trans (b4.mono B3.size)
    clear b4 B3 ra_3
    go_wp2
    go_ret
    exact ⟨rfl, B4⟩
end Go.Proofs.Ytcdiicckngndcab
