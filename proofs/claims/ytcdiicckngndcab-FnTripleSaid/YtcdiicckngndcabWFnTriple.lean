/-
  The walk of FnTriple, out of the contracts of the draw and of the functions that it calls; for whatever bytes.
-/
import Derived.Test.YtcdiicckngndcabPV
import Derived.Test.YtcdiicckngndcabPX
import Derived.Test.YtcdiicckngndcabSI
namespace Go.Proofs.Ytcdiicckngndcab
open Go.RowKit

theorem fnTriple_long (ao : Option Addr) (cap n : Nat) (w : World) (hm : n ≤ maxLen) (hl : ¬ n ≤ 1048576) :
    Calls Try.prog 6 #[.slice ao n cap] w fun e w' => e = .returned (.bool true) ∧ Below w.heap.size w w' := by
  unfold maxLen at hm
  go_enter Try.func6, Try.ntmps6
  go_wp2
  go_ret
  exact ⟨rfl, Below.refl _ _⟩

set_option maxHeartbeats 8000000 in
theorem fnTriple_walk (ao : Option Addr) (c : Nat) (bs : List Nat) (w : World) (hl : bs.length ≤ 1048576) (hb : RdB w ao bs) (hc : bs.length ≤ c) (hbA : bs ≠ [] → ∀ a, ao = some a → a.block < w.heap.size) :
    Calls Try.prog 6 #[.slice ao bs.length c] w fun e w' => e = .returned (.bool true) ∧ Below w.heap.size w w' := by
  have HD := Lib.hid (drawProgTriple_any ao c bs w hb hc hbA)
  clear hb hbA
  go_enter Try.func6, Try.ntmps6
  go_wp2_with fail
  refine HD.out.mono ?_
  rintro e w1 ⟨v, a, z, q, rfl, hrl, ho1, B1⟩
  obtain ⟨aa, ac, rfl, ra⟩ := row_rd ho1
  have hl1 : a.length ≤ 1048576 := by omega
  clear ho1 HD
  have hI := fun w h => implProgTriple_any aa ac z a q w hl1 h
  have hS := fun w h => specProgTriple_any aa ac z a q w hl1 h
  rw [triC_eq] at hS
  cases hp : triB z a q with
  | false =>
    rw [hp] at hI hS
    have HC := Lib.hid (And.intro hI hS)
    clear hI hS hp
    go_wp2_with fail
    refine (HC.out.1 _ ra).mono ?_
    rintro e w2 ⟨rfl, b2⟩
    have ra_2 := ra.below b2
    have B2 := B1.trans (b2.mono B1.size)
    clear b2 B1 ra
    go_wp2_with fail
    refine (HC.out.2 _ ra_2).mono ?_
    rintro e w3 ⟨rfl, b3⟩
    have ra_3 := ra_2.below b3
    have B3 := B2.trans (b3.mono B2.size)
    clear b3 B2 ra_2
    go_wp2
    go_ret
    exact ⟨rfl, B3⟩
  | true =>
    rw [hp] at hI hS
    have hp2 := hp
    unfold triB at hp2
    rw [Bool.and_eq_true, Bool.and_eq_true] at hp2
    obtain ⟨R, hz⟩ := set_st hp2.1.1
    obtain ⟨_, hq⟩ := set_st hp2.1.2
    obtain ⟨t1, t2⟩ := tri_ends R hz hq hp
    have hX := fun w h => pAfter R hz (r := imgA a z) rfl aa ac w h
    have hY := fun w h => pSurely R hq (r := surA a.length a q) rfl aa ac w h
    obtain ⟨x, hx⟩ : ∃ x, imgA a z = x := ⟨_, rfl⟩
    rw [hx] at hX t1
    obtain ⟨y, hy⟩ : ∃ y, surA a.length a q = y := ⟨_, rfl⟩
    rw [hy] at hY t2
    have HC := Lib.hid (And.intro hI (And.intro hS (And.intro hX hY)))
    clear hI hS hX hY hp hp2 R hz hq hx hy
    go_wp2_with fail
    refine (HC.out.1 _ ra).mono ?_
    rintro e w2 ⟨rfl, b2⟩
    have ra_2 := ra.below b2
    have B2 := B1.trans (b2.mono B1.size)
    clear b2 B1 ra
    go_wp2_with fail
    refine (HC.out.2.1 _ ra_2).mono ?_
    rintro e w3 ⟨rfl, b3⟩
    have ra_3 := ra_2.below b3
    have B3 := B2.trans (b3.mono B2.size)
    clear b3 B2 ra_2
    go_wp2_with fail
    refine (HC.out.2.2.1 _ ra_3).mono ?_
    rintro e w4 ⟨rfl, b4⟩
    have ra_4 := ra_3.below b4
    have B4 := B3.trans (b4.mono B3.size)
    clear b4 B3 ra_3
    go_wp2_with fail
    refine (HC.out.2.2.2 _ ra_4).mono ?_
    rintro e w5 ⟨rfl, b5⟩
    have ra_5 := ra_4.below b5
    have B5 := B4.trans (b5.mono B4.size)
    clear b5 B4 ra_4
    go_wp2
    go_ret
    exact ⟨rfl, B5⟩
end Go.Proofs.Ytcdiicckngndcab
