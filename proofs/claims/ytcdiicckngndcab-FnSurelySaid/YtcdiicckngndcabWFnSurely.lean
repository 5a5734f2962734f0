/-
  The walk of FnSurely, out of the contracts of the draw and of the functions that it calls; for whatever bytes.
-/
import Derived.Test.YtcdiicckngndcabPV
import Derived.Test.YtcdiicckngndcabPU
import Derived.Test.YtcdiicckngndcabSI
namespace Go.Proofs.Ytcdiicckngndcab
open Go.RowKit

theorem fnSurely_long (ao : Option Addr) (cap n : Nat) (w : World) (hm : n ≤ maxLen) (hl : ¬ n ≤ 1048576) :
    Calls Try.prog 5 #[.slice ao n cap] w fun e w' => e = .returned (.bool true) ∧ Below w.heap.size w w' := by
  unfold maxLen at hm
  go_enter Try.func5, Try.ntmps5
  go_wp2
  go_ret
  exact ⟨rfl, Below.refl _ _⟩

set_option maxHeartbeats 8000000 in
theorem fnSurely_walk (ao : Option Addr) (c : Nat) (bs : List Nat) (w : World) (hl : bs.length ≤ 1048576) (hb : RdB w ao bs) (hc : bs.length ≤ c) (hbA : bs ≠ [] → ∀ a, ao = some a → a.block < w.heap.size) :
    Calls Try.prog 5 #[.slice ao bs.length c] w fun e w' => e = .returned (.bool true) ∧ Below w.heap.size w w' := by
  have HD := Lib.hid (drawProgSurely_any ao c bs w hb hc hbA)
  clear hb hbA
  go_enter Try.func5, Try.ntmps5
  go_wp2_with fail
  refine HD.out.mono ?_
  rintro e w1 ⟨v, a, z, rfl, hrl, ho1, B1⟩
  obtain ⟨aa, ac, rfl, ra⟩ := row_rd ho1
  have hl1 : a.length ≤ 1048576 := by omega
  clear ho1 HD
  have hI := fun w h => implProgSurely_any aa ac a z w hl1 h
  have hS := fun w h => specProgSurely_any aa ac a z w hl1 h
  cases hp : setB a z with
  | false =>
    rw [show setI a z (surA a.length a z) = 0 by unfold setI; rw [hp]; rfl, hp] at hI
    rw [show setJ a z (surA a.length a z) = 0 by unfold setJ; rw [hp]; rfl, hp] at hS
    have HC := Lib.hid (And.intro hI hS)
    clear hI hS hp
    go_wp2_with fail
    refine (HC.out.1 _ ra).mono ?_
    rintro e w2 ⟨rfl, b2⟩
    have ra_2 := ra.below b2
    have B2 := B1.trans (b2.mono B1.size)
    clear b2 B1 ra
    go_wp2_with fail
    refine (HC.out.2 _ ra_2).mono ?_
    rintro e w3 ⟨rfl, b3⟩
    have ra_3 := ra_2.below b3
    have B3 := B2.trans (b3.mono B2.size)
    clear b3 B2 ra_2
    go_wp2
    go_ret
    exact ⟨rfl, B3⟩
  | true =>
    obtain ⟨R, hz⟩ := set_st hp
    have h1 := R.one
    have h4 := R.four
    rw [show setI a z (surA a.length a z) = surA a.length a z by unfold setI; rw [hp]; rfl, hp] at hI
    rw [show setJ a z (surA a.length a z) = surA a.length a z by unfold setJ; rw [hp]; rfl, hp] at hS
    have hs := St.sur R hz
    have hZ := fun (t : Nat) (ht : t < a.length) => bit_zero h4 hs t ht
    have hN := fun (t : Nat) (ht : t < a.length) (hc : hasB (surA a.length a z) t = false) ao ca w h => pTriple R (tri_none R hz t ht hc) ao ca w h
    have hY := fun ao ca w h => pTriple R (tri_surely R hz) ao ca w h
    have hW := fun (t : Nat) (ht : t < a.length) => pt_wrapE t (by omega : t < 4)
    obtain ⟨o, ho⟩ : ∃ o, surA a.length a z = o := ⟨_, rfl⟩
    rw [ho] at hI hS hZ hN hY
    have e1 : (o == o) = true := by simp
    have e2 : (o != o) = false := by simp
    have HC := Lib.hid (And.intro hI hS)
    have HT := Lib.hid (And.intro hZ (And.intro hN (And.intro hY hW)))
    clear hI hS hZ hN hY hW hp R hz ho hs
    go_wp2_with fail
    refine (HC.out.1 _ ra).mono ?_
    rintro e w2 ⟨rfl, b2⟩
    have ra_2 := ra.below b2
    have B2 := B1.trans (b2.mono B1.size)
    clear b2 B1 ra
    go_wp2_with fail
    refine (HC.out.2 _ ra_2).mono ?_
    rintro e w3 ⟨rfl, b3⟩
    have ra_3 := ra_2.below b3
    have B3 := B2.trans (b3.mono B2.size)
    clear b3 B2 ra_2
    go_wp2
    go_loopw [9] (fun i wr => ∃ t : Nat, t ≤ a.length ∧ i = .int .i64 t ∧ Rd wr aa a ∧ Below w.heap.size w wr)
      (fun i _ => a.length - (intOf i).toNat)
    case atStart => exact ⟨0, Nat.zero_le _, rfl, ra_3, B3⟩
    case round =>
      clear ra_3 B3
      obtain ⟨t, ht, rfl, ra, B⟩ := hrel
      by_cases hlt : t < a.length
      · have hi1 : ((t : Nat) : Int) < (a.length : Int) := by omega
        have hz1 := HT.out.1 t hlt
        cases hc : hasB o t with
        | false =>
          rw [hc] at hz1
          have hw := HT.out.2.2.2 t hlt
          have HN := Lib.hid (HT.out.2.1 t hlt hc)
          rw [Bool.not_false] at hz1
          clear hc
          go_wp2_with fail
          refine (HN.out _ _ _ ra).mono ?_
          rintro e w4 ⟨rfl, b4⟩
          have ra4 := ra.below b4
          have B4 := B.trans (b4.mono B.size)
          clear b4 ra B
          go_wp2
          go_roundw
          case rel => exact ⟨t + 1, by omega, by go_num, ra4, B4⟩
          case measure => simp [intOf]; omega
        | true =>
          rw [hc, Bool.not_true] at hz1
          clear hc
          go_wp2
          go_roundw
          case rel => exact ⟨t + 1, by omega, by go_num, ra, B⟩
          case measure => simp [intOf]; omega
      · obtain rfl : t = a.length := by omega
        go_wp2_with fail
        refine (HT.out.2.2.1 _ _ _ ra).mono ?_
        rintro e w4 ⟨rfl, b4⟩
        have B4 := B.trans (b4.mono B.size)
        clear b4 ra B
        go_wp2
        go_ret
        exact ⟨rfl, B4⟩
end Go.Proofs.Ytcdiicckngndcab
