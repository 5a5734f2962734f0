/-
  The walk of FnWhileOut, out of the contracts of the draw and of the functions that it calls; for whatever bytes.
-/
import Derived.Test.YtcdiicckngndcabPV
import Derived.Test.YtcdiicckngndcabPU
import Derived.Test.YtcdiicckngndcabSI
namespace Go.Proofs.Ytcdiicckngndcab
open Go.RowKit

theorem fnWhileOut_long (ao : Option Addr) (cap n : Nat) (w : World) (hm : n ≤ maxLen) (hl : ¬ n ≤ 1048576) :
    Calls Try.prog 9 #[.slice ao n cap] w fun e w' => e = .returned (.bool true) ∧ Below w.heap.size w w' := by
  unfold maxLen at hm
  go_enter Try.func9, Try.ntmps9
  go_wp2
  go_ret
  exact ⟨rfl, Below.refl _ _⟩

set_option maxHeartbeats 8000000 in
theorem fnWhileOut_walk (ao : Option Addr) (c : Nat) (bs : List Nat) (w : World) (hl : bs.length ≤ 1048576) (hb : RdB w ao bs) (hc : bs.length ≤ c) (hbA : bs ≠ [] → ∀ a, ao = some a → a.block < w.heap.size) :
    Calls Try.prog 9 #[.slice ao bs.length c] w fun e w' => e = .returned (.bool true) ∧ Below w.heap.size w w' := by
  have HD := Lib.hid (drawProgWhile_any ao c bs w hb hc hbA)
  clear hb hbA
  go_enter Try.func9, Try.ntmps9
  go_wp2_with fail
  refine HD.out.mono ?_
  rintro e w1 ⟨v, a, z, rfl, hrl, ho1, B1⟩
  obtain ⟨aa, ac, rfl, ra⟩ := row_rd ho1
  have hl1 : a.length ≤ 1048576 := by omega
  clear ho1 HD
  have hI := fun w h => implProgWhile_any z aa ac a w hl1 h
  have hS := fun w h => specProgWhile_any z aa ac a w hl1 h
  cases hp : setB a z with
  | false =>
    rw [hp] at hI hS
    have HC := Lib.hid (And.intro hI hS)
    clear hI hS hp
    go_wp2_with fail
    refine (HC.out.1 _ ra).mono ?_
    rintro e w2 ⟨v, rfl, ho, b2⟩
    obtain ⟨oa, oc, rfl, ro_2⟩ := row_rd (xs := ifR false (whileL z a)) ho
    clear ho
    have ra_2 := ra.below b2
    have B2 := B1.trans (b2.mono B1.size)
    clear b2 B1 ra
    go_wp2_with fail
    refine (HC.out.2 _ ra_2).mono ?_
    rintro e w3 ⟨v, rfl, ho, b3⟩
    obtain ⟨wa, wc, rfl, rw_3⟩ := row_rd (xs := ifR false (whileL z a)) ho
    clear ho
    have ra_3 := ra_2.below b3
    have ro_3 := ro_2.below b3
    have B3 := B2.trans (b3.mono B2.size)
    clear b3 B2 ra_2 ro_2
    go_wp2_with fail
    refine (sameInts_refl oa wa oc wc _ _ (by simp [ifR]) ro_3 rw_3).mono ?_
    rintro e w4 ⟨rfl, d4⟩
    have ra_4 := d4.rd ra_3
    have ro_4 := d4.rd ro_3
    have rw_4 := d4.rd rw_3
    have B4 := B3.trans (d4.below _)
    clear d4 B3 ra_3 ro_3 rw_3
    go_wp2_with fail
    refine (sameInts_refl oa wa oc wc _ _ (by simp [ifR]) ro_4 rw_4).mono ?_
    rintro e w5 ⟨rfl, d5⟩
    have ra_5 := d5.rd ra_4
    have ro_5 := d5.rd ro_4
    have rw_5 := d5.rd rw_4
    have B5 := B4.trans (d5.below _)
    clear d5 B4 ra_4 ro_4 rw_4
    go_wp2
    go_ret
    exact ⟨rfl, B5⟩
  | true =>
    obtain ⟨R, hz⟩ := set_st hp
    have h1 := R.one
    have h4 := R.four
    rw [hp, show ifR true (whileL z a) = whileL z a from rfl] at hI hS
    have Lo : (whileL z a).length ≤ 1048576 := rl_short8 (R.while hz)
    obtain ⟨k, hk, t1, t2⟩ := while_outs R hz
    have W := R.while hz
    have hX := fun w h => pLargest R (St.not h4 (St.one h1)) hk aa ac w h
    have hT1 := fun ao ca w h => pTriple W t1 ao ca w h
    have hT2 := fun ao ca w h => pTriple W t2 ao ca w h
    have htop := top_wrap a.length h1 h4
    have hz2 := not_top h1 h4 z
    have hone := not_top h1 h4 1
    obtain ⟨o, ho⟩ : ∃ o, whileL z a = o := ⟨_, rfl⟩
    rw [ho] at hI hS hT1 hT2 Lo
    obtain ⟨y, hy⟩ : ∃ y, notA a.length z = y := ⟨_, rfl⟩
    rw [hy] at hT1 hz2
    obtain ⟨u, hu⟩ : ∃ u, notA a.length 1 = u := ⟨_, rfl⟩
    rw [hu] at hX hone
    obtain ⟨T, hT⟩ : ∃ T : Int, ((2 ^ a.length - 1 : Nat) : Int) = T := ⟨_, rfl⟩
    rw [hT] at htop hz2 hone hT1
    have HC := Lib.hid (And.intro hI (And.intro hS (And.intro hX (And.intro hT1 hT2))))
    clear hI hS hX hT1 hT2 hp R hz W ho hy hu hT hk t1 t2
    go_wp2_with fail
    refine (HC.out.1 _ ra).mono ?_
    rintro e w2 ⟨v, rfl, ho, b2⟩
    obtain ⟨oa, oc, rfl, ro_2⟩ := row_rd ho
    clear ho
    have ra_2 := ra.below b2
    have B2 := B1.trans (b2.mono B1.size)
    clear b2 B1 ra
    go_wp2_with fail
    refine (HC.out.2.1 _ ra_2).mono ?_
    rintro e w3 ⟨v, rfl, ho, b3⟩
    obtain ⟨wa, wc, rfl, rw_3⟩ := row_rd ho
    clear ho
    have ra_3 := ra_2.below b3
    have ro_3 := ro_2.below b3
    have B3 := B2.trans (b3.mono B2.size)
    clear b3 B2 ra_2 ro_2
    go_wp2_with fail
    refine (sameInts_refl oa wa oc wc _ _ Lo ro_3 rw_3).mono ?_
    rintro e w4 ⟨rfl, d4⟩
    have ra_4 := d4.rd ra_3
    have ro_4 := d4.rd ro_3
    have rw_4 := d4.rd rw_3
    have B4 := B3.trans (d4.below _)
    clear d4 B3 ra_3 ro_3 rw_3
    go_wp2_with fail
    refine (HC.out.2.2.1 _ ra_4).mono ?_
    rintro e w5 ⟨rfl, b5⟩
    have ra_5 := ra_4.below b5
    have ro_5 := ro_4.below b5
    have rw_5 := rw_4.below b5
    have B5 := B4.trans (b5.mono B4.size)
    clear b5 B4 ra_4 ro_4 rw_4
    go_wp2_with fail
    refine (HC.out.2.2.2.1 _ _ _ ro_5).mono ?_
    rintro e w6 ⟨rfl, b6⟩
    have ra_6 := ra_5.below b6
    have ro_6 := ro_5.below b6
    have rw_6 := rw_5.below b6
    have B6 := B5.trans (b6.mono B5.size)
    clear b6 B5 ra_5 ro_5 rw_5
    go_wp2_with fail
    refine (HC.out.2.2.2.2 _ _ _ ro_6).mono ?_
    rintro e w7 ⟨rfl, b7⟩
    have ra_7 := ra_6.below b7
    have ro_7 := ro_6.below b7
    have rw_7 := rw_6.below b7
    have B7 := B6.trans (b7.mono B6.size)
    clear b7 B6 ra_6 ro_6 rw_6
    go_wp2
    go_ret
    exact ⟨rfl, B7⟩
end Go.Proofs.Ytcdiicckngndcab
