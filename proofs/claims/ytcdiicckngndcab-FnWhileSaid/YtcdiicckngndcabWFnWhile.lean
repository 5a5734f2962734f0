/-
  The walk of FnWhile, out of the contracts of the draw and of the functions that it calls; for whatever bytes.
-/
import Derived.Test.YtcdiicckngndcabPV
import Derived.Test.YtcdiicckngndcabPU
import Derived.Test.YtcdiicckngndcabSI
namespace Go.Proofs.Ytcdiicckngndcab
open Go.RowKit

theorem fnWhile_long (ao : Option Addr) (cap n : Nat) (w : World) (hm : n ≤ maxLen) (hl : ¬ n ≤ 1048576) :
    Calls Try.prog 8 #[.slice ao n cap] w fun e w' => e = .returned (.bool true) ∧ Below w.heap.size w w' := by
  unfold maxLen at hm
  go_enter Try.func8, Try.ntmps8
  go_wp2
  go_ret
  exact ⟨rfl, Below.refl _ _⟩

set_option maxHeartbeats 8000000 in
theorem fnWhile_walk (ao : Option Addr) (c : Nat) (bs : List Nat) (w : World) (hl : bs.length ≤ 1048576) (hb : RdB w ao bs) (hc : bs.length ≤ c) (hbA : bs ≠ [] → ∀ a, ao = some a → a.block < w.heap.size) :
    Calls Try.prog 8 #[.slice ao bs.length c] w fun e w' => e = .returned (.bool true) ∧ Below w.heap.size w w' := by
  have HD := Lib.hid (drawProgWhile_any ao c bs w hb hc hbA)
  clear hb hbA
  go_enter Try.func8, Try.ntmps8
  go_wp2_with fail
  refine HD.out.mono ?_
  rintro e w1 ⟨v, a, z, rfl, hrl, ho1, B1⟩
  obtain ⟨aa, ac, rfl, ra⟩ := row_rd ho1
  have hl1 : a.length ≤ 1048576 := by omega
  clear ho1 HD
  have hI := fun w h => implProgWhile_any z aa ac a w hl1 h
  have hS := fun w h => specProgWhile_any z aa ac a w hl1 h
  cases hp : setB a z with
  | false =>
    rw [hp] at hI hS
    have HC := Lib.hid (And.intro hI hS)
    clear hI hS hp
    go_wp2_with fail
    refine (HC.out.1 _ ra).mono ?_
    rintro e w2 ⟨v, rfl, ho, b2⟩
    obtain ⟨oa, oc, rfl, ro_2⟩ := row_rd (xs := ifR false (whileL z a)) ho
    clear ho
    have ra_2 := ra.below b2
    have B2 := B1.trans (b2.mono B1.size)
    clear b2 B1 ra
    go_wp2_with fail
    refine (HC.out.2 _ ra_2).mono ?_
    rintro e w3 ⟨v, rfl, ho, b3⟩
    obtain ⟨wa, wc, rfl, rw_3⟩ := row_rd (xs := ifR false (whileL z a)) ho
    clear ho
    have ra_3 := ra_2.below b3
    have ro_3 := ro_2.below b3
    have B3 := B2.trans (b3.mono B2.size)
    clear b3 B2 ra_2 ro_2
    go_wp2_with fail
    refine (sameInts_refl oa wa oc wc _ _ (by simp [ifR]) ro_3 rw_3).mono ?_
    rintro e w4 ⟨rfl, d4⟩
    have ra_4 := d4.rd ra_3
    have ro_4 := d4.rd ro_3
    have rw_4 := d4.rd rw_3
    have B4 := B3.trans (d4.below _)
    clear d4 B3 ra_3 ro_3 rw_3
    go_wp2_with fail
    refine (sameInts_refl oa wa oc wc _ _ (by simp [ifR]) ro_4 rw_4).mono ?_
    rintro e w5 ⟨rfl, d5⟩
    have ra_5 := d5.rd ra_4
    have ro_5 := d5.rd ro_4
    have rw_5 := d5.rd rw_4
    have B5 := B4.trans (d5.below _)
    clear d5 B4 ra_4 ro_4 rw_4
    go_wp2
    go_ret
    exact ⟨rfl, B5⟩
  | true =>
    obtain ⟨R, hz⟩ := set_st hp
    have h1 := R.one
    have h4 := R.four
    rw [hp, show ifR true (whileL z a) = whileL z a from rfl] at hI hS
    have Lo : (whileL z a).length ≤ 1048576 := rl_short8 (R.while hz)
    have W := R.while hz
    have hX := fun ao bo ca cb w h h2 => qComp R W ao bo ca cb w h h2
    have hU := fun w => qSame h1 h4 w
    have hY := fun ao bo ca cb w h h2 => pIf (R.comp W) (Rl.same h1 h4) hz (while_if R hz) ao bo ca cb w h h2
    obtain ⟨o, ho⟩ : ∃ o, whileL z a = o := ⟨_, rfl⟩
    rw [ho] at hI hS hX hY Lo
    obtain ⟨x, hx⟩ : ∃ x, compL a o = x := ⟨_, rfl⟩
    rw [hx] at hX hY
    obtain ⟨s, hs⟩ : ∃ s, sameL a.length = s := ⟨_, rfl⟩
    rw [hs] at hU hY
    have HC := Lib.hid (And.intro hI (And.intro hS (And.intro hX (And.intro hU hY))))
    clear hI hS hX hU hY hp R hz W ho hx hs
    go_wp2_with fail
    refine (HC.out.1 _ ra).mono ?_
    rintro e w2 ⟨v, rfl, ho, b2⟩
    obtain ⟨oa, oc, rfl, ro_2⟩ := row_rd ho
    clear ho
    have ra_2 := ra.below b2
    have B2 := B1.trans (b2.mono B1.size)
    clear b2 B1 ra
    go_wp2_with fail
    refine (HC.out.2.1 _ ra_2).mono ?_
    rintro e w3 ⟨v, rfl, ho, b3⟩
    obtain ⟨wa, wc, rfl, rw_3⟩ := row_rd ho
    clear ho
    have ra_3 := ra_2.below b3
    have ro_3 := ro_2.below b3
    have B3 := B2.trans (b3.mono B2.size)
    clear b3 B2 ra_2 ro_2
    go_wp2_with fail
    refine (sameInts_refl oa wa oc wc _ _ Lo ro_3 rw_3).mono ?_
    rintro e w4 ⟨rfl, d4⟩
    have ra_4 := d4.rd ra_3
    have ro_4 := d4.rd ro_3
    have rw_4 := d4.rd rw_3
    have B4 := B3.trans (d4.below _)
    clear d4 B3 ra_3 ro_3 rw_3
    go_wp2_with fail
    refine (HC.out.2.2.1 _ _ _ _ _ ra_4 ro_4).mono ?_
    rintro e w5 ⟨v, rfl, ho, b5⟩
    obtain ⟨xa, xc, rfl, rx_5⟩ := row_rd ho
    clear ho
    have ra_5 := ra_4.below b5
    have ro_5 := ro_4.below b5
    have rw_5 := rw_4.below b5
    have B5 := B4.trans (b5.mono B4.size)
    clear b5 B4 ra_4 ro_4 rw_4
    go_wp2_with fail
    refine (HC.out.2.2.2.1 _).mono ?_
    rintro e w6 ⟨v, rfl, ho, b6⟩
    obtain ⟨sa, sc, rfl, rs_6⟩ := row_rd ho
    clear ho
    have ra_6 := ra_5.below b6
    have ro_6 := ro_5.below b6
    have rw_6 := rw_5.below b6
    have rx_6 := rx_5.below b6
    have B6 := B5.trans (b6.mono B5.size)
    clear b6 B5 ra_5 ro_5 rw_5 rx_5
    go_wp2_with fail
    refine (HC.out.2.2.2.2 _ _ _ _ _ rx_6 rs_6).mono ?_
    rintro e w7 ⟨v, rfl, ho, b7⟩
    obtain ⟨ya, yc, rfl, ry_7⟩ := row_rd ho
    clear ho
    have ra_7 := ra_6.below b7
    have ro_7 := ro_6.below b7
    have rw_7 := rw_6.below b7
    have rx_7 := rx_6.below b7
    have rs_7 := rs_6.below b7
    have B7 := B6.trans (b7.mono B6.size)
    clear b7 B6 ra_6 ro_6 rw_6 rx_6 rs_6
    go_wp2_with fail
    refine (sameInts_refl ya oa yc oc _ _ Lo ry_7 ro_7).mono ?_
    rintro e w8 ⟨rfl, d8⟩
    have ra_8 := d8.rd ra_7
    have ro_8 := d8.rd ro_7
    have rw_8 := d8.rd rw_7
    have rx_8 := d8.rd rx_7
    have rs_8 := d8.rd rs_7
    have ry_8 := d8.rd ry_7
    have B8 := B7.trans (d8.below _)
    clear d8 B7 ra_7 ro_7 rw_7 rx_7 rs_7 ry_7
    go_wp2
    go_ret
    exact ⟨rfl, B8⟩
end Go.Proofs.Ytcdiicckngndcab
