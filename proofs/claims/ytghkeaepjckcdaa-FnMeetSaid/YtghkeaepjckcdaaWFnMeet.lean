/-
  The walk of FnMeet, out of the contracts of the draw and of the functions that it calls; for whatever bytes.
-/
import Derived.Test.YtghkeaepjckcdaaKA
import Derived.Test.YtghkeaepjckcdaaKB
namespace Go.Proofs.Ytghkeaepjckcdaa
open Go.RowKit

theorem fnMeet_long (ao : Option Addr) (cap n : Nat) (w : World) (hm : n ≤ maxLen) (hl : ¬ n ≤ 1048576) :
    Calls Try.prog 4 #[.slice ao n cap] w fun e w' => e = .returned (.bool true) ∧ Below w.heap.size w w' := by
  unfold maxLen at hm
  go_enter Try.func4, Try.ntmps4
  go_wp2
  go_ret
  exact ⟨rfl, Below.refl _ _⟩

set_option maxHeartbeats 8000000 in
theorem fnMeet_walk (ao : Option Addr) (c : Nat) (bs : List Nat) (w : World) (hl : bs.length ≤ 1048576) (hb : RdB w ao bs) (hc : bs.length ≤ c) (hbA : bs ≠ [] → ∀ a, ao = some a → a.block < w.heap.size) :
    Calls Try.prog 4 #[.slice ao bs.length c] w fun e w' => e = .returned (.bool true) ∧ Below w.heap.size w w' := by
  have HD := Lib.hid (drawEquMeet_any ao c bs w hb hc hbA)
  clear hb hbA
  go_enter Try.func4, Try.ntmps4
  go_wp2_with fail
  refine HD.out.mono ?_
  rintro e w1 ⟨v, u, a, b, rfl, hrl, hsl, ho1, ho2, B1⟩
  obtain ⟨aa, ac, rfl, ra⟩ := row_rd ho1
  obtain ⟨ba, bc, rfl, rb⟩ := row_rd ho2
  have hl1 : a.length ≤ 1048576 := by omega
  have hl2 : b.length ≤ 1048576 := by omega
  clear ho1 ho2 HD
  cases hp : twoEq a b with
  | false =>
    have hI := (fun w h h2 => implEquMeet_any aa ba ac bc a b w hl1 hl2 h h2)
    have hS := (fun w h h2 => specEquMeet_any aa ba ac bc a b w hl1 hl2 h h2)
    rw [hp] at hI hS
    have HC := Lib.hid (And.intro hI hS)
    clear hI hS hp
    go_wp2_with fail
    refine (HC.out.1 _ ra rb).mono ?_
    rintro e w2 ⟨v, rfl, ho, b2⟩
    obtain ⟨oa, oc, rfl, ro⟩ := row_rd (xs := ifR false (bothL a b)) ho
    have B2 := B1.trans (b2.mono B1.size)
    have ra2 := ra.below b2
    have rb2 := rb.below b2
    clear ho b2 B1 ra rb
    go_wp2_with fail
    refine (HC.out.2 _ ra2 rb2).mono ?_
    rintro e w3 ⟨v, rfl, ho, b3⟩
    obtain ⟨wa, wc, rfl, rw3⟩ := row_rd (xs := ifR false (bothL a b)) ho
    have B3 := B2.trans (b3.mono B2.size)
    have ro3 := ro.below b3
    clear ho b3 B2 ro ra2 rb2
    go_wp2_with fail
    refine (sameInts_refl _ _ _ _ _ _ (by simp [ifR]) ro3 rw3).mono ?_
    rintro e w4 ⟨rfl, d4⟩
    go_wp2_with fail
    refine (sameInts_refl _ _ _ _ _ _ (by simp [ifR]) (d4.rd ro3) (d4.rd rw3)).mono ?_
    rintro e w5 ⟨rfl, d5⟩
    go_wp2
    go_ret
    exact ⟨rfl, B3.trans ((d4.trans d5).below _)⟩
  | true =>
    obtain ⟨E1, E2⟩ := two_eqv hp
    have M := E1.both E2
    have hI := (fun w h h2 => implEquMeet_any aa ba ac bc a b w hl1 hl2 h h2)
    have hS := (fun w h h2 => specEquMeet_any aa ba ac bc a b w hl1 hl2 h h2)
    rw [hp] at hI hS
    rw [show ifR true (bothL a b) = bothL a b from rfl] at hI hS
    have K0 := fun ao bo ca cb w h h2 => kJoin M E1 ao bo ca cb w h h2
    have Q0 := fun ao ca w h => kEquIn M ao ca w h
    have Q1 := fun ao bo ca cb w h h2 => cBelow M.rl E1.rl ((below_iff M.rl E1.rl).2 (meet_sub1 E1 E2)) ao bo ca cb w h h2
    have Q2 := fun ao bo ca cb w h h2 => cBelow M.rl E2.rl ((below_iff M.rl E2.rl).2 (meet_sub2 E1 E2)) ao bo ca cb w h h2
    have Q3 := meet_join E1 E2
    have Lo : (bothL a b).length ≤ 1048576 := rl_short M.rl
    have Lx : (joinR (bothL a b) a).length ≤ 1048576 := rl_short (M.join E1).rl
    obtain ⟨lo, Eo⟩ : ∃ l, bothL a b = l := ⟨_, rfl⟩
    try rw [Eo] at hI
    try rw [Eo] at hS
    try rw [Eo] at K0
    try rw [Eo] at Q0
    try rw [Eo] at Q1
    try rw [Eo] at Q2
    try rw [Eo] at Q3
    try rw [Eo] at Lo
    try rw [Eo] at Lx
    obtain ⟨lx, Ex⟩ : ∃ l, joinR lo a = l := ⟨_, rfl⟩
    try rw [Ex] at hI
    try rw [Ex] at hS
    try rw [Ex] at K0
    try rw [Ex] at Q0
    try rw [Ex] at Q1
    try rw [Ex] at Q2
    try rw [Ex] at Q3
    try rw [Ex] at Lo
    try rw [Ex] at Lx
    have HhI := Lib.hid hI
    have HhS := Lib.hid hS
    have HK0 := Lib.hid K0
    have HQ0 := Lib.hid Q0
    have HQ1 := Lib.hid Q1
    have HQ2 := Lib.hid Q2
    have HQ3 := Lib.hid Q3
    clear hI hS K0 Q0 Q1 Q2 Q3 hp E1 E2 M Eo Ex
    go_wp2_with fail
    refine (HhI.out _ ra rb).mono ?_
    rintro e w2 ⟨v, rfl, ho, b2⟩
    obtain ⟨oa, oc, rfl, ro_2⟩ := row_rd ho
    have B2 := B1.trans (b2.mono B1.size)
    have ra_2 := ra.below b2
    have rb_2 := rb.below b2
    clear ho b2 B1 ra rb
    go_wp2_with fail
    refine (HhS.out _ ra_2 rb_2).mono ?_
    rintro e w3 ⟨v, rfl, ho, b3⟩
    obtain ⟨wa, wc, rfl, rw_3⟩ := row_rd ho
    have B3 := B2.trans (b3.mono B2.size)
    have ra_3 := ra_2.below b3
    have rb_3 := rb_2.below b3
    have ro_3 := ro_2.below b3
    clear ho b3 B2 ra_2 rb_2 ro_2
    go_wp2_with fail
    refine (sameInts_refl oa wa oc wc _ _ Lo ro_3 rw_3).mono ?_
    rintro e w4 ⟨rfl, d4⟩
    have B4 := B3.trans (d4.below _)
    have ra_4 := d4.rd ra_3
    have rb_4 := d4.rd rb_3
    have ro_4 := d4.rd ro_3
    have rw_4 := d4.rd rw_3
    clear d4 B3 ra_3 rb_3 ro_3 rw_3
    go_wp2_with fail
    refine (HK0.out oa aa oc ac _ ro_4 ra_4).mono ?_
    rintro e w5 ⟨v, rfl, ho, b5⟩
    obtain ⟨xa, xc, rfl, rx_5⟩ := row_rd ho
    have B5 := B4.trans (b5.mono B4.size)
    have ra_5 := ra_4.below b5
    have rb_5 := rb_4.below b5
    have ro_5 := ro_4.below b5
    have rw_5 := rw_4.below b5
    clear ho b5 B4 ra_4 rb_4 ro_4 rw_4
    go_wp2_with fail
    refine (HQ0.out oa oc _ ro_5).mono ?_
    rintro e w6 ⟨rfl, b6⟩
    have B6 := B5.trans (b6.mono B5.size)
    have ra_6 := ra_5.below b6
    have rb_6 := rb_5.below b6
    have ro_6 := ro_5.below b6
    have rw_6 := rw_5.below b6
    have rx_6 := rx_5.below b6
    clear b6 B5 ra_5 rb_5 ro_5 rw_5 rx_5
    go_wp2_with fail
    refine (HQ1.out oa aa oc ac _ ro_6 ra_6).mono ?_
    rintro e w7 ⟨rfl, b7⟩
    have B7 := B6.trans (b7.mono B6.size)
    have ra_7 := ra_6.below b7
    have rb_7 := rb_6.below b7
    have ro_7 := ro_6.below b7
    have rw_7 := rw_6.below b7
    have rx_7 := rx_6.below b7
    clear b7 B6 ra_6 rb_6 ro_6 rw_6 rx_6
    go_wp2_with fail
    refine (HQ2.out oa ba oc bc _ ro_7 rb_7).mono ?_
    rintro e w8 ⟨rfl, b8⟩
    have B8 := B7.trans (b8.mono B7.size)
    have ra_8 := ra_7.below b8
    have rb_8 := rb_7.below b8
    have ro_8 := ro_7.below b8
    have rw_8 := rw_7.below b8
    have rx_8 := rx_7.below b8
    clear b8 B7 ra_7 rb_7 ro_7 rw_7 rx_7
    go_wp2_with fail
    refine (sameInts_eq xa aa xc ac _ _ _ HQ3.out (by have := HQ3.out; have := Lx; first | assumption | omega) rx_8 ra_8).mono ?_
    rintro e w9 ⟨rfl, d9⟩
    have B9 := B8.trans (d9.below _)
    have ra_9 := d9.rd ra_8
    have rb_9 := d9.rd rb_8
    have ro_9 := d9.rd ro_8
    have rw_9 := d9.rd rw_8
    have rx_9 := d9.rd rx_8
    clear d9 B8 ra_8 rb_8 ro_8 rw_8 rx_8
    go_wp2
    go_ret
    exact ⟨rfl, B9⟩
end Go.Proofs.Ytghkeaepjckcdaa
