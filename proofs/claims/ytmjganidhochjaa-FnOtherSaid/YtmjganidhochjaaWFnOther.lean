/-
  The walk of FnOther, out of the contracts of the draw and of the functions that it calls; for whatever bytes.
-/
import Derived.Test.YtmjganidhochjaaGE
namespace Go.Proofs.Ytmjganidhochjaa
open Go.RowKit

theorem fnOther_long (ao : Option Addr) (cap n : Nat) (w : World) (hm : n ≤ maxLen) (hl : ¬ n ≤ 1048576) :
    Calls Try.prog 3 #[.slice ao n cap] w fun e w' => e = .returned (.bool true) ∧ Below w.heap.size w w' := by
  unfold maxLen at hm
  go_enter Try.func3, Try.ntmps3
  go_wp2
  go_ret
  exact ⟨rfl, Below.refl _ _⟩

set_option maxHeartbeats 8000000 in
theorem fnOther_walk (ao : Option Addr) (c : Nat) (bs : List Nat) (w : World) (hl : bs.length ≤ 1048576) (hb : RdB w ao bs) (hc : bs.length ≤ c) (hbA : bs ≠ [] → ∀ a, ao = some a → a.block < w.heap.size) :
    Calls Try.prog 3 #[.slice ao bs.length c] w fun e w' => e = .returned (.bool true) ∧ Below w.heap.size w w' := by
  have HD := Lib.hid (drawRelOther_any ao c bs w hb hc hbA)
  clear hb hbA
  go_enter Try.func3, Try.ntmps3
  go_wp2_with fail
  refine HD.out.mono ?_
  rintro e w1 ⟨v, a, rfl, hrl, ho1, B1⟩
  obtain ⟨aa, ac, rfl, ra⟩ := row_rd ho1
  have hl1 : a.length ≤ 1048576 := by omega
  clear ho1 HD
  cases hp : relIn a with
  | false =>
    have hI := (fun w h => implRelOther_any aa ac a w hl1 h)
    have hS := (fun w h => specRelOther_any aa ac a w hl1 h)
    rw [hp] at hI hS
    have HC := Lib.hid (And.intro hI hS)
    clear hI hS hp
    go_wp2_with fail
    refine (HC.out.1 _ ra).mono ?_
    rintro e w2 ⟨v, rfl, ho, b2⟩
    obtain ⟨oa, oc, rfl, ro⟩ := row_rd (xs := ifR false (otherL a)) ho
    have B2 := B1.trans (b2.mono B1.size)
    have ra2 := ra.below b2
    clear ho b2 B1 ra
    go_wp2_with fail
    refine (HC.out.2 _ ra2).mono ?_
    rintro e w3 ⟨v, rfl, ho, b3⟩
    obtain ⟨wa, wc, rfl, rw3⟩ := row_rd (xs := ifR false (otherL a)) ho
    have B3 := B2.trans (b3.mono B2.size)
    have ro3 := ro.below b3
    clear ho b3 B2 ro ra2
    go_wp2_with fail
    refine (sameInts_refl _ _ _ _ _ _ (by simp [ifR]) ro3 rw3).mono ?_
    rintro e w4 ⟨rfl, d4⟩
    go_wp2_with fail
    refine (sameInts_refl _ _ _ _ _ _ (by simp [ifR]) (d4.rd ro3) (d4.rd rw3)).mono ?_
    rintro e w5 ⟨rfl, d5⟩
    go_wp2
    go_ret
    exact ⟨rfl, B3.trans ((d4.trans d5).below _)⟩
  | true =>
    have R1 := Rl.of hp
    obtain ⟨s1, e1⟩ : ∃ s, sizeL a = s := ⟨_, rfl⟩
    obtain ⟨s2, e2⟩ : ∃ s, sizeL (otherL a) = s := ⟨_, rfl⟩
    have HNUM := Lib.hid (num_other R1 e1 e2)
    have hI := (fun w h => implRelOther_any aa ac a w hl1 h)
    have hS := (fun w h => specRelOther_any aa ac a w hl1 h)
    rw [hp] at hI hS
    rw [show ifR true (otherL a) = otherL a from rfl] at hI hS
    have K0 := fun ao ca w h => cOther R1.other ao ca w h
    have K1 := fun ao ca w h => cSize R1 s1 e1 ao ca w h
    have K2 := fun ao ca w h => cSize R1.other s2 e2 ao ca w h
    have Q0 : (otherL (otherL a)) = a := other_other R1
    have Lo : (otherL a).length ≤ 1048576 := by have := (R1.other).len; have := R1.four; omega
    have Lx : (otherL (otherL a)).length ≤ 1048576 := by have := (R1.other.other).len; have := R1.four; omega
    obtain ⟨lo, Eo⟩ : ∃ l, otherL a = l := ⟨_, rfl⟩
    try rw [Eo] at hI
    try rw [Eo] at hS
    try rw [Eo] at K0
    try rw [Eo] at K1
    try rw [Eo] at K2
    try rw [Eo] at Q0
    try rw [Eo] at Lo
    try rw [Eo] at Lx
    obtain ⟨lx, Ex⟩ : ∃ l, otherL lo = l := ⟨_, rfl⟩
    try rw [Ex] at hI
    try rw [Ex] at hS
    try rw [Ex] at K0
    try rw [Ex] at K1
    try rw [Ex] at K2
    try rw [Ex] at Q0
    try rw [Ex] at Lo
    try rw [Ex] at Lx
    have HhI := Lib.hid hI
    have HhS := Lib.hid hS
    have HK0 := Lib.hid K0
    have HK1 := Lib.hid K1
    have HK2 := Lib.hid K2
    have HQ0 := Lib.hid Q0
    clear hI hS K0 K1 K2 Q0 hp R1 Eo Ex e1 e2
    go_wp2_with fail
    refine (HhI.out _ ra).mono ?_
    rintro e w2 ⟨v, rfl, ho, b2⟩
    obtain ⟨oa, oc, rfl, ro_2⟩ := row_rd ho
    have B2 := B1.trans (b2.mono B1.size)
    have ra_2 := ra.below b2
    clear ho b2 B1 ra
    go_wp2_with fail
    refine (HhS.out _ ra_2).mono ?_
    rintro e w3 ⟨v, rfl, ho, b3⟩
    obtain ⟨wa, wc, rfl, rw_3⟩ := row_rd ho
    have B3 := B2.trans (b3.mono B2.size)
    have ra_3 := ra_2.below b3
    have ro_3 := ro_2.below b3
    clear ho b3 B2 ra_2 ro_2
    go_wp2_with fail
    refine (sameInts_refl oa wa oc wc _ _ Lo ro_3 rw_3).mono ?_
    rintro e w4 ⟨rfl, d4⟩
    have B4 := B3.trans (d4.below _)
    have ra_4 := d4.rd ra_3
    have ro_4 := d4.rd ro_3
    have rw_4 := d4.rd rw_3
    clear d4 B3 ra_3 ro_3 rw_3
    go_wp2_with fail
    refine (HK0.out oa oc _ ro_4).mono ?_
    rintro e w5 ⟨v, rfl, ho, b5⟩
    obtain ⟨xa, xc, rfl, rx_5⟩ := row_rd ho
    have B5 := B4.trans (b5.mono B4.size)
    have ra_5 := ra_4.below b5
    have ro_5 := ro_4.below b5
    have rw_5 := rw_4.below b5
    clear ho b5 B4 ra_4 ro_4 rw_4
    go_wp2_with fail
    refine (HK1.out aa ac _ ra_5).mono ?_
    rintro e w6 ⟨rfl, b6⟩
    have B6 := B5.trans (b6.mono B5.size)
    have ra_6 := ra_5.below b6
    have ro_6 := ro_5.below b6
    have rw_6 := rw_5.below b6
    have rx_6 := rx_5.below b6
    clear b6 B5 ra_5 ro_5 rw_5 rx_5
    go_wp2_with fail
    refine (HK2.out oa oc _ ro_6).mono ?_
    rintro e w7 ⟨rfl, b7⟩
    have B7 := B6.trans (b7.mono B6.size)
    have ra_7 := ra_6.below b7
    have ro_7 := ro_6.below b7
    have rw_7 := rw_6.below b7
    have rx_7 := rx_6.below b7
    clear b7 B6 ra_6 ro_6 rw_6 rx_6
    go_wp2_with fail
    refine (sameInts_eq xa aa xc ac _ _ _ HQ0.out (by have := HQ0.out; have := Lx; first | assumption | omega) rx_7 ra_7).mono ?_
    rintro e w8 ⟨rfl, d8⟩
    have B8 := B7.trans (d8.below _)
    have ra_8 := d8.rd ra_7
    have ro_8 := d8.rd ro_7
    have rw_8 := d8.rd rw_7
    have rx_8 := d8.rd rx_7
    clear d8 B7 ra_7 ro_7 rw_7 rx_7
    obtain ⟨hn0, hn1, hn2, hn3, hn4, hn5, hn6, hn7⟩ := HNUM.out
    go_wp2
    go_ret
    exact ⟨rfl, B8⟩
end Go.Proofs.Ytmjganidhochjaa
