/-
  The walk of FnReach, out of the contracts of the draw and of the functions that it calls; for whatever bytes.
-/
import Derived.Test.YtdgbejgdpoiniaaGB
namespace Go.Proofs.Ytdgbejgdpoiniaa
open Go.RowKit

theorem fnReach_long (ao : Option Addr) (cap n : Nat) (w : World) (hm : n ≤ maxLen) (hl : ¬ n ≤ 1048576) :
    Calls Try.prog 3 #[.slice ao n cap] w fun e w' => e = .returned (.bool true) ∧ Below w.heap.size w w' := by
  unfold maxLen at hm
  go_enter Try.func3, Try.ntmps3
  go_wp2
  go_ret
  exact ⟨rfl, Below.refl _ _⟩

set_option maxHeartbeats 8000000 in
theorem fnReach_walk (ao : Option Addr) (c : Nat) (bs : List Nat) (w : World) (hl : bs.length ≤ 1048576) (hb : RdB w ao bs) (hc : bs.length ≤ c) (hbA : bs ≠ [] → ∀ a, ao = some a → a.block < w.heap.size) :
    Calls Try.prog 3 #[.slice ao bs.length c] w fun e w' => e = .returned (.bool true) ∧ Below w.heap.size w w' := by
  have HD := Lib.hid (drawCompReach_any ao c bs w hb hc hbA)
  clear hb hbA
  go_enter Try.func3, Try.ntmps3
  go_wp2_with fail
  refine HD.out.mono ?_
  rintro e w1 ⟨v, a, rfl, hrl, ho1, B1⟩
  obtain ⟨aa, ac, rfl, ra⟩ := row_rd ho1
  have hl1 : a.length ≤ 1048576 := by omega
  clear ho1 HD
  cases hp : relIn a with
  | false =>
    have hI := (fun w h => implCompReach_any aa ac a w hl1 h)
    have hS := (fun w h => specCompReach_any aa ac a w hl1 h)
    rw [hp] at hI hS
    have HC := Lib.hid (And.intro hI hS)
    clear hI hS hp
    go_wp2_with fail
    refine (HC.out.1 _ ra).mono ?_
    rintro e w2 ⟨v, rfl, ho, b2⟩
    obtain ⟨oa, oc, rfl, ro⟩ := row_rd (xs := ifR false (reachL a)) ho
    have B2 := B1.trans (b2.mono B1.size)
    have ra2 := ra.below b2
    clear ho b2 B1 ra
    go_wp2_with fail
    refine (HC.out.2 _ ra2).mono ?_
    rintro e w3 ⟨v, rfl, ho, b3⟩
    obtain ⟨wa, wc, rfl, rw3⟩ := row_rd (xs := ifR false (reachL a)) ho
    have B3 := B2.trans (b3.mono B2.size)
    have ro3 := ro.below b3
    clear ho b3 B2 ro ra2
    go_wp2_with fail
    refine (sameInts_refl _ _ _ _ _ _ (by simp [ifR]) ro3 rw3).mono ?_
    rintro e w4 ⟨rfl, d4⟩
    go_wp2_with fail
    refine (sameInts_refl _ _ _ _ _ _ (by simp [ifR]) (d4.rd ro3) (d4.rd rw3)).mono ?_
    rintro e w5 ⟨rfl, d5⟩
    go_wp2
    go_ret
    exact ⟨rfl, B3.trans ((d4.trans d5).below _)⟩
  | true =>
    have R1 := Rl.of hp
    have hI := (fun w h => implCompReach_any aa ac a w hl1 h)
    have hS := (fun w h => specCompReach_any aa ac a w hl1 h)
    rw [hp] at hI hS
    rw [show ifR true (reachL a) = reachL a from rfl] at hI hS
    have K0 := fun ao ca w h => cReach (show Rl (reachL a).length (reachL a) from by rw [R1.reach.len]; exact R1.reach) ao ca w h
    have K1 := fun ao bo ca cb w h h2 => cComp R1.reach R1.reach ao bo ca cb w h h2
    have Q0 : (reachL (reachL a)) = (reachL a) := reach_reach R1
    have Q1 := fun ao bo ca cb w h h2 => cBelow R1 R1.reach (reach_has R1) ao bo ca cb w h h2
    have Q2 := fun ao bo ca cb w h h2 => cBelow (R1.reach.comp R1.reach) R1.reach (reach_trans R1) ao bo ca cb w h h2
    have Lo : (reachL a).length ≤ 1048576 := by have := (R1.reach).len; have := R1.four; omega
    have Lx : (reachL (reachL a)).length ≤ 1048576 := by have := ((show Rl a.length (reachL (reachL a)) from by rw [reach_reach R1]; exact R1.reach)).len; have := R1.four; omega
    have Ly : (compL (reachL a) (reachL a)).length ≤ 1048576 := by have := ((R1.reach.comp R1.reach)).len; have := R1.four; omega
    obtain ⟨lo, Eo⟩ : ∃ l, reachL a = l := ⟨_, rfl⟩
    try rw [Eo] at hI
    try rw [Eo] at hS
    try rw [Eo] at K0
    try rw [Eo] at K1
    try rw [Eo] at Q0
    try rw [Eo] at Q1
    try rw [Eo] at Q2
    try rw [Eo] at Lo
    try rw [Eo] at Lx
    try rw [Eo] at Ly
    obtain ⟨ly, Ey⟩ : ∃ l, compL lo lo = l := ⟨_, rfl⟩
    try rw [Ey] at hI
    try rw [Ey] at hS
    try rw [Ey] at K0
    try rw [Ey] at K1
    try rw [Ey] at Q0
    try rw [Ey] at Q1
    try rw [Ey] at Q2
    try rw [Ey] at Lo
    try rw [Ey] at Lx
    try rw [Ey] at Ly
    have HhI := Lib.hid hI
    have HhS := Lib.hid hS
    have HK0 := Lib.hid K0
    have HK1 := Lib.hid K1
    have HQ0 := Lib.hid Q0
    have HQ1 := Lib.hid Q1
    have HQ2 := Lib.hid Q2
    clear hI hS K0 K1 Q0 Q1 Q2 hp R1 Eo Ey
    go_wp2_with fail
    refine (HhI.out _ ra).mono ?_
    rintro e w2 ⟨v, rfl, ho, b2⟩
    obtain ⟨oa, oc, rfl, ro_2⟩ := row_rd ho
    have B2 := B1.trans (b2.mono B1.size)
    have ra_2 := ra.below b2
    clear ho b2 B1 ra
    go_wp2_with fail
    refine (HhS.out _ ra_2).mono ?_
    rintro e w3 ⟨v, rfl, ho, b3⟩
    obtain ⟨wa, wc, rfl, rw_3⟩ := row_rd ho
    have B3 := B2.trans (b3.mono B2.size)
    have ra_3 := ra_2.below b3
    have ro_3 := ro_2.below b3
    clear ho b3 B2 ra_2 ro_2
    go_wp2_with fail
    refine (sameInts_refl oa wa oc wc _ _ Lo ro_3 rw_3).mono ?_
    rintro e w4 ⟨rfl, d4⟩
    have B4 := B3.trans (d4.below _)
    have ra_4 := d4.rd ra_3
    have ro_4 := d4.rd ro_3
    have rw_4 := d4.rd rw_3
    clear d4 B3 ra_3 ro_3 rw_3
    go_wp2_with fail
    refine (HK0.out oa oc _ ro_4).mono ?_
    rintro e w5 ⟨v, rfl, ho, b5⟩
    obtain ⟨xa, xc, rfl, rx_5⟩ := row_rd ho
    have B5 := B4.trans (b5.mono B4.size)
    have ra_5 := ra_4.below b5
    have ro_5 := ro_4.below b5
    have rw_5 := rw_4.below b5
    clear ho b5 B4 ra_4 ro_4 rw_4
    go_wp2_with fail
    refine (HK1.out oa oa oc oc _ ro_5 ro_5).mono ?_
    rintro e w6 ⟨v, rfl, ho, b6⟩
    obtain ⟨ya, yc, rfl, ry_6⟩ := row_rd ho
    have B6 := B5.trans (b6.mono B5.size)
    have ra_6 := ra_5.below b6
    have ro_6 := ro_5.below b6
    have rw_6 := rw_5.below b6
    have rx_6 := rx_5.below b6
    clear ho b6 B5 ra_5 ro_5 rw_5 rx_5
    go_wp2_with fail
    refine (sameInts_eq xa oa xc oc _ _ _ HQ0.out (by have := HQ0.out; have := Lx; first | assumption | omega) rx_6 ro_6).mono ?_
    rintro e w7 ⟨rfl, d7⟩
    have B7 := B6.trans (d7.below _)
    have ra_7 := d7.rd ra_6
    have ro_7 := d7.rd ro_6
    have rw_7 := d7.rd rw_6
    have rx_7 := d7.rd rx_6
    have ry_7 := d7.rd ry_6
    clear d7 B6 ra_6 ro_6 rw_6 rx_6 ry_6
    go_wp2_with fail
    refine (HQ1.out aa oa ac oc _ ra_7 ro_7).mono ?_
    rintro e w8 ⟨rfl, b8⟩
    have B8 := B7.trans (b8.mono B7.size)
    have ra_8 := ra_7.below b8
    have ro_8 := ro_7.below b8
    have rw_8 := rw_7.below b8
    have rx_8 := rx_7.below b8
    have ry_8 := ry_7.below b8
    clear b8 B7 ra_7 ro_7 rw_7 rx_7 ry_7
    go_wp2_with fail
    refine (HQ2.out ya oa yc oc _ ry_8 ro_8).mono ?_
    rintro e w9 ⟨rfl, b9⟩
    have B9 := B8.trans (b9.mono B8.size)
    have ra_9 := ra_8.below b9
    have ro_9 := ro_8.below b9
    have rw_9 := rw_8.below b9
    have rx_9 := rx_8.below b9
    have ry_9 := ry_8.below b9
    clear b9 B8 ra_8 ro_8 rw_8 rx_8 ry_8
    go_wp2
    go_ret
    exact ⟨rfl, B9⟩
end Go.Proofs.Ytdgbejgdpoiniaa
