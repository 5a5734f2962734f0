/-
  The walk of FnSolve, out of the contracts of the draw and of the functions that it calls; for whatever bytes.
-/
import Derived.Test.YtlghenibadkipaaGD
namespace Go.Proofs.Ytlghenibadkipaa
open Go.RowKit

theorem fnSolve_long (ao : Option Addr) (cap n : Nat) (w : World) (hm : n ≤ maxLen) (hl : ¬ n ≤ 1048576) :
    Calls Try.prog 5 #[.slice ao n cap] w fun e w' => e = .returned (.bool true) ∧ Below w.heap.size w w' := by
  unfold maxLen at hm
  go_enter Try.func5, Try.ntmps5
  go_wp2
  go_ret
  exact ⟨rfl, Below.refl _ _⟩

set_option maxHeartbeats 8000000 in
theorem fnSolve_walk (ao : Option Addr) (c : Nat) (bs : List Nat) (w : World) (hl : bs.length ≤ 1048576) (hb : RdB w ao bs) (hc : bs.length ≤ c) (hbA : bs ≠ [] → ∀ a, ao = some a → a.block < w.heap.size) :
    Calls Try.prog 5 #[.slice ao bs.length c] w fun e w' => e = .returned (.bool true) ∧ Below w.heap.size w w' := by
  have HD := Lib.hid (drawCompSolve_any ao c bs w hb hc hbA)
  clear hb hbA
  go_enter Try.func5, Try.ntmps5
  go_wp2_with fail
  refine HD.out.mono ?_
  rintro e w1 ⟨v, u, a, b, rfl, hrl, hsl, ho1, ho2, B1⟩
  obtain ⟨aa, ac, rfl, ra⟩ := row_rd ho1
  obtain ⟨ba, bc, rfl, rb⟩ := row_rd ho2
  have hl1 : a.length ≤ 1048576 := by omega
  have hl2 : b.length ≤ 1048576 := by omega
  clear ho1 ho2 HD
  cases hp : (twoIn a b && solveB a b) with
  | false =>
    have hI := (fun w h h2 => implCompSolve_any aa ba ac bc a b w hl1 hl2 h h2)
    have hS := (fun w h h2 => specCompSolve_any aa ba ac bc a b w hl1 hl2 h h2)
    rw [hp] at hI hS
    have HC := Lib.hid (And.intro hI hS)
    clear hI hS hp
    go_wp2_with fail
    refine (HC.out.1 _ ra rb).mono ?_
    rintro e w2 ⟨v, rfl, ho, b2⟩
    obtain ⟨oa, oc, rfl, ro⟩ := row_rd (xs := ifR false (leftL a b)) ho
    have B2 := B1.trans (b2.mono B1.size)
    have ra2 := ra.below b2
    have rb2 := rb.below b2
    clear ho b2 B1 ra rb
    go_wp2_with fail
    refine (HC.out.2 _ ra2 rb2).mono ?_
    rintro e w3 ⟨v, rfl, ho, b3⟩
    obtain ⟨wa, wc, rfl, rw3⟩ := row_rd (xs := ifR false (leftL a b)) ho
    have B3 := B2.trans (b3.mono B2.size)
    have ro3 := ro.below b3
    clear ho b3 B2 ro ra2 rb2
    go_wp2_with fail
    refine (sameInts_refl _ _ _ _ _ _ (by simp [ifR]) ro3 rw3).mono ?_
    rintro e w4 ⟨rfl, d4⟩
    go_wp2_with fail
    refine (sameInts_refl _ _ _ _ _ _ (by simp [ifR]) (d4.rd ro3) (d4.rd rw3)).mono ?_
    rintro e w5 ⟨rfl, d5⟩
    go_wp2
    go_ret
    exact ⟨rfl, B3.trans ((d4.trans d5).below _)⟩
  | true =>
    obtain ⟨hp1, hp2⟩ := Bool.and_eq_true_iff.1 hp
    have hsol : compL a (leftL a b) = b := of_decide_eq_true hp2
    obtain ⟨R1, R2⟩ := two_rl hp1
    clear hp1 hp2
    have hI := (fun w h h2 => implCompSolve_any aa ba ac bc a b w hl1 hl2 h h2)
    have hS := (fun w h h2 => specCompSolve_any aa ba ac bc a b w hl1 hl2 h h2)
    rw [hp] at hI hS
    rw [show ifR true (leftL a b) = leftL a b from rfl] at hI hS
    have K0 := fun ao bo ca cb w h h2 => cComp R1 (R1.left R2) ao bo ca cb w h h2
    have K1 := fun ao bo ca cb w h h2 => cLeft R1 R2 ao bo ca cb w h h2
    have Q0 : (compL a (leftL a b)) = b := hsol
    have Lo : (leftL a b).length ≤ 1048576 := by have := ((R1.left R2)).len; have := R1.four; omega
    have Lx : (compL a (leftL a b)).length ≤ 1048576 := by have := ((R1.comp (R1.left R2))).len; have := R1.four; omega
    have Ly : (leftL a b).length ≤ 1048576 := by have := ((R1.left R2)).len; have := R1.four; omega
    obtain ⟨lo, Eo⟩ : ∃ l, leftL a b = l := ⟨_, rfl⟩
    try rw [Eo] at hI
    try rw [Eo] at hS
    try rw [Eo] at K0
    try rw [Eo] at K1
    try rw [Eo] at Q0
    try rw [Eo] at Lo
    try rw [Eo] at Lx
    try rw [Eo] at Ly
    obtain ⟨lx, Ex⟩ : ∃ l, compL a lo = l := ⟨_, rfl⟩
    try rw [Ex] at hI
    try rw [Ex] at hS
    try rw [Ex] at K0
    try rw [Ex] at K1
    try rw [Ex] at Q0
    try rw [Ex] at Lo
    try rw [Ex] at Lx
    try rw [Ex] at Ly
    obtain ⟨ly, Ey⟩ : ∃ l, leftL a b = l := ⟨_, rfl⟩
    try rw [Ey] at hI
    try rw [Ey] at hS
    try rw [Ey] at K0
    try rw [Ey] at K1
    try rw [Ey] at Q0
    try rw [Ey] at Lo
    try rw [Ey] at Lx
    try rw [Ey] at Ly
    have HhI := Lib.hid hI
    have HhS := Lib.hid hS
    have HK0 := Lib.hid K0
    have HK1 := Lib.hid K1
    have HQ0 := Lib.hid Q0
    clear hI hS K0 K1 Q0 hp R1 R2 Eo Ex Ey hsol
    go_wp2_with fail
    refine (HhI.out _ ra rb).mono ?_
    rintro e w2 ⟨v, rfl, ho, b2⟩
    obtain ⟨oa, oc, rfl, ro_2⟩ := row_rd ho
    have B2 := B1.trans (b2.mono B1.size)
    have ra_2 := ra.below b2
    have rb_2 := rb.below b2
    clear ho b2 B1 ra rb
    go_wp2_with fail
    refine (HhS.out _ ra_2 rb_2).mono ?_
    rintro e w3 ⟨v, rfl, ho, b3⟩
    obtain ⟨wa, wc, rfl, rw_3⟩ := row_rd ho
    have B3 := B2.trans (b3.mono B2.size)
    have ra_3 := ra_2.below b3
    have rb_3 := rb_2.below b3
    have ro_3 := ro_2.below b3
    clear ho b3 B2 ra_2 rb_2 ro_2
    go_wp2_with fail
    refine (sameInts_refl oa wa oc wc _ _ Lo ro_3 rw_3).mono ?_
    rintro e w4 ⟨rfl, d4⟩
    have B4 := B3.trans (d4.below _)
    have ra_4 := d4.rd ra_3
    have rb_4 := d4.rd rb_3
    have ro_4 := d4.rd ro_3
    have rw_4 := d4.rd rw_3
    clear d4 B3 ra_3 rb_3 ro_3 rw_3
    go_wp2_with fail
    refine (HK0.out aa oa ac oc _ ra_4 ro_4).mono ?_
    rintro e w5 ⟨v, rfl, ho, b5⟩
    obtain ⟨xa, xc, rfl, rx_5⟩ := row_rd ho
    have B5 := B4.trans (b5.mono B4.size)
    have ra_5 := ra_4.below b5
    have rb_5 := rb_4.below b5
    have ro_5 := ro_4.below b5
    have rw_5 := rw_4.below b5
    clear ho b5 B4 ra_4 rb_4 ro_4 rw_4
    go_wp2_with fail
    refine (HK1.out aa ba ac bc _ ra_5 rb_5).mono ?_
    rintro e w6 ⟨v, rfl, ho, b6⟩
    obtain ⟨ya, yc, rfl, ry_6⟩ := row_rd ho
    have B6 := B5.trans (b6.mono B5.size)
    have ra_6 := ra_5.below b6
    have rb_6 := rb_5.below b6
    have ro_6 := ro_5.below b6
    have rw_6 := rw_5.below b6
    have rx_6 := rx_5.below b6
    clear ho b6 B5 ra_5 rb_5 ro_5 rw_5 rx_5
    go_wp2_with fail
    refine (sameInts_eq xa ba xc bc _ _ _ HQ0.out (by have := HQ0.out; have := Lx; first | assumption | omega) rx_6 rb_6).mono ?_
    rintro e w7 ⟨rfl, d7⟩
    have B7 := B6.trans (d7.below _)
    have ra_7 := d7.rd ra_6
    have rb_7 := d7.rd rb_6
    have ro_7 := d7.rd ro_6
    have rw_7 := d7.rd rw_6
    have rx_7 := d7.rd rx_6
    have ry_7 := d7.rd ry_6
    clear d7 B6 ra_6 rb_6 ro_6 rw_6 rx_6 ry_6
    go_wp2_with fail
    refine (sameInts_refl ya oa yc oc _ _ Lo ry_7 ro_7).mono ?_
    rintro e w8 ⟨rfl, d8⟩
    have B8 := B7.trans (d8.below _)
    have ra_8 := d8.rd ra_7
    have rb_8 := d8.rd rb_7
    have ro_8 := d8.rd ro_7
    have rw_8 := d8.rd rw_7
    have rx_8 := d8.rd rx_7
    have ry_8 := d8.rd ry_7
    clear d8 B7 ra_7 rb_7 ro_7 rw_7 rx_7 ry_7
    go_wp2
    go_ret
    exact ⟨rfl, B8⟩
end Go.Proofs.Ytlghenibadkipaa
