/-
  The walk of FnJoin, out of the contracts of the draw and of the functions that it calls; for whatever bytes.
-/
import Derived.Test.YtghkeaepjckcdaaKA
import Derived.Test.YtghkeaepjckcdaaKB
namespace Go.Proofs.Ytghkeaepjckcdaa
open Go.RowKit

theorem fnJoin_long (ao : Option Addr) (cap n : Nat) (w : World) (hm : n ≤ maxLen) (hl : ¬ n ≤ 1048576) :
    Calls Try.prog 5 #[.slice ao n cap] w fun e w' => e = .returned (.bool true) ∧ Below w.heap.size w w' := by
  unfold maxLen at hm
  go_enter Try.func5, Try.ntmps5
  go_wp2
  go_ret
  exact ⟨rfl, Below.refl _ _⟩

set_option maxHeartbeats 8000000 in
theorem fnJoin_walk (ao : Option Addr) (c : Nat) (bs : List Nat) (w : World) (hl : bs.length ≤ 1048576) (hb : RdB w ao bs) (hc : bs.length ≤ c) (hbA : bs ≠ [] → ∀ a, ao = some a → a.block < w.heap.size) :
    Calls Try.prog 5 #[.slice ao bs.length c] w fun e w' => e = .returned (.bool true) ∧ Below w.heap.size w w' := by
  have HD := Lib.hid (drawEquJoin_any ao c bs w hb hc hbA)
  clear hb hbA
  go_enter Try.func5, Try.ntmps5
  go_wp2_with fail
  refine HD.out.mono ?_
  rintro e w1 ⟨v, u, a, b, rfl, hrl, hsl, ho1, ho2, B1⟩
  obtain ⟨aa, ac, rfl, ra⟩ := row_rd ho1
  obtain ⟨ba, bc, rfl, rb⟩ := row_rd ho2
  have hl1 : a.length ≤ 1048576 := by omega
  have hl2 : b.length ≤ 1048576 := by omega
  clear ho1 ho2 HD
  cases hp : twoEq a b with
  | false =>
    have hI := (fun w h h2 => implEquJoin_any aa ba ac bc a b w hl1 hl2 h h2)
    have hS := (fun w h h2 => specEquJoin_any aa ba ac bc a b w hl1 hl2 h h2)
    rw [hp] at hI hS
    have HC := Lib.hid (And.intro hI hS)
    clear hI hS hp
    go_wp2_with fail
    refine (HC.out.1 _ ra rb).mono ?_
    rintro e w2 ⟨v, rfl, ho, b2⟩
    obtain ⟨oa, oc, rfl, ro⟩ := row_rd (xs := ifR false (reachL (compL a b))) ho
    have B2 := B1.trans (b2.mono B1.size)
    have ra2 := ra.below b2
    have rb2 := rb.below b2
    clear ho b2 B1 ra rb
    go_wp2_with fail
    refine (HC.out.2 _ ra2 rb2).mono ?_
    rintro e w3 ⟨v, rfl, ho, b3⟩
    obtain ⟨wa, wc, rfl, rw3⟩ := row_rd (xs := ifR false (reachL (compL a b))) ho
    have B3 := B2.trans (b3.mono B2.size)
    have ro3 := ro.below b3
    clear ho b3 B2 ro ra2 rb2
    go_wp2_with fail
    refine (sameInts_refl _ _ _ _ _ _ (by simp [ifR]) ro3 rw3).mono ?_
    rintro e w4 ⟨rfl, d4⟩
    go_wp2_with fail
    refine (sameInts_refl _ _ _ _ _ _ (by simp [ifR]) (d4.rd ro3) (d4.rd rw3)).mono ?_
    rintro e w5 ⟨rfl, d5⟩
    go_wp2
    go_ret
    exact ⟨rfl, B3.trans ((d4.trans d5).below _)⟩
  | true =>
    obtain ⟨E1, E2⟩ := two_eqv hp
    have J := E1.join E2
    have hI := (fun w h h2 => implEquJoin_any aa ba ac bc a b w hl1 hl2 h h2)
    have hS := (fun w h h2 => specEquJoin_any aa ba ac bc a b w hl1 hl2 h h2)
    rw [hp] at hI hS
    rw [show ifR true (reachL (compL a b)) = joinR a b from rfl] at hI hS
    have K0 := fun ao bo ca cb w h h2 => kMeet J E1 ao bo ca cb w h h2
    have K1 := fun ao bo ca cb w h h2 => kEither E1.rl E2.rl ao bo ca cb w h h2
    have K2 := fun ao ca w h => kLeastJ E1 E2 ao ca w h
    have Q0 := fun ao ca w h => kEquIn J ao ca w h
    have Q1 := fun ao bo ca cb w h h2 => cBelow E1.rl J.rl ((below_iff E1.rl J.rl).2 (join_has1 E1 E2)) ao bo ca cb w h h2
    have Q2 := fun ao bo ca cb w h h2 => cBelow E2.rl J.rl ((below_iff E2.rl J.rl).2 (join_has2 E1 E2)) ao bo ca cb w h h2
    have Q3 := join_meet E1 E2
    have Lo : (joinR a b).length ≤ 1048576 := rl_short J.rl
    have Lx : (bothL (joinR a b) a).length ≤ 1048576 := rl_short (J.both E1).rl
    have Ly : (eitherL a b).length ≤ 1048576 := rl_short (E1.rl.either E2.rl)
    have Lz : ((joinR a b)).length ≤ 1048576 := rl_short J.rl
    obtain ⟨lo, Eo⟩ : ∃ l, joinR a b = l := ⟨_, rfl⟩
    try rw [Eo] at hI
    try rw [Eo] at hS
    try rw [Eo] at K0
    try rw [Eo] at K1
    try rw [Eo] at K2
    try rw [Eo] at Q0
    try rw [Eo] at Q1
    try rw [Eo] at Q2
    try rw [Eo] at Q3
    try rw [Eo] at Lo
    try rw [Eo] at Lx
    try rw [Eo] at Ly
    try rw [Eo] at Lz
    obtain ⟨lx, Ex⟩ : ∃ l, bothL lo a = l := ⟨_, rfl⟩
    try rw [Ex] at hI
    try rw [Ex] at hS
    try rw [Ex] at K0
    try rw [Ex] at K1
    try rw [Ex] at K2
    try rw [Ex] at Q0
    try rw [Ex] at Q1
    try rw [Ex] at Q2
    try rw [Ex] at Q3
    try rw [Ex] at Lo
    try rw [Ex] at Lx
    try rw [Ex] at Ly
    try rw [Ex] at Lz
    obtain ⟨ly, Ey⟩ : ∃ l, eitherL a b = l := ⟨_, rfl⟩
    try rw [Ey] at hI
    try rw [Ey] at hS
    try rw [Ey] at K0
    try rw [Ey] at K1
    try rw [Ey] at K2
    try rw [Ey] at Q0
    try rw [Ey] at Q1
    try rw [Ey] at Q2
    try rw [Ey] at Q3
    try rw [Ey] at Lo
    try rw [Ey] at Lx
    try rw [Ey] at Ly
    try rw [Ey] at Lz
    obtain ⟨lz, Ez⟩ : ∃ l, lo = l := ⟨_, rfl⟩
    try rw [Ez] at hI
    try rw [Ez] at hS
    try rw [Ez] at K0
    try rw [Ez] at K1
    try rw [Ez] at K2
    try rw [Ez] at Q0
    try rw [Ez] at Q1
    try rw [Ez] at Q2
    try rw [Ez] at Q3
    try rw [Ez] at Lo
    try rw [Ez] at Lx
    try rw [Ez] at Ly
    try rw [Ez] at Lz
    have HhI := Lib.hid hI
    have HhS := Lib.hid hS
    have HK0 := Lib.hid K0
    have HK1 := Lib.hid K1
    have HK2 := Lib.hid K2
    have HQ0 := Lib.hid Q0
    have HQ1 := Lib.hid Q1
    have HQ2 := Lib.hid Q2
    have HQ3 := Lib.hid Q3
    clear hI hS K0 K1 K2 Q0 Q1 Q2 Q3 hp E1 E2 J Eo Ex Ey Ez
    go_wp2_with fail
    refine (HhI.out _ ra rb).mono ?_
    rintro e w2 ⟨v, rfl, ho, b2⟩
    obtain ⟨oa, oc, rfl, ro_2⟩ := row_rd ho
    have B2 := B1.trans (b2.mono B1.size)
    have ra_2 := ra.below b2
    have rb_2 := rb.below b2
    clear ho b2 B1 ra rb
    go_wp2_with fail
    refine (HhS.out _ ra_2 rb_2).mono ?_
    rintro e w3 ⟨v, rfl, ho, b3⟩
    obtain ⟨wa, wc, rfl, rw_3⟩ := row_rd ho
    have B3 := B2.trans (b3.mono B2.size)
    have ra_3 := ra_2.below b3
    have rb_3 := rb_2.below b3
    have ro_3 := ro_2.below b3
    clear ho b3 B2 ra_2 rb_2 ro_2
    go_wp2_with fail
    refine (sameInts_refl oa wa oc wc _ _ Lo ro_3 rw_3).mono ?_
    rintro e w4 ⟨rfl, d4⟩
    have B4 := B3.trans (d4.below _)
    have ra_4 := d4.rd ra_3
    have rb_4 := d4.rd rb_3
    have ro_4 := d4.rd ro_3
    have rw_4 := d4.rd rw_3
    clear d4 B3 ra_3 rb_3 ro_3 rw_3
    go_wp2_with fail
    refine (HK0.out oa aa oc ac _ ro_4 ra_4).mono ?_
    rintro e w5 ⟨v, rfl, ho, b5⟩
    obtain ⟨xa, xc, rfl, rx_5⟩ := row_rd ho
    have B5 := B4.trans (b5.mono B4.size)
    have ra_5 := ra_4.below b5
    have rb_5 := rb_4.below b5
    have ro_5 := ro_4.below b5
    have rw_5 := rw_4.below b5
    clear ho b5 B4 ra_4 rb_4 ro_4 rw_4
    go_wp2_with fail
    refine (HK1.out aa ba ac bc _ ra_5 rb_5).mono ?_
    rintro e w6 ⟨v, rfl, ho, b6⟩
    obtain ⟨ya, yc, rfl, ry_6⟩ := row_rd ho
    have B6 := B5.trans (b6.mono B5.size)
    have ra_6 := ra_5.below b6
    have rb_6 := rb_5.below b6
    have ro_6 := ro_5.below b6
    have rw_6 := rw_5.below b6
    have rx_6 := rx_5.below b6
    clear ho b6 B5 ra_5 rb_5 ro_5 rw_5 rx_5
    go_wp2_with fail
    refine (HK2.out ya yc _ ry_6).mono ?_
    rintro e w7 ⟨v, rfl, ho, b7⟩
    obtain ⟨za, zc, rfl, rz_7⟩ := row_rd ho
    have B7 := B6.trans (b7.mono B6.size)
    have ra_7 := ra_6.below b7
    have rb_7 := rb_6.below b7
    have ro_7 := ro_6.below b7
    have rw_7 := rw_6.below b7
    have rx_7 := rx_6.below b7
    have ry_7 := ry_6.below b7
    clear ho b7 B6 ra_6 rb_6 ro_6 rw_6 rx_6 ry_6
    go_wp2_with fail
    refine (HQ0.out oa oc _ ro_7).mono ?_
    rintro e w8 ⟨rfl, b8⟩
    have B8 := B7.trans (b8.mono B7.size)
    have ra_8 := ra_7.below b8
    have rb_8 := rb_7.below b8
    have ro_8 := ro_7.below b8
    have rw_8 := rw_7.below b8
    have rx_8 := rx_7.below b8
    have ry_8 := ry_7.below b8
    have rz_8 := rz_7.below b8
    clear b8 B7 ra_7 rb_7 ro_7 rw_7 rx_7 ry_7 rz_7
    go_wp2_with fail
    refine (HQ1.out aa oa ac oc _ ra_8 ro_8).mono ?_
    rintro e w9 ⟨rfl, b9⟩
    have B9 := B8.trans (b9.mono B8.size)
    have ra_9 := ra_8.below b9
    have rb_9 := rb_8.below b9
    have ro_9 := ro_8.below b9
    have rw_9 := rw_8.below b9
    have rx_9 := rx_8.below b9
    have ry_9 := ry_8.below b9
    have rz_9 := rz_8.below b9
    clear b9 B8 ra_8 rb_8 ro_8 rw_8 rx_8 ry_8 rz_8
    go_wp2_with fail
    refine (HQ2.out ba oa bc oc _ rb_9 ro_9).mono ?_
    rintro e w10 ⟨rfl, b10⟩
    have B10 := B9.trans (b10.mono B9.size)
    have ra_10 := ra_9.below b10
    have rb_10 := rb_9.below b10
    have ro_10 := ro_9.below b10
    have rw_10 := rw_9.below b10
    have rx_10 := rx_9.below b10
    have ry_10 := ry_9.below b10
    have rz_10 := rz_9.below b10
    clear b10 B9 ra_9 rb_9 ro_9 rw_9 rx_9 ry_9 rz_9
    go_wp2_with fail
    refine (sameInts_eq xa aa xc ac _ _ _ HQ3.out (by have := HQ3.out; have := Lx; first | assumption | omega) rx_10 ra_10).mono ?_
    rintro e w11 ⟨rfl, d11⟩
    have B11 := B10.trans (d11.below _)
    have ra_11 := d11.rd ra_10
    have rb_11 := d11.rd rb_10
    have ro_11 := d11.rd ro_10
    have rw_11 := d11.rd rw_10
    have rx_11 := d11.rd rx_10
    have ry_11 := d11.rd ry_10
    have rz_11 := d11.rd rz_10
    clear d11 B10 ra_10 rb_10 ro_10 rw_10 rx_10 ry_10 rz_10
    go_wp2_with fail
    refine (sameInts_refl za oa zc oc _ _ Lz rz_11 ro_11).mono ?_
    rintro e w12 ⟨rfl, d12⟩
    have B12 := B11.trans (d12.below _)
    have ra_12 := d12.rd ra_11
    have rb_12 := d12.rd rb_11
    have ro_12 := d12.rd ro_11
    have rw_12 := d12.rd rw_11
    have rx_12 := d12.rd rx_11
    have ry_12 := d12.rd ry_11
    have rz_12 := d12.rd rz_11
    clear d12 B11 ra_11 rb_11 ro_11 rw_11 rx_11 ry_11 rz_11
    go_wp2
    go_ret
    exact ⟨rfl, B12⟩
end Go.Proofs.Ytghkeaepjckcdaa
