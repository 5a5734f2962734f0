/-
  The walk of FnBelow, out of the contracts of the draw and of the functions that it calls; for whatever bytes.
-/
import Derived.Test.YtpbkgdohfnjjpaaKC
import Derived.Test.YtpbkgdohfnjjpaaKD
namespace Go.Proofs.Ytpbkgdohfnjjpaa
open Go.RowKit

theorem fnBelow_long (ao : Option Addr) (cap n : Nat) (w : World) (hm : n ≤ maxLen) (hl : ¬ n ≤ 1048576) :
    Calls Try.prog 3 #[.slice ao n cap] w fun e w' => e = .returned (.bool true) ∧ Below w.heap.size w w' := by
  unfold maxLen at hm
  go_enter Try.func3, Try.ntmps3
  go_wp2
  go_ret
  exact ⟨rfl, Below.refl _ _⟩

set_option maxHeartbeats 8000000 in
theorem fnBelow_walk (ao : Option Addr) (c : Nat) (bs : List Nat) (w : World) (hl : bs.length ≤ 1048576) (hb : RdB w ao bs) (hc : bs.length ≤ c) (hbA : bs ≠ [] → ∀ a, ao = some a → a.block < w.heap.size) :
    Calls Try.prog 3 #[.slice ao bs.length c] w fun e w' => e = .returned (.bool true) ∧ Below w.heap.size w w' := by
  have HD := Lib.hid (drawRelBelow_any ao c bs w hb hc hbA)
  clear hb hbA
  go_enter Try.func3, Try.ntmps3
  go_wp2_with fail
  refine HD.out.mono ?_
  rintro e w1 ⟨v, u, a, b, rfl, hrl, hsl, ho1, ho2, B1⟩
  obtain ⟨aa, ac, rfl, ra⟩ := row_rd ho1
  obtain ⟨ba, bc, rfl, rb⟩ := row_rd ho2
  have hl1 : a.length ≤ 1048576 := by omega
  have hl2 : b.length ≤ 1048576 := by omega
  clear ho1 ho2 HD
  cases hp : (twoIn a b && belowB a b) with
  | false =>
    have hI := (fun w h h2 => implRelBelow_any aa ba ac bc a b w hl1 hl2 h h2)
    have hS := (fun w h h2 => specRelBelow_any aa ba ac bc a b w hl1 hl2 h h2)
    rw [hp] at hI hS
    have HC := Lib.hid (And.intro hI hS)
    clear hI hS hp
    go_wp2_with fail
    refine (HC.out.1 _ ra rb).mono ?_
    rintro e w2 ⟨rfl, b2⟩
    have B2 := B1.trans (b2.mono B1.size)
    have ra2 := ra.below b2
    have rb2 := rb.below b2
    clear b2 B1 ra rb
    go_wp2_with fail
    refine (HC.out.2 _ ra2 rb2).mono ?_
    rintro e w3 ⟨rfl, b3⟩
    have B3 := B2.trans (b3.mono B2.size)
    clear b3 B2 ra2 rb2
    go_wp2
    go_ret
    exact ⟨rfl, B3⟩
  | true =>
    obtain ⟨R1, R2, hlo⟩ := lo_two hp
    have hI := (fun w h h2 => implRelBelow_any aa ba ac bc a b w hl1 hl2 h h2)
    have hS := (fun w h h2 => specRelBelow_any aa ba ac bc a b w hl1 hl2 h h2)
    rw [hp] at hI hS
    have K0 := fun ao bo ca cb w h h2 => cBoth R1 R2 ao bo ca cb w h h2
    have K1 := fun ao bo ca cb w h h2 => cEither R1 R2 ao bo ca cb w h h2
    have K2 := fun ao ca w h => cTurn R1 ao ca w h
    have K3 := fun ao ca w h => cTurn R2 ao ca w h
    have Q0 := lo_both R1 R2 hlo
    have Q1 := lo_either R1 R2 hlo
    have Q2 := fun ao bo ca cb w h h2 => cBelow R1.turn R2.turn (lo_turn R1 R2 hlo) ao bo ca cb w h h2
    have Lx : (bothL a b).length ≤ 1048576 := rl_short (R1.both R2)
    have Ly : (eitherL a b).length ≤ 1048576 := rl_short (R1.either R2)
    have Lc : (turnL a).length ≤ 1048576 := rl_short R1.turn
    have Ld : (turnL b).length ≤ 1048576 := rl_short R2.turn
    obtain ⟨lx, Ex⟩ : ∃ l, bothL a b = l := ⟨_, rfl⟩
    try rw [Ex] at hI
    try rw [Ex] at hS
    try rw [Ex] at K0
    try rw [Ex] at K1
    try rw [Ex] at K2
    try rw [Ex] at K3
    try rw [Ex] at Q0
    try rw [Ex] at Q1
    try rw [Ex] at Q2
    try rw [Ex] at Lx
    try rw [Ex] at Ly
    try rw [Ex] at Lc
    try rw [Ex] at Ld
    obtain ⟨ly, Ey⟩ : ∃ l, eitherL a b = l := ⟨_, rfl⟩
    try rw [Ey] at hI
    try rw [Ey] at hS
    try rw [Ey] at K0
    try rw [Ey] at K1
    try rw [Ey] at K2
    try rw [Ey] at K3
    try rw [Ey] at Q0
    try rw [Ey] at Q1
    try rw [Ey] at Q2
    try rw [Ey] at Lx
    try rw [Ey] at Ly
    try rw [Ey] at Lc
    try rw [Ey] at Ld
    obtain ⟨lc, Ec⟩ : ∃ l, turnL a = l := ⟨_, rfl⟩
    try rw [Ec] at hI
    try rw [Ec] at hS
    try rw [Ec] at K0
    try rw [Ec] at K1
    try rw [Ec] at K2
    try rw [Ec] at K3
    try rw [Ec] at Q0
    try rw [Ec] at Q1
    try rw [Ec] at Q2
    try rw [Ec] at Lx
    try rw [Ec] at Ly
    try rw [Ec] at Lc
    try rw [Ec] at Ld
    obtain ⟨ld, Ed⟩ : ∃ l, turnL b = l := ⟨_, rfl⟩
    try rw [Ed] at hI
    try rw [Ed] at hS
    try rw [Ed] at K0
    try rw [Ed] at K1
    try rw [Ed] at K2
    try rw [Ed] at K3
    try rw [Ed] at Q0
    try rw [Ed] at Q1
    try rw [Ed] at Q2
    try rw [Ed] at Lx
    try rw [Ed] at Ly
    try rw [Ed] at Lc
    try rw [Ed] at Ld
    have HhI := Lib.hid hI
    have HhS := Lib.hid hS
    have HK0 := Lib.hid K0
    have HK1 := Lib.hid K1
    have HK2 := Lib.hid K2
    have HK3 := Lib.hid K3
    have HQ0 := Lib.hid Q0
    have HQ1 := Lib.hid Q1
    have HQ2 := Lib.hid Q2
    clear hI hS K0 K1 K2 K3 Q0 Q1 Q2 hp R1 R2 hlo Ex Ey Ec Ed
    go_wp2_with fail
    refine (HhI.out _ ra rb).mono ?_
    rintro e w2 ⟨rfl, b2⟩
    have B2 := B1.trans (b2.mono B1.size)
    have ra_2 := ra.below b2
    have rb_2 := rb.below b2
    clear b2 B1 ra rb
    go_wp2_with fail
    refine (HhS.out _ ra_2 rb_2).mono ?_
    rintro e w3 ⟨rfl, b3⟩
    have B3 := B2.trans (b3.mono B2.size)
    have ra_3 := ra_2.below b3
    have rb_3 := rb_2.below b3
    clear b3 B2 ra_2 rb_2
    go_wp2_with fail
    refine (HK0.out aa ba ac bc _ ra_3 rb_3).mono ?_
    rintro e w4 ⟨v, rfl, ho, b4⟩
    obtain ⟨xa, xc, rfl, rx_4⟩ := row_rd ho
    have B4 := B3.trans (b4.mono B3.size)
    have ra_4 := ra_3.below b4
    have rb_4 := rb_3.below b4
    clear ho b4 B3 ra_3 rb_3
    go_wp2_with fail
    refine (HK1.out aa ba ac bc _ ra_4 rb_4).mono ?_
    rintro e w5 ⟨v, rfl, ho, b5⟩
    obtain ⟨ya, yc, rfl, ry_5⟩ := row_rd ho
    have B5 := B4.trans (b5.mono B4.size)
    have ra_5 := ra_4.below b5
    have rb_5 := rb_4.below b5
    have rx_5 := rx_4.below b5
    clear ho b5 B4 ra_4 rb_4 rx_4
    go_wp2_with fail
    refine (HK2.out aa ac _ ra_5).mono ?_
    rintro e w6 ⟨v, rfl, ho, b6⟩
    obtain ⟨ca, cc, rfl, rc_6⟩ := row_rd ho
    have B6 := B5.trans (b6.mono B5.size)
    have ra_6 := ra_5.below b6
    have rb_6 := rb_5.below b6
    have rx_6 := rx_5.below b6
    have ry_6 := ry_5.below b6
    clear ho b6 B5 ra_5 rb_5 rx_5 ry_5
    go_wp2_with fail
    refine (HK3.out ba bc _ rb_6).mono ?_
    rintro e w7 ⟨v, rfl, ho, b7⟩
    obtain ⟨da, dc, rfl, rd_7⟩ := row_rd ho
    have B7 := B6.trans (b7.mono B6.size)
    have ra_7 := ra_6.below b7
    have rb_7 := rb_6.below b7
    have rx_7 := rx_6.below b7
    have ry_7 := ry_6.below b7
    have rc_7 := rc_6.below b7
    clear ho b7 B6 ra_6 rb_6 rx_6 ry_6 rc_6
    go_wp2_with fail
    refine (sameInts_eq xa aa xc ac _ _ _ HQ0.out (by have := HQ0.out; have := Lx; first | assumption | omega) rx_7 ra_7).mono ?_
    rintro e w8 ⟨rfl, d8⟩
    have B8 := B7.trans (d8.below _)
    have ra_8 := d8.rd ra_7
    have rb_8 := d8.rd rb_7
    have rx_8 := d8.rd rx_7
    have ry_8 := d8.rd ry_7
    have rc_8 := d8.rd rc_7
    have rd_8 := d8.rd rd_7
    clear d8 B7 ra_7 rb_7 rx_7 ry_7 rc_7 rd_7
    go_wp2_with fail
    refine (sameInts_eq ya ba yc bc _ _ _ HQ1.out (by have := HQ1.out; have := Ly; first | assumption | omega) ry_8 rb_8).mono ?_
    rintro e w9 ⟨rfl, d9⟩
    have B9 := B8.trans (d9.below _)
    have ra_9 := d9.rd ra_8
    have rb_9 := d9.rd rb_8
    have rx_9 := d9.rd rx_8
    have ry_9 := d9.rd ry_8
    have rc_9 := d9.rd rc_8
    have rd_9 := d9.rd rd_8
    clear d9 B8 ra_8 rb_8 rx_8 ry_8 rc_8 rd_8
    go_wp2_with fail
    refine (HQ2.out ca da cc dc _ rc_9 rd_9).mono ?_
    rintro e w10 ⟨rfl, b10⟩
    have B10 := B9.trans (b10.mono B9.size)
    have ra_10 := ra_9.below b10
    have rb_10 := rb_9.below b10
    have rx_10 := rx_9.below b10
    have ry_10 := ry_9.below b10
    have rc_10 := rc_9.below b10
    have rd_10 := rd_9.below b10
    clear b10 B9 ra_9 rb_9 rx_9 ry_9 rc_9 rd_9
    go_wp2
    go_ret
    exact ⟨rfl, B10⟩
end Go.Proofs.Ytpbkgdohfnjjpaa
