/-
  The walk of FnBoth, out of the contracts of the draw and of the functions that it calls; for whatever bytes.
-/
import Derived.Test.YtlghenibadkipaaGC
namespace Go.Proofs.Ytlghenibadkipaa
open Go.RowKit

theorem fnBoth_long (ao : Option Addr) (cap n : Nat) (w : World) (hm : n ≤ maxLen) (hl : ¬ n ≤ 1048576) :
    Calls Try.prog 3 #[.slice ao n cap] w fun e w' => e = .returned (.bool true) ∧ Below w.heap.size w w' := by
  unfold maxLen at hm
  go_enter Try.func3, Try.ntmps3
  go_wp2
  go_ret
  exact ⟨rfl, Below.refl _ _⟩

set_option maxHeartbeats 8000000 in
theorem fnBoth_walk (ao : Option Addr) (c : Nat) (bs : List Nat) (w : World) (hl : bs.length ≤ 1048576) (hb : RdB w ao bs) (hc : bs.length ≤ c) (hbA : bs ≠ [] → ∀ a, ao = some a → a.block < w.heap.size) :
    Calls Try.prog 3 #[.slice ao bs.length c] w fun e w' => e = .returned (.bool true) ∧ Below w.heap.size w w' := by
  have HD := Lib.hid (drawRelBoth_any ao c bs w hb hc hbA)
  clear hb hbA
  go_enter Try.func3, Try.ntmps3
  go_wp2_with fail
  refine HD.out.mono ?_
  rintro e w1 ⟨v, u, a, b, rfl, hrl, hsl, ho1, ho2, B1⟩
  obtain ⟨aa, ac, rfl, ra⟩ := row_rd ho1
  obtain ⟨ba, bc, rfl, rb⟩ := row_rd ho2
  have hl1 : a.length ≤ 1048576 := by omega
  have hl2 : b.length ≤ 1048576 := by omega
  clear ho1 ho2 HD
  cases hp : twoIn a b with
  | false =>
    have hI := (fun w h h2 => implRelBoth_any aa ba ac bc a b w hl1 hl2 h h2)
    have hS := (fun w h h2 => specRelBoth_any aa ba ac bc a b w hl1 hl2 h h2)
    rw [hp] at hI hS
    have HC := Lib.hid (And.intro hI hS)
    clear hI hS hp
    go_wp2_with fail
    refine (HC.out.1 _ ra rb).mono ?_
    rintro e w2 ⟨v, rfl, ho, b2⟩
    obtain ⟨oa, oc, rfl, ro⟩ := row_rd (xs := ifR false (bothL a b)) ho
    have B2 := B1.trans (b2.mono B1.size)
    have ra2 := ra.below b2
    have rb2 := rb.below b2
    clear ho b2 B1 ra rb
    go_wp2_with fail
    refine (HC.out.2 _ ra2 rb2).mono ?_
    rintro e w3 ⟨v, rfl, ho, b3⟩
    obtain ⟨wa, wc, rfl, rw3⟩ := row_rd (xs := ifR false (bothL a b)) ho
    have B3 := B2.trans (b3.mono B2.size)
    have ro3 := ro.below b3
    clear ho b3 B2 ro ra2 rb2
    go_wp2_with fail
    refine (sameInts_refl _ _ _ _ _ _ (by simp [ifR]) ro3 rw3).mono ?_
    rintro e w4 ⟨rfl, d4⟩
    go_wp2_with fail
    refine (sameInts_refl _ _ _ _ _ _ (by simp [ifR]) (d4.rd ro3) (d4.rd rw3)).mono ?_
    rintro e w5 ⟨rfl, d5⟩
    go_wp2
    go_ret
    exact ⟨rfl, B3.trans ((d4.trans d5).below _)⟩
  | true =>
    obtain ⟨R1, R2⟩ := two_rl hp
    have hI := (fun w h h2 => implRelBoth_any aa ba ac bc a b w hl1 hl2 h h2)
    have hS := (fun w h h2 => specRelBoth_any aa ba ac bc a b w hl1 hl2 h h2)
    rw [hp] at hI hS
    rw [show ifR true (bothL a b) = bothL a b from rfl] at hI hS
    have K0 := fun ao ca w h => cOther R1 ao ca w h
    have K1 := fun ao ca w h => cOther R2 ao ca w h
    have K2 := fun ao bo ca cb w h h2 => cEither R1.other R2.other ao bo ca cb w h h2
    have K3 := fun ao ca w h => cOther (R1.both R2) ao ca w h
    have Q0 : (eitherL (otherL a) (otherL b)) = (otherL (bothL a b)) := both_others R1 R2
    have Q1 := fun ao bo ca cb w h h2 => cBelow (R1.both R2) R1 (both_below1 R1 R2) ao bo ca cb w h h2
    have Q2 := fun ao bo ca cb w h h2 => cBelow (R1.both R2) R2 (both_below2 R1 R2) ao bo ca cb w h h2
    have Lo : (bothL a b).length ≤ 1048576 := by have := ((R1.both R2)).len; have := R1.four; omega
    have Lx : (otherL a).length ≤ 1048576 := by have := (R1.other).len; have := R1.four; omega
    have Ly : (otherL b).length ≤ 1048576 := by have := (R2.other).len; have := R1.four; omega
    have Lz : (eitherL (otherL a) (otherL b)).length ≤ 1048576 := by have := ((R1.other.either R2.other)).len; have := R1.four; omega
    have Lu : (otherL (bothL a b)).length ≤ 1048576 := by have := ((R1.both R2).other).len; have := R1.four; omega
    obtain ⟨lo, Eo⟩ : ∃ l, bothL a b = l := ⟨_, rfl⟩
    try rw [Eo] at hI
    try rw [Eo] at hS
    try rw [Eo] at K0
    try rw [Eo] at K1
    try rw [Eo] at K2
    try rw [Eo] at K3
    try rw [Eo] at Q0
    try rw [Eo] at Q1
    try rw [Eo] at Q2
    try rw [Eo] at Lo
    try rw [Eo] at Lx
    try rw [Eo] at Ly
    try rw [Eo] at Lz
    try rw [Eo] at Lu
    obtain ⟨lx, Ex⟩ : ∃ l, otherL a = l := ⟨_, rfl⟩
    try rw [Ex] at hI
    try rw [Ex] at hS
    try rw [Ex] at K0
    try rw [Ex] at K1
    try rw [Ex] at K2
    try rw [Ex] at K3
    try rw [Ex] at Q0
    try rw [Ex] at Q1
    try rw [Ex] at Q2
    try rw [Ex] at Lo
    try rw [Ex] at Lx
    try rw [Ex] at Ly
    try rw [Ex] at Lz
    try rw [Ex] at Lu
    obtain ⟨ly, Ey⟩ : ∃ l, otherL b = l := ⟨_, rfl⟩
    try rw [Ey] at hI
    try rw [Ey] at hS
    try rw [Ey] at K0
    try rw [Ey] at K1
    try rw [Ey] at K2
    try rw [Ey] at K3
    try rw [Ey] at Q0
    try rw [Ey] at Q1
    try rw [Ey] at Q2
    try rw [Ey] at Lo
    try rw [Ey] at Lx
    try rw [Ey] at Ly
    try rw [Ey] at Lz
    try rw [Ey] at Lu
    obtain ⟨lz, Ez⟩ : ∃ l, eitherL lx ly = l := ⟨_, rfl⟩
    try rw [Ez] at hI
    try rw [Ez] at hS
    try rw [Ez] at K0
    try rw [Ez] at K1
    try rw [Ez] at K2
    try rw [Ez] at K3
    try rw [Ez] at Q0
    try rw [Ez] at Q1
    try rw [Ez] at Q2
    try rw [Ez] at Lo
    try rw [Ez] at Lx
    try rw [Ez] at Ly
    try rw [Ez] at Lz
    try rw [Ez] at Lu
    obtain ⟨lu, Eu⟩ : ∃ l, otherL lo = l := ⟨_, rfl⟩
    try rw [Eu] at hI
    try rw [Eu] at hS
    try rw [Eu] at K0
    try rw [Eu] at K1
    try rw [Eu] at K2
    try rw [Eu] at K3
    try rw [Eu] at Q0
    try rw [Eu] at Q1
    try rw [Eu] at Q2
    try rw [Eu] at Lo
    try rw [Eu] at Lx
    try rw [Eu] at Ly
    try rw [Eu] at Lz
    try rw [Eu] at Lu
    have HhI := Lib.hid hI
    have HhS := Lib.hid hS
    have HK0 := Lib.hid K0
    have HK1 := Lib.hid K1
    have HK2 := Lib.hid K2
    have HK3 := Lib.hid K3
    have HQ0 := Lib.hid Q0
    have HQ1 := Lib.hid Q1
    have HQ2 := Lib.hid Q2
    clear hI hS K0 K1 K2 K3 Q0 Q1 Q2 hp R1 R2 Eo Ex Ey Ez Eu
    go_wp2_with fail
    refine (HhI.out _ ra rb).mono ?_
    rintro e w2 ⟨v, rfl, ho, b2⟩
    obtain ⟨oa, oc, rfl, ro_2⟩ := row_rd ho
    have B2 := B1.trans (b2.mono B1.size)
    have ra_2 := ra.below b2
    have rb_2 := rb.below b2
    clear ho b2 B1 ra rb
    go_wp2_with fail
    refine (HhS.out _ ra_2 rb_2).mono ?_
    rintro e w3 ⟨v, rfl, ho, b3⟩
    obtain ⟨wa, wc, rfl, rw_3⟩ := row_rd ho
    have B3 := B2.trans (b3.mono B2.size)
    have ra_3 := ra_2.below b3
    have rb_3 := rb_2.below b3
    have ro_3 := ro_2.below b3
    clear ho b3 B2 ra_2 rb_2 ro_2
    go_wp2_with fail
    refine (sameInts_refl oa wa oc wc _ _ Lo ro_3 rw_3).mono ?_
    rintro e w4 ⟨rfl, d4⟩
    have B4 := B3.trans (d4.below _)
    have ra_4 := d4.rd ra_3
    have rb_4 := d4.rd rb_3
    have ro_4 := d4.rd ro_3
    have rw_4 := d4.rd rw_3
    clear d4 B3 ra_3 rb_3 ro_3 rw_3
    go_wp2_with fail
    refine (HK0.out aa ac _ ra_4).mono ?_
    rintro e w5 ⟨v, rfl, ho, b5⟩
    obtain ⟨xa, xc, rfl, rx_5⟩ := row_rd ho
    have B5 := B4.trans (b5.mono B4.size)
    have ra_5 := ra_4.below b5
    have rb_5 := rb_4.below b5
    have ro_5 := ro_4.below b5
    have rw_5 := rw_4.below b5
    clear ho b5 B4 ra_4 rb_4 ro_4 rw_4
    go_wp2_with fail
    refine (HK1.out ba bc _ rb_5).mono ?_
    rintro e w6 ⟨v, rfl, ho, b6⟩
    obtain ⟨ya, yc, rfl, ry_6⟩ := row_rd ho
    have B6 := B5.trans (b6.mono B5.size)
    have ra_6 := ra_5.below b6
    have rb_6 := rb_5.below b6
    have ro_6 := ro_5.below b6
    have rw_6 := rw_5.below b6
    have rx_6 := rx_5.below b6
    clear ho b6 B5 ra_5 rb_5 ro_5 rw_5 rx_5
    go_wp2_with fail
    refine (HK2.out xa ya xc yc _ rx_6 ry_6).mono ?_
    rintro e w7 ⟨v, rfl, ho, b7⟩
    obtain ⟨za, zc, rfl, rz_7⟩ := row_rd ho
    have B7 := B6.trans (b7.mono B6.size)
    have ra_7 := ra_6.below b7
    have rb_7 := rb_6.below b7
    have ro_7 := ro_6.below b7
    have rw_7 := rw_6.below b7
    have rx_7 := rx_6.below b7
    have ry_7 := ry_6.below b7
    clear ho b7 B6 ra_6 rb_6 ro_6 rw_6 rx_6 ry_6
    go_wp2_with fail
    refine (HK3.out oa oc _ ro_7).mono ?_
    rintro e w8 ⟨v, rfl, ho, b8⟩
    obtain ⟨ua, uc, rfl, ru_8⟩ := row_rd ho
    have B8 := B7.trans (b8.mono B7.size)
    have ra_8 := ra_7.below b8
    have rb_8 := rb_7.below b8
    have ro_8 := ro_7.below b8
    have rw_8 := rw_7.below b8
    have rx_8 := rx_7.below b8
    have ry_8 := ry_7.below b8
    have rz_8 := rz_7.below b8
    clear ho b8 B7 ra_7 rb_7 ro_7 rw_7 rx_7 ry_7 rz_7
    go_wp2_with fail
    refine (sameInts_eq za ua zc uc _ _ _ HQ0.out (by have := HQ0.out; have := Lz; first | assumption | omega) rz_8 ru_8).mono ?_
    rintro e w9 ⟨rfl, d9⟩
    have B9 := B8.trans (d9.below _)
    have ra_9 := d9.rd ra_8
    have rb_9 := d9.rd rb_8
    have ro_9 := d9.rd ro_8
    have rw_9 := d9.rd rw_8
    have rx_9 := d9.rd rx_8
    have ry_9 := d9.rd ry_8
    have rz_9 := d9.rd rz_8
    have ru_9 := d9.rd ru_8
    clear d9 B8 ra_8 rb_8 ro_8 rw_8 rx_8 ry_8 rz_8 ru_8
    go_wp2_with fail
    refine (HQ1.out oa aa oc ac _ ro_9 ra_9).mono ?_
    rintro e w10 ⟨rfl, b10⟩
    have B10 := B9.trans (b10.mono B9.size)
    have ra_10 := ra_9.below b10
    have rb_10 := rb_9.below b10
    have ro_10 := ro_9.below b10
    have rw_10 := rw_9.below b10
    have rx_10 := rx_9.below b10
    have ry_10 := ry_9.below b10
    have rz_10 := rz_9.below b10
    have ru_10 := ru_9.below b10
    clear b10 B9 ra_9 rb_9 ro_9 rw_9 rx_9 ry_9 rz_9 ru_9
    go_wp2_with fail
    refine (HQ2.out oa ba oc bc _ ro_10 rb_10).mono ?_
    rintro e w11 ⟨rfl, b11⟩
    have B11 := B10.trans (b11.mono B10.size)
    have ra_11 := ra_10.below b11
    have rb_11 := rb_10.below b11
    have ro_11 := ro_10.below b11
    have rw_11 := rw_10.below b11
    have rx_11 := rx_10.below b11
    have ry_11 := ry_10.below b11
    have rz_11 := rz_10.below b11
    have ru_11 := ru_10.below b11
    clear b11 B10 ra_10 rb_10 ro_10 rw_10 rx_10 ry_10 rz_10 ru_10
    go_wp2
    go_ret
    exact ⟨rfl, B11⟩
end Go.Proofs.Ytlghenibadkipaa
