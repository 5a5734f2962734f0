/-
  The walk of FnEither, out of the contracts of the draw and of the functions that it calls; for whatever bytes.
-/
import Derived.Test.YtmjganidhochjaaGE
namespace Go.Proofs.Ytmjganidhochjaa
open Go.RowKit

theorem fnEither_long (ao : Option Addr) (cap n : Nat) (w : World) (hm : n ≤ maxLen) (hl : ¬ n ≤ 1048576) :
    Calls Try.prog 4 #[.slice ao n cap] w fun e w' => e = .returned (.bool true) ∧ Below w.heap.size w w' := by
  unfold maxLen at hm
  go_enter Try.func4, Try.ntmps4
  go_wp2
  go_ret
  exact ⟨rfl, Below.refl _ _⟩

set_option maxHeartbeats 8000000 in
theorem fnEither_walk (ao : Option Addr) (c : Nat) (bs : List Nat) (w : World) (hl : bs.length ≤ 1048576) (hb : RdB w ao bs) (hc : bs.length ≤ c) (hbA : bs ≠ [] → ∀ a, ao = some a → a.block < w.heap.size) :
    Calls Try.prog 4 #[.slice ao bs.length c] w fun e w' => e = .returned (.bool true) ∧ Below w.heap.size w w' := by
  have HD := Lib.hid (drawRelEither_any ao c bs w hb hc hbA)
  clear hb hbA
  go_enter Try.func4, Try.ntmps4
  go_wp2_with fail
  refine HD.out.mono ?_
  rintro e w1 ⟨v, u, a, b, rfl, hrl, hsl, ho1, ho2, B1⟩
  obtain ⟨aa, ac, rfl, ra⟩ := row_rd ho1
  obtain ⟨ba, bc, rfl, rb⟩ := row_rd ho2
  have hl1 : a.length ≤ 1048576 := by omega
  have hl2 : b.length ≤ 1048576 := by omega
  clear ho1 ho2 HD
  cases hp : twoIn a b with
  | false =>
    have hI := (fun w h h2 => implRelEither_any aa ba ac bc a b w hl1 hl2 h h2)
    have hS := (fun w h h2 => specRelEither_any aa ba ac bc a b w hl1 hl2 h h2)
    rw [hp] at hI hS
    have HC := Lib.hid (And.intro hI hS)
    clear hI hS hp
    go_wp2_with fail
    refine (HC.out.1 _ ra rb).mono ?_
    rintro e w2 ⟨v, rfl, ho, b2⟩
    obtain ⟨oa, oc, rfl, ro⟩ := row_rd (xs := ifR false (eitherL a b)) ho
    have B2 := B1.trans (b2.mono B1.size)
    have ra2 := ra.below b2
    have rb2 := rb.below b2
    clear ho b2 B1 ra rb
    go_wp2_with fail
    refine (HC.out.2 _ ra2 rb2).mono ?_
    rintro e w3 ⟨v, rfl, ho, b3⟩
    obtain ⟨wa, wc, rfl, rw3⟩ := row_rd (xs := ifR false (eitherL a b)) ho
    have B3 := B2.trans (b3.mono B2.size)
    have ro3 := ro.below b3
    clear ho b3 B2 ro ra2 rb2
    go_wp2_with fail
    refine (sameInts_refl _ _ _ _ _ _ (by simp [ifR]) ro3 rw3).mono ?_
    rintro e w4 ⟨rfl, d4⟩
    go_wp2_with fail
    refine (sameInts_refl _ _ _ _ _ _ (by simp [ifR]) (d4.rd ro3) (d4.rd rw3)).mono ?_
    rintro e w5 ⟨rfl, d5⟩
    go_wp2
    go_ret
    exact ⟨rfl, B3.trans ((d4.trans d5).below _)⟩
  | true =>
    obtain ⟨R1, R2⟩ := two_rl hp
    obtain ⟨s1, e1⟩ : ∃ s, sizeL a = s := ⟨_, rfl⟩
    obtain ⟨s2, e2⟩ : ∃ s, sizeL b = s := ⟨_, rfl⟩
    obtain ⟨s3, e3⟩ : ∃ s, sizeL (eitherL a b) = s := ⟨_, rfl⟩
    obtain ⟨s4, e4⟩ : ∃ s, sizeL (bothL a b) = s := ⟨_, rfl⟩
    have HNUM := Lib.hid (num_two R1 R2 e1 e2 e3 e4)
    have hI := (fun w h h2 => implRelEither_any aa ba ac bc a b w hl1 hl2 h h2)
    have hS := (fun w h h2 => specRelEither_any aa ba ac bc a b w hl1 hl2 h h2)
    rw [hp] at hI hS
    rw [show ifR true (eitherL a b) = eitherL a b from rfl] at hI hS
    have K0 := fun ao bo ca cb w h h2 => cBoth R1 R2 ao bo ca cb w h h2
    have K1 := fun ao ca w h => cSize R1 s1 e1 ao ca w h
    have K2 := fun ao ca w h => cSize R2 s2 e2 ao ca w h
    have K3 := fun ao ca w h => cSize (R1.either R2) s3 e3 ao ca w h
    have K4 := fun ao ca w h => cSize (R1.both R2) s4 e4 ao ca w h
    have Q1 := fun ao bo ca cb w h h2 => cBelow R1 (R1.either R2) (either_below1 R1 R2) ao bo ca cb w h h2
    have Q2 := fun ao bo ca cb w h h2 => cBelow R2 (R1.either R2) (either_below2 R1 R2) ao bo ca cb w h h2
    have Lo : (eitherL a b).length ≤ 1048576 := by have := ((R1.either R2)).len; have := R1.four; omega
    have Lc : (bothL a b).length ≤ 1048576 := by have := ((R1.both R2)).len; have := R1.four; omega
    obtain ⟨lo, Eo⟩ : ∃ l, eitherL a b = l := ⟨_, rfl⟩
    try rw [Eo] at hI
    try rw [Eo] at hS
    try rw [Eo] at K0
    try rw [Eo] at K1
    try rw [Eo] at K2
    try rw [Eo] at K3
    try rw [Eo] at K4
    try rw [Eo] at Q1
    try rw [Eo] at Q2
    try rw [Eo] at Lo
    try rw [Eo] at Lc
    obtain ⟨lc, Ec⟩ : ∃ l, bothL a b = l := ⟨_, rfl⟩
    try rw [Ec] at hI
    try rw [Ec] at hS
    try rw [Ec] at K0
    try rw [Ec] at K1
    try rw [Ec] at K2
    try rw [Ec] at K3
    try rw [Ec] at K4
    try rw [Ec] at Q1
    try rw [Ec] at Q2
    try rw [Ec] at Lo
    try rw [Ec] at Lc
    have HhI := Lib.hid hI
    have HhS := Lib.hid hS
    have HK0 := Lib.hid K0
    have HK1 := Lib.hid K1
    have HK2 := Lib.hid K2
    have HK3 := Lib.hid K3
    have HK4 := Lib.hid K4
    have HQ1 := Lib.hid Q1
    have HQ2 := Lib.hid Q2
    clear hI hS K0 K1 K2 K3 K4 Q1 Q2 hp R1 R2 Eo Ec e1 e2 e3 e4
    go_wp2_with fail
    refine (HhI.out _ ra rb).mono ?_
    rintro e w2 ⟨v, rfl, ho, b2⟩
    obtain ⟨oa, oc, rfl, ro_2⟩ := row_rd ho
    have B2 := B1.trans (b2.mono B1.size)
    have ra_2 := ra.below b2
    have rb_2 := rb.below b2
    clear ho b2 B1 ra rb
    go_wp2_with fail
    refine (HhS.out _ ra_2 rb_2).mono ?_
    rintro e w3 ⟨v, rfl, ho, b3⟩
    obtain ⟨wa, wc, rfl, rw_3⟩ := row_rd ho
    have B3 := B2.trans (b3.mono B2.size)
    have ra_3 := ra_2.below b3
    have rb_3 := rb_2.below b3
    have ro_3 := ro_2.below b3
    clear ho b3 B2 ra_2 rb_2 ro_2
    go_wp2_with fail
    refine (sameInts_refl oa wa oc wc _ _ Lo ro_3 rw_3).mono ?_
    rintro e w4 ⟨rfl, d4⟩
    have B4 := B3.trans (d4.below _)
    have ra_4 := d4.rd ra_3
    have rb_4 := d4.rd rb_3
    have ro_4 := d4.rd ro_3
    have rw_4 := d4.rd rw_3
    clear d4 B3 ra_3 rb_3 ro_3 rw_3
    go_wp2_with fail
    refine (HK0.out aa ba ac bc _ ra_4 rb_4).mono ?_
    rintro e w5 ⟨v, rfl, ho, b5⟩
    obtain ⟨ca, cc, rfl, rc_5⟩ := row_rd ho
    have B5 := B4.trans (b5.mono B4.size)
    have ra_5 := ra_4.below b5
    have rb_5 := rb_4.below b5
    have ro_5 := ro_4.below b5
    have rw_5 := rw_4.below b5
    clear ho b5 B4 ra_4 rb_4 ro_4 rw_4
    go_wp2_with fail
    refine (HK1.out aa ac _ ra_5).mono ?_
    rintro e w6 ⟨rfl, b6⟩
    have B6 := B5.trans (b6.mono B5.size)
    have ra_6 := ra_5.below b6
    have rb_6 := rb_5.below b6
    have ro_6 := ro_5.below b6
    have rw_6 := rw_5.below b6
    have rc_6 := rc_5.below b6
    clear b6 B5 ra_5 rb_5 ro_5 rw_5 rc_5
    go_wp2_with fail
    refine (HK2.out ba bc _ rb_6).mono ?_
    rintro e w7 ⟨rfl, b7⟩
    have B7 := B6.trans (b7.mono B6.size)
    have ra_7 := ra_6.below b7
    have rb_7 := rb_6.below b7
    have ro_7 := ro_6.below b7
    have rw_7 := rw_6.below b7
    have rc_7 := rc_6.below b7
    clear b7 B6 ra_6 rb_6 ro_6 rw_6 rc_6
    go_wp2_with fail
    refine (HK3.out oa oc _ ro_7).mono ?_
    rintro e w8 ⟨rfl, b8⟩
    have B8 := B7.trans (b8.mono B7.size)
    have ra_8 := ra_7.below b8
    have rb_8 := rb_7.below b8
    have ro_8 := ro_7.below b8
    have rw_8 := rw_7.below b8
    have rc_8 := rc_7.below b8
    clear b8 B7 ra_7 rb_7 ro_7 rw_7 rc_7
    go_wp2_with fail
    refine (HK4.out ca cc _ rc_8).mono ?_
    rintro e w9 ⟨rfl, b9⟩
    have B9 := B8.trans (b9.mono B8.size)
    have ra_9 := ra_8.below b9
    have rb_9 := rb_8.below b9
    have ro_9 := ro_8.below b9
    have rw_9 := rw_8.below b9
    have rc_9 := rc_8.below b9
    clear b9 B8 ra_8 rb_8 ro_8 rw_8 rc_8
    obtain ⟨hn0, hn1, hn2, hn3, hn4, hn5, hn6, hn7, hn8⟩ := HNUM.out
    go_wp2_with fail
    refine (HQ1.out aa oa ac oc _ ra_9 ro_9).mono ?_
    rintro e w10 ⟨rfl, b10⟩
    have B10 := B9.trans (b10.mono B9.size)
    have ra_10 := ra_9.below b10
    have rb_10 := rb_9.below b10
    have ro_10 := ro_9.below b10
    have rw_10 := rw_9.below b10
    have rc_10 := rc_9.below b10
    clear b10 B9 ra_9 rb_9 ro_9 rw_9 rc_9
    go_wp2_with fail
    refine (HQ2.out ba oa bc oc _ rb_10 ro_10).mono ?_
    rintro e w11 ⟨rfl, b11⟩
    have B11 := B10.trans (b11.mono B10.size)
    have ra_11 := ra_10.below b11
    have rb_11 := rb_10.below b11
    have ro_11 := ro_10.below b11
    have rw_11 := rw_10.below b11
    have rc_11 := rc_10.below b11
    clear b11 B10 ra_10 rb_10 ro_10 rw_10 rc_10
    go_wp2
    go_ret
    exact ⟨rfl, B11⟩
end Go.Proofs.Ytmjganidhochjaa
