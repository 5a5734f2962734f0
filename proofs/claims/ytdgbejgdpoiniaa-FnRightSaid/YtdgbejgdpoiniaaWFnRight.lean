/-
  The walk of FnRight, out of the contracts of the draw and of the functions that it calls; for whatever bytes.
-/
import Derived.Test.YtdgbejgdpoiniaaGB
namespace Go.Proofs.Ytdgbejgdpoiniaa
open Go.RowKit

theorem fnRight_long (ao : Option Addr) (cap n : Nat) (w : World) (hm : n ≤ maxLen) (hl : ¬ n ≤ 1048576) :
    Calls Try.prog 6 #[.slice ao n cap] w fun e w' => e = .returned (.bool true) ∧ Below w.heap.size w w' := by
  unfold maxLen at hm
  go_enter Try.func6, Try.ntmps6
  go_wp2
  go_ret
  exact ⟨rfl, Below.refl _ _⟩

set_option maxHeartbeats 8000000 in
theorem fnRight_walk (ao : Option Addr) (c : Nat) (bs : List Nat) (w : World) (hl : bs.length ≤ 1048576) (hb : RdB w ao bs) (hc : bs.length ≤ c) (hbA : bs ≠ [] → ∀ a, ao = some a → a.block < w.heap.size) :
    Calls Try.prog 6 #[.slice ao bs.length c] w fun e w' => e = .returned (.bool true) ∧ Below w.heap.size w w' := by
  have HD := Lib.hid (drawCompRight_any ao c bs w hb hc hbA)
  clear hb hbA
  go_enter Try.func6, Try.ntmps6
  go_wp2_with fail
  refine HD.out.mono ?_
  rintro e w1 ⟨v, u, a, b, rfl, hrl, hsl, ho1, ho2, B1⟩
  obtain ⟨aa, ac, rfl, ra⟩ := row_rd ho1
  obtain ⟨ba, bc, rfl, rb⟩ := row_rd ho2
  have hl1 : a.length ≤ 1048576 := by omega
  have hl2 : b.length ≤ 1048576 := by omega
  clear ho1 ho2 HD
  cases hp : twoIn a b with
  | false =>
    have hI := (fun w h h2 => implCompRight_any aa ba ac bc a b w hl1 hl2 h h2)
    have hS := (fun w h h2 => specCompRight_any aa ba ac bc a b w hl1 hl2 h h2)
    rw [hp] at hI hS
    have HC := Lib.hid (And.intro hI hS)
    clear hI hS hp
    go_wp2_with fail
    refine (HC.out.1 _ ra rb).mono ?_
    rintro e w2 ⟨v, rfl, ho, b2⟩
    obtain ⟨oa, oc, rfl, ro⟩ := row_rd (xs := ifR false (rightL a b)) ho
    have B2 := B1.trans (b2.mono B1.size)
    have ra2 := ra.below b2
    have rb2 := rb.below b2
    clear ho b2 B1 ra rb
    go_wp2_with fail
    refine (HC.out.2 _ ra2 rb2).mono ?_
    rintro e w3 ⟨v, rfl, ho, b3⟩
    obtain ⟨wa, wc, rfl, rw3⟩ := row_rd (xs := ifR false (rightL a b)) ho
    have B3 := B2.trans (b3.mono B2.size)
    have ro3 := ro.below b3
    clear ho b3 B2 ro ra2 rb2
    go_wp2_with fail
    refine (sameInts_refl _ _ _ _ _ _ (by simp [ifR]) ro3 rw3).mono ?_
    rintro e w4 ⟨rfl, d4⟩
    go_wp2_with fail
    refine (sameInts_refl _ _ _ _ _ _ (by simp [ifR]) (d4.rd ro3) (d4.rd rw3)).mono ?_
    rintro e w5 ⟨rfl, d5⟩
    go_wp2
    go_ret
    exact ⟨rfl, B3.trans ((d4.trans d5).below _)⟩
  | true =>
    obtain ⟨R1, R2⟩ := two_rl hp
    have hI := (fun w h h2 => implCompRight_any aa ba ac bc a b w hl1 hl2 h h2)
    have hS := (fun w h h2 => specCompRight_any aa ba ac bc a b w hl1 hl2 h h2)
    rw [hp] at hI hS
    rw [show ifR true (rightL a b) = rightL a b from rfl] at hI hS
    have K0 := fun ao bo ca cb w h h2 => cComp (R1.right R2) R1 ao bo ca cb w h h2
    have K1 := fun ao ca w h => cTurn R1 ao ca w h
    have K2 := fun ao ca w h => cTurn R2 ao ca w h
    have K3 := fun ao bo ca cb w h h2 => cLeft R1.turn R2.turn ao bo ca cb w h h2
    have K4 := fun ao ca w h => cTurn (R1.turn.left R2.turn) ao ca w h
    have Q0 : (turnL (leftL (turnL a) (turnL b))) = (rightL a b) := right_eq R1 R2
    have Q1 := fun ao bo ca cb w h h2 => cBelow ((R1.right R2).comp R1) R2 (right_below R1 R2) ao bo ca cb w h h2
    have Lo : (rightL a b).length ≤ 1048576 := by have := ((R1.right R2)).len; have := R1.four; omega
    have Lx : (compL (rightL a b) a).length ≤ 1048576 := by have := (((R1.right R2).comp R1)).len; have := R1.four; omega
    have Lc : (turnL a).length ≤ 1048576 := by have := (R1.turn).len; have := R1.four; omega
    have Ld : (turnL b).length ≤ 1048576 := by have := (R2.turn).len; have := R1.four; omega
    have Ly : (leftL (turnL a) (turnL b)).length ≤ 1048576 := by have := ((R1.turn.left R2.turn)).len; have := R1.four; omega
    have Lz : (turnL (leftL (turnL a) (turnL b))).length ≤ 1048576 := by have := ((R1.turn.left R2.turn).turn).len; have := R1.four; omega
    obtain ⟨lo, Eo⟩ : ∃ l, rightL a b = l := ⟨_, rfl⟩
    try rw [Eo] at hI
    try rw [Eo] at hS
    try rw [Eo] at K0
    try rw [Eo] at K1
    try rw [Eo] at K2
    try rw [Eo] at K3
    try rw [Eo] at K4
    try rw [Eo] at Q0
    try rw [Eo] at Q1
    try rw [Eo] at Lo
    try rw [Eo] at Lx
    try rw [Eo] at Lc
    try rw [Eo] at Ld
    try rw [Eo] at Ly
    try rw [Eo] at Lz
    obtain ⟨lx, Ex⟩ : ∃ l, compL lo a = l := ⟨_, rfl⟩
    try rw [Ex] at hI
    try rw [Ex] at hS
    try rw [Ex] at K0
    try rw [Ex] at K1
    try rw [Ex] at K2
    try rw [Ex] at K3
    try rw [Ex] at K4
    try rw [Ex] at Q0
    try rw [Ex] at Q1
    try rw [Ex] at Lo
    try rw [Ex] at Lx
    try rw [Ex] at Lc
    try rw [Ex] at Ld
    try rw [Ex] at Ly
    try rw [Ex] at Lz
    obtain ⟨lc, Ec⟩ : ∃ l, turnL a = l := ⟨_, rfl⟩
    try rw [Ec] at hI
    try rw [Ec] at hS
    try rw [Ec] at K0
    try rw [Ec] at K1
    try rw [Ec] at K2
    try rw [Ec] at K3
    try rw [Ec] at K4
    try rw [Ec] at Q0
    try rw [Ec] at Q1
    try rw [Ec] at Lo
    try rw [Ec] at Lx
    try rw [Ec] at Lc
    try rw [Ec] at Ld
    try rw [Ec] at Ly
    try rw [Ec] at Lz
    obtain ⟨ld, Ed⟩ : ∃ l, turnL b = l := ⟨_, rfl⟩
    try rw [Ed] at hI
    try rw [Ed] at hS
    try rw [Ed] at K0
    try rw [Ed] at K1
    try rw [Ed] at K2
    try rw [Ed] at K3
    try rw [Ed] at K4
    try rw [Ed] at Q0
    try rw [Ed] at Q1
    try rw [Ed] at Lo
    try rw [Ed] at Lx
    try rw [Ed] at Lc
    try rw [Ed] at Ld
    try rw [Ed] at Ly
    try rw [Ed] at Lz
    obtain ⟨ly, Ey⟩ : ∃ l, leftL lc ld = l := ⟨_, rfl⟩
    try rw [Ey] at hI
    try rw [Ey] at hS
    try rw [Ey] at K0
    try rw [Ey] at K1
    try rw [Ey] at K2
    try rw [Ey] at K3
    try rw [Ey] at K4
    try rw [Ey] at Q0
    try rw [Ey] at Q1
    try rw [Ey] at Lo
    try rw [Ey] at Lx
    try rw [Ey] at Lc
    try rw [Ey] at Ld
    try rw [Ey] at Ly
    try rw [Ey] at Lz
    obtain ⟨lz, Ez⟩ : ∃ l, turnL ly = l := ⟨_, rfl⟩
    try rw [Ez] at hI
    try rw [Ez] at hS
    try rw [Ez] at K0
    try rw [Ez] at K1
    try rw [Ez] at K2
    try rw [Ez] at K3
    try rw [Ez] at K4
    try rw [Ez] at Q0
    try rw [Ez] at Q1
    try rw [Ez] at Lo
    try rw [Ez] at Lx
    try rw [Ez] at Lc
    try rw [Ez] at Ld
    try rw [Ez] at Ly
    try rw [Ez] at Lz
    have HhI := Lib.hid hI
    have HhS := Lib.hid hS
    have HK0 := Lib.hid K0
    have HK1 := Lib.hid K1
    have HK2 := Lib.hid K2
    have HK3 := Lib.hid K3
    have HK4 := Lib.hid K4
    have HQ0 := Lib.hid Q0
    have HQ1 := Lib.hid Q1
    clear hI hS K0 K1 K2 K3 K4 Q0 Q1 hp R1 R2 Eo Ex Ec Ed Ey Ez
    go_wp2_with fail
    refine (HhI.out _ ra rb).mono ?_
    rintro e w2 ⟨v, rfl, ho, b2⟩
    obtain ⟨oa, oc, rfl, ro_2⟩ := row_rd ho
    have B2 := B1.trans (b2.mono B1.size)
    have ra_2 := ra.below b2
    have rb_2 := rb.below b2
    clear ho b2 B1 ra rb
    go_wp2_with fail
    refine (HhS.out _ ra_2 rb_2).mono ?_
    rintro e w3 ⟨v, rfl, ho, b3⟩
    obtain ⟨wa, wc, rfl, rw_3⟩ := row_rd ho
    have B3 := B2.trans (b3.mono B2.size)
    have ra_3 := ra_2.below b3
    have rb_3 := rb_2.below b3
    have ro_3 := ro_2.below b3
    clear ho b3 B2 ra_2 rb_2 ro_2
    go_wp2_with fail
    refine (sameInts_refl oa wa oc wc _ _ Lo ro_3 rw_3).mono ?_
    rintro e w4 ⟨rfl, d4⟩
    have B4 := B3.trans (d4.below _)
    have ra_4 := d4.rd ra_3
    have rb_4 := d4.rd rb_3
    have ro_4 := d4.rd ro_3
    have rw_4 := d4.rd rw_3
    clear d4 B3 ra_3 rb_3 ro_3 rw_3
    go_wp2_with fail
    refine (HK0.out oa aa oc ac _ ro_4 ra_4).mono ?_
    rintro e w5 ⟨v, rfl, ho, b5⟩
    obtain ⟨xa, xc, rfl, rx_5⟩ := row_rd ho
    have B5 := B4.trans (b5.mono B4.size)
    have ra_5 := ra_4.below b5
    have rb_5 := rb_4.below b5
    have ro_5 := ro_4.below b5
    have rw_5 := rw_4.below b5
    clear ho b5 B4 ra_4 rb_4 ro_4 rw_4
    go_wp2_with fail
    refine (HK1.out aa ac _ ra_5).mono ?_
    rintro e w6 ⟨v, rfl, ho, b6⟩
    obtain ⟨ca, cc, rfl, rc_6⟩ := row_rd ho
    have B6 := B5.trans (b6.mono B5.size)
    have ra_6 := ra_5.below b6
    have rb_6 := rb_5.below b6
    have ro_6 := ro_5.below b6
    have rw_6 := rw_5.below b6
    have rx_6 := rx_5.below b6
    clear ho b6 B5 ra_5 rb_5 ro_5 rw_5 rx_5
    go_wp2_with fail
    refine (HK2.out ba bc _ rb_6).mono ?_
    rintro e w7 ⟨v, rfl, ho, b7⟩
    obtain ⟨da, dc, rfl, rd_7⟩ := row_rd ho
    have B7 := B6.trans (b7.mono B6.size)
    have ra_7 := ra_6.below b7
    have rb_7 := rb_6.below b7
    have ro_7 := ro_6.below b7
    have rw_7 := rw_6.below b7
    have rx_7 := rx_6.below b7
    have rc_7 := rc_6.below b7
    clear ho b7 B6 ra_6 rb_6 ro_6 rw_6 rx_6 rc_6
    go_wp2_with fail
    refine (HK3.out ca da cc dc _ rc_7 rd_7).mono ?_
    rintro e w8 ⟨v, rfl, ho, b8⟩
    obtain ⟨ya, yc, rfl, ry_8⟩ := row_rd ho
    have B8 := B7.trans (b8.mono B7.size)
    have ra_8 := ra_7.below b8
    have rb_8 := rb_7.below b8
    have ro_8 := ro_7.below b8
    have rw_8 := rw_7.below b8
    have rx_8 := rx_7.below b8
    have rc_8 := rc_7.below b8
    have rd_8 := rd_7.below b8
    clear ho b8 B7 ra_7 rb_7 ro_7 rw_7 rx_7 rc_7 rd_7
    go_wp2_with fail
    refine (HK4.out ya yc _ ry_8).mono ?_
    rintro e w9 ⟨v, rfl, ho, b9⟩
    obtain ⟨za, zc, rfl, rz_9⟩ := row_rd ho
    have B9 := B8.trans (b9.mono B8.size)
    have ra_9 := ra_8.below b9
    have rb_9 := rb_8.below b9
    have ro_9 := ro_8.below b9
    have rw_9 := rw_8.below b9
    have rx_9 := rx_8.below b9
    have rc_9 := rc_8.below b9
    have rd_9 := rd_8.below b9
    have ry_9 := ry_8.below b9
    clear ho b9 B8 ra_8 rb_8 ro_8 rw_8 rx_8 rc_8 rd_8 ry_8
    go_wp2_with fail
    refine (sameInts_eq za oa zc oc _ _ _ HQ0.out (by have := HQ0.out; have := Lz; first | assumption | omega) rz_9 ro_9).mono ?_
    rintro e w10 ⟨rfl, d10⟩
    have B10 := B9.trans (d10.below _)
    have ra_10 := d10.rd ra_9
    have rb_10 := d10.rd rb_9
    have ro_10 := d10.rd ro_9
    have rw_10 := d10.rd rw_9
    have rx_10 := d10.rd rx_9
    have rc_10 := d10.rd rc_9
    have rd_10 := d10.rd rd_9
    have ry_10 := d10.rd ry_9
    have rz_10 := d10.rd rz_9
    clear d10 B9 ra_9 rb_9 ro_9 rw_9 rx_9 rc_9 rd_9 ry_9 rz_9
    go_wp2_with fail
    refine (HQ1.out xa ba xc bc _ rx_10 rb_10).mono ?_
    rintro e w11 ⟨rfl, b11⟩
    have B11 := B10.trans (b11.mono B10.size)
    have ra_11 := ra_10.below b11
    have rb_11 := rb_10.below b11
    have ro_11 := ro_10.below b11
    have rw_11 := rw_10.below b11
    have rx_11 := rx_10.below b11
    have rc_11 := rc_10.below b11
    have rd_11 := rd_10.below b11
    have ry_11 := ry_10.below b11
    have rz_11 := rz_10.below b11
    clear b11 B10 ra_10 rb_10 ro_10 rw_10 rx_10 rc_10 rd_10 ry_10 rz_10
    go_wp2
    go_ret
    exact ⟨rfl, B11⟩
end Go.Proofs.Ytdgbejgdpoiniaa
