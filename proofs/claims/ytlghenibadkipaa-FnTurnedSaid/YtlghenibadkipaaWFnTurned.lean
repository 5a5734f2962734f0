/-
  The walk of FnTurned, out of the contracts of the draw and of the functions that it calls; for whatever bytes.
-/
import Derived.Test.YtlghenibadkipaaGC
namespace Go.Proofs.Ytlghenibadkipaa
open Go.RowKit

theorem fnTurned_long (ao : Option Addr) (cap n : Nat) (w : World) (hm : n ≤ maxLen) (hl : ¬ n ≤ 1048576) :
    Calls Try.prog 4 #[.slice ao n cap] w fun e w' => e = .returned (.bool true) ∧ Below w.heap.size w w' := by
  unfold maxLen at hm
  go_enter Try.func4, Try.ntmps4
  go_wp2
  go_ret
  exact ⟨rfl, Below.refl _ _⟩

set_option maxHeartbeats 8000000 in
theorem fnTurned_walk (ao : Option Addr) (c : Nat) (bs : List Nat) (w : World) (hl : bs.length ≤ 1048576) (hb : RdB w ao bs) (hc : bs.length ≤ c) (hbA : bs ≠ [] → ∀ a, ao = some a → a.block < w.heap.size) :
    Calls Try.prog 4 #[.slice ao bs.length c] w fun e w' => e = .returned (.bool true) ∧ Below w.heap.size w w' := by
  have HD := Lib.hid (drawRelTurned_any ao c bs w hb hc hbA)
  clear hb hbA
  go_enter Try.func4, Try.ntmps4
  go_wp2_with fail
  refine HD.out.mono ?_
  rintro e w1 ⟨v, a, rfl, hrl, ho1, B1⟩
  obtain ⟨aa, ac, rfl, ra⟩ := row_rd ho1
  have hl1 : a.length ≤ 1048576 := by omega
  clear ho1 HD
  cases hp : relIn a with
  | false =>
    have hI := (fun w h => implRelTurned_any aa ac a w hl1 h)
    have hS := (fun w h => specRelTurned_any aa ac a w hl1 h)
    rw [hp] at hI hS
    have HC := Lib.hid (And.intro hI hS)
    clear hI hS hp
    go_wp2_with fail
    refine (HC.out.1 _ ra).mono ?_
    rintro e w2 ⟨v, rfl, ho, b2⟩
    obtain ⟨oa, oc, rfl, ro⟩ := row_rd (xs := ifR false (turnL a)) ho
    have B2 := B1.trans (b2.mono B1.size)
    have ra2 := ra.below b2
    clear ho b2 B1 ra
    go_wp2_with fail
    refine (HC.out.2 _ ra2).mono ?_
    rintro e w3 ⟨v, rfl, ho, b3⟩
    obtain ⟨wa, wc, rfl, rw3⟩ := row_rd (xs := ifR false (turnL a)) ho
    have B3 := B2.trans (b3.mono B2.size)
    have ro3 := ro.below b3
    clear ho b3 B2 ro ra2
    go_wp2_with fail
    refine (sameInts_refl _ _ _ _ _ _ (by simp [ifR]) ro3 rw3).mono ?_
    rintro e w4 ⟨rfl, d4⟩
    go_wp2_with fail
    refine (sameInts_refl _ _ _ _ _ _ (by simp [ifR]) (d4.rd ro3) (d4.rd rw3)).mono ?_
    rintro e w5 ⟨rfl, d5⟩
    go_wp2
    go_ret
    exact ⟨rfl, B3.trans ((d4.trans d5).below _)⟩
  | true =>
    have R1 := Rl.of hp
    obtain ⟨sz, hsz⟩ : ∃ s, sizeL a = s := ⟨_, rfl⟩
    have hI := (fun w h => implRelTurned_any aa ac a w hl1 h)
    have hS := (fun w h => specRelTurned_any aa ac a w hl1 h)
    rw [hp] at hI hS
    rw [show ifR true (turnL a) = turnL a from rfl] at hI hS
    have K0 := fun ao ca w h => cTurn R1.turn ao ca w h
    have K1 := fun ao ca w h => cSize R1 sz hsz ao ca w h
    have K2 := fun ao ca w h => cSize R1.turn sz ((size_turn R1).trans hsz) ao ca w h
    have K3 := fun ao ca w h => cOther R1 ao ca w h
    have K4 := fun ao ca w h => cTurn R1.other ao ca w h
    have K5 := fun ao ca w h => cOther R1.turn ao ca w h
    have Q0 : (turnL (turnL a)) = a := turn_turn R1
    have Q1 : (turnL (otherL a)) = (otherL (turnL a)) := turn_other R1
    have Lo : (turnL a).length ≤ 1048576 := by have := (R1.turn).len; have := R1.four; omega
    have Lx : (turnL (turnL a)).length ≤ 1048576 := by have := (R1.turn.turn).len; have := R1.four; omega
    have Ly : (otherL a).length ≤ 1048576 := by have := (R1.other).len; have := R1.four; omega
    have Lz : (turnL (otherL a)).length ≤ 1048576 := by have := (R1.other.turn).len; have := R1.four; omega
    have Lu : (otherL (turnL a)).length ≤ 1048576 := by have := (R1.turn.other).len; have := R1.four; omega
    obtain ⟨lo, Eo⟩ : ∃ l, turnL a = l := ⟨_, rfl⟩
    try rw [Eo] at hI
    try rw [Eo] at hS
    try rw [Eo] at K0
    try rw [Eo] at K1
    try rw [Eo] at K2
    try rw [Eo] at K3
    try rw [Eo] at K4
    try rw [Eo] at K5
    try rw [Eo] at Q0
    try rw [Eo] at Q1
    try rw [Eo] at Lo
    try rw [Eo] at Lx
    try rw [Eo] at Ly
    try rw [Eo] at Lz
    try rw [Eo] at Lu
    obtain ⟨lx, Ex⟩ : ∃ l, turnL lo = l := ⟨_, rfl⟩
    try rw [Ex] at hI
    try rw [Ex] at hS
    try rw [Ex] at K0
    try rw [Ex] at K1
    try rw [Ex] at K2
    try rw [Ex] at K3
    try rw [Ex] at K4
    try rw [Ex] at K5
    try rw [Ex] at Q0
    try rw [Ex] at Q1
    try rw [Ex] at Lo
    try rw [Ex] at Lx
    try rw [Ex] at Ly
    try rw [Ex] at Lz
    try rw [Ex] at Lu
    obtain ⟨ly, Ey⟩ : ∃ l, otherL a = l := ⟨_, rfl⟩
    try rw [Ey] at hI
    try rw [Ey] at hS
    try rw [Ey] at K0
    try rw [Ey] at K1
    try rw [Ey] at K2
    try rw [Ey] at K3
    try rw [Ey] at K4
    try rw [Ey] at K5
    try rw [Ey] at Q0
    try rw [Ey] at Q1
    try rw [Ey] at Lo
    try rw [Ey] at Lx
    try rw [Ey] at Ly
    try rw [Ey] at Lz
    try rw [Ey] at Lu
    obtain ⟨lz, Ez⟩ : ∃ l, turnL ly = l := ⟨_, rfl⟩
    try rw [Ez] at hI
    try rw [Ez] at hS
    try rw [Ez] at K0
    try rw [Ez] at K1
    try rw [Ez] at K2
    try rw [Ez] at K3
    try rw [Ez] at K4
    try rw [Ez] at K5
    try rw [Ez] at Q0
    try rw [Ez] at Q1
    try rw [Ez] at Lo
    try rw [Ez] at Lx
    try rw [Ez] at Ly
    try rw [Ez] at Lz
    try rw [Ez] at Lu
    obtain ⟨lu, Eu⟩ : ∃ l, otherL lo = l := ⟨_, rfl⟩
    try rw [Eu] at hI
    try rw [Eu] at hS
    try rw [Eu] at K0
    try rw [Eu] at K1
    try rw [Eu] at K2
    try rw [Eu] at K3
    try rw [Eu] at K4
    try rw [Eu] at K5
    try rw [Eu] at Q0
    try rw [Eu] at Q1
    try rw [Eu] at Lo
    try rw [Eu] at Lx
    try rw [Eu] at Ly
    try rw [Eu] at Lz
    try rw [Eu] at Lu
    have HhI := Lib.hid hI
    have HhS := Lib.hid hS
    have HK0 := Lib.hid K0
    have HK1 := Lib.hid K1
    have HK2 := Lib.hid K2
    have HK3 := Lib.hid K3
    have HK4 := Lib.hid K4
    have HK5 := Lib.hid K5
    have HQ0 := Lib.hid Q0
    have HQ1 := Lib.hid Q1
    clear hI hS K0 K1 K2 K3 K4 K5 Q0 Q1 hp R1 Eo Ex Ey Ez Eu hsz
    go_wp2_with fail
    refine (HhI.out _ ra).mono ?_
    rintro e w2 ⟨v, rfl, ho, b2⟩
    obtain ⟨oa, oc, rfl, ro_2⟩ := row_rd ho
    have B2 := B1.trans (b2.mono B1.size)
    have ra_2 := ra.below b2
    clear ho b2 B1 ra
    go_wp2_with fail
    refine (HhS.out _ ra_2).mono ?_
    rintro e w3 ⟨v, rfl, ho, b3⟩
    obtain ⟨wa, wc, rfl, rw_3⟩ := row_rd ho
    have B3 := B2.trans (b3.mono B2.size)
    have ra_3 := ra_2.below b3
    have ro_3 := ro_2.below b3
    clear ho b3 B2 ra_2 ro_2
    go_wp2_with fail
    refine (sameInts_refl oa wa oc wc _ _ Lo ro_3 rw_3).mono ?_
    rintro e w4 ⟨rfl, d4⟩
    have B4 := B3.trans (d4.below _)
    have ra_4 := d4.rd ra_3
    have ro_4 := d4.rd ro_3
    have rw_4 := d4.rd rw_3
    clear d4 B3 ra_3 ro_3 rw_3
    go_wp2_with fail
    refine (HK0.out oa oc _ ro_4).mono ?_
    rintro e w5 ⟨v, rfl, ho, b5⟩
    obtain ⟨xa, xc, rfl, rx_5⟩ := row_rd ho
    have B5 := B4.trans (b5.mono B4.size)
    have ra_5 := ra_4.below b5
    have ro_5 := ro_4.below b5
    have rw_5 := rw_4.below b5
    clear ho b5 B4 ra_4 ro_4 rw_4
    go_wp2_with fail
    refine (HK1.out aa ac _ ra_5).mono ?_
    rintro e w6 ⟨rfl, b6⟩
    have B6 := B5.trans (b6.mono B5.size)
    have ra_6 := ra_5.below b6
    have ro_6 := ro_5.below b6
    have rw_6 := rw_5.below b6
    have rx_6 := rx_5.below b6
    clear b6 B5 ra_5 ro_5 rw_5 rx_5
    go_wp2_with fail
    refine (HK2.out oa oc _ ro_6).mono ?_
    rintro e w7 ⟨rfl, b7⟩
    have B7 := B6.trans (b7.mono B6.size)
    have ra_7 := ra_6.below b7
    have ro_7 := ro_6.below b7
    have rw_7 := rw_6.below b7
    have rx_7 := rx_6.below b7
    clear b7 B6 ra_6 ro_6 rw_6 rx_6
    go_wp2_with fail
    refine (HK3.out aa ac _ ra_7).mono ?_
    rintro e w8 ⟨v, rfl, ho, b8⟩
    obtain ⟨ya, yc, rfl, ry_8⟩ := row_rd ho
    have B8 := B7.trans (b8.mono B7.size)
    have ra_8 := ra_7.below b8
    have ro_8 := ro_7.below b8
    have rw_8 := rw_7.below b8
    have rx_8 := rx_7.below b8
    clear ho b8 B7 ra_7 ro_7 rw_7 rx_7
    go_wp2_with fail
    refine (HK4.out ya yc _ ry_8).mono ?_
    rintro e w9 ⟨v, rfl, ho, b9⟩
    obtain ⟨za, zc, rfl, rz_9⟩ := row_rd ho
    have B9 := B8.trans (b9.mono B8.size)
    have ra_9 := ra_8.below b9
    have ro_9 := ro_8.below b9
    have rw_9 := rw_8.below b9
    have rx_9 := rx_8.below b9
    have ry_9 := ry_8.below b9
    clear ho b9 B8 ra_8 ro_8 rw_8 rx_8 ry_8
    go_wp2_with fail
    refine (HK5.out oa oc _ ro_9).mono ?_
    rintro e w10 ⟨v, rfl, ho, b10⟩
    obtain ⟨ua, uc, rfl, ru_10⟩ := row_rd ho
    have B10 := B9.trans (b10.mono B9.size)
    have ra_10 := ra_9.below b10
    have ro_10 := ro_9.below b10
    have rw_10 := rw_9.below b10
    have rx_10 := rx_9.below b10
    have ry_10 := ry_9.below b10
    have rz_10 := rz_9.below b10
    clear ho b10 B9 ra_9 ro_9 rw_9 rx_9 ry_9 rz_9
    go_wp2_with fail
    refine (sameInts_eq xa aa xc ac _ _ _ HQ0.out (by have := HQ0.out; have := Lx; first | assumption | omega) rx_10 ra_10).mono ?_
    rintro e w11 ⟨rfl, d11⟩
    have B11 := B10.trans (d11.below _)
    have ra_11 := d11.rd ra_10
    have ro_11 := d11.rd ro_10
    have rw_11 := d11.rd rw_10
    have rx_11 := d11.rd rx_10
    have ry_11 := d11.rd ry_10
    have rz_11 := d11.rd rz_10
    have ru_11 := d11.rd ru_10
    clear d11 B10 ra_10 ro_10 rw_10 rx_10 ry_10 rz_10 ru_10
    go_wp2_with fail
    refine (sameInts_eq za ua zc uc _ _ _ HQ1.out (by have := HQ1.out; have := Lz; first | assumption | omega) rz_11 ru_11).mono ?_
    rintro e w12 ⟨rfl, d12⟩
    have B12 := B11.trans (d12.below _)
    have ra_12 := d12.rd ra_11
    have ro_12 := d12.rd ro_11
    have rw_12 := d12.rd rw_11
    have rx_12 := d12.rd rx_11
    have ry_12 := d12.rd ry_11
    have rz_12 := d12.rd rz_11
    have ru_12 := d12.rd ru_11
    clear d12 B11 ra_11 ro_11 rw_11 rx_11 ry_11 rz_11 ru_11
    go_wp2
    go_ret
    exact ⟨rfl, B12⟩
end Go.Proofs.Ytlghenibadkipaa
