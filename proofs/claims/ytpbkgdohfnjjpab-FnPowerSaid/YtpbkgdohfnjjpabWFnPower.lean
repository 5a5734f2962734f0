/-
  The walk of FnPower, out of the contracts of the draw and of the functions that it calls; for whatever bytes.
-/
import Derived.Test.YtpbkgdohfnjjpabGB
import Derived.Test.YtpbkgdohfnjjpabRE
import Derived.Test.YtpbkgdohfnjjpabEI
namespace Go.Proofs.Ytpbkgdohfnjjpab
open Go.RowKit

theorem fnPower_long (ao : Option Addr) (cap n : Nat) (w : World) (hm : n ≤ maxLen) (hl : ¬ n ≤ 1048576) :
    Calls Try.prog 3 #[.slice ao n cap] w fun e w' => e = .returned (.bool true) ∧ Below w.heap.size w w' := by
  unfold maxLen at hm
  go_enter Try.func3, Try.ntmps3
  go_wp2
  go_ret
  exact ⟨rfl, Below.refl _ _⟩

set_option maxHeartbeats 8000000 in
theorem fnPower_walk (ao : Option Addr) (c : Nat) (bs : List Nat) (w : World) (hl : bs.length ≤ 1048576) (hb : RdB w ao bs) (hc : bs.length ≤ c) (hbA : bs ≠ [] → ∀ a, ao = some a → a.block < w.heap.size) :
    Calls Try.prog 3 #[.slice ao bs.length c] w fun e w' => e = .returned (.bool true) ∧ Below w.heap.size w w' := by
  have HD := Lib.hid (drawCompPower_any ao c bs w hb hc hbA)
  clear hb hbA
  go_enter Try.func3, Try.ntmps3
  go_wp2_with fail
  refine HD.out.mono ?_
  rintro e w1 ⟨v, a, z, rfl, hrl, ho1, B1⟩
  obtain ⟨aa, ac, rfl, ra⟩ := row_rd ho1
  have hl1 : a.length ≤ 1048576 := by omega
  clear ho1 HD
  cases hp : relIn a && inB z 0 100 with
  | false =>
    have hI := fun w h => implCompPower_any aa ac a z w hl1 h
    have hS := fun w h => specCompPower_any aa ac a z w hl1 h
    rw [hp] at hI hS
    have HC := Lib.hid (And.intro hI hS)
    clear hI hS hp
    go_wp2_with fail
    refine (HC.out.1 _ ra).mono ?_
    rintro e w2 ⟨v, rfl, ho, b2⟩
    obtain ⟨oa, oc, rfl, ro_2⟩ := row_rd (xs := ifR false (powL a z.toNat)) ho
    clear ho
    have ra_2 := ra.below b2
    have B2 := B1.trans (b2.mono B1.size)
    clear b2 B1 ra
    go_wp2_with fail
    refine (HC.out.2 _ ra_2).mono ?_
    rintro e w3 ⟨v, rfl, ho, b3⟩
    obtain ⟨wa, wc, rfl, rw_3⟩ := row_rd (xs := ifR false (powL a z.toNat)) ho
    clear ho
    have ra_3 := ra_2.below b3
    have ro_3 := ro_2.below b3
    have B3 := B2.trans (b3.mono B2.size)
    clear b3 B2 ra_2 ro_2
    go_wp2_with fail
    refine (sameInts_refl oa wa oc wc _ _ (by simp [ifR]) ro_3 rw_3).mono ?_
    rintro e w4 ⟨rfl, d4⟩
    have ra_4 := d4.rd ra_3
    have ro_4 := d4.rd ro_3
    have rw_4 := d4.rd rw_3
    have B4 := B3.trans (d4.below _)
    clear d4 B3 ra_3 ro_3 rw_3
    go_wp2_with fail
    refine (sameInts_refl oa wa oc wc _ _ (by simp [ifR]) ro_4 rw_4).mono ?_
    rintro e w5 ⟨rfl, d5⟩
    have ra_5 := d5.rd ra_4
    have ro_5 := d5.rd ro_4
    have rw_5 := d5.rd rw_4
    have B5 := B4.trans (d5.below _)
    clear d5 B4 ra_4 ro_4 rw_4
    go_wp2
    go_ret
    exact ⟨rfl, B5⟩
  | true =>
    have hI := fun w h => implCompPower_any aa ac a z w hl1 h
    have hS := fun w h => specCompPower_any aa ac a z w hl1 h
    rw [hp] at hI hS
    rw [show ifR true (powL a z.toNat) = powL a z.toNat from rfl] at hI hS
    rw [Bool.and_eq_true] at hp
    have R1 := Rl.of hp.1
    have hz := hp.2
    unfold inB at hz
    rw [decide_eq_true_iff] at hz
    obtain ⟨h0, h100⟩ := hz
    have hX := fun ao bo ca cb w h h2 => cComp (R1.pow z.toNat) R1 ao bo ca cb w h h2
    have hY := fun w h => implCompPower_any aa ac a (z + 1) w hl1 h
    rw [hp.1, Bool.true_and, show (z + 1).toNat = z.toNat + 1 by omega] at hY
    have Lo : (powL a z.toNat).length ≤ 1048576 := rl_short (R1.pow _)
    have Lx : (compL (powL a z.toNat) a).length ≤ 1048576 := rl_short ((R1.pow _).comp R1)
    have hN : ¬ (z == 100) = true → ifR (inB (z + 1) 0 100) (powL a (z.toNat + 1)) = compL (powL a z.toNat) a ∧ inB (z + 1) 0 100 = true := fun h => by
      have h1 : inB (z + 1) 0 100 = true := inB_yes (by omega) (by simp at h; omega)
      rw [h1]
      exact ⟨rfl, rfl⟩
    obtain ⟨o, Eo⟩ : ∃ kk, powL a z.toNat = kk := ⟨_, rfl⟩
    rw [Eo] at hI
    rw [Eo] at hS
    rw [Eo] at hX
    rw [Eo] at hN
    rw [Eo] at Lo
    rw [Eo] at Lx
    obtain ⟨lx, Elx⟩ : ∃ kk, compL o a = kk := ⟨_, rfl⟩
    rw [Elx] at hX
    rw [Elx] at hN
    rw [Elx] at Lx
    obtain ⟨b, Eb⟩ : ∃ b, inB (z + 1) 0 100 = b := ⟨_, rfl⟩
    rw [Eb] at hY hN
    obtain ⟨ly, Ely⟩ : ∃ l, ifR b (powL a (z.toNat + 1)) = l := ⟨_, rfl⟩
    rw [Ely] at hY hN
    have HC := Lib.hid (And.intro hI (And.intro hS (And.intro hX hY)))
    have HN := Lib.hid hN
    clear hI hS hX hY hN hp R1 Eo Elx Eb Ely
    cases hz : (z == 100) with
    | true =>
      go_wp2_with fail
      refine (HC.out.1 _ ra).mono ?_
      rintro e w2 ⟨v, rfl, ho, b2⟩
      obtain ⟨oa, oc, rfl, ro_2⟩ := row_rd ho
      clear ho
      have ra_2 := ra.below b2
      have B2 := B1.trans (b2.mono B1.size)
      clear b2 B1 ra
      go_wp2_with fail
      refine (HC.out.2.1 _ ra_2).mono ?_
      rintro e w3 ⟨v, rfl, ho, b3⟩
      obtain ⟨wa, wc, rfl, rw_3⟩ := row_rd ho
      clear ho
      have ra_3 := ra_2.below b3
      have ro_3 := ro_2.below b3
      have B3 := B2.trans (b3.mono B2.size)
      clear b3 B2 ra_2 ro_2
      go_wp2_with fail
      refine (sameInts_refl oa wa oc wc _ _ Lo ro_3 rw_3).mono ?_
      rintro e w4 ⟨rfl, d4⟩
      have ra_4 := d4.rd ra_3
      have ro_4 := d4.rd ro_3
      have rw_4 := d4.rd rw_3
      have B4 := B3.trans (d4.below _)
      clear d4 B3 ra_3 ro_3 rw_3
      go_wp2_with fail
      refine (HC.out.2.2.1 oa aa oc ac _ ro_4 ra_4).mono ?_
      rintro e w5 ⟨v, rfl, ho, b5⟩
      obtain ⟨xa, xc, rfl, rx_5⟩ := row_rd ho
      clear ho
      have ra_5 := ra_4.below b5
      have ro_5 := ro_4.below b5
      have rw_5 := rw_4.below b5
      have B5 := B4.trans (b5.mono B4.size)
      clear b5 B4 ra_4 ro_4 rw_4
      go_wp2_with fail
      refine (HC.out.2.2.2 _ ra_5).mono ?_
      rintro e w6 ⟨v, rfl, ho, b6⟩
      obtain ⟨ya, yc, rfl, ry_6⟩ := row_rd ho
      clear ho
      have ra_6 := ra_5.below b6
      have ro_6 := ro_5.below b6
      have rw_6 := rw_5.below b6
      have rx_6 := rx_5.below b6
      have B6 := B5.trans (b6.mono B5.size)
      clear b6 B5 ra_5 ro_5 rw_5 rx_5
      go_wp2
      go_ret
      exact ⟨rfl, B6⟩
    | false =>
      obtain ⟨rfl, rfl⟩ := HN.out (by rw [hz]; simp)
      go_wp2_with fail
      refine (HC.out.1 _ ra).mono ?_
      rintro e w2 ⟨v, rfl, ho, b2⟩
      obtain ⟨oa, oc, rfl, ro_2⟩ := row_rd ho
      clear ho
      have ra_2 := ra.below b2
      have B2 := B1.trans (b2.mono B1.size)
      clear b2 B1 ra
      go_wp2_with fail
      refine (HC.out.2.1 _ ra_2).mono ?_
      rintro e w3 ⟨v, rfl, ho, b3⟩
      obtain ⟨wa, wc, rfl, rw_3⟩ := row_rd ho
      clear ho
      have ra_3 := ra_2.below b3
      have ro_3 := ro_2.below b3
      have B3 := B2.trans (b3.mono B2.size)
      clear b3 B2 ra_2 ro_2
      go_wp2_with fail
      refine (sameInts_refl oa wa oc wc _ _ Lo ro_3 rw_3).mono ?_
      rintro e w4 ⟨rfl, d4⟩
      have ra_4 := d4.rd ra_3
      have ro_4 := d4.rd ro_3
      have rw_4 := d4.rd rw_3
      have B4 := B3.trans (d4.below _)
      clear d4 B3 ra_3 ro_3 rw_3
      go_wp2_with fail
      refine (HC.out.2.2.1 oa aa oc ac _ ro_4 ra_4).mono ?_
      rintro e w5 ⟨v, rfl, ho, b5⟩
      obtain ⟨xa, xc, rfl, rx_5⟩ := row_rd ho
      clear ho
      have ra_5 := ra_4.below b5
      have ro_5 := ro_4.below b5
      have rw_5 := rw_4.below b5
      have B5 := B4.trans (b5.mono B4.size)
      clear b5 B4 ra_4 ro_4 rw_4
      go_wp2_with fail
      refine (HC.out.2.2.2 _ ra_5).mono ?_
      rintro e w6 ⟨v, rfl, ho, b6⟩
      obtain ⟨ya, yc, rfl, ry_6⟩ := row_rd ho
      clear ho
      have ra_6 := ra_5.below b6
      have ro_6 := ro_5.below b6
      have rw_6 := rw_5.below b6
      have rx_6 := rx_5.below b6
      have B6 := B5.trans (b6.mono B5.size)
      clear b6 B5 ra_5 ro_5 rw_5 rx_5
      go_wp2_with fail
      refine (sameInts_refl xa ya xc yc _ _ Lx rx_6 ry_6).mono ?_
      rintro e w7 ⟨rfl, d7⟩
      have ra_7 := d7.rd ra_6
      have ro_7 := d7.rd ro_6
      have rw_7 := d7.rd rw_6
      have rx_7 := d7.rd rx_6
      have ry_7 := d7.rd ry_6
      have B7 := B6.trans (d7.below _)
      clear d7 B6 ra_6 ro_6 rw_6 rx_6 ry_6
      go_wp2
      go_ret
      exact ⟨rfl, B7⟩
end Go.Proofs.Ytpbkgdohfnjjpab
