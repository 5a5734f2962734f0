/-
  The walk of FnRegularMost, out of the contracts of the draw and of the functions that it calls; for whatever bytes.
-/
import Derived.Test.YtfcpfhffkfbgdaaTE
namespace Go.Proofs.Ytfcpfhffkfbgdaa
open Go.RowKit

theorem fnRegularMost_long (ao : Option Addr) (cap n : Nat) (w : World) (hm : n ≤ maxLen) (hl : ¬ n ≤ 1048576) :
    Calls Try.prog 10 #[.slice ao n cap] w fun e w' => e = .returned (.bool true) ∧ Below w.heap.size w w' := by
  unfold maxLen at hm
  go_enter Try.func10, Try.ntmps10
  go_wp2
  go_ret
  exact ⟨rfl, Below.refl _ _⟩

set_option maxHeartbeats 8000000 in
theorem fnRegularMost_walk (ao : Option Addr) (c : Nat) (bs : List Nat) (w : World) (hl : bs.length ≤ 1048576) (hb : RdB w ao bs) (hc : bs.length ≤ c) (hbA : bs ≠ [] → ∀ a, ao = some a → a.block < w.heap.size) :
    Calls Try.prog 10 #[.slice ao bs.length c] w fun e w' => e = .returned (.bool true) ∧ Below w.heap.size w w' := by
  have HD := Lib.hid (drawRegularMost_any ao c bs w hb hc hbA)
  clear hb hbA
  go_enter Try.func10, Try.ntmps10
  go_wp2_with fail
  refine HD.out.mono ?_
  rintro e w1 ⟨v, a, rfl, hrl, ho1, B1⟩
  obtain ⟨aa, ac, rfl, ra⟩ := row_rd ho1
  have hl1 : a.length ≤ 1048576 := by omega
  clear ho1 HD
  cases hp : relIn a with
  | false =>
    have hI := fun w h => implRegularMost_any aa ac a w hl1 h
    have hS := fun w h => specRegularMost_any aa ac a w hl1 h
    rw [hp] at hI hS
    have HC := Lib.hid (And.intro hI hS)
    clear hI hS hp
    go_wp2_with fail
    refine (HC.out.1 _ ra).mono ?_
    rintro e w2 ⟨v, rfl, ho, b2⟩
    obtain ⟨oa, oc, rfl, ro_2⟩ := row_rd (xs := ifR false (mostX a)) ho
    clear ho
    have ra_2 := ra.below b2
    have B2 := B1.trans (b2.mono B1.size)
    clear b2 B1 ra
    go_wp2_with fail
    refine (HC.out.2 _ ra_2).mono ?_
    rintro e w3 ⟨v, rfl, ho, b3⟩
    obtain ⟨wa, wc, rfl, rw_3⟩ := row_rd (xs := ifR false (mostX a)) ho
    clear ho
    have ra_3 := ra_2.below b3
    have ro_3 := ro_2.below b3
    have B3 := B2.trans (b3.mono B2.size)
    clear b3 B2 ra_2 ro_2
    go_wp2_with fail
    refine (sameInts_refl oa wa oc wc _ _ (by simp [ifR]) ro_3 rw_3).mono ?_
    rintro e w4 ⟨rfl, d4⟩
    have ra_4 := d4.rd ra_3
    have ro_4 := d4.rd ro_3
    have rw_4 := d4.rd rw_3
    have B4 := B3.trans (d4.below _)
    clear d4 B3 ra_3 ro_3 rw_3
    go_wp2_with fail
    refine (sameInts_refl oa wa oc wc _ _ (by simp [ifR]) ro_4 rw_4).mono ?_
    rintro e w5 ⟨rfl, d5⟩
    have ra_5 := d5.rd ra_4
    have ro_5 := d5.rd ro_4
    have rw_5 := d5.rd rw_4
    have B5 := B4.trans (d5.below _)
    clear d5 B4 ra_4 ro_4 rw_4
    go_wp2
    go_ret
    exact ⟨rfl, B5⟩
  | true =>
    have hI := fun w h => implRegularMost_any aa ac a w hl1 h
    have hS := fun w h => specRegularMost_any aa ac a w hl1 h
    rw [hp] at hI hS
    rw [show ifR true (mostX a) = mostX a from rfl] at hI hS
    have R1 := Rl.of hp
    have M := R1.mostX
    have Y := (R1.comp M).comp R1
    have hX := fun bo cb w h h2 => cComp R1 M aa bo ac cb w h h2
    have hY := fun bo cb w h h2 => cComp (R1.comp M) R1 bo aa cb ac w h h2
    have hB2 := fun bo cb w h h2 => cBelow Y R1 (most_below R1) bo aa cb ac w h h2
    have hE := fun bo cb w h h2 => sameInts_any bo aa cb ac (compL (compL a (mostX a)) a) a w (rl_short Y) hl1 h h2
    rw [show decide (compL (compL a (mostX a)) a = a) = regB a from rfl] at hE
    have hR := fun w h => cRegularIn R1 (regB a) rfl aa ac w h
    obtain ⟨s, Es⟩ : ∃ s, regB a = s := ⟨_, rfl⟩
    rw [Es] at hE hR
    have Lo : (mostX a).length ≤ 1048576 := rl_short M
    obtain ⟨lo, Elo⟩ : ∃ kk, mostX a = kk := ⟨_, rfl⟩
    rw [Elo] at hI
    rw [Elo] at hS
    rw [Elo] at hX
    rw [Elo] at hY
    rw [Elo] at hB2
    rw [Elo] at hE
    rw [Elo] at Lo
    obtain ⟨lx, Elx⟩ : ∃ kk, compL a lo = kk := ⟨_, rfl⟩
    rw [Elx] at hX
    rw [Elx] at hY
    rw [Elx] at hB2
    rw [Elx] at hE
    obtain ⟨ly, Ely⟩ : ∃ kk, compL lx a = kk := ⟨_, rfl⟩
    rw [Ely] at hY
    rw [Ely] at hB2
    rw [Ely] at hE
    have HC := Lib.hid (And.intro hI (And.intro hS (And.intro hX (And.intro hY (And.intro hB2 (And.intro hE hR))))))
    clear hI hS hX hY hB2 hE hR hp R1 M Y Elo Elx Ely Es
    go_wp2_with fail
    refine (HC.out.1 _ ra).mono ?_
    rintro e w2 ⟨v, rfl, ho, b2⟩
    obtain ⟨oa, oc, rfl, ro_2⟩ := row_rd ho
    clear ho
    have ra_2 := ra.below b2
    have B2 := B1.trans (b2.mono B1.size)
    clear b2 B1 ra
    go_wp2_with fail
    refine (HC.out.2.1 _ ra_2).mono ?_
    rintro e w3 ⟨v, rfl, ho, b3⟩
    obtain ⟨wa, wc, rfl, rw_3⟩ := row_rd ho
    clear ho
    have ra_3 := ra_2.below b3
    have ro_3 := ro_2.below b3
    have B3 := B2.trans (b3.mono B2.size)
    clear b3 B2 ra_2 ro_2
    go_wp2_with fail
    refine (sameInts_refl oa wa oc wc _ _ Lo ro_3 rw_3).mono ?_
    rintro e w4 ⟨rfl, d4⟩
    have ra_4 := d4.rd ra_3
    have ro_4 := d4.rd ro_3
    have rw_4 := d4.rd rw_3
    have B4 := B3.trans (d4.below _)
    clear d4 B3 ra_3 ro_3 rw_3
    go_wp2_with fail
    refine (HC.out.2.2.1 oa oc _ ra_4 ro_4).mono ?_
    rintro e w5 ⟨v, rfl, ho, b5⟩
    obtain ⟨xa, xc, rfl, rx_5⟩ := row_rd ho
    clear ho
    have ra_5 := ra_4.below b5
    have ro_5 := ro_4.below b5
    have rw_5 := rw_4.below b5
    have B5 := B4.trans (b5.mono B4.size)
    clear b5 B4 ra_4 ro_4 rw_4
    go_wp2_with fail
    refine (HC.out.2.2.2.1 xa xc _ rx_5 ra_5).mono ?_
    rintro e w6 ⟨v, rfl, ho, b6⟩
    obtain ⟨ya, yc, rfl, ry_6⟩ := row_rd ho
    clear ho
    have ra_6 := ra_5.below b6
    have ro_6 := ro_5.below b6
    have rw_6 := rw_5.below b6
    have rx_6 := rx_5.below b6
    have B6 := B5.trans (b6.mono B5.size)
    clear b6 B5 ra_5 ro_5 rw_5 rx_5
    go_wp2_with fail
    refine (HC.out.2.2.2.2.1 ya yc _ ry_6 ra_6).mono ?_
    rintro e w7 ⟨rfl, b7⟩
    have ra_7 := ra_6.below b7
    have ro_7 := ro_6.below b7
    have rw_7 := rw_6.below b7
    have rx_7 := rx_6.below b7
    have ry_7 := ry_6.below b7
    have B7 := B6.trans (b7.mono B6.size)
    clear b7 B6 ra_6 ro_6 rw_6 rx_6 ry_6
    go_wp2_with fail
    refine (HC.out.2.2.2.2.2.1 ya yc _ ry_7 ra_7).mono ?_
    rintro e w8 ⟨rfl, d8⟩
    have ra_8 := d8.rd ra_7
    have ro_8 := d8.rd ro_7
    have rw_8 := d8.rd rw_7
    have rx_8 := d8.rd rx_7
    have ry_8 := d8.rd ry_7
    have B8 := B7.trans (d8.below _)
    clear d8 B7 ra_7 ro_7 rw_7 rx_7 ry_7
    go_wp2_with fail
    refine (HC.out.2.2.2.2.2.2 _ ra_8).mono ?_
    rintro e w9 ⟨rfl, b9⟩
    have ra_9 := ra_8.below b9
    have ro_9 := ro_8.below b9
    have rw_9 := rw_8.below b9
    have rx_9 := rx_8.below b9
    have ry_9 := ry_8.below b9
    have B9 := B8.trans (b9.mono B8.size)
    clear b9 B8 ra_8 ro_8 rw_8 rx_8 ry_8
    have es : (s == s) = true := by simp
    go_wp2
    go_ret
    exact ⟨rfl, B9⟩
end Go.Proofs.Ytfcpfhffkfbgdaa
