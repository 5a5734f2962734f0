/-
  The walk of FnEquOf, out of the contracts of the draw and of the functions that it calls; for whatever bytes.
-/
import Derived.Test.YtebkeebgjjmdbaaGreatDoorKG
namespace Go.Proofs.YtebkeebgjjmdbaaGreatDoor
open Go.RowKit

theorem fnEquOf_long (ao : Option Addr) (cap n : Nat) (w : World) (hm : n ≤ maxLen) (hl : ¬ n ≤ 1048576) :
    Calls Tryz.prog 4 #[.slice ao n cap] w fun e w' => e = .returned (.bool true) ∧ Below w.heap.size w w' := by
  unfold maxLen at hm
  go_enter Tryz.func4, Tryz.ntmps4
  go_wp2
  go_ret
  exact ⟨rfl, Below.refl _ _⟩

set_option maxHeartbeats 8000000 in
theorem fnEquOf_walk (ao : Option Addr) (c : Nat) (bs : List Nat) (w : World) (hl : bs.length ≤ 1048576) (hb : RdB w ao bs) (hc : bs.length ≤ c) (hbA : bs ≠ [] → ∀ a, ao = some a → a.block < w.heap.size) (HG : RowKit.Hid (∀ wr : World, Below w.heap.size w wr → GlW wr)) :
    Calls Tryz.prog 4 #[.slice ao bs.length c] w fun e w' => e = .returned (.bool true) ∧ Below w.heap.size w w' := by
  have HD := Lib.hid (drawEquOf_any ao c bs w hb hc hbA)
  clear hb hbA
  go_enter Tryz.func4, Tryz.ntmps4
  go_wp2_with fail
  refine HD.out.mono ?_
  rintro e w1 ⟨z, v, a, rfl, hrl, ho1, B1⟩
  obtain ⟨aa, ac, rfl, ra⟩ := row_rd ho1
  have hl1 : a.length ≤ 1048576 := by omega
  clear ho1 HD
  cases hp : eoB z a with
  | false =>
    have hI := fun wr h hb => implEquOf_any z aa ac a wr hl1 h (show GlW wr from HG.out wr hb)
    have hS := fun w h => specEquOf_any z aa ac a w hl1 h
    rw [hp] at hI hS
    have Lo : (eoR z a).length ≤ 1048576 := by
      have e : eoRes z a = none := by
        have h := hp
        unfold eoB at h
        cases he : eoRes z a with
        | none => rfl
        | some r => rw [he] at h; cases h
      unfold eoR
      rw [e]
      exact Nat.zero_le _
    obtain ⟨lo, Elo⟩ : ∃ kk, eoR z a = kk := ⟨_, rfl⟩
    rw [Elo] at hI hS Lo
    have HC := Lib.hid (And.intro hI hS)
    clear hI hS hp Elo
    go_wp2_with fail
    refine (HC.out.1 _ ra B1).mono ?_
    rintro e w2 ⟨v, rfl, ho, b2⟩
    obtain ⟨oa, oc, rfl, ro_2⟩ := row_rd ho
    clear ho
    have ra_2 := ra.below b2
    have B2 := B1.trans (b2.mono B1.size)
    clear b2 B1 ra
    go_wp2_with fail
    refine (HC.out.2 _ ra_2).mono ?_
    rintro e w3 ⟨v, rfl, ho, b3⟩
    obtain ⟨wa, wc, rfl, rw_3⟩ := row_rd ho
    clear ho
    have ra_3 := ra_2.below b3
    have ro_3 := ro_2.below b3
    have B3 := B2.trans (b3.mono B2.size)
    clear b3 B2 ra_2 ro_2
    go_wp2_with fail
    refine (sameInts_refl oa wa oc wc _ _ Lo ro_3 rw_3).mono ?_
    rintro e w4 ⟨rfl, d4⟩
    have ra_4 := d4.rd ra_3
    have ro_4 := d4.rd ro_3
    have rw_4 := d4.rd rw_3
    have B4 := B3.trans (d4.below _)
    clear d4 B3 ra_3 ro_3 rw_3
    go_wp2_with fail
    refine (sameInts_refl oa wa oc wc _ _ Lo ro_4 rw_4).mono ?_
    rintro e w5 ⟨rfl, d5⟩
    have ra_5 := d5.rd ra_4
    have ro_5 := d5.rd ro_4
    have rw_5 := d5.rd rw_4
    have B5 := B4.trans (d5.below _)
    clear d5 B4 ra_4 ro_4 rw_4
    go_wp2
    go_ret
    exact ⟨rfl, B5⟩
  | true =>
    have hI := fun wr h hb => implEquOf_any z aa ac a wr hl1 h (show GlW wr from HG.out wr hb)
    have hS := fun w h => specEquOf_any z aa ac a w hl1 h
    rw [hp] at hI hS
    obtain ⟨q1, q2, q3⟩ := eo_equ hp
    have Lo : (eoR z a).length ≤ 1048576 := by omega
    have hK := fun ao ca w h => gClasses ((equ_iff _).1 q1) ao ca w h
    have hE := fun ao ca w h => gEquIn q1 q2 ao ca w h
    rw [q3] at hK
    obtain ⟨lo, Elo⟩ : ∃ kk, eoR z a = kk := ⟨_, rfl⟩
    rw [Elo] at hI hS Lo hK hE
    have HC := Lib.hid (And.intro hI (And.intro hS (And.intro hK hE)))
    clear hI hS hp Elo hK hE q1 q2 q3
    go_wp2_with fail
    refine (HC.out.1 _ ra B1).mono ?_
    rintro e w2 ⟨v, rfl, ho, b2⟩
    obtain ⟨oa, oc, rfl, ro_2⟩ := row_rd ho
    clear ho
    have ra_2 := ra.below b2
    have B2 := B1.trans (b2.mono B1.size)
    clear b2 B1 ra
    go_wp2_with fail
    refine (HC.out.2.1 _ ra_2).mono ?_
    rintro e w3 ⟨v, rfl, ho, b3⟩
    obtain ⟨wa, wc, rfl, rw_3⟩ := row_rd ho
    clear ho
    have ra_3 := ra_2.below b3
    have ro_3 := ro_2.below b3
    have B3 := B2.trans (b3.mono B2.size)
    clear b3 B2 ra_2 ro_2
    go_wp2_with fail
    refine (sameInts_refl oa wa oc wc _ _ Lo ro_3 rw_3).mono ?_
    rintro e w4 ⟨rfl, d4⟩
    have ra_4 := d4.rd ra_3
    have ro_4 := d4.rd ro_3
    have rw_4 := d4.rd rw_3
    have B4 := B3.trans (d4.below _)
    clear d4 B3 ra_3 ro_3 rw_3
    go_wp2_with fail
    refine (HC.out.2.2.1 oa oc _ ro_4).mono ?_
    rintro e w5 ⟨v, rfl, ho, b5⟩
    obtain ⟨xa, xc, rfl, rx_5⟩ := row_rd ho
    clear ho
    have ra_5 := ra_4.below b5
    have ro_5 := ro_4.below b5
    have rw_5 := rw_4.below b5
    have B5 := B4.trans (b5.mono B4.size)
    clear b5 B4 ra_4 ro_4 rw_4
    go_wp2_with fail
    refine (HC.out.2.2.2 oa oc _ ro_5).mono ?_
    rintro e w6 ⟨rfl, b6⟩
    have ra_6 := ra_5.below b6
    have ro_6 := ro_5.below b6
    have rw_6 := rw_5.below b6
    have rx_6 := rx_5.below b6
    have B6 := B5.trans (b6.mono B5.size)
    clear b6 B5 ra_5 ro_5 rw_5 rx_5
    go_wp2_with fail
    refine (sameInts_refl xa aa xc ac _ _ hl1 rx_6 ra_6).mono ?_
    rintro e w7 ⟨rfl, d7⟩
    have ra_7 := d7.rd ra_6
    have ro_7 := d7.rd ro_6
    have rw_7 := d7.rd rw_6
    have rx_7 := d7.rd rx_6
    have B7 := B6.trans (d7.below _)
    clear d7 B6 ra_6 ro_6 rw_6 rx_6
    go_wp2
    go_ret
    exact ⟨rfl, B7⟩
end Go.Proofs.YtebkeebgjjmdbaaGreatDoor
