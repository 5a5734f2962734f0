/-
  The walk of FnKindLeast, out of the contracts of the draw and of the functions that it calls; for whatever bytes.
-/
import Derived.Test.YtnmgoeklcmoalaaRK
import Derived.Test.YtnmgoeklcmoalaaRM
import Derived.Test.YtnmgoeklcmoalaaDD
namespace Go.Proofs.Ytnmgoeklcmoalaa
open Go.RowKit

theorem fnKindLeast_long (ao : Option Addr) (cap n : Nat) (w : World) (hm : n ≤ maxLen) (hl : ¬ n ≤ 1048576) :
    Calls Try.prog 9 #[.slice ao n cap] w fun e w' => e = .returned (.bool true) ∧ Below w.heap.size w w' := by
  unfold maxLen at hm
  go_enter Try.func9, Try.ntmps9
  go_wp2
  go_ret
  exact ⟨rfl, Below.refl _ _⟩

set_option maxHeartbeats 8000000 in
theorem fnKindLeast_walk (ao : Option Addr) (c : Nat) (bs : List Nat) (w : World) (hl : bs.length ≤ 1048576) (hb : RdB w ao bs) (hc : bs.length ≤ c) (hbA : bs ≠ [] → ∀ a, ao = some a → a.block < w.heap.size) :
    Calls Try.prog 9 #[.slice ao bs.length c] w fun e w' => e = .returned (.bool true) ∧ Below w.heap.size w w' := by
  have HD := Lib.hid (drawKindLeast_any ao c bs w hb hc hbA)
  clear hb hbA
  go_enter Try.func9, Try.ntmps9
  go_wp2_with fail
  refine HD.out.mono ?_
  rintro e w1 ⟨v, a, st, rfl, hrl, hst, ho1, B1⟩
  obtain ⟨aa, ac, rfl, ra⟩ := row_rd ho1
  have hl1 : a.length ≤ 1048576 := by omega
  have hl2 : st.size ≤ 1048576 := by omega
  clear ho1 HD
  cases hp : leastB a st with
  | false =>
    have hI := fun w h => implKindLeast_any aa ac a st w hl1 hl2 h
    have hS := fun w h => kindLeast_any aa ac a st w hl1 hl2 h
    rw [hp] at hI hS
    have HC := Lib.hid (And.intro hI hS)
    clear hI hS hp
    go_wp2_with fail
    refine (HC.out.1 _ ra).mono ?_
    rintro e w2 ⟨v, rfl, ho, b2⟩
    obtain ⟨oa, oc, rfl, ro_2⟩ := row_rd (xs := ifR false (leastL a st)) ho
    clear ho
    have ra_2 := ra.below b2
    have B2 := B1.trans (b2.mono B1.size)
    clear b2 B1 ra
    go_wp2_with fail
    refine (HC.out.2 _ ra_2).mono ?_
    rintro e w3 ⟨v, rfl, ho, b3⟩
    obtain ⟨wa, wc, rfl, rw_3⟩ := row_rd (xs := ifR false (leastL a st)) ho
    clear ho
    have ra_3 := ra_2.below b3
    have ro_3 := ro_2.below b3
    have B3 := B2.trans (b3.mono B2.size)
    clear b3 B2 ra_2 ro_2
    go_wp2_with fail
    refine (sameInts_refl oa wa oc wc _ _ (by simp [ifR]) ro_3 rw_3).mono ?_
    rintro e w4 ⟨rfl, d4⟩
    have ra_4 := d4.rd ra_3
    have ro_4 := d4.rd ro_3
    have rw_4 := d4.rd rw_3
    have B4 := B3.trans (d4.below _)
    clear d4 B3 ra_3 ro_3 rw_3
    go_wp2_with fail
    refine (sameInts_refl oa wa oc wc _ _ (by simp [ifR]) ro_4 rw_4).mono ?_
    rintro e w5 ⟨rfl, d5⟩
    have ra_5 := d5.rd ra_4
    have ro_5 := d5.rd ro_4
    have rw_5 := d5.rd rw_4
    have B5 := B4.trans (d5.below _)
    clear d5 B4 ra_4 ro_4 rw_4
    go_wp2
    go_ret
    exact ⟨rfl, B5⟩
  | true =>
    have hI := fun w h => implKindLeast_any aa ac a st w hl1 hl2 h
    have hS := fun w h => kindLeast_any aa ac a st w hl1 hl2 h
    rw [hp] at hI hS
    rw [show ifR true (leastL a st) = leastL a st from rfl] at hI hS
    have R1 : Rl a.length a := Rl.of (by unfold leastB at hp; rw [Bool.and_eq_true] at hp; exact hp.1)
    have hX := fun ao ca w h => vLeast hp hl2 ao ca w h
    have hK := fun ao ca w h => vLeastIn hp hl2 ao ca w h
    have hW := fun ao ca w h h2 => cBelow R1 (least_rl R1 st) ((below_iff R1 (least_rl R1 st)).2 (least_sub R1 st)) aa ao ac ca w h h2
    have Lo : (leastL a st).length ≤ 1048576 := rl_short (least_rl R1 st)
    obtain ⟨lo, Elo⟩ : ∃ kk, leastL a st = kk := ⟨_, rfl⟩
    rw [Elo] at hI
    rw [Elo] at hS
    rw [Elo] at hX
    rw [Elo] at hK
    rw [Elo] at hW
    rw [Elo] at Lo
    have HC := Lib.hid (And.intro hI (And.intro hS (And.intro hX (And.intro hK hW))))
    clear hI hS hX hK hW hp R1 Elo
    go_wp2_with fail
    refine (HC.out.1 _ ra).mono ?_
    rintro e w2 ⟨v, rfl, ho, b2⟩
    obtain ⟨oa, oc, rfl, ro_2⟩ := row_rd ho
    clear ho
    have ra_2 := ra.below b2
    have B2 := B1.trans (b2.mono B1.size)
    clear b2 B1 ra
    go_wp2_with fail
    refine (HC.out.2.1 _ ra_2).mono ?_
    rintro e w3 ⟨v, rfl, ho, b3⟩
    obtain ⟨wa, wc, rfl, rw_3⟩ := row_rd ho
    clear ho
    have ra_3 := ra_2.below b3
    have ro_3 := ro_2.below b3
    have B3 := B2.trans (b3.mono B2.size)
    clear b3 B2 ra_2 ro_2
    go_wp2_with fail
    refine (sameInts_refl oa wa oc wc _ _ Lo ro_3 rw_3).mono ?_
    rintro e w4 ⟨rfl, d4⟩
    have ra_4 := d4.rd ra_3
    have ro_4 := d4.rd ro_3
    have rw_4 := d4.rd rw_3
    have B4 := B3.trans (d4.below _)
    clear d4 B3 ra_3 ro_3 rw_3
    go_wp2_with fail
    refine (HC.out.2.2.1 oa oc _ ro_4).mono ?_
    rintro e w5 ⟨v, rfl, ho, b5⟩
    obtain ⟨xa, xc, rfl, rx_5⟩ := row_rd ho
    clear ho
    have ra_5 := ra_4.below b5
    have ro_5 := ro_4.below b5
    have rw_5 := rw_4.below b5
    have B5 := B4.trans (b5.mono B4.size)
    clear b5 B4 ra_4 ro_4 rw_4
    go_wp2_with fail
    refine (sameInts_refl xa oa xc oc _ _ Lo rx_5 ro_5).mono ?_
    rintro e w6 ⟨rfl, d6⟩
    have ra_6 := d6.rd ra_5
    have ro_6 := d6.rd ro_5
    have rw_6 := d6.rd rw_5
    have rx_6 := d6.rd rx_5
    have B6 := B5.trans (d6.below _)
    clear d6 B5 ra_5 ro_5 rw_5 rx_5
    go_wp2_with fail
    refine (HC.out.2.2.2.1 oa oc _ ro_6).mono ?_
    rintro e w7 ⟨rfl, b7⟩
    have ra_7 := ra_6.below b7
    have ro_7 := ro_6.below b7
    have rw_7 := rw_6.below b7
    have rx_7 := rx_6.below b7
    have B7 := B6.trans (b7.mono B6.size)
    clear b7 B6 ra_6 ro_6 rw_6 rx_6
    go_wp2_with fail
    refine (HC.out.2.2.2.2 oa oc _ ra_7 ro_7).mono ?_
    rintro e w8 ⟨rfl, b8⟩
    have ra_8 := ra_7.below b8
    have ro_8 := ro_7.below b8
    have rw_8 := rw_7.below b8
    have rx_8 := rx_7.below b8
    have B8 := B7.trans (b8.mono B7.size)
    clear b8 B7 ra_7 ro_7 rw_7 rx_7
    go_wp2
    go_ret
    exact ⟨rfl, B8⟩
end Go.Proofs.Ytnmgoeklcmoalaa
