/-
  The walk of FnEqu, out of the contracts of the draw and of the functions that it calls; for whatever bytes.
-/
import Derived.Test.YtebkeebgjjmdbaaGreatDoorKG
namespace Go.Proofs.YtebkeebgjjmdbaaGreatDoor
open Go.RowKit

theorem fnEqu_long (ao : Option Addr) (cap n : Nat) (w : World) (hm : n ≤ maxLen) (hl : ¬ n ≤ 1048576) :
    Calls Tryz.prog 3 #[.slice ao n cap] w fun e w' => e = .returned (.bool true) ∧ Below w.heap.size w w' := by
  unfold maxLen at hm
  go_enter Tryz.func3, Tryz.ntmps3
  go_wp2
  go_ret
  exact ⟨rfl, Below.refl _ _⟩

set_option maxHeartbeats 8000000 in
theorem fnEqu_walk (ao : Option Addr) (c : Nat) (bs : List Nat) (w : World) (hl : bs.length ≤ 1048576) (hb : RdB w ao bs) (hc : bs.length ≤ c) (hbA : bs ≠ [] → ∀ a, ao = some a → a.block < w.heap.size) (HG : RowKit.Hid (∀ wr : World, Below w.heap.size w wr → GlW wr)) :
    Calls Tryz.prog 3 #[.slice ao bs.length c] w fun e w' => e = .returned (.bool true) ∧ Below w.heap.size w w' := by
  have HD := Lib.hid (drawEquIn_any ao c bs w hb hc hbA)
  clear hb hbA
  go_enter Tryz.func3, Tryz.ntmps3
  go_wp2_with fail
  refine HD.out.mono ?_
  rintro e w1 ⟨v, a, rfl, hrl, ho1, B1⟩
  obtain ⟨aa, ac, rfl, ra⟩ := row_rd ho1
  have hl1 : a.length ≤ 1048576 := by omega
  clear ho1 HD
  cases hp : equB a with
  | false =>
    have hI := (fun w h => implEquIn_any aa ac a w hl1 h)
    have hS := (fun w h => specEquIn_any aa ac a w hl1 h)
    rw [hp] at hI hS
    have HC := Lib.hid (And.intro hI hS)
    clear hI hS hp
    go_wp2_with fail
    refine (HC.out.1 _ ra).mono ?_
    rintro e w2 ⟨rfl, b2⟩
    have B2 := B1.trans (b2.mono B1.size)
    have ra2 := ra.below b2
    clear b2 B1 ra
    go_wp2_with fail
    refine (HC.out.2 _ ra2).mono ?_
    rintro e w3 ⟨rfl, b3⟩
    have B3 := B2.trans (b3.mono B2.size)
    clear b3 B2 ra2
    go_wp2
    go_ret
    exact ⟨rfl, B3⟩
  | true =>
    have E1 := (equ_iff a).1 hp
    have hI := (fun w h => implEquIn_any aa ac a w hl1 h)
    have hS := (fun w h => specEquIn_any aa ac a w hl1 h)
    rw [hp] at hI hS
    have K0 := fun ao ca w h => gClasses E1 ao ca w h
    have K1 := fun ao ca wr h hb => gEquOf E1 ao ca wr (show GlW wr from HG.out wr hb) h
    have K2 := fun ao ca w h => gKernel E1 ao ca w h
    have Ll : (clsL a).length ≤ 1048576 := Nat.le_trans (clsTo_le _ _) hl1
    obtain ⟨ll, El⟩ : ∃ l, clsL a = l := ⟨_, rfl⟩
    try rw [El] at hI
    try rw [El] at hS
    try rw [El] at K0
    try rw [El] at K1
    try rw [El] at K2
    try rw [El] at Ll
    have HhI := Lib.hid hI
    have HhS := Lib.hid hS
    have HK0 := Lib.hid K0
    have HK1 := Lib.hid K1
    have HK2 := Lib.hid K2
    clear hI hS K0 K1 K2 hp E1 El
    go_wp2_with fail
    refine (HhI.out _ ra).mono ?_
    rintro e w2 ⟨rfl, b2⟩
    have B2 := B1.trans (b2.mono B1.size)
    have ra_2 := ra.below b2
    clear b2 B1 ra
    go_wp2_with fail
    refine (HhS.out _ ra_2).mono ?_
    rintro e w3 ⟨rfl, b3⟩
    have B3 := B2.trans (b3.mono B2.size)
    have ra_3 := ra_2.below b3
    clear b3 B2 ra_2
    go_wp2_with fail
    refine (HK0.out aa ac _ ra_3).mono ?_
    rintro e w4 ⟨v, rfl, ho, b4⟩
    obtain ⟨la, lc, rfl, rl_4⟩ := row_rd ho
    have B4 := B3.trans (b4.mono B3.size)
    have ra_4 := ra_3.below b4
    clear ho b4 B3 ra_3
    go_wp2_with fail
    refine (HK1.out la lc _ rl_4 B4).mono ?_
    rintro e w5 ⟨v, rfl, ho, b5⟩
    obtain ⟨xa, xc, rfl, rx_5⟩ := row_rd ho
    have B5 := B4.trans (b5.mono B4.size)
    have ra_5 := ra_4.below b5
    have rl_5 := rl_4.below b5
    clear ho b5 B4 ra_4 rl_4
    go_wp2_with fail
    refine (HK2.out aa ac _ ra_5).mono ?_
    rintro e w6 ⟨v, rfl, ho, b6⟩
    obtain ⟨ka, kc, rfl, rk_6⟩ := row_rd ho
    have B6 := B5.trans (b6.mono B5.size)
    have ra_6 := ra_5.below b6
    have rl_6 := rl_5.below b6
    have rx_6 := rx_5.below b6
    clear ho b6 B5 ra_5 rl_5 rx_5
    go_wp2_with fail
    refine (sameInts_refl xa aa xc ac _ _ hl1 rx_6 ra_6).mono ?_
    rintro e w7 ⟨rfl, d7⟩
    have B7 := B6.trans (d7.below _)
    have ra_7 := d7.rd ra_6
    have rl_7 := d7.rd rl_6
    have rx_7 := d7.rd rx_6
    have rk_7 := d7.rd rk_6
    clear d7 B6 ra_6 rl_6 rx_6 rk_6
    go_wp2_with fail
    refine (sameInts_refl ka aa kc ac _ _ hl1 rk_7 ra_7).mono ?_
    rintro e w8 ⟨rfl, d8⟩
    have B8 := B7.trans (d8.below _)
    have ra_8 := d8.rd ra_7
    have rl_8 := d8.rd rl_7
    have rx_8 := d8.rd rx_7
    have rk_8 := d8.rd rk_7
    clear d8 B7 ra_7 rl_7 rx_7 rk_7
    go_wp2
    go_ret
    exact ⟨rfl, B8⟩
end Go.Proofs.YtebkeebgjjmdbaaGreatDoor
