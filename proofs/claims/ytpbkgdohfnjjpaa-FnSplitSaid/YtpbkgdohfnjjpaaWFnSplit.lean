/-
  The walk of FnSplit, out of the contracts of the draw and of the functions that it calls; for whatever bytes.
-/
import Derived.Test.YtpbkgdohfnjjpaaKC
import Derived.Test.YtpbkgdohfnjjpaaKD
namespace Go.Proofs.Ytpbkgdohfnjjpaa
open Go.RowKit

theorem fnSplit_long (ao : Option Addr) (cap n : Nat) (w : World) (hm : n ≤ maxLen) (hl : ¬ n ≤ 1048576) :
    Calls Try.prog 7 #[.slice ao n cap] w fun e w' => e = .returned (.bool true) ∧ Below w.heap.size w w' := by
  unfold maxLen at hm
  go_enter Try.func7, Try.ntmps7
  go_wp2
  go_ret
  exact ⟨rfl, Below.refl _ _⟩

set_option maxHeartbeats 8000000 in
theorem fnSplit_walk (ao : Option Addr) (c : Nat) (bs : List Nat) (w : World) (hl : bs.length ≤ 1048576) (hb : RdB w ao bs) (hc : bs.length ≤ c) (hbA : bs ≠ [] → ∀ a, ao = some a → a.block < w.heap.size) :
    Calls Try.prog 7 #[.slice ao bs.length c] w fun e w' => e = .returned (.bool true) ∧ Below w.heap.size w w' := by
  have HD := Lib.hid (drawKindSplit_any ao c bs w hb hc hbA)
  clear hb hbA
  go_enter Try.func7, Try.ntmps7
  go_wp2_with fail
  refine HD.out.mono ?_
  rintro e w1 ⟨v, a, rfl, hrl, ho1, B1⟩
  obtain ⟨aa, ac, rfl, ra⟩ := row_rd ho1
  have hl1 : a.length ≤ 1048576 := by omega
  clear ho1 HD
  cases hp : relIn a with
  | false =>
    have hI := fun w h => implKindSplit_any aa ac a w hl1 h
    have hS := fun w h => specKindSplit_any aa ac a w hl1 h
    rw [hp] at hI hS
    rw [show ifR false (turnsL a) = [] from rfl, show ifR false (oneWayL a) = [] from rfl] at hI hS
    have HC := Lib.hid (And.intro hI hS)
    clear hI hS hp
    go_wp2_with fail
    refine (HC.out.1 _ ra).mono ?_
    rintro e w2 ⟨u, v, l0, t0, l1, t1, rfl, o0, o1, p0, p1, ap, b2⟩
    obtain ⟨xa, xc, rfl, rx_2⟩ := OwnR.rd o0
    obtain ⟨ya, yc, rfl, ry_2⟩ := OwnR.rd o1
    clear o0 o1 p0 p1 ap
    have ra_2 := ra.below b2
    have B2 := B1.trans (b2.mono B1.size)
    clear b2 B1 ra
    go_wp2_with fail
    refine (HC.out.2 _ ra_2).mono ?_
    rintro e w3 ⟨u, v, rfl, o0, o1, b3⟩
    obtain ⟨ua, uc, rfl, ru_3⟩ := OwnR.rd o0
    obtain ⟨va, vc, rfl, rv_3⟩ := OwnR.rd o1
    clear o0 o1
    have ra_3 := ra_2.below b3
    have rx_3 := rx_2.below b3
    have ry_3 := ry_2.below b3
    have B3 := B2.trans (b3.mono B2.size)
    clear b3 B2 ra_2 rx_2 ry_2
    go_wp2_with fail
    refine (sameInts_refl xa ua xc uc _ _ (by simp) rx_3 ru_3).mono ?_
    rintro e w4 ⟨rfl, d4⟩
    have ra_4 := d4.rd ra_3
    have rx_4 := d4.rd rx_3
    have ry_4 := d4.rd ry_3
    have ru_4 := d4.rd ru_3
    have rv_4 := d4.rd rv_3
    have B4 := B3.trans (d4.below _)
    clear d4 B3 ra_3 rx_3 ry_3 ru_3 rv_3
    go_wp2_with fail
    refine (sameInts_refl ya va yc vc _ _ (by simp) ry_4 rv_4).mono ?_
    rintro e w5 ⟨rfl, d5⟩
    have ra_5 := d5.rd ra_4
    have rx_5 := d5.rd rx_4
    have ry_5 := d5.rd ry_4
    have ru_5 := d5.rd ru_4
    have rv_5 := d5.rd rv_4
    have B5 := B4.trans (d5.below _)
    clear d5 B4 ra_4 rx_4 ry_4 ru_4 rv_4
    go_wp2_with fail
    refine (sameInts_refl xa ua xc uc _ _ (by simp) rx_5 ru_5).mono ?_
    rintro e w6 ⟨rfl, d6⟩
    have ra_6 := d6.rd ra_5
    have rx_6 := d6.rd rx_5
    have ry_6 := d6.rd ry_5
    have ru_6 := d6.rd ru_5
    have rv_6 := d6.rd rv_5
    have B6 := B5.trans (d6.below _)
    clear d6 B5 ra_5 rx_5 ry_5 ru_5 rv_5
    go_wp2_with fail
    refine (sameInts_refl ya va yc vc _ _ (by simp) ry_6 rv_6).mono ?_
    rintro e w7 ⟨rfl, d7⟩
    have ra_7 := d7.rd ra_6
    have rx_7 := d7.rd rx_6
    have ry_7 := d7.rd ry_6
    have ru_7 := d7.rd ru_6
    have rv_7 := d7.rd rv_6
    have B7 := B6.trans (d7.below _)
    clear d7 B6 ra_6 rx_6 ry_6 ru_6 rv_6
    go_wp2
    go_ret
    exact ⟨rfl, B7⟩
  | true =>
    have hI := fun w h => implKindSplit_any aa ac a w hl1 h
    have hS := fun w h => specKindSplit_any aa ac a w hl1 h
    rw [hp] at hI hS
    rw [show ifR true (turnsL a) = turnsL a from rfl, show ifR true (oneWayL a) = oneWayL a from rfl] at hI hS
    have R1 := Rl.of hp
    have hE := fun ao bo ca cb w h h2 => cEither R1.turns R1.oneWay ao bo ca cb w h h2
    have hM := fun w h => uMost_i R1 aa ac w h
    have hcd := split_either R1
    have hX := fun ao ca w h => uKindIn R1.turns ⟨#[105, 115]⟩ (by decide) true (split_is R1) ao ca w h
    have hY := fun ao ca w h => uKindIn R1.oneWay ⟨#[105, 97]⟩ (by decide) true (split_ia R1) ao ca w h
    have L0 : (turnsL a).length ≤ 1048576 := rl_short R1.turns
    have L1 : (oneWayL a).length ≤ 1048576 := rl_short R1.oneWay
    have LE : (eitherL (turnsL a) (oneWayL a)).length ≤ 1048576 := rl_short (R1.turns.either R1.oneWay)
    obtain ⟨lx, Ex⟩ : ∃ l, turnsL a = l := ⟨_, rfl⟩
    obtain ⟨ly, Ey⟩ : ∃ l, oneWayL a = l := ⟨_, rfl⟩
    obtain ⟨ld, Ed⟩ : ∃ l, offI a = l := ⟨_, rfl⟩
    rw [Ex, Ey] at hI hS hE hcd LE
    rw [Ed] at hM hcd
    rw [Ex] at hX L0
    rw [Ey] at hY L1
    obtain ⟨lc, Ec⟩ : ∃ l, eitherL lx ly = l := ⟨_, rfl⟩
    rw [Ec] at hE hcd LE
    have HC := Lib.hid (And.intro hI (And.intro hS hM))
    have HE := Lib.hid hE
    have HX := Lib.hid hX
    have HY := Lib.hid hY
    have HCD := Lib.hid hcd
    clear hI hS hM hE hX hY hcd hp R1 Ex Ey Ed Ec
    go_wp2_with fail
    refine (HC.out.1 _ ra).mono ?_
    rintro e w2 ⟨u, v, l0, t0, l1, t1, rfl, o0, o1, p0, p1, ap, b2⟩
    obtain ⟨xa, xc, rfl, rx_2⟩ := OwnR.rd o0
    obtain ⟨ya, yc, rfl, ry_2⟩ := OwnR.rd o1
    clear o0 o1 p0 p1 ap
    have ra_2 := ra.below b2
    have B2 := B1.trans (b2.mono B1.size)
    clear b2 B1 ra
    go_wp2_with fail
    refine (HC.out.2.1 _ ra_2).mono ?_
    rintro e w3 ⟨u, v, rfl, o0, o1, b3⟩
    obtain ⟨ua, uc, rfl, ru_3⟩ := OwnR.rd o0
    obtain ⟨va, vc, rfl, rv_3⟩ := OwnR.rd o1
    clear o0 o1
    have ra_3 := ra_2.below b3
    have rx_3 := rx_2.below b3
    have ry_3 := ry_2.below b3
    have B3 := B2.trans (b3.mono B2.size)
    clear b3 B2 ra_2 rx_2 ry_2
    go_wp2_with fail
    refine (sameInts_refl xa ua xc uc _ _ L0 rx_3 ru_3).mono ?_
    rintro e w4 ⟨rfl, d4⟩
    have ra_4 := d4.rd ra_3
    have rx_4 := d4.rd rx_3
    have ry_4 := d4.rd ry_3
    have ru_4 := d4.rd ru_3
    have rv_4 := d4.rd rv_3
    have B4 := B3.trans (d4.below _)
    clear d4 B3 ra_3 rx_3 ry_3 ru_3 rv_3
    go_wp2_with fail
    refine (sameInts_refl ya va yc vc _ _ L1 ry_4 rv_4).mono ?_
    rintro e w5 ⟨rfl, d5⟩
    have ra_5 := d5.rd ra_4
    have rx_5 := d5.rd rx_4
    have ry_5 := d5.rd ry_4
    have ru_5 := d5.rd ru_4
    have rv_5 := d5.rd rv_4
    have B5 := B4.trans (d5.below _)
    clear d5 B4 ra_4 rx_4 ry_4 ru_4 rv_4
    go_wp2_with fail
    refine (HE.out xa ya xc yc _ rx_5 ry_5).mono ?_
    rintro e w6 ⟨v, rfl, ho, b6⟩
    obtain ⟨ca, cc, rfl, rc_6⟩ := row_rd ho
    clear ho
    have ra_6 := ra_5.below b6
    have rx_6 := rx_5.below b6
    have ry_6 := ry_5.below b6
    have ru_6 := ru_5.below b6
    have rv_6 := rv_5.below b6
    have B6 := B5.trans (b6.mono B5.size)
    clear b6 B5 ra_5 rx_5 ry_5 ru_5 rv_5
    go_wp2_with fail
    refine (HC.out.2.2 _ ra_6).mono ?_
    rintro e w7 ⟨v, rfl, ho, b7⟩
    obtain ⟨da, dc, rfl, rd_7⟩ := row_rd ho
    clear ho
    have ra_7 := ra_6.below b7
    have rx_7 := rx_6.below b7
    have ry_7 := ry_6.below b7
    have ru_7 := ru_6.below b7
    have rv_7 := rv_6.below b7
    have rc_7 := rc_6.below b7
    have B7 := B6.trans (b7.mono B6.size)
    clear b7 B6 ra_6 rx_6 ry_6 ru_6 rv_6 rc_6
    go_wp2_with fail
    refine (sameInts_eq ca da cc dc _ _ _ HCD.out LE rc_7 rd_7).mono ?_
    rintro e w8 ⟨rfl, d8⟩
    have ra_8 := d8.rd ra_7
    have rx_8 := d8.rd rx_7
    have ry_8 := d8.rd ry_7
    have ru_8 := d8.rd ru_7
    have rv_8 := d8.rd rv_7
    have rc_8 := d8.rd rc_7
    have rd_8 := d8.rd rd_7
    have B8 := B7.trans (d8.below _)
    clear d8 B7 ra_7 rx_7 ry_7 ru_7 rv_7 rc_7 rd_7
    go_wp2_with fail
    refine (HX.out xa xc _ rx_8).mono ?_
    rintro e w9 ⟨rfl, b9⟩
    have ra_9 := ra_8.below b9
    have rx_9 := rx_8.below b9
    have ry_9 := ry_8.below b9
    have ru_9 := ru_8.below b9
    have rv_9 := rv_8.below b9
    have rc_9 := rc_8.below b9
    have rd_9 := rd_8.below b9
    have B9 := B8.trans (b9.mono B8.size)
    clear b9 B8 ra_8 rx_8 ry_8 ru_8 rv_8 rc_8 rd_8
    go_wp2_with fail
    refine (HY.out ya yc _ ry_9).mono ?_
    rintro e w10 ⟨rfl, b10⟩
    have ra_10 := ra_9.below b10
    have rx_10 := rx_9.below b10
    have ry_10 := ry_9.below b10
    have ru_10 := ru_9.below b10
    have rv_10 := rv_9.below b10
    have rc_10 := rc_9.below b10
    have rd_10 := rd_9.below b10
    have B10 := B9.trans (b10.mono B9.size)
    clear b10 B9 ra_9 rx_9 ry_9 ru_9 rv_9 rc_9 rd_9
    go_wp2
    go_ret
    exact ⟨rfl, B10⟩
end Go.Proofs.Ytpbkgdohfnjjpaa
