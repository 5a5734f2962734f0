/-
  The walk of FnPreorder, out of the contracts of the draw and of the functions that it calls; for whatever bytes.
-/
import Derived.Test.YtchbbflpckaddaaOY
import Derived.Test.YtchbbflpckaddaaSI
namespace Go.Proofs.Ytchbbflpckaddaa
open Go.RowKit

theorem fnPreorder_long (ao : Option Addr) (cap n : Nat) (w : World) (hm : n ≤ maxLen) (hl : ¬ n ≤ 1048576) :
    Calls Try.prog 10 #[.slice ao n cap] w fun e w' => e = .returned (.bool true) ∧ Below w.heap.size w w' := by
  unfold maxLen at hm
  go_enter Try.func10, Try.ntmps10
  go_wp2
  go_ret
  exact ⟨rfl, Below.refl _ _⟩

set_option maxHeartbeats 8000000 in
theorem fnPreorder_walk (ao : Option Addr) (c : Nat) (bs : List Nat) (w : World) (hl : bs.length ≤ 1048576) (hb : RdB w ao bs) (hc : bs.length ≤ c) (hbA : bs ≠ [] → ∀ a, ao = some a → a.block < w.heap.size) :
    Calls Try.prog 10 #[.slice ao bs.length c] w fun e w' => e = .returned (.bool true) ∧ Below w.heap.size w w' := by
  have HD := Lib.hid (drawOrderClasses_any ao c bs w hl hb hc hbA)
  clear hb hbA
  go_enter Try.func10, Try.ntmps10
  go_wp2_with fail
  refine HD.out.mono ?_
  rintro e w1 ⟨v, a, rfl, hrl, ho1, B1⟩
  obtain ⟨aa, ac, rfl, ra⟩ := row_rd ho1
  have hl1 : a.length ≤ 1048576 := by omega
  clear ho1 HD
  cases hp : preB a with
  | false =>
    have hI := fun w h => implOrderClasses_any aa ac a w hl1 h
    have hS := fun w h => specOrderClasses_any aa ac a w hl1 h
    rw [hp] at hI hS
    rw [show ifR false (twoW a) = [] from rfl, show ifR false (quoL a (twoW a)) = [] from rfl] at hI hS
    have HC := Lib.hid (And.intro hI hS)
    clear hI hS hp
    go_wp2_with fail
    refine (HC.out.1 _ ra).mono ?_
    rintro e w2 ⟨u, v, l0, t0, l1, t1, rfl, o0, o1, p0, p1, ap, b2⟩
    obtain ⟨xa, xc, rfl, rx_2⟩ := OwnR.rd o0
    obtain ⟨ya, yc, rfl, ry_2⟩ := OwnR.rd o1
    clear o0 o1 p0 p1 ap
    have ra_2 := ra.below b2
    have B2 := B1.trans (b2.mono B1.size)
    clear b2 B1 ra
    go_wp2_with fail
    refine (HC.out.2 _ ra_2).mono ?_
    rintro e w3 ⟨u, v, rfl, o0, o1, b3⟩
    obtain ⟨ua, uc, rfl, ru_3⟩ := OwnR.rd o0
    obtain ⟨va, vc, rfl, rv_3⟩ := OwnR.rd o1
    clear o0 o1
    have ra_3 := ra_2.below b3
    have rx_3 := rx_2.below b3
    have ry_3 := ry_2.below b3
    have B3 := B2.trans (b3.mono B2.size)
    clear b3 B2 ra_2 rx_2 ry_2
    go_wp2_with fail
    refine (sameInts_refl xa ua xc uc _ _ (by simp) rx_3 ru_3).mono ?_
    rintro e w4 ⟨rfl, d4⟩
    have ra_4 := d4.rd ra_3
    have rx_4 := d4.rd rx_3
    have ry_4 := d4.rd ry_3
    have ru_4 := d4.rd ru_3
    have rv_4 := d4.rd rv_3
    have B4 := B3.trans (d4.below _)
    clear d4 B3 ra_3 rx_3 ry_3 ru_3 rv_3
    go_wp2_with fail
    refine (sameInts_refl ya va yc vc _ _ (by simp) ry_4 rv_4).mono ?_
    rintro e w5 ⟨rfl, d5⟩
    have ra_5 := d5.rd ra_4
    have rx_5 := d5.rd rx_4
    have ry_5 := d5.rd ry_4
    have ru_5 := d5.rd ru_4
    have rv_5 := d5.rd rv_4
    have B5 := B4.trans (d5.below _)
    clear d5 B4 ra_4 rx_4 ry_4 ru_4 rv_4
    go_wp2_with fail
    refine (sameInts_refl xa ua xc uc _ _ (by simp) rx_5 ru_5).mono ?_
    rintro e w6 ⟨rfl, d6⟩
    have ra_6 := d6.rd ra_5
    have rx_6 := d6.rd rx_5
    have ry_6 := d6.rd ry_5
    have ru_6 := d6.rd ru_5
    have rv_6 := d6.rd rv_5
    have B6 := B5.trans (d6.below _)
    clear d6 B5 ra_5 rx_5 ry_5 ru_5 rv_5
    go_wp2_with fail
    refine (sameInts_refl ya va yc vc _ _ (by simp) ry_6 rv_6).mono ?_
    rintro e w7 ⟨rfl, d7⟩
    have ra_7 := d7.rd ra_6
    have rx_7 := d7.rd rx_6
    have ry_7 := d7.rd ry_6
    have ru_7 := d7.rd ru_6
    have rv_7 := d7.rd rv_6
    have B7 := B6.trans (d7.below _)
    clear d7 B6 ra_6 rx_6 ry_6 ru_6 rv_6
    go_wp2
    go_ret
    exact ⟨rfl, B7⟩
  | true =>
    have hI := fun w h => implOrderClasses_any aa ac a w hl1 h
    have hS := fun w h => specOrderClasses_any aa ac a w hl1 h
    rw [hp] at hI hS
    rw [show ifR true (twoW a) = twoW a from rfl, show ifR true (quoL a (twoW a)) = quoL a (twoW a) from rfl] at hI hS
    have hQ := fun bo cb w h h2 => pQuo hp aa bo ac cb w h h2
    have hE := fun ao ca w h => pEquIn hp ao ca w h
    have hO := fun ao ca w h => pOrderIn hp ao ca w h
    have L0 : (twoW a).length ≤ 1048576 := by have := (pre_eqv hp).rl.len; omega
    have L1 : (quoL a (twoW a)).length ≤ 1048576 := oShortP (preO hp)
    obtain ⟨ly, Ey⟩ : ∃ l, quoL a (twoW a) = l := ⟨_, rfl⟩
    rw [Ey] at hI hS hQ hO L1
    obtain ⟨lx, Ex⟩ : ∃ l, twoW a = l := ⟨_, rfl⟩
    rw [Ex] at hI hS hQ hE L0
    have HC := Lib.hid (And.intro hI (And.intro hS (And.intro hQ (And.intro hE hO))))
    clear hI hS hQ hE hO hp Ex Ey
    go_wp2_with fail
    refine (HC.out.1 _ ra).mono ?_
    rintro e w2 ⟨u, v, l0, t0, l1, t1, rfl, o0, o1, p0, p1, ap, b2⟩
    obtain ⟨xa, xc, rfl, rx_2⟩ := OwnR.rd o0
    obtain ⟨ya, yc, rfl, ry_2⟩ := OwnR.rd o1
    clear o0 o1 p0 p1 ap
    have ra_2 := ra.below b2
    have B2 := B1.trans (b2.mono B1.size)
    clear b2 B1 ra
    go_wp2_with fail
    refine (HC.out.2.1 _ ra_2).mono ?_
    rintro e w3 ⟨u, v, rfl, o0, o1, b3⟩
    obtain ⟨ua, uc, rfl, ru_3⟩ := OwnR.rd o0
    obtain ⟨va, vc, rfl, rv_3⟩ := OwnR.rd o1
    clear o0 o1
    have ra_3 := ra_2.below b3
    have rx_3 := rx_2.below b3
    have ry_3 := ry_2.below b3
    have B3 := B2.trans (b3.mono B2.size)
    clear b3 B2 ra_2 rx_2 ry_2
    go_wp2_with fail
    refine (sameInts_refl xa ua xc uc _ _ L0 rx_3 ru_3).mono ?_
    rintro e w4 ⟨rfl, d4⟩
    have ra_4 := d4.rd ra_3
    have rx_4 := d4.rd rx_3
    have ry_4 := d4.rd ry_3
    have ru_4 := d4.rd ru_3
    have rv_4 := d4.rd rv_3
    have B4 := B3.trans (d4.below _)
    clear d4 B3 ra_3 rx_3 ry_3 ru_3 rv_3
    go_wp2_with fail
    refine (sameInts_refl ya va yc vc _ _ L1 ry_4 rv_4).mono ?_
    rintro e w5 ⟨rfl, d5⟩
    have ra_5 := d5.rd ra_4
    have rx_5 := d5.rd rx_4
    have ry_5 := d5.rd ry_4
    have ru_5 := d5.rd ru_4
    have rv_5 := d5.rd rv_4
    have B5 := B4.trans (d5.below _)
    clear d5 B4 ra_4 rx_4 ry_4 ru_4 rv_4
    go_wp2_with fail
    refine (HC.out.2.2.1 xa xc _ ra_5 rx_5).mono ?_
    rintro e w6 ⟨v, rfl, ho, b6⟩
    obtain ⟨qa, qc, rfl, rq_6⟩ := row_rd ho
    clear ho
    have ra_6 := ra_5.below b6
    have rx_6 := rx_5.below b6
    have ry_6 := ry_5.below b6
    have ru_6 := ru_5.below b6
    have rv_6 := rv_5.below b6
    have B6 := B5.trans (b6.mono B5.size)
    clear b6 B5 ra_5 rx_5 ry_5 ru_5 rv_5
    go_wp2_with fail
    refine (HC.out.2.2.2.1 xa xc _ rx_6).mono ?_
    rintro e w7 ⟨rfl, b7⟩
    have ra_7 := ra_6.below b7
    have rx_7 := rx_6.below b7
    have ry_7 := ry_6.below b7
    have ru_7 := ru_6.below b7
    have rv_7 := rv_6.below b7
    have rq_7 := rq_6.below b7
    have B7 := B6.trans (b7.mono B6.size)
    clear b7 B6 ra_6 rx_6 ry_6 ru_6 rv_6 rq_6
    go_wp2_with fail
    refine (HC.out.2.2.2.2 ya yc _ ry_7).mono ?_
    rintro e w8 ⟨rfl, b8⟩
    have ra_8 := ra_7.below b8
    have rx_8 := rx_7.below b8
    have ry_8 := ry_7.below b8
    have ru_8 := ru_7.below b8
    have rv_8 := rv_7.below b8
    have rq_8 := rq_7.below b8
    have B8 := B7.trans (b8.mono B7.size)
    clear b8 B7 ra_7 rx_7 ry_7 ru_7 rv_7 rq_7
    go_wp2_with fail
    refine (sameInts_refl qa ya qc yc _ _ L1 rq_8 ry_8).mono ?_
    rintro e w9 ⟨rfl, d9⟩
    have ra_9 := d9.rd ra_8
    have rx_9 := d9.rd rx_8
    have ry_9 := d9.rd ry_8
    have ru_9 := d9.rd ru_8
    have rv_9 := d9.rd rv_8
    have rq_9 := d9.rd rq_8
    have B9 := B8.trans (d9.below _)
    clear d9 B8 ra_8 rx_8 ry_8 ru_8 rv_8 rq_8
    go_wp2
    go_ret
    exact ⟨rfl, B9⟩
end Go.Proofs.Ytchbbflpckaddaa
