/-
  The walk of FnRegularBack, out of the contracts of the draw and of the functions that it calls; for whatever bytes.
-/
import Derived.Test.YtfcpfhffkfbgdaaTE
namespace Go.Proofs.Ytfcpfhffkfbgdaa
open Go.RowKit

theorem fnRegularBack_long (ao : Option Addr) (cap n : Nat) (w : World) (hm : n ≤ maxLen) (hl : ¬ n ≤ 1048576) :
    Calls Try.prog 11 #[.slice ao n cap] w fun e w' => e = .returned (.bool true) ∧ Below w.heap.size w w' := by
  unfold maxLen at hm
  go_enter Try.func11, Try.ntmps11
  go_wp2
  go_ret
  exact ⟨rfl, Below.refl _ _⟩

set_option maxHeartbeats 8000000 in
theorem fnRegularBack_walk (ao : Option Addr) (c : Nat) (bs : List Nat) (w : World) (hl : bs.length ≤ 1048576) (hb : RdB w ao bs) (hc : bs.length ≤ c) (hbA : bs ≠ [] → ∀ a, ao = some a → a.block < w.heap.size) :
    Calls Try.prog 11 #[.slice ao bs.length c] w fun e w' => e = .returned (.bool true) ∧ Below w.heap.size w w' := by
  have HD := Lib.hid (drawRegularBack_any ao c bs w hb hc hbA)
  clear hb hbA
  go_enter Try.func11, Try.ntmps11
  go_wp2_with fail
  refine HD.out.mono ?_
  rintro e w1 ⟨v, a, rfl, hrl, ho1, B1⟩
  obtain ⟨aa, ac, rfl, ra⟩ := row_rd ho1
  have hl1 : a.length ≤ 1048576 := by omega
  clear ho1 HD
  cases hp : relIn a && regB a with
  | false =>
    have hI := (fun w h => implRegularBack_any aa ac a w hl1 h)
    have hS := (fun w h => specRegularBack_any aa ac a w hl1 h)
    rw [hp] at hI hS
    have HC := Lib.hid (And.intro hI hS)
    clear hI hS hp
    go_wp2_with fail
    refine (HC.out.1 _ ra).mono ?_
    rintro e w2 ⟨v, rfl, ho, b2⟩
    obtain ⟨oa, oc, rfl, ro⟩ := row_rd (xs := ifR false (backL a)) ho
    have B2 := B1.trans (b2.mono B1.size)
    have ra2 := ra.below b2
    clear ho b2 B1 ra
    go_wp2_with fail
    refine (HC.out.2 _ ra2).mono ?_
    rintro e w3 ⟨v, rfl, ho, b3⟩
    obtain ⟨wa, wc, rfl, rw3⟩ := row_rd (xs := ifR false (backL a)) ho
    have B3 := B2.trans (b3.mono B2.size)
    have ro3 := ro.below b3
    clear ho b3 B2 ro ra2
    go_wp2_with fail
    refine (sameInts_refl _ _ _ _ _ _ (by simp [ifR]) ro3 rw3).mono ?_
    rintro e w4 ⟨rfl, d4⟩
    go_wp2_with fail
    refine (sameInts_refl _ _ _ _ _ _ (by simp [ifR]) (d4.rd ro3) (d4.rd rw3)).mono ?_
    rintro e w5 ⟨rfl, d5⟩
    go_wp2
    go_ret
    exact ⟨rfl, B3.trans ((d4.trans d5).below _)⟩
  | true =>
    rw [Bool.and_eq_true] at hp
    have R1 := Rl.of hp.1
    have X := R1.backL
    have HR := hp.2
    rw [← Bool.and_eq_true] at hp
    have hI := (fun w h => implRegularBack_any aa ac a w hl1 h)
    have hS := (fun w h => specRegularBack_any aa ac a w hl1 h)
    rw [hp] at hI hS
    rw [show ifR true (backL a) = backL a from rfl] at hI hS
    have K0 := fun ao bo ca cb w h h2 => cComp R1 X ao bo ca cb w h h2
    have K1 := fun ao bo ca cb w h h2 => cComp (R1.comp X) R1 ao bo ca cb w h h2
    have K2 := fun ao bo ca cb w h h2 => cComp X R1 ao bo ca cb w h h2
    have K3 := fun ao bo ca cb w h h2 => cComp (X.comp R1) X ao bo ca cb w h h2
    have Q0 := back_one R1 HR
    have Q1 := back_two R1 HR
    have Lo : (backL a).length ≤ 1048576 := rl_short X
    have Lp : (compL a (backL a)).length ≤ 1048576 := rl_short (R1.comp X)
    have Lq : (compL (compL a (backL a)) a).length ≤ 1048576 := rl_short ((R1.comp X).comp R1)
    have Lr : (compL (backL a) a).length ≤ 1048576 := rl_short (X.comp R1)
    have Ls : (compL (compL (backL a) a) (backL a)).length ≤ 1048576 := rl_short ((X.comp R1).comp X)
    obtain ⟨lo, Eo⟩ : ∃ l, backL a = l := ⟨_, rfl⟩
    try rw [Eo] at hI
    try rw [Eo] at hS
    try rw [Eo] at K0
    try rw [Eo] at K1
    try rw [Eo] at K2
    try rw [Eo] at K3
    try rw [Eo] at Q0
    try rw [Eo] at Q1
    try rw [Eo] at Lo
    try rw [Eo] at Lp
    try rw [Eo] at Lq
    try rw [Eo] at Lr
    try rw [Eo] at Ls
    obtain ⟨lp, Ep⟩ : ∃ l, compL a lo = l := ⟨_, rfl⟩
    try rw [Ep] at hI
    try rw [Ep] at hS
    try rw [Ep] at K0
    try rw [Ep] at K1
    try rw [Ep] at K2
    try rw [Ep] at K3
    try rw [Ep] at Q0
    try rw [Ep] at Q1
    try rw [Ep] at Lo
    try rw [Ep] at Lp
    try rw [Ep] at Lq
    try rw [Ep] at Lr
    try rw [Ep] at Ls
    obtain ⟨lq, Eq⟩ : ∃ l, compL lp a = l := ⟨_, rfl⟩
    try rw [Eq] at hI
    try rw [Eq] at hS
    try rw [Eq] at K0
    try rw [Eq] at K1
    try rw [Eq] at K2
    try rw [Eq] at K3
    try rw [Eq] at Q0
    try rw [Eq] at Q1
    try rw [Eq] at Lo
    try rw [Eq] at Lp
    try rw [Eq] at Lq
    try rw [Eq] at Lr
    try rw [Eq] at Ls
    obtain ⟨lr, Er⟩ : ∃ l, compL lo a = l := ⟨_, rfl⟩
    try rw [Er] at hI
    try rw [Er] at hS
    try rw [Er] at K0
    try rw [Er] at K1
    try rw [Er] at K2
    try rw [Er] at K3
    try rw [Er] at Q0
    try rw [Er] at Q1
    try rw [Er] at Lo
    try rw [Er] at Lp
    try rw [Er] at Lq
    try rw [Er] at Lr
    try rw [Er] at Ls
    obtain ⟨ls, Es⟩ : ∃ l, compL lr lo = l := ⟨_, rfl⟩
    try rw [Es] at hI
    try rw [Es] at hS
    try rw [Es] at K0
    try rw [Es] at K1
    try rw [Es] at K2
    try rw [Es] at K3
    try rw [Es] at Q0
    try rw [Es] at Q1
    try rw [Es] at Lo
    try rw [Es] at Lp
    try rw [Es] at Lq
    try rw [Es] at Lr
    try rw [Es] at Ls
    have HhI := Lib.hid hI
    have HhS := Lib.hid hS
    have HK0 := Lib.hid K0
    have HK1 := Lib.hid K1
    have HK2 := Lib.hid K2
    have HK3 := Lib.hid K3
    have HQ0 := Lib.hid Q0
    have HQ1 := Lib.hid Q1
    clear hI hS K0 K1 K2 K3 Q0 Q1 hp R1 X HR Eo Ep Eq Er Es
    go_wp2_with fail
    refine (HhI.out _ ra).mono ?_
    rintro e w2 ⟨v, rfl, ho, b2⟩
    obtain ⟨oa, oc, rfl, ro_2⟩ := row_rd ho
    have B2 := B1.trans (b2.mono B1.size)
    have ra_2 := ra.below b2
    clear ho b2 B1 ra
    go_wp2_with fail
    refine (HhS.out _ ra_2).mono ?_
    rintro e w3 ⟨v, rfl, ho, b3⟩
    obtain ⟨wa, wc, rfl, rw_3⟩ := row_rd ho
    have B3 := B2.trans (b3.mono B2.size)
    have ra_3 := ra_2.below b3
    have ro_3 := ro_2.below b3
    clear ho b3 B2 ra_2 ro_2
    go_wp2_with fail
    refine (sameInts_refl oa wa oc wc _ _ Lo ro_3 rw_3).mono ?_
    rintro e w4 ⟨rfl, d4⟩
    have B4 := B3.trans (d4.below _)
    have ra_4 := d4.rd ra_3
    have ro_4 := d4.rd ro_3
    have rw_4 := d4.rd rw_3
    clear d4 B3 ra_3 ro_3 rw_3
    go_wp2_with fail
    refine (HK0.out aa oa ac oc _ ra_4 ro_4).mono ?_
    rintro e w5 ⟨v, rfl, ho, b5⟩
    obtain ⟨pa, pc, rfl, rp_5⟩ := row_rd ho
    have B5 := B4.trans (b5.mono B4.size)
    have ra_5 := ra_4.below b5
    have ro_5 := ro_4.below b5
    have rw_5 := rw_4.below b5
    clear ho b5 B4 ra_4 ro_4 rw_4
    go_wp2_with fail
    refine (HK1.out pa aa pc ac _ rp_5 ra_5).mono ?_
    rintro e w6 ⟨v, rfl, ho, b6⟩
    obtain ⟨qa, qc, rfl, rq_6⟩ := row_rd ho
    have B6 := B5.trans (b6.mono B5.size)
    have ra_6 := ra_5.below b6
    have ro_6 := ro_5.below b6
    have rw_6 := rw_5.below b6
    have rp_6 := rp_5.below b6
    clear ho b6 B5 ra_5 ro_5 rw_5 rp_5
    go_wp2_with fail
    refine (HK2.out oa aa oc ac _ ro_6 ra_6).mono ?_
    rintro e w7 ⟨v, rfl, ho, b7⟩
    obtain ⟨ra, rc, rfl, rr_7⟩ := row_rd ho
    have B7 := B6.trans (b7.mono B6.size)
    have ra_7 := ra_6.below b7
    have ro_7 := ro_6.below b7
    have rw_7 := rw_6.below b7
    have rp_7 := rp_6.below b7
    have rq_7 := rq_6.below b7
    clear ho b7 B6 ra_6 ro_6 rw_6 rp_6 rq_6
    go_wp2_with fail
    refine (HK3.out ra oa rc oc _ rr_7 ro_7).mono ?_
    rintro e w8 ⟨v, rfl, ho, b8⟩
    obtain ⟨sa, sc, rfl, rs_8⟩ := row_rd ho
    have B8 := B7.trans (b8.mono B7.size)
    have ra_8 := ra_7.below b8
    have ro_8 := ro_7.below b8
    have rw_8 := rw_7.below b8
    have rp_8 := rp_7.below b8
    have rq_8 := rq_7.below b8
    have rr_8 := rr_7.below b8
    clear ho b8 B7 ra_7 ro_7 rw_7 rp_7 rq_7 rr_7
    go_wp2_with fail
    refine (sameInts_eq qa aa qc ac _ _ _ HQ0.out (by have := HQ0.out; have := Lq; first | assumption | omega) rq_8 ra_8).mono ?_
    rintro e w9 ⟨rfl, d9⟩
    have B9 := B8.trans (d9.below _)
    have ra_9 := d9.rd ra_8
    have ro_9 := d9.rd ro_8
    have rw_9 := d9.rd rw_8
    have rp_9 := d9.rd rp_8
    have rq_9 := d9.rd rq_8
    have rr_9 := d9.rd rr_8
    have rs_9 := d9.rd rs_8
    clear d9 B8 ra_8 ro_8 rw_8 rp_8 rq_8 rr_8 rs_8
    go_wp2_with fail
    refine (sameInts_eq sa oa sc oc _ _ _ HQ1.out (by have := HQ1.out; have := Ls; first | assumption | omega) rs_9 ro_9).mono ?_
    rintro e w10 ⟨rfl, d10⟩
    have B10 := B9.trans (d10.below _)
    have ra_10 := d10.rd ra_9
    have ro_10 := d10.rd ro_9
    have rw_10 := d10.rd rw_9
    have rp_10 := d10.rd rp_9
    have rq_10 := d10.rd rq_9
    have rr_10 := d10.rd rr_9
    have rs_10 := d10.rd rs_9
    clear d10 B9 ra_9 ro_9 rw_9 rp_9 rq_9 rr_9 rs_9
    go_wp2
    go_ret
    exact ⟨rfl, B10⟩
end Go.Proofs.Ytfcpfhffkfbgdaa
