/-
  The walk of FnNamed, out of the contracts of the draw and of the functions that it calls; for whatever bytes.
-/
import Derived.Test.YtebkeebgjjmdbabNA
import Derived.Test.YtebkeebgjjmdbabNB
import Derived.Test.YtebkeebgjjmdbabGB
import Derived.Test.YtebkeebgjjmdbabSI
namespace Go.Proofs.Ytebkeebgjjmdbab
open Go.RowKit

theorem fnNamed_long (ao : Option Addr) (cap n : Nat) (w : World) (hm : n ≤ maxLen) (hl : ¬ n ≤ 1048576) :
    Calls Try.prog 3 #[.slice ao n cap] w fun e w' => e = .returned (.bool true) ∧ Below w.heap.size w w' := by
  unfold maxLen at hm
  go_enter Try.func3, Try.ntmps3
  go_wp2
  go_ret
  exact ⟨rfl, Below.refl _ _⟩

set_option maxHeartbeats 8000000 in
theorem fnNamed_walk (ao : Option Addr) (c : Nat) (bs : List Nat) (w : World) (hl : bs.length ≤ 1048576) (hb : RdB w ao bs) (hc : bs.length ≤ c) (hbA : bs ≠ [] → ∀ a, ao = some a → a.block < w.heap.size) :
    Calls Try.prog 3 #[.slice ao bs.length c] w fun e w' => e = .returned (.bool true) ∧ Below w.heap.size w w' := by
  have HD := Lib.hid (drawRelNamed_any ao c bs w hb hc hbA)
  clear hb hbA
  go_enter Try.func3, Try.ntmps3
  go_wp2_with fail
  refine HD.out.mono ?_
  rintro e w1 ⟨v, u, a, p, rfl, hrl, hsl, ho1, ho2, B1⟩
  obtain ⟨aa, ac, rfl, ra⟩ := row_rd ho1
  obtain ⟨pa, pc, rfl, rp⟩ := row_rd ho2
  have hl1 : a.length ≤ 1048576 := by omega
  have hl2 : p.length ≤ 1048576 := by omega
  clear ho1 ho2 HD
  cases hp : namB a p with
  | false =>
    have hI := fun w h h2 => implRelNamed_any aa pa ac pc a p w hl1 hl2 h h2
    have hS := fun w h h2 => specRelNamed_any aa pa ac pc a p w hl1 h h2
    rw [hp] at hI hS
    rw [show ifR false (namL a p) = [] from rfl] at hI hS
    have HC := Lib.hid (And.intro hI hS)
    clear hI hS hp
    go_wp2_with fail
    refine (HC.out.1 _ ra rp).mono ?_
    rintro e w2 ⟨v, rfl, ho, b2⟩
    obtain ⟨oa, oc, rfl, ro_2⟩ := row_rd (xs := []) ho
    clear ho
    have ra_2 := ra.below b2
    have rp_2 := rp.below b2
    have B2 := B1.trans (b2.mono B1.size)
    clear b2 B1 ra rp
    go_wp2_with fail
    refine (HC.out.2 _ ra_2 rp_2).mono ?_
    rintro e w3 ⟨v, rfl, ho, b3⟩
    obtain ⟨wa, wc, rfl, rw_3⟩ := row_rd (xs := []) ho
    clear ho
    have ra_3 := ra_2.below b3
    have rp_3 := rp_2.below b3
    have ro_3 := ro_2.below b3
    have B3 := B2.trans (b3.mono B2.size)
    clear b3 B2 ra_2 rp_2 ro_2
    go_wp2_with fail
    refine (sameInts_refl oa wa oc wc _ _ (by simp) ro_3 rw_3).mono ?_
    rintro e w4 ⟨rfl, d4⟩
    have ra_4 := d4.rd ra_3
    have rp_4 := d4.rd rp_3
    have ro_4 := d4.rd ro_3
    have rw_4 := d4.rd rw_3
    have B4 := B3.trans (d4.below _)
    clear d4 B3 ra_3 rp_3 ro_3 rw_3
    go_wp2_with fail
    refine (sameInts_refl oa wa oc wc _ _ (by simp) ro_4 rw_4).mono ?_
    rintro e w5 ⟨rfl, d5⟩
    have ra_5 := d5.rd ra_4
    have rp_5 := d5.rd rp_4
    have ro_5 := d5.rd ro_4
    have rw_5 := d5.rd rw_4
    have B5 := B4.trans (d5.below _)
    clear d5 B4 ra_4 rp_4 ro_4 rw_4
    go_wp2
    go_ret
    exact ⟨rfl, B5⟩
  | true =>
    have hI := fun w h h2 => implRelNamed_any aa pa ac pc a p w hl1 hl2 h h2
    have hS := fun w h h2 => specRelNamed_any aa pa ac pc a p w hl1 h h2
    rw [hp] at hI hS
    rw [show ifR true (namL a p) = namL a p from rfl] at hI hS
    obtain ⟨R, he⟩ := nam_cases hp
    have RN := nam_rl R he
    have RC := R.comp R
    have RM := RN.comp RN
    have hz1 := fun w h => implRelSize_any aa ac a w hl1 h
    have hz2 := fun ao ca w h => implRelSize_any ao ca (namL a p) w (rl_short RN) h
    rw [R.ok, show ifN true (sizeL a) = sizeL a from rfl] at hz1
    rw [RN.ok, show ifN true (sizeL (namL a p)) = sizeL (namL a p) from rfl, nam_size R he] at hz2
    have hX := fun w h => cComp R R aa aa ac ac w h h
    have hY := fun ao ca w h h2 => implRelNamed_any ao pa ca pc (compL a a) p w (rl_short RC) hl2 h h2
    rw [nam_ok RC he, show ifR true (namL (compL a a) p) = namL (compL a a) p from rfl, nam_comp R he] at hY
    have hZ := fun ao ca w h => cComp RN RN ao ao ca ca w h h
    have Lo : (namL a p).length ≤ 1048576 := rl_short RN
    have Lz : (compL (namL a p) (namL a p)).length ≤ 1048576 := rl_short RM
    obtain ⟨s, Es⟩ : ∃ s, sizeL a = s := ⟨_, rfl⟩
    rw [Es] at hz1 hz2
    obtain ⟨lo, Elo⟩ : ∃ kk, namL a p = kk := ⟨_, rfl⟩
    rw [Elo] at hI hS Lo Lz hz2 hY hZ
    obtain ⟨lx, Elx⟩ : ∃ kk, compL a a = kk := ⟨_, rfl⟩
    rw [Elx] at hX hY
    obtain ⟨lz, Elz⟩ : ∃ kk, compL lo lo = kk := ⟨_, rfl⟩
    rw [Elz] at hZ Lz hY
    have e1 : (s == s) = true := by simp
    have e2 : (s != s) = false := by simp
    have HC := Lib.hid (And.intro hI (And.intro hS (And.intro hz1 (And.intro hz2 (And.intro hX (And.intro hY hZ))))))
    clear hI hS hz1 hz2 hX hY hZ hp R he RN RC RM Es Elo Elx Elz
    go_wp2_with fail
    refine (HC.out.1 _ ra rp).mono ?_
    rintro e w2 ⟨v, rfl, ho, b2⟩
    obtain ⟨oa, oc, rfl, ro_2⟩ := row_rd ho
    clear ho
    have ra_2 := ra.below b2
    have rp_2 := rp.below b2
    have B2 := B1.trans (b2.mono B1.size)
    clear b2 B1 ra rp
    go_wp2_with fail
    refine (HC.out.2.1 _ ra_2 rp_2).mono ?_
    rintro e w3 ⟨v, rfl, ho, b3⟩
    obtain ⟨wa, wc, rfl, rw_3⟩ := row_rd ho
    clear ho
    have ra_3 := ra_2.below b3
    have rp_3 := rp_2.below b3
    have ro_3 := ro_2.below b3
    have B3 := B2.trans (b3.mono B2.size)
    clear b3 B2 ra_2 rp_2 ro_2
    go_wp2_with fail
    refine (sameInts_refl oa wa oc wc _ _ Lo ro_3 rw_3).mono ?_
    rintro e w4 ⟨rfl, d4⟩
    have ra_4 := d4.rd ra_3
    have rp_4 := d4.rd rp_3
    have ro_4 := d4.rd ro_3
    have rw_4 := d4.rd rw_3
    have B4 := B3.trans (d4.below _)
    clear d4 B3 ra_3 rp_3 ro_3 rw_3
    go_wp2_with fail
    refine (HC.out.2.2.1 _ ra_4).mono ?_
    rintro e w5 ⟨rfl, b5⟩
    have ra_5 := ra_4.below b5
    have rp_5 := rp_4.below b5
    have ro_5 := ro_4.below b5
    have rw_5 := rw_4.below b5
    have B5 := B4.trans (b5.mono B4.size)
    clear b5 B4 ra_4 rp_4 ro_4 rw_4
    go_wp2_with fail
    refine (HC.out.2.2.2.1 oa oc _ ro_5).mono ?_
    rintro e w6 ⟨rfl, b6⟩
    have ra_6 := ra_5.below b6
    have rp_6 := rp_5.below b6
    have ro_6 := ro_5.below b6
    have rw_6 := rw_5.below b6
    have B6 := B5.trans (b6.mono B5.size)
    clear b6 B5 ra_5 rp_5 ro_5 rw_5
    go_wp2_with fail
    refine (HC.out.2.2.2.2.1 _ ra_6).mono ?_
    rintro e w7 ⟨v, rfl, ho, b7⟩
    obtain ⟨xa, xc, rfl, rx_7⟩ := row_rd ho
    clear ho
    have ra_7 := ra_6.below b7
    have rp_7 := rp_6.below b7
    have ro_7 := ro_6.below b7
    have rw_7 := rw_6.below b7
    have B7 := B6.trans (b7.mono B6.size)
    clear b7 B6 ra_6 rp_6 ro_6 rw_6
    go_wp2_with fail
    refine (HC.out.2.2.2.2.2.1 xa xc _ rx_7 rp_7).mono ?_
    rintro e w8 ⟨v, rfl, ho, b8⟩
    obtain ⟨ya, yc, rfl, ry_8⟩ := row_rd ho
    clear ho
    have ra_8 := ra_7.below b8
    have rp_8 := rp_7.below b8
    have ro_8 := ro_7.below b8
    have rw_8 := rw_7.below b8
    have rx_8 := rx_7.below b8
    have B8 := B7.trans (b8.mono B7.size)
    clear b8 B7 ra_7 rp_7 ro_7 rw_7 rx_7
    go_wp2_with fail
    refine (HC.out.2.2.2.2.2.2 oa oc _ ro_8).mono ?_
    rintro e w9 ⟨v, rfl, ho, b9⟩
    obtain ⟨za, zc, rfl, rz_9⟩ := row_rd ho
    clear ho
    have ra_9 := ra_8.below b9
    have rp_9 := rp_8.below b9
    have ro_9 := ro_8.below b9
    have rw_9 := rw_8.below b9
    have rx_9 := rx_8.below b9
    have ry_9 := ry_8.below b9
    have B9 := B8.trans (b9.mono B8.size)
    clear b9 B8 ra_8 rp_8 ro_8 rw_8 rx_8 ry_8
    go_wp2_with fail
    refine (sameInts_refl ya za yc zc _ _ Lz ry_9 rz_9).mono ?_
    rintro e w10 ⟨rfl, d10⟩
    have ra_10 := d10.rd ra_9
    have rp_10 := d10.rd rp_9
    have ro_10 := d10.rd ro_9
    have rw_10 := d10.rd rw_9
    have rx_10 := d10.rd rx_9
    have ry_10 := d10.rd ry_9
    have rz_10 := d10.rd rz_9
    have B10 := B9.trans (d10.below _)
    clear d10 B9 ra_9 rp_9 ro_9 rw_9 rx_9 ry_9 rz_9
    go_wp2
    go_ret
    exact ⟨rfl, B10⟩
end Go.Proofs.Ytebkeebgjjmdbab
