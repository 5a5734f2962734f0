/-
  The walk of FnRank, out of the contracts of the draw and of the functions that it calls; for whatever bytes.
-/
import Derived.Test.YtpbkgdohfnjjpabRC
import Derived.Test.YtpbkgdohfnjjpabRD
import Derived.Test.YtpbkgdohfnjjpabKS
import Derived.Test.YtpbkgdohfnjjpabQS
namespace Go.Proofs.Ytpbkgdohfnjjpab
open Go.RowKit

theorem fnRank_long (ao : Option Addr) (cap n : Nat) (w : World) (hm : n ≤ maxLen) (hl : ¬ n ≤ 1048576) :
    Calls Try.prog 8 #[.slice ao n cap] w fun e w' => e = .returned (.bool true) ∧ Below w.heap.size w w' := by
  unfold maxLen at hm
  go_enter Try.func8, Try.ntmps8
  go_wp2
  go_ret
  exact ⟨rfl, Below.refl _ _⟩

set_option maxHeartbeats 8000000 in
theorem fnRank_walk (ao : Option Addr) (c : Nat) (bs : List Nat) (w : World) (hl : bs.length ≤ 1048576) (hb : RdB w ao bs) (hc : bs.length ≤ c) (hbA : bs ≠ [] → ∀ a, ao = some a → a.block < w.heap.size) :
    Calls Try.prog 8 #[.slice ao bs.length c] w fun e w' => e = .returned (.bool true) ∧ Below w.heap.size w w' := by
  have HD := Lib.hid (drawRectRank_any ao c bs w hb hc hbA)
  clear hb hbA
  go_enter Try.func8, Try.ntmps8
  go_wp2_with fail
  refine HD.out.mono ?_
  rintro e w1 ⟨v, a, rfl, hrl, ho1, B1⟩
  obtain ⟨aa, ac, rfl, ra⟩ := row_rd ho1
  have hl1 : a.length ≤ 1048576 := by omega
  clear ho1 HD
  cases hp : relIn a with
  | false =>
    have hk : relIn a = true → 0 ≤ (fullL a).length ∧ LeastC a.length (fullL a) a 0 := fun h => by rw [hp] at h; cases h
    have hI := fun w h => implRectRank_any aa ac a 0 w hk hl1 h
    have hS := fun w h => specRectRank_any aa ac a 0 w hk hl1 h
    rw [hp] at hI hS
    obtain ⟨o, Eo⟩ : ∃ kk, rkI false 0 = kk := ⟨_, rfl⟩
    rw [Eo] at hI
    rw [Eo] at hS
    have e1 : (o == o) = true := by simp
    have e2 : (o != o) = false := by simp
    have HC := Lib.hid (And.intro hI hS)
    clear hI hS hp Eo hk
    go_wp2_with fail
    refine (HC.out.1 _ ra).mono ?_
    rintro e w2 ⟨rfl, b2⟩
    have ra_2 := ra.below b2
    have B2 := B1.trans (b2.mono B1.size)
    clear b2 B1 ra
    go_wp2_with fail
    refine (HC.out.2 _ ra_2).mono ?_
    rintro e w3 ⟨rfl, b3⟩
    have ra_3 := ra_2.below b3
    have B3 := B2.trans (b3.mono B2.size)
    clear b3 B2 ra_2
    go_wp2
    go_ret
    exact ⟨rfl, B3⟩
  | true =>
    have R1 := Rl.of hp
    have T := R1.turn
    have C := R1.comp R1
    obtain ⟨k, m, hk, hk2, hm, hkn, hmk, hk0⟩ := ranks R1
    have hI := fun w h => implRectRank_any aa ac a k w (fun _ => hk) hl1 h
    have hS := fun w h => specRectRank_any aa ac a k w (fun _ => hk) hl1 h
    have hT := fun w h => cTurn R1 aa ac w h
    have hBk := fun ao ca w h => implRectRank_any ao ca (turnL a) k w (fun _ => hk2) (rl_short T) h
    have hC := fun w h h2 => cComp R1 R1 aa aa ac ac w h h2
    have hM := fun ao ca w h => implRectRank_any ao ca (compL a a) m w (fun _ => hm) (rl_short C) h
    have hZ := fun w h => implRelSize_any aa ac a w hl1 h
    rw [hp, show rkI true k = (k : Int) from rfl] at hI hS
    rw [T.ok, show rkI true k = (k : Int) from rfl] at hBk
    rw [C.ok, show rkI true m = (m : Int) from rfl] at hM
    rw [hp, show ifN true (sizeL a) = sizeL a from rfl] at hZ
    have hsz : ((k : Int) == 0) = (sizeL a == 0) := by
      rw [Bool.eq_iff_iff, beq_iff_eq, beq_iff_eq]
      constructor
      · intro e
        exact size_none R1 (hk0.1 (by omega))
      · intro e
        have : k = 0 := hk0.2 fun i j hi hj => by
          cases e2 : hB a i j with
          | false => rfl
          | true => have := size_some R1 i j hi hj e2; omega
        omega
    obtain ⟨lb, Elb⟩ : ∃ kk, turnL a = kk := ⟨_, rfl⟩
    rw [Elb] at hT
    rw [Elb] at hBk
    obtain ⟨lc, Elc⟩ : ∃ kk, compL a a = kk := ⟨_, rfl⟩
    rw [Elc] at hC
    rw [Elc] at hM
    obtain ⟨s, Es⟩ : ∃ kk, sizeL a = kk := ⟨_, rfl⟩
    rw [Es] at hZ
    rw [Es] at hsz
    obtain ⟨z0, Ez0⟩ : ∃ b, (s == 0) = b := ⟨_, rfl⟩
    rw [Ez0] at hsz
    obtain ⟨n, hn⟩ : ∃ n, a.length = n := ⟨_, rfl⟩
    have e1 : ((k : Int) == (k : Int)) = true := by simp
    have e2 : ((k : Int) != (k : Int)) = false := by simp
    have e3 : (z0 == z0) = true := by simp
    have hkn2 : (k : Int) ≤ (n : Int) := by omega
    have hmk2 : (m : Int) ≤ (k : Int) := by omega
    rw [hn] at hI hS hT hC hZ
    rw [hn]
    have HC := Lib.hid (And.intro hI (And.intro hS (And.intro hT (And.intro hC hZ))))
    have HB := Lib.hid hBk
    have HM := Lib.hid hM
    clear hI hS hT hBk hC hM hZ hp R1 T C hk hk2 hm hk0 Elb Elc Es hn hl1 hrl hkn hmk
    go_wp2_with fail
    refine (HC.out.1 _ ra).mono ?_
    rintro e w2 ⟨rfl, b2⟩
    have ra_2 := ra.below b2
    have B2 := B1.trans (b2.mono B1.size)
    clear b2 B1 ra
    go_wp2_with fail
    refine (HC.out.2.1 _ ra_2).mono ?_
    rintro e w3 ⟨rfl, b3⟩
    have ra_3 := ra_2.below b3
    have B3 := B2.trans (b3.mono B2.size)
    clear b3 B2 ra_2
    go_wp2_with fail
    refine (HC.out.2.2.1 _ ra_3).mono ?_
    rintro e w4 ⟨v, rfl, ho, b4⟩
    obtain ⟨ba, bc, rfl, rb_4⟩ := row_rd ho
    clear ho
    have ra_4 := ra_3.below b4
    have B4 := B3.trans (b4.mono B3.size)
    clear b4 B3 ra_3
    go_wp2_with fail
    refine (HB.out ba bc _ rb_4).mono ?_
    rintro e w5 ⟨rfl, b5⟩
    have ra_5 := ra_4.below b5
    have rb_5 := rb_4.below b5
    have B5 := B4.trans (b5.mono B4.size)
    clear b5 B4 ra_4 rb_4
    go_wp2_with fail
    refine (HC.out.2.2.2.1 _ ra_5 ra_5).mono ?_
    rintro e w6 ⟨v, rfl, ho, b6⟩
    obtain ⟨ca, cc, rfl, rc_6⟩ := row_rd ho
    clear ho
    have ra_6 := ra_5.below b6
    have rb_6 := rb_5.below b6
    have B6 := B5.trans (b6.mono B5.size)
    clear b6 B5 ra_5 rb_5
    go_wp2_with fail
    refine (HM.out ca cc _ rc_6).mono ?_
    rintro e w7 ⟨rfl, b7⟩
    have ra_7 := ra_6.below b7
    have rb_7 := rb_6.below b7
    have rc_7 := rc_6.below b7
    have B7 := B6.trans (b7.mono B6.size)
    clear b7 B6 ra_6 rb_6 rc_6
    go_wp2_with fail
    refine (HC.out.2.2.2.2 _ ra_7).mono ?_
    rintro e w8 ⟨rfl, b8⟩
    have ra_8 := ra_7.below b8
    have rb_8 := rb_7.below b8
    have rc_8 := rc_7.below b8
    have B8 := B7.trans (b8.mono B7.size)
    clear b8 B7 ra_7 rb_7 rc_7
    go_wp2
    go_ret
    exact ⟨rfl, B8⟩
end Go.Proofs.Ytpbkgdohfnjjpab
