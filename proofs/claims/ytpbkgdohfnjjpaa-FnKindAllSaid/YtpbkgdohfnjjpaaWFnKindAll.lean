/-
  The walk of FnKindAll, out of the contracts of the draw and of the functions that it calls; for whatever bytes.
-/
import Derived.Test.YtpbkgdohfnjjpaaKC
import Derived.Test.YtpbkgdohfnjjpaaKD
namespace Go.Proofs.Ytpbkgdohfnjjpaa
open Go.RowKit

theorem fnKindAll_long (ao : Option Addr) (cap n : Nat) (w : World) (hm : n ≤ maxLen) (hl : ¬ n ≤ 1048576) :
    Calls Try.prog 6 #[.slice ao n cap] w fun e w' => e = .returned (.bool true) ∧ Below w.heap.size w w' := by
  unfold maxLen at hm
  go_enter Try.func6, Try.ntmps6
  go_wp2
  go_ret
  exact ⟨rfl, Below.refl _ _⟩

set_option maxHeartbeats 8000000 in
theorem fnKindAll_walk (ao : Option Addr) (c : Nat) (bs : List Nat) (w : World) (hl : bs.length ≤ 1048576) (hb : RdB w ao bs) (hc : bs.length ≤ c) (hbA : bs ≠ [] → ∀ a, ao = some a → a.block < w.heap.size) :
    Calls Try.prog 6 #[.slice ao bs.length c] w fun e w' => e = .returned (.bool true) ∧ Below w.heap.size w w' := by
  have HD := Lib.hid (drawKindAll_any ao c bs w hb hc hbA)
  clear hb hbA
  go_enter Try.func6, Try.ntmps6
  go_wp2_with fail
  refine HD.out.mono ?_
  rintro e w1 ⟨v, a, rfl, hrl, ho1, B1⟩
  obtain ⟨aa, ac, rfl, ra⟩ := row_rd ho1
  have hl1 : a.length ≤ 1048576 := by omega
  clear ho1 HD
  cases hp : relIn a with
  | false =>
    have hI := fun w h => implKindAll_any aa ac a w hl1 h
    have hS := fun w h => specKindAll_any aa ac a w hl1 h
    rw [hp] at hI hS
    obtain ⟨ks, Ek⟩ : ∃ k, kindsOf a = k := ⟨_, rfl⟩
    rw [Ek] at hI hS
    have e1 : (ks == ks) = true := str_beq ks
    have e2 : (ks != ks) = false := str_bne ks
    have HC := Lib.hid (And.intro hI hS)
    clear hI hS hp Ek
    go_wp2_with fail
    refine (HC.out.1 _ ra).mono ?_
    rintro e w2 ⟨rfl, b2⟩
    have ra_2 := ra.below b2
    have B2 := B1.trans (b2.mono B1.size)
    clear b2 B1 ra
    go_wp2_with fail
    refine (HC.out.2 _ ra_2).mono ?_
    rintro e w3 ⟨rfl, b3⟩
    have ra_3 := ra_2.below b3
    have B3 := B2.trans (b3.mono B2.size)
    clear b3 B2 ra_2
    go_wp2
    go_ret
    exact ⟨rfl, B3⟩
  | true =>
    have hI := fun w h => implKindAll_any aa ac a w hl1 h
    have hS := fun w h => specKindAll_any aa ac a w hl1 h
    rw [hp] at hI hS
    have R1 := Rl.of hp
    have hT := fun w h => cTurn R1 aa ac w h
    have hks : (kindsOf a).size ≤ 1048576 := kinds_size a
    have hA := fun w h => uKindIn R1 (kindsOf a) hks true (kinds_ok R1) aa ac w h
    have hF := fun w h => uKindIn R1 ⟨#[102]⟩ (by decide) _ (in_f R1) aa ac w h
    have hD := fun w h => uKindIn R1 ⟨#[100]⟩ (by decide) _ (in_d R1) aa ac w h
    have hJ := fun ao ca w h => uKindIn R1.turn ⟨#[106]⟩ (by decide) _ (in_j R1) ao ca w h
    have hO := fun ao ca w h => uKindIn R1.turn ⟨#[111]⟩ (by decide) _ (in_o R1) ao ca w h
    obtain ⟨ks, Ek⟩ : ∃ k, kindsOf a = k := ⟨_, rfl⟩
    obtain ⟨kf, Ef⟩ : ∃ k, kindF a = k := ⟨_, rfl⟩
    obtain ⟨kd, Ed⟩ : ∃ k, kindD a = k := ⟨_, rfl⟩
    obtain ⟨lb, Eb⟩ : ∃ l, turnL a = l := ⟨_, rfl⟩
    rw [Ek] at hI hS hA
    rw [Eb] at hT hJ hO
    rw [Ef] at hF hJ
    rw [Ed] at hD hO
    have e1 : (ks == ks) = true := str_beq ks
    have e2 : (ks != ks) = false := str_bne ks
    have f1 : (kf == kf) = true := by simp
    have d1 : (kd == kd) = true := by simp
    have HC := Lib.hid (And.intro hI (And.intro hS (And.intro hT hA)))
    have HF := Lib.hid (And.intro hF hD)
    have HJ := Lib.hid hJ
    have HO := Lib.hid hO
    clear hI hS hT hA hF hD hJ hO hp R1 Ek Ef Ed Eb hks
    go_wp2_with fail
    refine (HC.out.1 _ ra).mono ?_
    rintro e w2 ⟨rfl, b2⟩
    have ra_2 := ra.below b2
    have B2 := B1.trans (b2.mono B1.size)
    clear b2 B1 ra
    go_wp2_with fail
    refine (HC.out.2.1 _ ra_2).mono ?_
    rintro e w3 ⟨rfl, b3⟩
    have ra_3 := ra_2.below b3
    have B3 := B2.trans (b3.mono B2.size)
    clear b3 B2 ra_2
    go_wp2_with fail
    refine (HC.out.2.2.1 _ ra_3).mono ?_
    rintro e w4 ⟨v, rfl, ho, b4⟩
    obtain ⟨ba, bc, rfl, rb_4⟩ := row_rd ho
    clear ho
    have ra_4 := ra_3.below b4
    have B4 := B3.trans (b4.mono B3.size)
    clear b4 B3 ra_3
    go_wp2_with fail
    refine (HC.out.2.2.2 _ ra_4).mono ?_
    rintro e w5 ⟨rfl, b5⟩
    have ra_5 := ra_4.below b5
    have rb_5 := rb_4.below b5
    have B5 := B4.trans (b5.mono B4.size)
    clear b5 B4 ra_4 rb_4
    go_wp2_with fail
    refine (HF.out.1 _ ra_5).mono ?_
    rintro e w6 ⟨rfl, b6⟩
    have ra_6 := ra_5.below b6
    have rb_6 := rb_5.below b6
    have B6 := B5.trans (b6.mono B5.size)
    clear b6 B5 ra_5 rb_5
    go_wp2_with fail
    refine (HJ.out ba bc _ rb_6).mono ?_
    rintro e w7 ⟨rfl, b7⟩
    have ra_7 := ra_6.below b7
    have rb_7 := rb_6.below b7
    have B7 := B6.trans (b7.mono B6.size)
    clear b7 B6 ra_6 rb_6
    go_wp2_with fail
    refine (HF.out.2 _ ra_7).mono ?_
    rintro e w8 ⟨rfl, b8⟩
    have ra_8 := ra_7.below b8
    have rb_8 := rb_7.below b8
    have B8 := B7.trans (b8.mono B7.size)
    clear b8 B7 ra_7 rb_7
    go_wp2_with fail
    refine (HO.out ba bc _ rb_8).mono ?_
    rintro e w9 ⟨rfl, b9⟩
    have ra_9 := ra_8.below b9
    have rb_9 := rb_8.below b9
    have B9 := B8.trans (b9.mono B8.size)
    clear b9 B8 ra_8 rb_8
    go_wp2
    go_ret
    exact ⟨rfl, B9⟩
end Go.Proofs.Ytpbkgdohfnjjpaa
