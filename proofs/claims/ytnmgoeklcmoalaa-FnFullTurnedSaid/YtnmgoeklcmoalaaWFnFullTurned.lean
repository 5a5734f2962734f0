/-
  The walk of FnFullTurned, out of the contracts of the draw and of the functions that it calls; for whatever bytes.
-/
import Derived.Test.YtnmgoeklcmoalaaSR
import Derived.Test.YtnmgoeklcmoalaaRH
import Derived.Test.YtnmgoeklcmoalaaRD
import Derived.Test.YtnmgoeklcmoalaaQE
import Derived.Test.YtnmgoeklcmoalaaGB
namespace Go.Proofs.Ytnmgoeklcmoalaa
open Go.RowKit

theorem fnFullTurned_long (ao : Option Addr) (cap n : Nat) (w : World) (hm : n ≤ maxLen) (hl : ¬ n ≤ 1048576) :
    Calls Try.prog 3 #[.slice ao n cap] w fun e w' => e = .returned (.bool true) ∧ Below w.heap.size w w' := by
  unfold maxLen at hm
  go_enter Try.func3, Try.ntmps3
  go_wp2
  go_ret
  exact ⟨rfl, Below.refl _ _⟩

set_option maxHeartbeats 8000000 in
theorem fnFullTurned_walk (ao : Option Addr) (c : Nat) (bs : List Nat) (w : World) (hl : bs.length ≤ 1048576) (hb : RdB w ao bs) (hc : bs.length ≤ c) (hbA : bs ≠ [] → ∀ a, ao = some a → a.block < w.heap.size) :
    Calls Try.prog 3 #[.slice ao bs.length c] w fun e w' => e = .returned (.bool true) ∧ Below w.heap.size w w' := by
  have HD := Lib.hid (drawRectAll_any ao c bs w hb hc hbA)
  clear hb hbA
  go_enter Try.func3, Try.ntmps3
  go_wp2_with fail
  refine HD.out.mono ?_
  rintro e w1 ⟨v, a, rfl, hrl, ho1, B1⟩
  obtain ⟨aa, ac, rfl, ra⟩ := row_rd ho1
  have hl1 : a.length ≤ 1048576 := by omega
  clear ho1 HD
  cases hp : relIn a with
  | false =>
    have hI := fun w h => gave_rows (implRectAll_any aa ac a w hl1 h)
    have hS := fun w h => gave_rows (specRectAll_any aa ac a w hl1 h)
    rw [hp] at hI hS
    have hn16 : fullN a ≤ 1048576 := fullN_le hrl
    obtain ⟨xss, Ex⟩ : ∃ l, (List.range (fullN a)).map (PI (fullL a)) = l := ⟨_, rfl⟩
    rw [Ex] at hI hS
    have hxl : xss.length = fullN a := by rw [← Ex]; simp
    obtain ⟨n, En⟩ : ∃ n, fullN a = n := ⟨_, rfl⟩
    rw [En] at hI hS hn16 hxl
    have HC := Lib.hid (And.intro hI hS)
    clear hI hS hp En Ex
    go_wp2_with fail
    refine (HC.out.1 _ ra).mono ?_
    rintro e w2 ⟨oa, oc, rfl, ro_2, ho2, b2⟩
    have ra_2 := ra.below b2
    have B2 := B1.trans (b2.mono B1.size)
    clear b2 B1 ra
    go_wp2_with fail
    refine (HC.out.2 _ ra_2).mono ?_
    rintro e w3 ⟨wa, wc, rfl, rw_3, hw2, b3⟩
    have ra_3 := ra_2.below b3
    have ro_3 := ro_2.below b3
    have B3 := B2.trans (b3.mono B2.size)
    clear b3 B2 ra_2 ro_2
    go_wp2_with fail
    refine (sameRows_n oa wa oc wc n xss hxl _ hn16 (fun xs hx => by rw [ho2 xs hx]; decide) ro_3 rw_3).mono ?_
    rintro e w4 ⟨rfl, d4⟩
    have ra_4 := d4.rd ra_3
    have ro_4 := ro_3.dn d4
    have rw_4 := rw_3.dn d4
    have B4 := B3.trans (d4.below _)
    clear d4 B3 ra_3 ro_3 rw_3
    go_wp2_with fail
    refine (sameRows_n oa wa oc wc n xss hxl _ hn16 (fun xs hx => by rw [ho2 xs hx]; decide) ro_4 rw_4).mono ?_
    rintro e w5 ⟨rfl, d5⟩
    have ra_5 := d5.rd ra_4
    have ro_5 := ro_4.dn d5
    have rw_5 := rw_4.dn d5
    have B5 := B4.trans (d5.below _)
    clear d5 B4 ra_4 ro_4 rw_4
    go_wp2
    go_ret
    exact ⟨rfl, B5⟩
  | true =>
    have hI := fun w h => gave_rows (implRectAll_any aa ac a w hl1 h)
    have hS := fun w h => gave_rows (specRectAll_any aa ac a w hl1 h)
    rw [hp] at hI hS
    have hn16 : fullN a ≤ 1048576 := fullN_le hrl
    obtain ⟨xss, Ex⟩ : ∃ l, (List.range (fullN a)).map (PI (fullL a)) = l := ⟨_, rfl⟩
    rw [Ex] at hI hS
    have hxl : xss.length = fullN a := by rw [← Ex]; simp
    have R1 := Rl.of hp
    have hT := fun w h => cTurn R1 aa ac w h
    have hB2 := fun ao ca w h => gave_rows (implRectAll_any ao ca (turnL a) w (rl_short R1.turn) h)
    rw [R1.turn.ok, show fullN (turnL a) = fullN a by unfold fullN; rw [hp, R1.turn.ok, if_pos rfl, if_pos rfl]; exact full_turned R1] at hB2
    obtain ⟨n, En⟩ : ∃ n, fullN a = n := ⟨_, rfl⟩
    rw [En] at hI hS hn16 hxl hB2
    obtain ⟨yss, Ey⟩ : ∃ l, (List.range n).map (PI (fullL (turnL a))) = l := ⟨_, rfl⟩
    rw [Ey] at hB2
    obtain ⟨lb, Elb⟩ : ∃ kk, turnL a = kk := ⟨_, rfl⟩
    rw [Elb] at hT
    rw [Elb] at hB2
    have e1 : ((n : Int) == (n : Int)) = true := by simp
    have HC := Lib.hid (And.intro hI (And.intro hS (And.intro hT hB2)))
    clear hI hS hT hB2 hp En Ex Ey Elb R1
    go_wp2_with fail
    refine (HC.out.1 _ ra).mono ?_
    rintro e w2 ⟨oa, oc, rfl, ro_2, ho2, b2⟩
    have ra_2 := ra.below b2
    have B2 := B1.trans (b2.mono B1.size)
    clear b2 B1 ra
    go_wp2_with fail
    refine (HC.out.2.1 _ ra_2).mono ?_
    rintro e w3 ⟨wa, wc, rfl, rw_3, hw2, b3⟩
    have ra_3 := ra_2.below b3
    have ro_3 := ro_2.below b3
    have B3 := B2.trans (b3.mono B2.size)
    clear b3 B2 ra_2 ro_2
    go_wp2_with fail
    refine (sameRows_n oa wa oc wc n xss hxl _ hn16 (fun xs hx => by rw [ho2 xs hx]; decide) ro_3 rw_3).mono ?_
    rintro e w4 ⟨rfl, d4⟩
    have ra_4 := d4.rd ra_3
    have ro_4 := ro_3.dn d4
    have rw_4 := rw_3.dn d4
    have B4 := B3.trans (d4.below _)
    clear d4 B3 ra_3 ro_3 rw_3
    go_wp2_with fail
    refine (HC.out.2.2.1 _ ra_4).mono ?_
    rintro e w5 ⟨v, rfl, ho, b5⟩
    obtain ⟨ba, bc, rfl, rb_5⟩ := row_rd ho
    clear ho
    have ra_5 := ra_4.below b5
    have ro_5 := ro_4.below b5
    have rw_5 := rw_4.below b5
    have B5 := B4.trans (b5.mono B4.size)
    clear b5 B4 ra_4 ro_4 rw_4
    go_wp2_with fail
    refine (HC.out.2.2.2 ba bc _ rb_5).mono ?_
    rintro e w6 ⟨ya, yc, rfl, ry_6, hy2, b6⟩
    have ra_6 := ra_5.below b6
    have ro_6 := ro_5.below b6
    have rw_6 := rw_5.below b6
    have rb_6 := rb_5.below b6
    have B6 := B5.trans (b6.mono B5.size)
    clear b6 B5 ra_5 ro_5 rw_5 rb_5
    go_wp2
    go_ret
    exact ⟨rfl, B6⟩
end Go.Proofs.Ytnmgoeklcmoalaa
