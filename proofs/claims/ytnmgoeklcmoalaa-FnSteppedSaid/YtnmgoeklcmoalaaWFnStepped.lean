/-
  The walk of FnStepped, out of the contracts of the draw and of the functions that it calls; for whatever bytes.
-/
import Derived.Test.YtnmgoeklcmoalaaRB
import Derived.Test.YtnmgoeklcmoalaaRI
import Derived.Test.YtnmgoeklcmoalaaQC
import Derived.Test.YtnmgoeklcmoalaaGB
namespace Go.Proofs.Ytnmgoeklcmoalaa
open Go.RowKit

theorem fnStepped_long (ao : Option Addr) (cap n : Nat) (w : World) (hm : n ≤ maxLen) (hl : ¬ n ≤ 1048576) :
    Calls Try.prog 4 #[.slice ao n cap] w fun e w' => e = .returned (.bool true) ∧ Below w.heap.size w w' := by
  unfold maxLen at hm
  go_enter Try.func4, Try.ntmps4
  go_wp2
  go_ret
  exact ⟨rfl, Below.refl _ _⟩

set_option maxHeartbeats 8000000 in
theorem fnStepped_walk (ao : Option Addr) (c : Nat) (bs : List Nat) (w : World) (hl : bs.length ≤ 1048576) (hb : RdB w ao bs) (hc : bs.length ≤ c) (hbA : bs ≠ [] → ∀ a, ao = some a → a.block < w.heap.size) :
    Calls Try.prog 4 #[.slice ao bs.length c] w fun e w' => e = .returned (.bool true) ∧ Below w.heap.size w w' := by
  have HD := Lib.hid (drawRectStepped_any ao c bs w hb hc hl hbA)
  clear hb hbA
  go_enter Try.func4, Try.ntmps4
  go_wp2_with fail
  refine HD.out.mono ?_
  rintro e w1 ⟨v, a, rfl, hrl, ho1, B1⟩
  obtain ⟨aa, ac, rfl, ra⟩ := row_rd ho1
  have hl1 : a.length ≤ 1048576 := by omega
  clear ho1 HD
  cases hp : relIn a && stepB a with
  | false =>
    have hI := fun w h => implRectStepped_any aa ac a w hl1 h
    have hS := fun w h => specRectStepped_any aa ac a w hl1 h
    rw [hp] at hI hS
    have HC := Lib.hid (And.intro hI hS)
    clear hI hS hp
    go_wp2_with fail
    refine (HC.out.1 _ ra).mono ?_
    rintro e w2 ⟨rfl, b2⟩
    have ra_2 := ra.below b2
    have B2 := B1.trans (b2.mono B1.size)
    clear b2 B1 ra
    go_wp2_with fail
    refine (HC.out.2 _ ra_2).mono ?_
    rintro e w3 ⟨rfl, b3⟩
    have ra_3 := ra_2.below b3
    have B3 := B2.trans (b3.mono B2.size)
    clear b3 B2 ra_2
    go_wp2
    go_ret
    exact ⟨rfl, B3⟩
  | true =>
    have hI := fun w h => implRectStepped_any aa ac a w hl1 h
    have hS := fun w h => specRectStepped_any aa ac a w hl1 h
    rw [hp] at hI hS
    rw [Bool.and_eq_true] at hp
    have R1 := Rl.of hp.1
    have hT := fun w h => cTurn R1 aa ac w h
    have hE := fun ao ca w h => rStepped R1.turn (step_turn R1 hp.2) ao ca w h
    have hrow := fun i k hi hk hm => step_rows R1 hp.2 i k hi hk hm
    obtain ⟨lb, Elb⟩ : ∃ kk, turnL a = kk := ⟨_, rfl⟩
    rw [Elb] at hT
    rw [Elb] at hE
    have HC := Lib.hid (And.intro hI (And.intro hS (And.intro hT hE)))
    have HR := Lib.hid hrow
    clear hI hS hT hE hp R1 hrow Elb
    go_wp2_with fail
    refine (HC.out.1 _ ra).mono ?_
    rintro e w2 ⟨rfl, b2⟩
    have ra_2 := ra.below b2
    have B2 := B1.trans (b2.mono B1.size)
    clear b2 B1 ra
    go_wp2_with fail
    refine (HC.out.2.1 _ ra_2).mono ?_
    rintro e w3 ⟨rfl, b3⟩
    have ra_3 := ra_2.below b3
    have B3 := B2.trans (b3.mono B2.size)
    clear b3 B2 ra_2
    go_wp2_with fail
    refine (HC.out.2.2.1 _ ra_3).mono ?_
    rintro e w4 ⟨v, rfl, ho, b4⟩
    obtain ⟨ba, bc, rfl, rb_4⟩ := row_rd ho
    clear ho
    have ra_4 := ra_3.below b4
    have B4 := B3.trans (b4.mono B3.size)
    clear b4 B3 ra_3
    go_wp2
    go_loopw [8, 9] (fun i _ wr => ∃ p : Nat, p ≤ a.length ∧ i = .int .i64 p ∧ Dn w4 wr)
      (fun i _ _ => a.length - (intOf i).toNat)
    case atStart => exact ⟨0, Nat.zero_le _, rfl, Dn.refl _⟩
    case round =>
      obtain ⟨p, hpl, rfl, hd⟩ := hrel
      by_cases hlt : p < a.length
      · have hi1 : ((p : Nat) : Int) < (a.length : Int) := by omega
        go_wp2
        go_loopw [9] (fun q wq => ∃ m : Nat, m ≤ p ∧ q = .int .i64 m ∧ Dn w4 wq)
          (fun q _ => p - (intOf q).toNat)
        case atStart => exact ⟨0, Nat.zero_le _, rfl, hd⟩
        case round =>
          clear hd
          obtain ⟨m, hm, rfl, hd⟩ := hrel
          by_cases hlm : m < p
          · have hi2 : ((m : Nat) : Int) < (p : Int) := by omega
            have hi3 : ((m : Nat) : Int) < (a.length : Int) := by omega
            obtain ⟨b, off, y, hyk, hbe, hbl, hc1⟩ := (hd.rd ra_4).get p hlt
            obtain ⟨b2, off2, x, hxk, hbe2, hbl2, hc2⟩ := (hd.rd ra_4).get m (by omega)
            have hye := rowAt_get (xs := a) (k := p) hlt
            rw [hyk] at hye
            have hxe := rowAt_get (xs := a) (k := m) (by omega)
            rw [hxk] at hxe
            have hyy : rowAt a p = y := (Option.some.inj hye).symm
            have hxx : rowAt a m = x := (Option.some.inj hxe).symm
            have hrow := HR.out p m hlt (by omega)
            rw [hyy, hxx] at hrow
            have HRW := Lib.hid hrow
            cases hbe
            cases hbe2
            clear hyk hxk hye hxe hyy hxx hrow
            cases hz : (bits .and .i64 y x != 0) with
            | true =>
              have hne : (y != x) = false := by
                have := HRW.out (by simpa using hz)
                simp [this]
              clear HRW
              go_wp2
              go_quiet (fail)
              go_wp2
              go_roundw
              case rel => exact ⟨m + 1, by omega, by go_num, hd.trans (Dn.drewN _ _)⟩
              case measure => simp [intOf]; omega
            | false =>
              clear HRW
              go_wp2
              go_quiet (fail)
              go_wp2
              go_roundw
              case rel => exact ⟨m + 1, by omega, by go_num, hd.trans (Dn.drewN _ _)⟩
              case measure => simp [intOf]; omega
          · obtain rfl : m = p := by omega
            go_wp2
            go_roundw
            case rel => exact ⟨m + 1, by omega, by go_num, hd⟩
            case measure => simp [intOf]; omega
      · obtain rfl : p = a.length := by omega
        have hbd := hd.rd rb_4
        go_wp2_with fail
        refine (HC.out.2.2.2 ba bc _ hbd).mono ?_
        rintro e w9 ⟨rfl, b9⟩
        go_wp2
        go_ret
        exact ⟨rfl, (B4.trans (hd.below _)).trans (b9.mono (B4.trans (hd.below _)).size)⟩
end Go.Proofs.Ytnmgoeklcmoalaa
