/-
  The law FnSizes: its walk; for whatever bytes.
-/
import Derived.Test.YtillmjnkhkcedaaOG
import Derived.Test.YtillmjnkhkcedaaOI
import Derived.Test.YtillmjnkhkcedaaOJ
import Derived.Test.YtillmjnkhkcedaaSI
namespace Go.Proofs.Ytillmjnkhkcedaa
open Go.RowKit

theorem fnSizes_long (ao : Option Addr) (cap n : Nat) (w : World) (hm : n ≤ maxLen) (hl : ¬ n ≤ 1048576) :
    Calls Try.prog 12 #[.slice ao n cap] w fun e w' => e = .returned (.bool true) ∧ Below w.heap.size w w' := by
  unfold maxLen at hm
  go_enter Try.func12, Try.ntmps12
  go_wp2
  go_ret
  exact ⟨rfl, Below.refl _ _⟩

set_option maxHeartbeats 4000000 in
theorem fnSizes_walk (ao : Option Addr) (c : Nat) (bs : List Nat) (w : World) (hl : bs.length ≤ 1048576) (hb : RdB w ao bs) (hc : bs.length ≤ c) (hbA : bs ≠ [] → ∀ a, ao = some a → a.block < w.heap.size) :
    Calls Try.prog 12 #[.slice ao bs.length c] w fun e w' => e = .returned (.bool true) ∧ Below w.heap.size w w' := by
  have HD := Lib.hid (drawOrderSizes_any ao c bs w hb hc hbA)
  clear hb hbA
  go_enter Try.func12, Try.ntmps12
  go_wp2_with fail
  refine HD.out.mono ?_
  rintro e w1 ⟨v, a, rfl, hrl, ho1, B1⟩
  obtain ⟨aa, ac, rfl, ra⟩ := row_rd ho1
  have hl1 : a.length ≤ 1048576 := by omega
  clear ho1 HD
  have hI := fun w h => implOrderSizes_any aa ac a w hl1 h
  have hS := fun w h => specOrderSizes_any aa ac a w hl1 h
  have hf := fun h => chain_anti (xs := a) h
  have h0 : 0 ≤ chainN a ∧ chainN a ≤ 4 := by unfold chainN ifN; split; exact tog_le _ _; omega
  have h0' : 0 ≤ antiN a ∧ antiN a ≤ 4 := by unfold antiN ifN; split; exact tog_le _ _; omega
  obtain ⟨s, Es⟩ : ∃ s, chainN a = s := ⟨_, rfl⟩
  obtain ⟨t, Et⟩ : ∃ s, antiN a = s := ⟨_, rfl⟩
  obtain ⟨b, Eb⟩ : ∃ s, ordB a = s := ⟨_, rfl⟩
  rw [Es, Et, Eb] at hI hS hf
  rw [Es] at h0
  rw [Et] at h0'
  clear Es Et Eb
  have HI := Lib.hid hI
  have HS := Lib.hid hS
  clear hI hS
  cases b with
  | false =>
    clear hf
    go_wp2_with fail
    refine (HI.out _ ra).mono ?_
    rintro e w2 ⟨rfl, b2⟩
    have r2 := ra.below b2
    have B2 := B1.trans (b2.mono B1.size)
    clear b2 B1 ra
    go_wp2_with fail
    refine (HS.out _ r2).mono ?_
    rintro e w3 ⟨rfl, b3⟩
    have B3 := B2.trans (b3.mono B2.size)
    clear b3 B2 r2
    go_wp2
    go_ret
    exact ⟨rfl, B3⟩
  | true =>
    obtain ⟨f1, f2⟩ := hf rfl
    obtain ⟨m, hm⟩ : ∃ m, s * t = m := ⟨_, rfl⟩
    have hmb : 0 ≤ m ∧ m ≤ 16 := by
      rw [← hm]
      rcases (by omega : s = 0 ∨ s = 1 ∨ s = 2 ∨ s = 3 ∨ s = 4) with rfl | rfl | rfl | rfl | rfl <;> omega
    rw [hm] at f1
    have e1 : wrap64 m = m := (by unfold wrap64; omega)
    clear hf
    have g1 : m ≥ (a.length : Int) := f1
    go_wp2_with fail
    refine (HI.out _ ra).mono ?_
    rintro e w2 ⟨rfl, b2⟩
    have r2 := ra.below b2
    have B2 := B1.trans (b2.mono B1.size)
    clear b2 B1 ra
    go_wp2_with fail
    refine (HS.out _ r2).mono ?_
    rintro e w3 ⟨rfl, b3⟩
    have B3 := B2.trans (b3.mono B2.size)
    clear b3 B2 r2
    go_wp2
    go_ret
    exact ⟨rfl, B3⟩
end Go.Proofs.Ytillmjnkhkcedaa
