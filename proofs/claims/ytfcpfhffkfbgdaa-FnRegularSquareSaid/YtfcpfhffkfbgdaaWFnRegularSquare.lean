/-
  The walk of FnRegularSquare, out of the contracts of the draw and of the functions that it calls; for whatever bytes.
-/
import Derived.Test.YtfcpfhffkfbgdaaTF
import Derived.Test.YtfcpfhffkfbgdaaHX
namespace Go.Proofs.Ytfcpfhffkfbgdaa
open Go.RowKit

theorem rt_counts : countC 1 ⟨#[114, 116]⟩ (List.range 2) = 1 ∧ countC 2 ⟨#[114, 116]⟩ (List.range 16) = 4 ∧ countC 3 ⟨#[114, 116]⟩ (List.range 512) = 29 := by decide +kernel
theorem fnRegularSquare_long (ao : Option Addr) (cap n : Nat) (w : World) (hm : n ≤ maxLen) (hl : ¬ n ≤ 1048576) :
    Calls Try.prog 13 #[.slice ao n cap] w fun e w' => e = .returned (.bool true) ∧ Below w.heap.size w w' := by
  unfold maxLen at hm
  go_enter Try.func13, Try.ntmps13
  go_wp2
  go_ret
  exact ⟨rfl, Below.refl _ _⟩

set_option maxHeartbeats 8000000 in
theorem fnRegularSquare_walk (ao : Option Addr) (c : Nat) (bs : List Nat) (w : World) (hl : bs.length ≤ 1048576) (hb : RdB w ao bs) (hc : bs.length ≤ c) (hbA : bs ≠ [] → ∀ a, ao = some a → a.block < w.heap.size) :
    Calls Try.prog 13 #[.slice ao bs.length c] w fun e w' => e = .returned (.bool true) ∧ Below w.heap.size w w' := by
  have HD := Lib.hid (drawRegularSquare_any ao c bs w hb hc hbA)
  clear hb hbA
  go_enter Try.func13, Try.ntmps13
  go_wp2_with fail
  refine HD.out.mono ?_
  rintro e w1 ⟨k, hk, rfl, B1⟩
  clear HD
  rcases (by omega : k = 0 ∨ k = 4 ∨ k = 1 ∨ k = 2 ∨ k = 3) with rfl | rfl | rfl | rfl | rfl
  · have hI := fun w => implRegularSquare_any 0 w
    have hS := fun w => specRegularSquare_any 0 w
    rw [show countP 0 sqB = 0 from rfl, show inB 0 1 3 = false from rfl] at hI hS
    have HC := Lib.hid (And.intro hI hS)
    clear hI hS hk
    go_wp2_with fail
    refine (HC.out.1 _).mono ?_
    rintro e w2 ⟨rfl, b2⟩
    have B2 := B1.trans (b2.mono B1.size)
    clear b2 B1
    go_wp2_with fail
    refine (HC.out.2 _).mono ?_
    rintro e w3 ⟨rfl, b3⟩
    have B3 := B2.trans (b3.mono B2.size)
    clear b3 B2
    go_wp2
    go_ret
    exact ⟨rfl, B3⟩
  · have hI := fun w => implRegularSquare_any 4 w
    have hS := fun w => specRegularSquare_any 4 w
    rw [show countP 4 sqB = 0 from rfl, show inB 4 1 3 = false from rfl] at hI hS
    have HC := Lib.hid (And.intro hI hS)
    clear hI hS hk
    go_wp2_with fail
    refine (HC.out.1 _).mono ?_
    rintro e w2 ⟨rfl, b2⟩
    have B2 := B1.trans (b2.mono B1.size)
    clear b2 B1
    go_wp2_with fail
    refine (HC.out.2 _).mono ?_
    rintro e w3 ⟨rfl, b3⟩
    have B3 := B2.trans (b3.mono B2.size)
    clear b3 B2
    go_wp2
    go_ret
    exact ⟨rfl, B3⟩
  · have hv : countP 1 sqB = 2 := by
      have e : countP 1 sqB = ((cntL 1 sqB (List.range 2) : Nat) : Int) := rfl
      rw [e, sq_counts.1]
      rfl
    have hI := fun w => implRegularSquare_any 1 w
    have hS := fun w => specRegularSquare_any 1 w
    rw [hv, show inB 1 1 3 = true from rfl] at hI hS
    have hk2 : countR 1 ⟨#[114, 116]⟩ = 1 := by
      have e : countR 1 ⟨#[114, 116]⟩ = ((countC 1 ⟨#[114, 116]⟩ (List.range 2) : Nat) : Int) := by unfold countR; rw [if_pos (by decide +kernel)]; rfl
      rw [e, rt_counts.1]
      rfl
    have hK := fun w => implKindCount_any 1 ⟨#[114, 116]⟩ w (by decide)
    rw [hk2, show countB 1 ⟨#[114, 116]⟩ = true by decide +kernel] at hK
    have HC := Lib.hid (And.intro hI (And.intro hS hK))
    clear hI hS hK hk hv hk2
    go_wp2_with fail
    refine (HC.out.1 _).mono ?_
    rintro e w2 ⟨rfl, b2⟩
    have B2 := B1.trans (b2.mono B1.size)
    clear b2 B1
    go_wp2_with fail
    refine (HC.out.2.1 _).mono ?_
    rintro e w3 ⟨rfl, b3⟩
    have B3 := B2.trans (b3.mono B2.size)
    clear b3 B2
    go_wp2_with fail
    refine (HC.out.2.2 _).mono ?_
    rintro e w4 ⟨rfl, b4⟩
    have B4 := B3.trans (b4.mono B3.size)
    clear b4 B3
    go_wp2
    go_ret
    exact ⟨rfl, B4⟩
  · have hv : countP 2 sqB = 11 := by
      have e : countP 2 sqB = ((cntL 2 sqB (List.range 16) : Nat) : Int) := rfl
      rw [e, sq_counts.2.1]
      rfl
    have hI := fun w => implRegularSquare_any 2 w
    have hS := fun w => specRegularSquare_any 2 w
    rw [hv, show inB 2 1 3 = true from rfl] at hI hS
    have hk2 : countR 2 ⟨#[114, 116]⟩ = 4 := by
      have e : countR 2 ⟨#[114, 116]⟩ = ((countC 2 ⟨#[114, 116]⟩ (List.range 16) : Nat) : Int) := by unfold countR; rw [if_pos (by decide +kernel)]; rfl
      rw [e, rt_counts.2.1]
      rfl
    have hK := fun w => implKindCount_any 2 ⟨#[114, 116]⟩ w (by decide)
    rw [hk2, show countB 2 ⟨#[114, 116]⟩ = true by decide +kernel] at hK
    have HC := Lib.hid (And.intro hI (And.intro hS hK))
    clear hI hS hK hk hv hk2
    go_wp2_with fail
    refine (HC.out.1 _).mono ?_
    rintro e w2 ⟨rfl, b2⟩
    have B2 := B1.trans (b2.mono B1.size)
    clear b2 B1
    go_wp2_with fail
    refine (HC.out.2.1 _).mono ?_
    rintro e w3 ⟨rfl, b3⟩
    have B3 := B2.trans (b3.mono B2.size)
    clear b3 B2
    go_wp2_with fail
    refine (HC.out.2.2 _).mono ?_
    rintro e w4 ⟨rfl, b4⟩
    have B4 := B3.trans (b4.mono B3.size)
    clear b4 B3
    go_wp2
    go_ret
    exact ⟨rfl, B4⟩
  · have hv : countP 3 sqB = 123 := by
      have e : countP 3 sqB = ((cntL 3 sqB (List.range 512) : Nat) : Int) := rfl
      rw [e, sq_counts.2.2]
      rfl
    have hI := fun w => implRegularSquare_any 3 w
    have hS := fun w => specRegularSquare_any 3 w
    rw [hv, show inB 3 1 3 = true from rfl] at hI hS
    have hk2 : countR 3 ⟨#[114, 116]⟩ = 29 := by
      have e : countR 3 ⟨#[114, 116]⟩ = ((countC 3 ⟨#[114, 116]⟩ (List.range 512) : Nat) : Int) := by unfold countR; rw [if_pos (by decide +kernel)]; rfl
      rw [e, rt_counts.2.2]
      rfl
    have hK := fun w => implKindCount_any 3 ⟨#[114, 116]⟩ w (by decide)
    rw [hk2, show countB 3 ⟨#[114, 116]⟩ = true by decide +kernel] at hK
    have HC := Lib.hid (And.intro hI (And.intro hS hK))
    clear hI hS hK hk hv hk2
    go_wp2_with fail
    refine (HC.out.1 _).mono ?_
    rintro e w2 ⟨rfl, b2⟩
    have B2 := B1.trans (b2.mono B1.size)
    clear b2 B1
    go_wp2_with fail
    refine (HC.out.2.1 _).mono ?_
    rintro e w3 ⟨rfl, b3⟩
    have B3 := B2.trans (b3.mono B2.size)
    clear b3 B2
    go_wp2_with fail
    refine (HC.out.2.2 _).mono ?_
    rintro e w4 ⟨rfl, b4⟩
    have B4 := B3.trans (b4.mono B3.size)
    clear b4 B3
    go_wp2
    go_ret
    exact ⟨rfl, B4⟩
end Go.Proofs.Ytfcpfhffkfbgdaa
