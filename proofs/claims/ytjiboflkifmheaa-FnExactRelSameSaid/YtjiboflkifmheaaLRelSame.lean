/-
  The walk of FnExactRelSame, out of the contracts of the model's and of the program's RelSame; for whatever the arguments read as.
-/
import Derived.Test.YtjiboflkifmheaaT
namespace Go.Proofs.Ytjiboflkifmheaa
open Go.RowKit

set_option maxHeartbeats 4000000 in
theorem exactRelSame_walk (x0 : Int) (r0 : List Int) (ok : Bool) (w : World) (hrl0 : r0.length ≤ 1048576)
    (hS : ∀  (w : World), Calls Try.prog 44 #[.int .i64 x0] w (Gave w r0 ok))
    (hI : ∀  (w : World), Calls Try.prog 45 #[.int .i64 x0] w (Gave w r0 ok)) :
    Calls Try.prog 12 #[.int .i64 x0] w fun e w' => e = .returned (.bool true) ∧ Below w.heap.size w w' := by
  have HS := Lib.hid hS
  have HI := Lib.hid hI
  clear hS hI
  have eok : (ok != ok) = false := by simp
  have B0 := Below.refl w.heap.size w
  go_enter Try.func12, Try.ntmps12
  go_wp2_with fail
  refine (HS.out  _ ).mono fun e w1 h1 => ?_
  obtain ⟨vW, rfl, oW_1, b1⟩ := gave_own h1; clear h1
  have B1 := B0.trans (b1.mono B0.size)
  have s1 := b1.size
  clear b1 B0
  go_wp2_with fail
  refine (HI.out  _ ).mono fun e w2 h2 => ?_
  obtain ⟨vG, rfl, oG_2, b2⟩ := gave_own h2; clear h2
  have oW_2 := oW_1.below b2 oW_1.size
  have B2 := B1.trans (b2.mono B1.size)
  have s2 := b2.size
  clear oW_1 b2 B1
  go_wp2_with fail
  refine (eqIntS_own hrl0 hrl0 oG_2 oW_2).mono ?_
  rintro e w3 ⟨rfl, d3⟩
  have oW_3 := oW_2.dn d3
  have oG_3 := oG_2.dn d3
  have B3 := B2.trans (d3.below _)
  have s3 : w2.heap.size ≤ w3.heap.size := by rw [d3.heap]; exact Nat.le_refl _
  clear oW_2 oG_2 d3 B2
  go_wp2_with fail
  refine (markIntS_own 1 (by omega) hrl0 oG_3).mono ?_
  rintro e w4 ⟨rfl, oG_4, g4⟩
  have oW_4 := oW_3.grown g4 (fun k hk => .inl (by have := oG_3.base hk; omega))
  have B4 : Below w.heap.size w w4 := B3.grown g4 B3.size (fun k hk => by have := oG_3.base hk; omega)
  have s4 := g4.size
  clear oW_3 oG_3 g4 B3
  go_wp2_with fail
  refine (heldIntS_own 1 r0.length (by omega) hrl0 oG_4).mono ?_
  rintro e _ ⟨rfl, rfl⟩
  go_wp2_with fail
  refine (HI.out  _ ).mono fun e w5 h5 => ?_
  obtain ⟨vH, rfl, oH_5, b5⟩ := gave_own h5; clear h5
  have oW_5 := oW_4.below b5 oW_4.size
  have oG_5 := oG_4.below b5 oG_4.size
  have B5 := B4.trans (b5.mono B4.size)
  have s5 := b5.size
  clear oW_4 oG_4 b5 B4
  go_wp2_with fail
  refine (eqIntS_own hrl0 hrl0 oH_5 oW_5).mono ?_
  rintro e w6 ⟨rfl, d6⟩
  have oW_6 := oW_5.dn d6
  have oG_6 := oG_5.dn d6
  have oH_6 := oH_5.dn d6
  have B6 := B5.trans (d6.below _)
  have s6 : w5.heap.size ≤ w6.heap.size := by rw [d6.heap]; exact Nat.le_refl _
  clear oW_5 oG_5 oH_5 d6 B5
  clear oH_6
  go_wp2_with fail
  refine (heldIntS_own 1 r0.length (by omega) hrl0 oG_6).mono ?_
  rintro e _ ⟨rfl, rfl⟩
  go_wp2
  go_ret
  exact ⟨rfl, B6⟩
end Go.Proofs.Ytjiboflkifmheaa
