/-
  The walk of FnExactProgTriple, out of the contracts of the model's and of the program's ProgTriple; for whatever the arguments read as.
-/
import Derived.Test.YtcdiicckngndcaaPQ
namespace Go.Proofs.Ytcdiicckngndcaa
open Go.RowKit

theorem exactProgTriple_long1 (x0 : Int) (ao1 : Option Addr) (cap1 n1 : Nat) (x2 : Int) (w : World) (hm1 : n1 ≤ maxLen) (hl1 : ¬ n1 ≤ 1048576) :
    Calls Try.prog 6 #[.int .i64 x0, .slice ao1 n1 cap1, .int .i64 x2] w fun e w' => e = .returned (.bool true) ∧ Below w.heap.size w w' := by
  unfold maxLen at hm1
  go_enter Try.func6, Try.ntmps6
  go_wp2
  go_ret
  exact ⟨rfl, Below.refl _ _⟩

set_option maxHeartbeats 4000000 in
theorem exactProgTriple_walk (x0 : Int) (ao1 : Option Addr) (cap1 : Nat) (xs1 : List Int) (x2 : Int) (ok : Bool) (w : World) (hr1 : Rd w ao1 xs1) (hl1 : xs1.length ≤ 1048576)
    (hS : ∀ (ao1 : Option Addr) (cap1 : Nat) (w : World), Rd w ao1 xs1 → Calls Try.prog 21 #[.int .i64 x0, .slice ao1 xs1.length cap1, .int .i64 x2] w (fun e w' => e = .returned (.bool ok) ∧ Below w.heap.size w w'))
    (hI : ∀ (ao1 : Option Addr) (cap1 : Nat) (w : World), Rd w ao1 xs1 → Calls Try.prog 22 #[.int .i64 x0, .slice ao1 xs1.length cap1, .int .i64 x2] w (fun e w' => e = .returned (.bool ok) ∧ Below w.heap.size w w')) :
    Calls Try.prog 6 #[.int .i64 x0, .slice ao1 xs1.length cap1, .int .i64 x2] w fun e w' => e = .returned (.bool true) ∧ Below w.heap.size w w' := by
  have HS := Lib.hid hS
  have HI := Lib.hid hI
  clear hS hI
  have eok : (ok != ok) = false := by simp
  have B0 := Below.refl w.heap.size w
  go_enter Try.func6, Try.ntmps6
  go_wp2_with fail
  refine (toIntS_own ao1 cap1 xs1 _ hl1 (hr1.below B0)).mono fun e w1 h1 => ?_
  obtain ⟨vt1, rfl, ot1_1, b1⟩ := h1
  have B1 := B0.trans (b1.mono B0.size)
  have s1 := b1.size
  clear b1 B0
  obtain ⟨at1, ct1, rfl, qt1⟩ := ot1_1.rd
  go_wp2_with fail
  refine (HS.out at1 ct1 _ qt1).mono fun e w2 h2 => ?_
  obtain ⟨rfl, b2⟩ := h2
  have ot1_2 := ot1_1.below b2 ot1_1.size
  have B2 := B1.trans (b2.mono B1.size)
  have s2 := b2.size
  clear ot1_1 b2 B1
  clear qt1
  clear ot1_2
  go_wp2_with fail
  refine (toIntS_own ao1 cap1 xs1 _ hl1 (hr1.below B2)).mono fun e w3 h3 => ?_
  obtain ⟨vx1, rfl, ox1_3, b3⟩ := h3
  have B3 := B2.trans (b3.mono B2.size)
  have s3 := b3.size
  clear b3 B2
  obtain ⟨ax1, cx1, rfl, qx1⟩ := ox1_3.rd
  go_wp2_with fail
  refine (HI.out ax1 cx1 _ qx1).mono fun e w4 h4 => ?_
  obtain ⟨rfl, b4⟩ := h4
  have ox1_4 := ox1_3.below b4 ox1_3.size
  have B4 := B3.trans (b4.mono B3.size)
  have s4 := b4.size
  clear ox1_3 b4 B3
  clear qx1
  go_wp2_with fail
  refine (toIntS_own ao1 cap1 xs1 _ hl1 (hr1.below B4)).mono fun e w5 h5 => ?_
  obtain ⟨vy1, rfl, oy1_5, b5⟩ := h5
  have ox1_5 := ox1_4.below b5 ox1_4.size
  have B5 := B4.trans (b5.mono B4.size)
  have s5 := b5.size
  clear ox1_4 b5 B4
  go_wp2_with fail
  refine (eqIntS_own hl1 hl1 ox1_5 oy1_5).mono ?_
  rintro e w6 ⟨rfl, d6⟩
  have ox1_6 := ox1_5.dn d6
  have oy1_6 := oy1_5.dn d6
  have B6 := B5.trans (d6.below _)
  have s6 : w5.heap.size ≤ w6.heap.size := by rw [d6.heap]; exact Nat.le_refl _
  clear ox1_5 oy1_5 d6 B5
  clear oy1_6
  go_wp2
  go_ret
  exact ⟨rfl, B6⟩
end Go.Proofs.Ytcdiicckngndcaa
