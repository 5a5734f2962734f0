/-
  The walk of FnExactEquKept, out of the contracts of the model's and of the program's EquKept; for whatever the arguments read as.
-/
import Derived.Test.YtonmjcfkanldcaaJM
namespace Go.Proofs.Ytonmjcfkanldcaa
open Go.RowKit

theorem exactEquKept_long0 (ao0 : Option Addr) (cap0 n0 : Nat) (ao1 : Option Addr) (cap1 n1 : Nat) (w : World) (hm0 : n0 ≤ maxLen) (hl0 : ¬ n0 ≤ 1048576) :
    Calls Try.prog 13 #[.slice ao0 n0 cap0, .slice ao1 n1 cap1] w fun e w' => e = .returned (.bool true) ∧ Below w.heap.size w w' := by
  unfold maxLen at hm0
  go_enter Try.func13, Try.ntmps13
  go_wp2
  go_ret
  exact ⟨rfl, Below.refl _ _⟩

theorem exactEquKept_long1 (ao0 : Option Addr) (cap0 n0 : Nat) (ao1 : Option Addr) (cap1 n1 : Nat) (w : World) (hm0 : n0 ≤ maxLen) (hm1 : n1 ≤ maxLen) (hl0 : n0 ≤ 1048576) (hl1 : ¬ n1 ≤ 1048576) :
    Calls Try.prog 13 #[.slice ao0 n0 cap0, .slice ao1 n1 cap1] w fun e w' => e = .returned (.bool true) ∧ Below w.heap.size w w' := by
  unfold maxLen at hm0
  unfold maxLen at hm1
  go_enter Try.func13, Try.ntmps13
  go_wp2
  go_ret
  exact ⟨rfl, Below.refl _ _⟩

set_option maxHeartbeats 4000000 in
theorem exactEquKept_walk (ao0 : Option Addr) (cap0 : Nat) (xs0 : List Int) (ao1 : Option Addr) (cap1 : Nat) (xs1 : List Int) (ok : Bool) (w : World) (hr0 : Rd w ao0 xs0) (hl0 : xs0.length ≤ 1048576) (hr1 : Rd w ao1 xs1) (hl1 : xs1.length ≤ 1048576)
    (hS : ∀ (ao0 : Option Addr) (cap0 : Nat) (ao1 : Option Addr) (cap1 : Nat) (w : World), Rd w ao0 xs0 → Rd w ao1 xs1 → Calls Try.prog 38 #[.slice ao0 xs0.length cap0, .slice ao1 xs1.length cap1] w (fun e w' => e = .returned (.bool ok) ∧ Below w.heap.size w w'))
    (hI : ∀ (ao0 : Option Addr) (cap0 : Nat) (ao1 : Option Addr) (cap1 : Nat) (w : World), Rd w ao0 xs0 → Rd w ao1 xs1 → Calls Try.prog 39 #[.slice ao0 xs0.length cap0, .slice ao1 xs1.length cap1] w (fun e w' => e = .returned (.bool ok) ∧ Below w.heap.size w w')) :
    Calls Try.prog 13 #[.slice ao0 xs0.length cap0, .slice ao1 xs1.length cap1] w fun e w' => e = .returned (.bool true) ∧ Below w.heap.size w w' := by
  have HS := Lib.hid hS
  have HI := Lib.hid hI
  clear hS hI
  have eok : (ok != ok) = false := by simp
  have B0 := Below.refl w.heap.size w
  go_enter Try.func13, Try.ntmps13
  go_wp2_with fail
  refine (toIntS_own ao0 cap0 xs0 _ hl0 (hr0.below B0)).mono fun e w1 h1 => ?_
  obtain ⟨vt0, rfl, ot0_1, b1⟩ := h1
  have B1 := B0.trans (b1.mono B0.size)
  have s1 := b1.size
  clear b1 B0
  go_wp2_with fail
  refine (toIntS_own ao1 cap1 xs1 _ hl1 (hr1.below B1)).mono fun e w2 h2 => ?_
  obtain ⟨vt1, rfl, ot1_2, b2⟩ := h2
  have ot0_2 := ot0_1.below b2 ot0_1.size
  have B2 := B1.trans (b2.mono B1.size)
  have s2 := b2.size
  clear ot0_1 b2 B1
  obtain ⟨at0, ct0, rfl, qt0⟩ := ot0_2.rd
  obtain ⟨at1, ct1, rfl, qt1⟩ := ot1_2.rd
  go_wp2_with fail
  refine (HS.out at0 ct0 at1 ct1 _ qt0 qt1).mono fun e w3 h3 => ?_
  obtain ⟨rfl, b3⟩ := h3
  have ot0_3 := ot0_2.below b3 ot0_2.size
  have ot1_3 := ot1_2.below b3 ot1_2.size
  have B3 := B2.trans (b3.mono B2.size)
  have s3 := b3.size
  clear ot0_2 ot1_2 b3 B2
  clear qt0 qt1
  clear ot0_3
  clear ot1_3
  go_wp2_with fail
  refine (toIntS_own ao0 cap0 xs0 _ hl0 (hr0.below B3)).mono fun e w4 h4 => ?_
  obtain ⟨vx0, rfl, ox0_4, b4⟩ := h4
  have B4 := B3.trans (b4.mono B3.size)
  have s4 := b4.size
  clear b4 B3
  go_wp2_with fail
  refine (toIntS_own ao1 cap1 xs1 _ hl1 (hr1.below B4)).mono fun e w5 h5 => ?_
  obtain ⟨vx1, rfl, ox1_5, b5⟩ := h5
  have ox0_5 := ox0_4.below b5 ox0_4.size
  have B5 := B4.trans (b5.mono B4.size)
  have s5 := b5.size
  clear ox0_4 b5 B4
  obtain ⟨ax0, cx0, rfl, qx0⟩ := ox0_5.rd
  obtain ⟨ax1, cx1, rfl, qx1⟩ := ox1_5.rd
  go_wp2_with fail
  refine (HI.out ax0 cx0 ax1 cx1 _ qx0 qx1).mono fun e w6 h6 => ?_
  obtain ⟨rfl, b6⟩ := h6
  have ox0_6 := ox0_5.below b6 ox0_5.size
  have ox1_6 := ox1_5.below b6 ox1_5.size
  have B6 := B5.trans (b6.mono B5.size)
  have s6 := b6.size
  clear ox0_5 ox1_5 b6 B5
  clear qx0 qx1
  go_wp2_with fail
  refine (toIntS_own ao0 cap0 xs0 _ hl0 (hr0.below B6)).mono fun e w7 h7 => ?_
  obtain ⟨vy0, rfl, oy0_7, b7⟩ := h7
  have ox0_7 := ox0_6.below b7 ox0_6.size
  have ox1_7 := ox1_6.below b7 ox1_6.size
  have B7 := B6.trans (b7.mono B6.size)
  have s7 := b7.size
  clear ox0_6 ox1_6 b7 B6
  go_wp2_with fail
  refine (eqIntS_own hl0 hl0 ox0_7 oy0_7).mono ?_
  rintro e w8 ⟨rfl, d8⟩
  have ox0_8 := ox0_7.dn d8
  have ox1_8 := ox1_7.dn d8
  have oy0_8 := oy0_7.dn d8
  have B8 := B7.trans (d8.below _)
  have s8 : w7.heap.size ≤ w8.heap.size := by rw [d8.heap]; exact Nat.le_refl _
  clear ox0_7 ox1_7 oy0_7 d8 B7
  clear oy0_8
  go_wp2_with fail
  refine (toIntS_own ao1 cap1 xs1 _ hl1 (hr1.below B8)).mono fun e w9 h9 => ?_
  obtain ⟨vy1, rfl, oy1_9, b9⟩ := h9
  have ox0_9 := ox0_8.below b9 ox0_8.size
  have ox1_9 := ox1_8.below b9 ox1_8.size
  have B9 := B8.trans (b9.mono B8.size)
  have s9 := b9.size
  clear ox0_8 ox1_8 b9 B8
  go_wp2_with fail
  refine (eqIntS_own hl1 hl1 ox1_9 oy1_9).mono ?_
  rintro e w10 ⟨rfl, d10⟩
  have ox0_10 := ox0_9.dn d10
  have ox1_10 := ox1_9.dn d10
  have oy1_10 := oy1_9.dn d10
  have B10 := B9.trans (d10.below _)
  have s10 : w9.heap.size ≤ w10.heap.size := by rw [d10.heap]; exact Nat.le_refl _
  clear ox0_9 ox1_9 oy1_9 d10 B9
  clear oy1_10
  go_wp2
  go_ret
  exact ⟨rfl, B10⟩
end Go.Proofs.Ytonmjcfkanldcaa
