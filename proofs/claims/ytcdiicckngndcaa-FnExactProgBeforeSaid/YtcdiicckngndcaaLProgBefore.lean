/-
  The walk of FnExactProgBefore, out of the contracts of the model's and of the program's ProgBefore; for whatever the arguments read as.
-/
import Derived.Test.YtcdiicckngndcaaPQ
namespace Go.Proofs.Ytcdiicckngndcaa
open Go.RowKit

theorem exactProgBefore_long0 (ao0 : Option Addr) (cap0 n0 : Nat) (x1 : Int) (w : World) (hm0 : n0 ≤ maxLen) (hl0 : ¬ n0 ≤ 1048576) :
    Calls Try.prog 4 #[.slice ao0 n0 cap0, .int .i64 x1] w fun e w' => e = .returned (.bool true) ∧ Below w.heap.size w w' := by
  unfold maxLen at hm0
  go_enter Try.func4, Try.ntmps4
  go_wp2
  go_ret
  exact ⟨rfl, Below.refl _ _⟩

set_option maxHeartbeats 4000000 in
theorem exactProgBefore_walk (ao0 : Option Addr) (cap0 : Nat) (xs0 : List Int) (x1 : Int) (n0 : Int) (ok : Bool) (w : World) (hr0 : Rd w ao0 xs0) (hl0 : xs0.length ≤ 1048576)
    (hS : ∀ (ao0 : Option Addr) (cap0 : Nat) (w : World), Rd w ao0 xs0 → Calls Try.prog 17 #[.slice ao0 xs0.length cap0, .int .i64 x1] w (fun e w' => e = .returned (.tuple #[.int .i64 n0, .bool ok]) ∧ Below w.heap.size w w'))
    (hI : ∀ (ao0 : Option Addr) (cap0 : Nat) (w : World), Rd w ao0 xs0 → Calls Try.prog 18 #[.slice ao0 xs0.length cap0, .int .i64 x1] w (fun e w' => e = .returned (.tuple #[.int .i64 n0, .bool ok]) ∧ Below w.heap.size w w')) :
    Calls Try.prog 4 #[.slice ao0 xs0.length cap0, .int .i64 x1] w fun e w' => e = .returned (.bool true) ∧ Below w.heap.size w w' := by
  have HS := Lib.hid hS
  have HI := Lib.hid hI
  clear hS hI
  have eok : (ok != ok) = false := by simp
  have B0 := Below.refl w.heap.size w
  go_enter Try.func4, Try.ntmps4
  go_wp2_with fail
  refine (toIntS_own ao0 cap0 xs0 _ hl0 (hr0.below B0)).mono fun e w1 h1 => ?_
  obtain ⟨vt0, rfl, ot0_1, b1⟩ := h1
  have B1 := B0.trans (b1.mono B0.size)
  have s1 := b1.size
  clear b1 B0
  obtain ⟨at0, ct0, rfl, qt0⟩ := ot0_1.rd
  go_wp2_with fail
  refine (HS.out at0 ct0 _ qt0).mono fun e w2 h2 => ?_
  obtain ⟨rfl, b2⟩ := h2
  have ot0_2 := ot0_1.below b2 ot0_1.size
  have B2 := B1.trans (b2.mono B1.size)
  have s2 := b2.size
  clear ot0_1 b2 B1
  clear qt0
  clear ot0_2
  go_wp2_with fail
  refine (toIntS_own ao0 cap0 xs0 _ hl0 (hr0.below B2)).mono fun e w3 h3 => ?_
  obtain ⟨vx0, rfl, ox0_3, b3⟩ := h3
  have B3 := B2.trans (b3.mono B2.size)
  have s3 := b3.size
  clear b3 B2
  obtain ⟨ax0, cx0, rfl, qx0⟩ := ox0_3.rd
  go_wp2_with fail
  refine (HI.out ax0 cx0 _ qx0).mono fun e w4 h4 => ?_
  obtain ⟨rfl, b4⟩ := h4
  have ox0_4 := ox0_3.below b4 ox0_3.size
  have B4 := B3.trans (b4.mono B3.size)
  have s4 := b4.size
  clear ox0_3 b4 B3
  clear qx0
  go_wp2_with fail
  refine (toIntS_own ao0 cap0 xs0 _ hl0 (hr0.below B4)).mono fun e w5 h5 => ?_
  obtain ⟨vy0, rfl, oy0_5, b5⟩ := h5
  have ox0_5 := ox0_4.below b5 ox0_4.size
  have B5 := B4.trans (b5.mono B4.size)
  have s5 := b5.size
  clear ox0_4 b5 B4
  go_wp2_with fail
  refine (eqIntS_own hl0 hl0 ox0_5 oy0_5).mono ?_
  rintro e w6 ⟨rfl, d6⟩
  have ox0_6 := ox0_5.dn d6
  have oy0_6 := oy0_5.dn d6
  have B6 := B5.trans (d6.below _)
  have s6 : w5.heap.size ≤ w6.heap.size := by rw [d6.heap]; exact Nat.le_refl _
  clear ox0_5 oy0_5 d6 B5
  clear oy0_6
  go_wp2
  go_ret
  exact ⟨rfl, B6⟩
end Go.Proofs.Ytcdiicckngndcaa
