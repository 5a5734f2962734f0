/-
  The walk of FnExactProgWhile, out of the contracts of the model's and of the program's ProgWhile; for whatever the arguments read as.
-/
import Derived.Test.YtcdiicckngndcaaPQ
namespace Go.Proofs.Ytcdiicckngndcaa
open Go.RowKit

theorem exactProgWhile_long1 (x0 : Int) (ao1 : Option Addr) (cap1 n1 : Nat) (w : World) (hm1 : n1 ≤ maxLen) (hl1 : ¬ n1 ≤ 1048576) :
    Calls Try.prog 8 #[.int .i64 x0, .slice ao1 n1 cap1] w fun e w' => e = .returned (.bool true) ∧ Below w.heap.size w w' := by
  unfold maxLen at hm1
  go_enter Try.func8, Try.ntmps8
  go_wp2
  go_ret
  exact ⟨rfl, Below.refl _ _⟩

set_option maxHeartbeats 4000000 in
theorem exactProgWhile_walk (x0 : Int) (ao1 : Option Addr) (cap1 : Nat) (xs1 : List Int) (r0 : List Int) (ok : Bool) (w : World) (hr1 : Rd w ao1 xs1) (hl1 : xs1.length ≤ 1048576) (hrl0 : r0.length ≤ 1048576)
    (hS : ∀ (ao1 : Option Addr) (cap1 : Nat) (w : World), Rd w ao1 xs1 → Calls Try.prog 27 #[.int .i64 x0, .slice ao1 xs1.length cap1] w (Gave w r0 ok))
    (hI : ∀ (ao1 : Option Addr) (cap1 : Nat) (w : World), Rd w ao1 xs1 → Calls Try.prog 28 #[.int .i64 x0, .slice ao1 xs1.length cap1] w (Gave w r0 ok)) :
    Calls Try.prog 8 #[.int .i64 x0, .slice ao1 xs1.length cap1] w fun e w' => e = .returned (.bool true) ∧ Below w.heap.size w w' := by
  have HS := Lib.hid hS
  have HI := Lib.hid hI
  clear hS hI
  have eok : (ok != ok) = false := by simp
  have B0 := Below.refl w.heap.size w
  go_enter Try.func8, Try.ntmps8
  go_wp2_with fail
  refine (toIntS_own ao1 cap1 xs1 _ hl1 (hr1.below B0)).mono fun e w1 h1 => ?_
  obtain ⟨vt1, rfl, ot1_1, b1⟩ := h1
  have B1 := B0.trans (b1.mono B0.size)
  have s1 := b1.size
  clear b1 B0
  obtain ⟨at1, ct1, rfl, qt1⟩ := ot1_1.rd
  go_wp2_with fail
  refine (HS.out at1 ct1 _ qt1).mono fun e w2 h2 => ?_
  obtain ⟨vW, rfl, oW_2, b2⟩ := gave_own h2; clear h2
  have ot1_2 := ot1_1.below b2 ot1_1.size
  have B2 := B1.trans (b2.mono B1.size)
  have s2 := b2.size
  clear ot1_1 b2 B1
  clear qt1
  clear ot1_2
  go_wp2_with fail
  refine (toIntS_own ao1 cap1 xs1 _ hl1 (hr1.below B2)).mono fun e w3 h3 => ?_
  obtain ⟨vx1, rfl, ox1_3, b3⟩ := h3
  have oW_3 := oW_2.below b3 oW_2.size
  have B3 := B2.trans (b3.mono B2.size)
  have s3 := b3.size
  clear oW_2 b3 B2
  obtain ⟨ax1, cx1, rfl, qx1⟩ := ox1_3.rd
  go_wp2_with fail
  refine (HI.out ax1 cx1 _ qx1).mono fun e w4 h4 => ?_
  obtain ⟨vG, rfl, oG_4, b4⟩ := gave_own h4; clear h4
  have oW_4 := oW_3.below b4 oW_3.size
  have ox1_4 := ox1_3.below b4 ox1_3.size
  have B4 := B3.trans (b4.mono B3.size)
  have s4 := b4.size
  clear oW_3 ox1_3 b4 B3
  clear qx1
  go_wp2_with fail
  refine (eqIntS_own hrl0 hrl0 oG_4 oW_4).mono ?_
  rintro e w5 ⟨rfl, d5⟩
  have oW_5 := oW_4.dn d5
  have ox1_5 := ox1_4.dn d5
  have oG_5 := oG_4.dn d5
  have B5 := B4.trans (d5.below _)
  have s5 : w4.heap.size ≤ w5.heap.size := by rw [d5.heap]; exact Nat.le_refl _
  clear oW_4 ox1_4 oG_4 d5 B4
  go_wp2_with fail
  refine (toIntS_own ao1 cap1 xs1 _ hl1 (hr1.below B5)).mono fun e w6 h6 => ?_
  obtain ⟨vy1, rfl, oy1_6, b6⟩ := h6
  have oW_6 := oW_5.below b6 oW_5.size
  have ox1_6 := ox1_5.below b6 ox1_5.size
  have oG_6 := oG_5.below b6 oG_5.size
  have B6 := B5.trans (b6.mono B5.size)
  have s6 := b6.size
  clear oW_5 ox1_5 oG_5 b6 B5
  go_wp2_with fail
  refine (eqIntS_own hl1 hl1 ox1_6 oy1_6).mono ?_
  rintro e w7 ⟨rfl, d7⟩
  have oW_7 := oW_6.dn d7
  have ox1_7 := ox1_6.dn d7
  have oG_7 := oG_6.dn d7
  have oy1_7 := oy1_6.dn d7
  have B7 := B6.trans (d7.below _)
  have s7 : w6.heap.size ≤ w7.heap.size := by rw [d7.heap]; exact Nat.le_refl _
  clear oW_6 ox1_6 oG_6 oy1_6 d7 B6
  clear oy1_7
  go_wp2_with fail
  refine (markIntS_own 1 (by omega) hl1 ox1_7).mono ?_
  rintro e w8 ⟨rfl, ox1_8, g8⟩
  have oW_8 := oW_7.grown g8 (fun k hk => .inl (by have := ox1_7.base hk; omega))
  have oG_8 := oG_7.grown g8 (fun k hk => .inr (by have := ox1_7.top k hk; omega))
  have B8 : Below w.heap.size w w8 := B7.grown g8 B7.size (fun k hk => by have := ox1_7.base hk; omega)
  have s8 := g8.size
  clear oW_7 ox1_7 oG_7 g8 B7
  clear ox1_8
  go_wp2_with fail
  refine (eqIntS_own hrl0 hrl0 oG_8 oW_8).mono ?_
  rintro e w9 ⟨rfl, d9⟩
  have oW_9 := oW_8.dn d9
  have oG_9 := oG_8.dn d9
  have B9 := B8.trans (d9.below _)
  have s9 : w8.heap.size ≤ w9.heap.size := by rw [d9.heap]; exact Nat.le_refl _
  clear oW_8 oG_8 d9 B8
  go_wp2_with fail
  refine (markIntS_own 1 (by omega) hrl0 oG_9).mono ?_
  rintro e w10 ⟨rfl, oG_10, g10⟩
  have oW_10 := oW_9.grown g10 (fun k hk => .inl (by have := oG_9.base hk; omega))
  have B10 : Below w.heap.size w w10 := B9.grown g10 B9.size (fun k hk => by have := oG_9.base hk; omega)
  have s10 := g10.size
  clear oW_9 oG_9 g10 B9
  go_wp2_with fail
  refine (heldIntS_own 1 r0.length (by omega) hrl0 oG_10).mono ?_
  rintro e _ ⟨rfl, rfl⟩
  go_wp2_with fail
  refine (toIntS_own ao1 cap1 xs1 _ hl1 (hr1.below B10)).mono fun e w11 h11 => ?_
  obtain ⟨vz1, rfl, oz1_11, b11⟩ := h11
  have oW_11 := oW_10.below b11 oW_10.size
  have oG_11 := oG_10.below b11 oG_10.size
  have B11 := B10.trans (b11.mono B10.size)
  have s11 := b11.size
  clear oW_10 oG_10 b11 B10
  obtain ⟨az1, cz1, rfl, qz1⟩ := oz1_11.rd
  go_wp2_with fail
  refine (HI.out az1 cz1 _ qz1).mono fun e w12 h12 => ?_
  obtain ⟨vH, rfl, oH_12, b12⟩ := gave_own h12; clear h12
  have oW_12 := oW_11.below b12 oW_11.size
  have oG_12 := oG_11.below b12 oG_11.size
  have oz1_12 := oz1_11.below b12 oz1_11.size
  have B12 := B11.trans (b12.mono B11.size)
  have s12 := b12.size
  clear oW_11 oG_11 oz1_11 b12 B11
  clear qz1
  clear oz1_12
  go_wp2_with fail
  refine (eqIntS_own hrl0 hrl0 oH_12 oW_12).mono ?_
  rintro e w13 ⟨rfl, d13⟩
  have oW_13 := oW_12.dn d13
  have oG_13 := oG_12.dn d13
  have oH_13 := oH_12.dn d13
  have B13 := B12.trans (d13.below _)
  have s13 : w12.heap.size ≤ w13.heap.size := by rw [d13.heap]; exact Nat.le_refl _
  clear oW_12 oG_12 oH_12 d13 B12
  clear oH_13
  go_wp2_with fail
  refine (heldIntS_own 1 r0.length (by omega) hrl0 oG_13).mono ?_
  rintro e _ ⟨rfl, rfl⟩
  go_wp2
  go_ret
  exact ⟨rfl, B13⟩
end Go.Proofs.Ytcdiicckngndcaa
