/-
  The walk of FnExactProgIf, out of the contracts of the model's and of the program's ProgIf; for whatever the arguments read as.
-/
import Derived.Test.YtcdiicckngndcaaPQ
namespace Go.Proofs.Ytcdiicckngndcaa
open Go.RowKit

theorem exactProgIf_long1 (x0 : Int) (ao1 : Option Addr) (cap1 n1 : Nat) (ao2 : Option Addr) (cap2 n2 : Nat) (w : World) (hm1 : n1 ≤ maxLen) (hl1 : ¬ n1 ≤ 1048576) :
    Calls Try.prog 7 #[.int .i64 x0, .slice ao1 n1 cap1, .slice ao2 n2 cap2] w fun e w' => e = .returned (.bool true) ∧ Below w.heap.size w w' := by
  unfold maxLen at hm1
  go_enter Try.func7, Try.ntmps7
  go_wp2
  go_ret
  exact ⟨rfl, Below.refl _ _⟩

theorem exactProgIf_long2 (x0 : Int) (ao1 : Option Addr) (cap1 n1 : Nat) (ao2 : Option Addr) (cap2 n2 : Nat) (w : World) (hm1 : n1 ≤ maxLen) (hm2 : n2 ≤ maxLen) (hl1 : n1 ≤ 1048576) (hl2 : ¬ n2 ≤ 1048576) :
    Calls Try.prog 7 #[.int .i64 x0, .slice ao1 n1 cap1, .slice ao2 n2 cap2] w fun e w' => e = .returned (.bool true) ∧ Below w.heap.size w w' := by
  unfold maxLen at hm1
  unfold maxLen at hm2
  go_enter Try.func7, Try.ntmps7
  go_wp2
  go_ret
  exact ⟨rfl, Below.refl _ _⟩

set_option maxHeartbeats 4000000 in
theorem exactProgIf_walk (x0 : Int) (ao1 : Option Addr) (cap1 : Nat) (xs1 : List Int) (ao2 : Option Addr) (cap2 : Nat) (xs2 : List Int) (r0 : List Int) (ok : Bool) (w : World) (hr1 : Rd w ao1 xs1) (hl1 : xs1.length ≤ 1048576) (hr2 : Rd w ao2 xs2) (hl2 : xs2.length ≤ 1048576) (hrl0 : r0.length ≤ 1048576)
    (hS : ∀ (ao1 : Option Addr) (cap1 : Nat) (ao2 : Option Addr) (cap2 : Nat) (w : World), Rd w ao1 xs1 → Rd w ao2 xs2 → Calls Try.prog 23 #[.int .i64 x0, .slice ao1 xs1.length cap1, .slice ao2 xs2.length cap2] w (Gave w r0 ok))
    (hI : ∀ (ao1 : Option Addr) (cap1 : Nat) (ao2 : Option Addr) (cap2 : Nat) (w : World), Rd w ao1 xs1 → Rd w ao2 xs2 → Calls Try.prog 24 #[.int .i64 x0, .slice ao1 xs1.length cap1, .slice ao2 xs2.length cap2] w (Gave w r0 ok)) :
    Calls Try.prog 7 #[.int .i64 x0, .slice ao1 xs1.length cap1, .slice ao2 xs2.length cap2] w fun e w' => e = .returned (.bool true) ∧ Below w.heap.size w w' := by
  have HS := Lib.hid hS
  have HI := Lib.hid hI
  clear hS hI
  have eok : (ok != ok) = false := by simp
  have B0 := Below.refl w.heap.size w
  go_enter Try.func7, Try.ntmps7
  go_wp2_with fail
  refine (toIntS_own ao1 cap1 xs1 _ hl1 (hr1.below B0)).mono fun e w1 h1 => ?_
  obtain ⟨vt1, rfl, ot1_1, b1⟩ := h1
  have B1 := B0.trans (b1.mono B0.size)
  have s1 := b1.size
  clear b1 B0
  go_wp2_with fail
  refine (toIntS_own ao2 cap2 xs2 _ hl2 (hr2.below B1)).mono fun e w2 h2 => ?_
  obtain ⟨vt2, rfl, ot2_2, b2⟩ := h2
  have ot1_2 := ot1_1.below b2 ot1_1.size
  have B2 := B1.trans (b2.mono B1.size)
  have s2 := b2.size
  clear ot1_1 b2 B1
  obtain ⟨at1, ct1, rfl, qt1⟩ := ot1_2.rd
  obtain ⟨at2, ct2, rfl, qt2⟩ := ot2_2.rd
  go_wp2_with fail
  refine (HS.out at1 ct1 at2 ct2 _ qt1 qt2).mono fun e w3 h3 => ?_
  obtain ⟨vW, rfl, oW_3, b3⟩ := gave_own h3; clear h3
  have ot1_3 := ot1_2.below b3 ot1_2.size
  have ot2_3 := ot2_2.below b3 ot2_2.size
  have B3 := B2.trans (b3.mono B2.size)
  have s3 := b3.size
  clear ot1_2 ot2_2 b3 B2
  clear qt1 qt2
  clear ot1_3
  clear ot2_3
  go_wp2_with fail
  refine (toIntS_own ao1 cap1 xs1 _ hl1 (hr1.below B3)).mono fun e w4 h4 => ?_
  obtain ⟨vx1, rfl, ox1_4, b4⟩ := h4
  have oW_4 := oW_3.below b4 oW_3.size
  have B4 := B3.trans (b4.mono B3.size)
  have s4 := b4.size
  clear oW_3 b4 B3
  go_wp2_with fail
  refine (toIntS_own ao2 cap2 xs2 _ hl2 (hr2.below B4)).mono fun e w5 h5 => ?_
  obtain ⟨vx2, rfl, ox2_5, b5⟩ := h5
  have oW_5 := oW_4.below b5 oW_4.size
  have ox1_5 := ox1_4.below b5 ox1_4.size
  have B5 := B4.trans (b5.mono B4.size)
  have s5 := b5.size
  clear oW_4 ox1_4 b5 B4
  obtain ⟨ax1, cx1, rfl, qx1⟩ := ox1_5.rd
  obtain ⟨ax2, cx2, rfl, qx2⟩ := ox2_5.rd
  go_wp2_with fail
  refine (HI.out ax1 cx1 ax2 cx2 _ qx1 qx2).mono fun e w6 h6 => ?_
  obtain ⟨vG, rfl, oG_6, b6⟩ := gave_own h6; clear h6
  have oW_6 := oW_5.below b6 oW_5.size
  have ox1_6 := ox1_5.below b6 ox1_5.size
  have ox2_6 := ox2_5.below b6 ox2_5.size
  have B6 := B5.trans (b6.mono B5.size)
  have s6 := b6.size
  clear oW_5 ox1_5 ox2_5 b6 B5
  clear qx1 qx2
  go_wp2_with fail
  refine (eqIntS_own hrl0 hrl0 oG_6 oW_6).mono ?_
  rintro e w7 ⟨rfl, d7⟩
  have oW_7 := oW_6.dn d7
  have ox1_7 := ox1_6.dn d7
  have ox2_7 := ox2_6.dn d7
  have oG_7 := oG_6.dn d7
  have B7 := B6.trans (d7.below _)
  have s7 : w6.heap.size ≤ w7.heap.size := by rw [d7.heap]; exact Nat.le_refl _
  clear oW_6 ox1_6 ox2_6 oG_6 d7 B6
  go_wp2_with fail
  refine (toIntS_own ao1 cap1 xs1 _ hl1 (hr1.below B7)).mono fun e w8 h8 => ?_
  obtain ⟨vy1, rfl, oy1_8, b8⟩ := h8
  have oW_8 := oW_7.below b8 oW_7.size
  have ox1_8 := ox1_7.below b8 ox1_7.size
  have ox2_8 := ox2_7.below b8 ox2_7.size
  have oG_8 := oG_7.below b8 oG_7.size
  have B8 := B7.trans (b8.mono B7.size)
  have s8 := b8.size
  clear oW_7 ox1_7 ox2_7 oG_7 b8 B7
  go_wp2_with fail
  refine (eqIntS_own hl1 hl1 ox1_8 oy1_8).mono ?_
  rintro e w9 ⟨rfl, d9⟩
  have oW_9 := oW_8.dn d9
  have ox1_9 := ox1_8.dn d9
  have ox2_9 := ox2_8.dn d9
  have oG_9 := oG_8.dn d9
  have oy1_9 := oy1_8.dn d9
  have B9 := B8.trans (d9.below _)
  have s9 : w8.heap.size ≤ w9.heap.size := by rw [d9.heap]; exact Nat.le_refl _
  clear oW_8 ox1_8 ox2_8 oG_8 oy1_8 d9 B8
  clear oy1_9
  go_wp2_with fail
  refine (toIntS_own ao2 cap2 xs2 _ hl2 (hr2.below B9)).mono fun e w10 h10 => ?_
  obtain ⟨vy2, rfl, oy2_10, b10⟩ := h10
  have oW_10 := oW_9.below b10 oW_9.size
  have ox1_10 := ox1_9.below b10 ox1_9.size
  have ox2_10 := ox2_9.below b10 ox2_9.size
  have oG_10 := oG_9.below b10 oG_9.size
  have B10 := B9.trans (b10.mono B9.size)
  have s10 := b10.size
  clear oW_9 ox1_9 ox2_9 oG_9 b10 B9
  go_wp2_with fail
  refine (eqIntS_own hl2 hl2 ox2_10 oy2_10).mono ?_
  rintro e w11 ⟨rfl, d11⟩
  have oW_11 := oW_10.dn d11
  have ox1_11 := ox1_10.dn d11
  have ox2_11 := ox2_10.dn d11
  have oG_11 := oG_10.dn d11
  have oy2_11 := oy2_10.dn d11
  have B11 := B10.trans (d11.below _)
  have s11 : w10.heap.size ≤ w11.heap.size := by rw [d11.heap]; exact Nat.le_refl _
  clear oW_10 ox1_10 ox2_10 oG_10 oy2_10 d11 B10
  clear oy2_11
  go_wp2_with fail
  refine (markIntS_own 1 (by omega) hl1 ox1_11).mono ?_
  rintro e w12 ⟨rfl, ox1_12, g12⟩
  have oW_12 := oW_11.grown g12 (fun k hk => .inl (by have := ox1_11.base hk; omega))
  have ox2_12 := ox2_11.grown g12 (fun k hk => .inr (by have := ox1_11.top k hk; omega))
  have oG_12 := oG_11.grown g12 (fun k hk => .inr (by have := ox1_11.top k hk; omega))
  have B12 : Below w.heap.size w w12 := B11.grown g12 B11.size (fun k hk => by have := ox1_11.base hk; omega)
  have s12 := g12.size
  clear oW_11 ox1_11 ox2_11 oG_11 g12 B11
  clear ox1_12
  go_wp2_with fail
  refine (markIntS_own (1 + xs1.length) (by omega) hl2 ox2_12).mono ?_
  rintro e w13 ⟨rfl, ox2_13, g13⟩
  have oW_13 := oW_12.grown g13 (fun k hk => .inl (by have := ox2_12.base hk; omega))
  have oG_13 := oG_12.grown g13 (fun k hk => .inr (by have := ox2_12.top k hk; omega))
  have B13 : Below w.heap.size w w13 := B12.grown g13 B12.size (fun k hk => by have := ox2_12.base hk; omega)
  have s13 := g13.size
  clear oW_12 ox2_12 oG_12 g13 B12
  clear ox2_13
  go_wp2_with fail
  refine (eqIntS_own hrl0 hrl0 oG_13 oW_13).mono ?_
  rintro e w14 ⟨rfl, d14⟩
  have oW_14 := oW_13.dn d14
  have oG_14 := oG_13.dn d14
  have B14 := B13.trans (d14.below _)
  have s14 : w13.heap.size ≤ w14.heap.size := by rw [d14.heap]; exact Nat.le_refl _
  clear oW_13 oG_13 d14 B13
  go_wp2_with fail
  refine (markIntS_own 1 (by omega) hrl0 oG_14).mono ?_
  rintro e w15 ⟨rfl, oG_15, g15⟩
  have oW_15 := oW_14.grown g15 (fun k hk => .inl (by have := oG_14.base hk; omega))
  have B15 : Below w.heap.size w w15 := B14.grown g15 B14.size (fun k hk => by have := oG_14.base hk; omega)
  have s15 := g15.size
  clear oW_14 oG_14 g15 B14
  go_wp2_with fail
  refine (heldIntS_own 1 r0.length (by omega) hrl0 oG_15).mono ?_
  rintro e _ ⟨rfl, rfl⟩
  go_wp2_with fail
  refine (toIntS_own ao1 cap1 xs1 _ hl1 (hr1.below B15)).mono fun e w16 h16 => ?_
  obtain ⟨vz1, rfl, oz1_16, b16⟩ := h16
  have oW_16 := oW_15.below b16 oW_15.size
  have oG_16 := oG_15.below b16 oG_15.size
  have B16 := B15.trans (b16.mono B15.size)
  have s16 := b16.size
  clear oW_15 oG_15 b16 B15
  go_wp2_with fail
  refine (toIntS_own ao2 cap2 xs2 _ hl2 (hr2.below B16)).mono fun e w17 h17 => ?_
  obtain ⟨vz2, rfl, oz2_17, b17⟩ := h17
  have oW_17 := oW_16.below b17 oW_16.size
  have oG_17 := oG_16.below b17 oG_16.size
  have oz1_17 := oz1_16.below b17 oz1_16.size
  have B17 := B16.trans (b17.mono B16.size)
  have s17 := b17.size
  clear oW_16 oG_16 oz1_16 b17 B16
  obtain ⟨az1, cz1, rfl, qz1⟩ := oz1_17.rd
  obtain ⟨az2, cz2, rfl, qz2⟩ := oz2_17.rd
  go_wp2_with fail
  refine (HI.out az1 cz1 az2 cz2 _ qz1 qz2).mono fun e w18 h18 => ?_
  obtain ⟨vH, rfl, oH_18, b18⟩ := gave_own h18; clear h18
  have oW_18 := oW_17.below b18 oW_17.size
  have oG_18 := oG_17.below b18 oG_17.size
  have oz1_18 := oz1_17.below b18 oz1_17.size
  have oz2_18 := oz2_17.below b18 oz2_17.size
  have B18 := B17.trans (b18.mono B17.size)
  have s18 := b18.size
  clear oW_17 oG_17 oz1_17 oz2_17 b18 B17
  clear qz1 qz2
  clear oz1_18
  clear oz2_18
  go_wp2_with fail
  refine (eqIntS_own hrl0 hrl0 oH_18 oW_18).mono ?_
  rintro e w19 ⟨rfl, d19⟩
  have oW_19 := oW_18.dn d19
  have oG_19 := oG_18.dn d19
  have oH_19 := oH_18.dn d19
  have B19 := B18.trans (d19.below _)
  have s19 : w18.heap.size ≤ w19.heap.size := by rw [d19.heap]; exact Nat.le_refl _
  clear oW_18 oG_18 oH_18 d19 B18
  clear oH_19
  go_wp2_with fail
  refine (heldIntS_own 1 r0.length (by omega) hrl0 oG_19).mono ?_
  rintro e _ ⟨rfl, rfl⟩
  go_wp2
  go_ret
  exact ⟨rfl, B19⟩
end Go.Proofs.Ytcdiicckngndcaa
