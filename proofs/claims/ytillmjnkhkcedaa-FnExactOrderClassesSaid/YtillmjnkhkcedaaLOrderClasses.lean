/-
  The walk of FnExactOrderClasses, out of the contracts of the model's and of the program's OrderClasses; for whatever the arguments read as.
-/
import Derived.Test.YtillmjnkhkcedaaOH
namespace Go.Proofs.Ytillmjnkhkcedaa
open Go.RowKit

theorem exactOrderClasses_long0 (ao0 : Option Addr) (cap0 n0 : Nat) (w : World) (hm0 : n0 ≤ maxLen) (hl0 : ¬ n0 ≤ 1048576) :
    Calls Try.prog 11 #[.slice ao0 n0 cap0] w fun e w' => e = .returned (.bool true) ∧ Below w.heap.size w w' := by
  unfold maxLen at hm0
  go_enter Try.func11, Try.ntmps11
  go_wp2
  go_ret
  exact ⟨rfl, Below.refl _ _⟩

set_option maxHeartbeats 4000000 in
theorem exactOrderClasses_walk (ao0 : Option Addr) (cap0 : Nat) (xs0 : List Int) (r0 : List Int) (r1 : List Int) (ok : Bool) (w : World) (hr0 : Rd w ao0 xs0) (hl0 : xs0.length ≤ 1048576) (hrl0 : r0.length ≤ 1048576) (hrl1 : r1.length ≤ 1048576)
    (hS : ∀ (ao0 : Option Addr) (cap0 : Nat) (w : World), Rd w ao0 xs0 → Calls Try.prog 33 #[.slice ao0 xs0.length cap0] w (GaveLLS w r0 r1 ok))
    (hI : ∀ (ao0 : Option Addr) (cap0 : Nat) (w : World), Rd w ao0 xs0 → Calls Try.prog 34 #[.slice ao0 xs0.length cap0] w (GaveLL w r0 r1 ok)) :
    Calls Try.prog 11 #[.slice ao0 xs0.length cap0] w fun e w' => e = .returned (.bool true) ∧ Below w.heap.size w w' := by
  have HS := Lib.hid hS
  have HI := Lib.hid hI
  clear hS hI
  have eok : (ok != ok) = false := by simp
  have B0 := Below.refl w.heap.size w
  go_enter Try.func11, Try.ntmps11
  go_wp2_with fail
  refine (toIntS_own ao0 cap0 xs0 _ hl0 (hr0.below B0)).mono fun e w1 h1 => ?_
  obtain ⟨vt0, rfl, ot0_1, b1⟩ := h1
  have B1 := B0.trans (b1.mono B0.size)
  have s1 := b1.size
  clear b1 B0
  obtain ⟨at0, ct0, rfl, qt0⟩ := ot0_1.rd
  go_wp2_with fail
  refine (HS.out at0 ct0 _ qt0).mono fun e w2 h2 => ?_
  obtain ⟨vW0, vW1, rfl, oW0_2, oW1_2, b2⟩ := h2
  have ot0_2 := ot0_1.below b2 ot0_1.size
  have B2 := B1.trans (b2.mono B1.size)
  have s2 := b2.size
  clear ot0_1 b2 B1
  clear qt0
  clear ot0_2
  go_wp2_with fail
  refine (toIntS_own ao0 cap0 xs0 _ hl0 (hr0.below B2)).mono fun e w3 h3 => ?_
  obtain ⟨vx0, rfl, ox0_3, b3⟩ := h3
  have oW0_3 := oW0_2.below b3 oW0_2.size
  have oW1_3 := oW1_2.below b3 oW1_2.size
  have B3 := B2.trans (b3.mono B2.size)
  have s3 := b3.size
  clear oW0_2 oW1_2 b3 B2
  obtain ⟨ax0, cx0, rfl, qx0⟩ := ox0_3.rd
  go_wp2_with fail
  refine (HI.out ax0 cx0 _ qx0).mono fun e w4 h4 => ?_
  obtain ⟨vG0, vG1, lG0, tG0, lG1, tG1, rfl, oG0_4, oG1_4, pG0, pG1, apG, b4⟩ := h4; have tpG0 := oG0_4.size; have tpG1 := oG1_4.size
  have oW0_4 := oW0_3.below b4 oW0_3.size
  have oW1_4 := oW1_3.below b4 oW1_3.size
  have ox0_4 := ox0_3.below b4 ox0_3.size
  have B4 := B3.trans (b4.mono B3.size)
  have s4 := b4.size
  clear oW0_3 oW1_3 ox0_3 b4 B3
  clear qx0
  go_wp2_with fail
  refine (eqIntS_own hrl0 hrl0 oG0_4 oW0_4).mono ?_
  rintro e w5 ⟨rfl, d5⟩
  have oW0_5 := oW0_4.dn d5
  have oW1_5 := oW1_4.dn d5
  have ox0_5 := ox0_4.dn d5
  have oG0_5 := oG0_4.dn d5
  have oG1_5 := oG1_4.dn d5
  have B5 := B4.trans (d5.below _)
  have s5 : w4.heap.size ≤ w5.heap.size := by rw [d5.heap]; exact Nat.le_refl _
  clear oW0_4 oW1_4 ox0_4 oG0_4 oG1_4 d5 B4
  go_wp2_with fail
  refine (eqIntS_own hrl1 hrl1 oG1_5 oW1_5).mono ?_
  rintro e w6 ⟨rfl, d6⟩
  have oW0_6 := oW0_5.dn d6
  have oW1_6 := oW1_5.dn d6
  have ox0_6 := ox0_5.dn d6
  have oG0_6 := oG0_5.dn d6
  have oG1_6 := oG1_5.dn d6
  have B6 := B5.trans (d6.below _)
  have s6 : w5.heap.size ≤ w6.heap.size := by rw [d6.heap]; exact Nat.le_refl _
  clear oW0_5 oW1_5 ox0_5 oG0_5 oG1_5 d6 B5
  go_wp2_with fail
  refine (toIntS_own ao0 cap0 xs0 _ hl0 (hr0.below B6)).mono fun e w7 h7 => ?_
  obtain ⟨vy0, rfl, oy0_7, b7⟩ := h7
  have oW0_7 := oW0_6.below b7 oW0_6.size
  have oW1_7 := oW1_6.below b7 oW1_6.size
  have ox0_7 := ox0_6.below b7 ox0_6.size
  have oG0_7 := oG0_6.below b7 oG0_6.size
  have oG1_7 := oG1_6.below b7 oG1_6.size
  have B7 := B6.trans (b7.mono B6.size)
  have s7 := b7.size
  clear oW0_6 oW1_6 ox0_6 oG0_6 oG1_6 b7 B6
  go_wp2_with fail
  refine (eqIntS_own hl0 hl0 ox0_7 oy0_7).mono ?_
  rintro e w8 ⟨rfl, d8⟩
  have oW0_8 := oW0_7.dn d8
  have oW1_8 := oW1_7.dn d8
  have ox0_8 := ox0_7.dn d8
  have oG0_8 := oG0_7.dn d8
  have oG1_8 := oG1_7.dn d8
  have oy0_8 := oy0_7.dn d8
  have B8 := B7.trans (d8.below _)
  have s8 : w7.heap.size ≤ w8.heap.size := by rw [d8.heap]; exact Nat.le_refl _
  clear oW0_7 oW1_7 ox0_7 oG0_7 oG1_7 oy0_7 d8 B7
  clear oy0_8
  go_wp2_with fail
  refine (markIntS_own 1 (by omega) hl0 ox0_8).mono ?_
  rintro e w9 ⟨rfl, ox0_9, g9⟩
  have oW0_9 := oW0_8.grown g9 (fun k hk => by have h1 := ox0_8.base hk; have h2 := ox0_8.top k hk; omega)
  have oW1_9 := oW1_8.grown g9 (fun k hk => by have h1 := ox0_8.base hk; have h2 := ox0_8.top k hk; omega)
  have oG0_9 := oG0_8.grown g9 (fun k hk => by have h1 := ox0_8.base hk; have h2 := ox0_8.top k hk; omega)
  have oG1_9 := oG1_8.grown g9 (fun k hk => by have h1 := ox0_8.base hk; have h2 := ox0_8.top k hk; omega)
  have B9 : Below w.heap.size w w9 := B8.grown g9 B8.size (fun k hk => by have := ox0_8.base hk; omega)
  have s9 := g9.size
  clear oW0_8 oW1_8 ox0_8 oG0_8 oG1_8 g9 B8
  clear ox0_9
  go_wp2_with fail
  refine (eqIntS_own hrl0 hrl0 oG0_9 oW0_9).mono ?_
  rintro e w10 ⟨rfl, d10⟩
  have oW0_10 := oW0_9.dn d10
  have oW1_10 := oW1_9.dn d10
  have oG0_10 := oG0_9.dn d10
  have oG1_10 := oG1_9.dn d10
  have B10 := B9.trans (d10.below _)
  have s10 : w9.heap.size ≤ w10.heap.size := by rw [d10.heap]; exact Nat.le_refl _
  clear oW0_9 oW1_9 oG0_9 oG1_9 d10 B9
  go_wp2_with fail
  refine (eqIntS_own hrl1 hrl1 oG1_10 oW1_10).mono ?_
  rintro e w11 ⟨rfl, d11⟩
  have oW0_11 := oW0_10.dn d11
  have oW1_11 := oW1_10.dn d11
  have oG0_11 := oG0_10.dn d11
  have oG1_11 := oG1_10.dn d11
  have B11 := B10.trans (d11.below _)
  have s11 : w10.heap.size ≤ w11.heap.size := by rw [d11.heap]; exact Nat.le_refl _
  clear oW0_10 oW1_10 oG0_10 oG1_10 d11 B10
  go_wp2_with fail
  refine (markIntS_own 1 (by omega) hrl0 oG0_11).mono ?_
  rintro e w12 ⟨rfl, oG0_12, g12⟩
  have oW0_12 := oW0_11.grown g12 (fun k hk => by have h1 := oG0_11.base hk; have h2 := oG0_11.top k hk; omega)
  have oW1_12 := oW1_11.grown g12 (fun k hk => by have h1 := oG0_11.base hk; have h2 := oG0_11.top k hk; omega)
  have oG1_12 := oG1_11.grown g12 (fun k hk => by have h1 := oG0_11.base hk; have h2 := oG0_11.top k hk; omega)
  have B12 : Below w.heap.size w w12 := B11.grown g12 B11.size (fun k hk => by have := oG0_11.base hk; omega)
  have s12 := g12.size
  clear oW0_11 oW1_11 oG0_11 oG1_11 g12 B11
  go_wp2_with fail
  refine (markIntS_own (1 + r0.length) (by omega) hrl1 oG1_12).mono ?_
  rintro e w13 ⟨rfl, oG1_13, g13⟩
  have oW0_13 := oW0_12.grown g13 (fun k hk => by have h1 := oG1_12.base hk; have h2 := oG1_12.top k hk; omega)
  have oW1_13 := oW1_12.grown g13 (fun k hk => by have h1 := oG1_12.base hk; have h2 := oG1_12.top k hk; omega)
  have oG0_13 := oG0_12.grown g13 (fun k hk => by have h1 := oG1_12.base hk; have h2 := oG1_12.top k hk; omega)
  have B13 : Below w.heap.size w w13 := B12.grown g13 B12.size (fun k hk => by have := oG1_12.base hk; omega)
  have s13 := g13.size
  clear oW0_12 oW1_12 oG0_12 oG1_12 g13 B12
  go_wp2_with fail
  refine (heldIntS_own 1 r0.length (by omega) hrl0 oG0_13).mono ?_
  rintro e _ ⟨rfl, rfl⟩
  go_wp2_with fail
  refine (heldIntS_own (1 + r0.length) r1.length (by omega) hrl1 oG1_13).mono ?_
  rintro e _ ⟨rfl, rfl⟩
  go_wp2_with fail
  refine (toIntS_own ao0 cap0 xs0 _ hl0 (hr0.below B13)).mono fun e w14 h14 => ?_
  obtain ⟨vz0, rfl, oz0_14, b14⟩ := h14
  have oW0_14 := oW0_13.below b14 oW0_13.size
  have oW1_14 := oW1_13.below b14 oW1_13.size
  have oG0_14 := oG0_13.below b14 oG0_13.size
  have oG1_14 := oG1_13.below b14 oG1_13.size
  have B14 := B13.trans (b14.mono B13.size)
  have s14 := b14.size
  clear oW0_13 oW1_13 oG0_13 oG1_13 b14 B13
  obtain ⟨az0, cz0, rfl, qz0⟩ := oz0_14.rd
  go_wp2_with fail
  refine (HI.out az0 cz0 _ qz0).mono fun e w15 h15 => ?_
  obtain ⟨vH0, vH1, lH0, tH0, lH1, tH1, rfl, oH0_15, oH1_15, pH0, pH1, apH, b15⟩ := h15; have tpH0 := oH0_15.size; have tpH1 := oH1_15.size
  have oW0_15 := oW0_14.below b15 oW0_14.size
  have oW1_15 := oW1_14.below b15 oW1_14.size
  have oG0_15 := oG0_14.below b15 oG0_14.size
  have oG1_15 := oG1_14.below b15 oG1_14.size
  have oz0_15 := oz0_14.below b15 oz0_14.size
  have B15 := B14.trans (b15.mono B14.size)
  have s15 := b15.size
  clear oW0_14 oW1_14 oG0_14 oG1_14 oz0_14 b15 B14
  clear qz0
  clear oz0_15
  go_wp2_with fail
  refine (eqIntS_own hrl0 hrl0 oH0_15 oW0_15).mono ?_
  rintro e w16 ⟨rfl, d16⟩
  have oW0_16 := oW0_15.dn d16
  have oW1_16 := oW1_15.dn d16
  have oG0_16 := oG0_15.dn d16
  have oG1_16 := oG1_15.dn d16
  have oH0_16 := oH0_15.dn d16
  have oH1_16 := oH1_15.dn d16
  have B16 := B15.trans (d16.below _)
  have s16 : w15.heap.size ≤ w16.heap.size := by rw [d16.heap]; exact Nat.le_refl _
  clear oW0_15 oW1_15 oG0_15 oG1_15 oH0_15 oH1_15 d16 B15
  clear oH0_16
  go_wp2_with fail
  refine (eqIntS_own hrl1 hrl1 oH1_16 oW1_16).mono ?_
  rintro e w17 ⟨rfl, d17⟩
  have oW0_17 := oW0_16.dn d17
  have oW1_17 := oW1_16.dn d17
  have oG0_17 := oG0_16.dn d17
  have oG1_17 := oG1_16.dn d17
  have oH1_17 := oH1_16.dn d17
  have B17 := B16.trans (d17.below _)
  have s17 : w16.heap.size ≤ w17.heap.size := by rw [d17.heap]; exact Nat.le_refl _
  clear oW0_16 oW1_16 oG0_16 oG1_16 oH1_16 d17 B16
  clear oH1_17
  go_wp2_with fail
  refine (heldIntS_own 1 r0.length (by omega) hrl0 oG0_17).mono ?_
  rintro e _ ⟨rfl, rfl⟩
  go_wp2_with fail
  refine (heldIntS_own (1 + r0.length) r1.length (by omega) hrl1 oG1_17).mono ?_
  rintro e _ ⟨rfl, rfl⟩
  go_wp2
  go_ret
  exact ⟨rfl, B17⟩
end Go.Proofs.Ytillmjnkhkcedaa
