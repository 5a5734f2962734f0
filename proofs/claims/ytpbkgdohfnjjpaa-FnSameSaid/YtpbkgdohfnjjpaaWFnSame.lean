/-
  The walk of FnSame, out of the contracts of the draw and of the functions that it calls; for whatever bytes.
-/
import Derived.Test.YtpbkgdohfnjjpaaKC
import Derived.Test.YtpbkgdohfnjjpaaKD
namespace Go.Proofs.Ytpbkgdohfnjjpaa
open Go.RowKit

theorem fnSame_long (ao : Option Addr) (cap n : Nat) (w : World) (hm : n ≤ maxLen) (hl : ¬ n ≤ 1048576) :
    Calls Try.prog 5 #[.slice ao n cap] w fun e w' => e = .returned (.bool true) ∧ Below w.heap.size w w' := by
  unfold maxLen at hm
  go_enter Try.func5, Try.ntmps5
  go_wp2
  go_ret
  exact ⟨rfl, Below.refl _ _⟩

set_option maxHeartbeats 8000000 in
theorem fnSame_walk (ao : Option Addr) (c : Nat) (bs : List Nat) (w : World) (hl : bs.length ≤ 1048576) (hb : RdB w ao bs) (hc : bs.length ≤ c) (hbA : bs ≠ [] → ∀ a, ao = some a → a.block < w.heap.size) :
    Calls Try.prog 5 #[.slice ao bs.length c] w fun e w' => e = .returned (.bool true) ∧ Below w.heap.size w w' := by
  have HD := Lib.hid (drawRelSame_any ao c bs w hb hc hbA)
  clear hb hbA
  go_enter Try.func5, Try.ntmps5
  go_wp2_with fail
  refine HD.out.mono ?_
  rintro e w1 ⟨k, hk, rfl, B1⟩
  clear HD
  rcases (by omega : k = 0 ∨ k = 1 ∨ k = 2 ∨ k = 3 ∨ k = 4 ∨ k = 5) with rfl | rfl | rfl | rfl | rfl | rfl
  · have hI := fun w => implRelSame_any (0 : Int) w
    have hS := fun w => specRelSame_any (0 : Int) w
    rw [show inB (0 : Int) 1 4 = false by decide, show ifR false (sameL (0 : Int).toNat) = [] from rfl] at hI hS
    have HC := Lib.hid (And.intro hI hS)
    clear hI hS
    go_wp2_with fail
    refine (HC.out.1 _).mono ?_
    rintro e w2 ⟨v, rfl, ho, b2⟩
    obtain ⟨oa, oc, rfl, ro_2⟩ := row_rd ho
    clear ho
    have B2 := B1.trans (b2.mono B1.size)
    clear b2 B1 
    go_wp2_with fail
    refine (HC.out.2 _).mono ?_
    rintro e w3 ⟨v, rfl, ho, b3⟩
    obtain ⟨wa, wc, rfl, rw_3⟩ := row_rd ho
    clear ho
    have ro_3 := ro_2.below b3
    have B3 := B2.trans (b3.mono B2.size)
    clear b3 B2 ro_2
    go_wp2_with fail
    refine (sameInts_refl oa wa oc wc _ _ (by simp) ro_3 rw_3).mono ?_
    rintro e w4 ⟨rfl, d4⟩
    have ro_4 := d4.rd ro_3
    have rw_4 := d4.rd rw_3
    have B4 := B3.trans (d4.below _)
    clear d4 B3 ro_3 rw_3
    go_wp2_with fail
    refine (sameInts_refl oa wa oc wc _ _ (by simp) ro_4 rw_4).mono ?_
    rintro e w5 ⟨rfl, d5⟩
    have ro_5 := d5.rd ro_4
    have rw_5 := d5.rd rw_4
    have B5 := B4.trans (d5.below _)
    clear d5 B4 ro_4 rw_4
    go_wp2
    go_ret
    exact ⟨rfl, B5⟩
  · have hI := fun w => implRelSame_any (1 : Int) w
    have hS := fun w => specRelSame_any (1 : Int) w
    rw [show inB (1 : Int) 1 4 = true by decide, show ifR true (sameL (1 : Int).toNat) = sameL 1 from rfl] at hI hS
    have R1 : Rl 1 (sameL 1) := Rl.same (by omega) (by omega)
    have hN := fun ao ca w h => implRelSize_any ao ca (sameL 1) w (rl_short R1) h
    have hA := fun ao ca w h => implKindAll_any ao ca (sameL 1) w (rl_short R1) h
    rw [R1.ok, show ifN true (sizeL (sameL 1)) = sizeL (sameL 1) from rfl, same_size.1] at hN
    rw [R1.ok, same_kinds.1] at hA
    have L0 : (sameL 1).length ≤ 1048576 := rl_short R1
    obtain ⟨l, El⟩ : ∃ l, sameL 1 = l := ⟨_, rfl⟩
    rw [El] at hI hS hN hA L0
    have es : ((⟨#[114, 115, 97, 116, 99, 102, 100, 106, 111]⟩ : ByteArray) == ⟨#[114, 115, 97, 116, 99, 102, 100, 106, 111]⟩) = true := by decide +kernel
    have HC := Lib.hid (And.intro hI hS)
    have HN := Lib.hid hN
    have HA := Lib.hid hA
    clear hI hS hN hA R1 El
    go_wp2_with fail
    refine (HC.out.1 _).mono ?_
    rintro e w2 ⟨v, rfl, ho, b2⟩
    obtain ⟨oa, oc, rfl, ro_2⟩ := row_rd ho
    clear ho
    have B2 := B1.trans (b2.mono B1.size)
    clear b2 B1 
    go_wp2_with fail
    refine (HC.out.2 _).mono ?_
    rintro e w3 ⟨v, rfl, ho, b3⟩
    obtain ⟨wa, wc, rfl, rw_3⟩ := row_rd ho
    clear ho
    have ro_3 := ro_2.below b3
    have B3 := B2.trans (b3.mono B2.size)
    clear b3 B2 ro_2
    go_wp2_with fail
    refine (sameInts_refl oa wa oc wc _ _ L0 ro_3 rw_3).mono ?_
    rintro e w4 ⟨rfl, d4⟩
    have ro_4 := d4.rd ro_3
    have rw_4 := d4.rd rw_3
    have B4 := B3.trans (d4.below _)
    clear d4 B3 ro_3 rw_3
    go_wp2_with fail
    refine (HN.out oa oc _ ro_4).mono ?_
    rintro e w5 ⟨rfl, b5⟩
    have ro_5 := ro_4.below b5
    have rw_5 := rw_4.below b5
    have B5 := B4.trans (b5.mono B4.size)
    clear b5 B4 ro_4 rw_4
    go_wp2_with fail
    refine (HA.out oa oc _ ro_5).mono ?_
    rintro e w6 ⟨rfl, b6⟩
    have ro_6 := ro_5.below b6
    have rw_6 := rw_5.below b6
    have B6 := B5.trans (b6.mono B5.size)
    clear b6 B5 ro_5 rw_5
    go_wp2
    go_ret
    exact ⟨rfl, B6⟩
  · have hI := fun w => implRelSame_any (2 : Int) w
    have hS := fun w => specRelSame_any (2 : Int) w
    rw [show inB (2 : Int) 1 4 = true by decide, show ifR true (sameL (2 : Int).toNat) = sameL 2 from rfl] at hI hS
    have R1 : Rl 2 (sameL 2) := Rl.same (by omega) (by omega)
    have hN := fun ao ca w h => implRelSize_any ao ca (sameL 2) w (rl_short R1) h
    have hA := fun ao ca w h => implKindAll_any ao ca (sameL 2) w (rl_short R1) h
    rw [R1.ok, show ifN true (sizeL (sameL 2)) = sizeL (sameL 2) from rfl, same_size.2.1] at hN
    rw [R1.ok, same_kinds.2.1] at hA
    have L0 : (sameL 2).length ≤ 1048576 := rl_short R1
    obtain ⟨l, El⟩ : ∃ l, sameL 2 = l := ⟨_, rfl⟩
    rw [El] at hI hS hN hA L0
    have es : ((⟨#[114, 115, 97, 116, 102, 100, 106, 111]⟩ : ByteArray) == ⟨#[114, 115, 97, 116, 102, 100, 106, 111]⟩) = true := by decide +kernel
    have HC := Lib.hid (And.intro hI hS)
    have HN := Lib.hid hN
    have HA := Lib.hid hA
    clear hI hS hN hA R1 El
    go_wp2_with fail
    refine (HC.out.1 _).mono ?_
    rintro e w2 ⟨v, rfl, ho, b2⟩
    obtain ⟨oa, oc, rfl, ro_2⟩ := row_rd ho
    clear ho
    have B2 := B1.trans (b2.mono B1.size)
    clear b2 B1 
    go_wp2_with fail
    refine (HC.out.2 _).mono ?_
    rintro e w3 ⟨v, rfl, ho, b3⟩
    obtain ⟨wa, wc, rfl, rw_3⟩ := row_rd ho
    clear ho
    have ro_3 := ro_2.below b3
    have B3 := B2.trans (b3.mono B2.size)
    clear b3 B2 ro_2
    go_wp2_with fail
    refine (sameInts_refl oa wa oc wc _ _ L0 ro_3 rw_3).mono ?_
    rintro e w4 ⟨rfl, d4⟩
    have ro_4 := d4.rd ro_3
    have rw_4 := d4.rd rw_3
    have B4 := B3.trans (d4.below _)
    clear d4 B3 ro_3 rw_3
    go_wp2_with fail
    refine (HN.out oa oc _ ro_4).mono ?_
    rintro e w5 ⟨rfl, b5⟩
    have ro_5 := ro_4.below b5
    have rw_5 := rw_4.below b5
    have B5 := B4.trans (b5.mono B4.size)
    clear b5 B4 ro_4 rw_4
    go_wp2_with fail
    refine (HA.out oa oc _ ro_5).mono ?_
    rintro e w6 ⟨rfl, b6⟩
    have ro_6 := ro_5.below b6
    have rw_6 := rw_5.below b6
    have B6 := B5.trans (b6.mono B5.size)
    clear b6 B5 ro_5 rw_5
    go_wp2
    go_ret
    exact ⟨rfl, B6⟩
  · have hI := fun w => implRelSame_any (3 : Int) w
    have hS := fun w => specRelSame_any (3 : Int) w
    rw [show inB (3 : Int) 1 4 = true by decide, show ifR true (sameL (3 : Int).toNat) = sameL 3 from rfl] at hI hS
    have R1 : Rl 3 (sameL 3) := Rl.same (by omega) (by omega)
    have hN := fun ao ca w h => implRelSize_any ao ca (sameL 3) w (rl_short R1) h
    have hA := fun ao ca w h => implKindAll_any ao ca (sameL 3) w (rl_short R1) h
    rw [R1.ok, show ifN true (sizeL (sameL 3)) = sizeL (sameL 3) from rfl, same_size.2.2.1] at hN
    rw [R1.ok, same_kinds.2.2.1] at hA
    have L0 : (sameL 3).length ≤ 1048576 := rl_short R1
    obtain ⟨l, El⟩ : ∃ l, sameL 3 = l := ⟨_, rfl⟩
    rw [El] at hI hS hN hA L0
    have es : ((⟨#[114, 115, 97, 116, 102, 100, 106, 111]⟩ : ByteArray) == ⟨#[114, 115, 97, 116, 102, 100, 106, 111]⟩) = true := by decide +kernel
    have HC := Lib.hid (And.intro hI hS)
    have HN := Lib.hid hN
    have HA := Lib.hid hA
    clear hI hS hN hA R1 El
    go_wp2_with fail
    refine (HC.out.1 _).mono ?_
    rintro e w2 ⟨v, rfl, ho, b2⟩
    obtain ⟨oa, oc, rfl, ro_2⟩ := row_rd ho
    clear ho
    have B2 := B1.trans (b2.mono B1.size)
    clear b2 B1 
    go_wp2_with fail
    refine (HC.out.2 _).mono ?_
    rintro e w3 ⟨v, rfl, ho, b3⟩
    obtain ⟨wa, wc, rfl, rw_3⟩ := row_rd ho
    clear ho
    have ro_3 := ro_2.below b3
    have B3 := B2.trans (b3.mono B2.size)
    clear b3 B2 ro_2
    go_wp2_with fail
    refine (sameInts_refl oa wa oc wc _ _ L0 ro_3 rw_3).mono ?_
    rintro e w4 ⟨rfl, d4⟩
    have ro_4 := d4.rd ro_3
    have rw_4 := d4.rd rw_3
    have B4 := B3.trans (d4.below _)
    clear d4 B3 ro_3 rw_3
    go_wp2_with fail
    refine (HN.out oa oc _ ro_4).mono ?_
    rintro e w5 ⟨rfl, b5⟩
    have ro_5 := ro_4.below b5
    have rw_5 := rw_4.below b5
    have B5 := B4.trans (b5.mono B4.size)
    clear b5 B4 ro_4 rw_4
    go_wp2_with fail
    refine (HA.out oa oc _ ro_5).mono ?_
    rintro e w6 ⟨rfl, b6⟩
    have ro_6 := ro_5.below b6
    have rw_6 := rw_5.below b6
    have B6 := B5.trans (b6.mono B5.size)
    clear b6 B5 ro_5 rw_5
    go_wp2
    go_ret
    exact ⟨rfl, B6⟩
  · have hI := fun w => implRelSame_any (4 : Int) w
    have hS := fun w => specRelSame_any (4 : Int) w
    rw [show inB (4 : Int) 1 4 = true by decide, show ifR true (sameL (4 : Int).toNat) = sameL 4 from rfl] at hI hS
    have R1 : Rl 4 (sameL 4) := Rl.same (by omega) (by omega)
    have hN := fun ao ca w h => implRelSize_any ao ca (sameL 4) w (rl_short R1) h
    have hA := fun ao ca w h => implKindAll_any ao ca (sameL 4) w (rl_short R1) h
    rw [R1.ok, show ifN true (sizeL (sameL 4)) = sizeL (sameL 4) from rfl, same_size.2.2.2] at hN
    rw [R1.ok, same_kinds.2.2.2] at hA
    have L0 : (sameL 4).length ≤ 1048576 := rl_short R1
    obtain ⟨l, El⟩ : ∃ l, sameL 4 = l := ⟨_, rfl⟩
    rw [El] at hI hS hN hA L0
    have es : ((⟨#[114, 115, 97, 116, 102, 100, 106, 111]⟩ : ByteArray) == ⟨#[114, 115, 97, 116, 102, 100, 106, 111]⟩) = true := by decide +kernel
    have HC := Lib.hid (And.intro hI hS)
    have HN := Lib.hid hN
    have HA := Lib.hid hA
    clear hI hS hN hA R1 El
    go_wp2_with fail
    refine (HC.out.1 _).mono ?_
    rintro e w2 ⟨v, rfl, ho, b2⟩
    obtain ⟨oa, oc, rfl, ro_2⟩ := row_rd ho
    clear ho
    have B2 := B1.trans (b2.mono B1.size)
    clear b2 B1 
    go_wp2_with fail
    refine (HC.out.2 _).mono ?_
    rintro e w3 ⟨v, rfl, ho, b3⟩
    obtain ⟨wa, wc, rfl, rw_3⟩ := row_rd ho
    clear ho
    have ro_3 := ro_2.below b3
    have B3 := B2.trans (b3.mono B2.size)
    clear b3 B2 ro_2
    go_wp2_with fail
    refine (sameInts_refl oa wa oc wc _ _ L0 ro_3 rw_3).mono ?_
    rintro e w4 ⟨rfl, d4⟩
    have ro_4 := d4.rd ro_3
    have rw_4 := d4.rd rw_3
    have B4 := B3.trans (d4.below _)
    clear d4 B3 ro_3 rw_3
    go_wp2_with fail
    refine (HN.out oa oc _ ro_4).mono ?_
    rintro e w5 ⟨rfl, b5⟩
    have ro_5 := ro_4.below b5
    have rw_5 := rw_4.below b5
    have B5 := B4.trans (b5.mono B4.size)
    clear b5 B4 ro_4 rw_4
    go_wp2_with fail
    refine (HA.out oa oc _ ro_5).mono ?_
    rintro e w6 ⟨rfl, b6⟩
    have ro_6 := ro_5.below b6
    have rw_6 := rw_5.below b6
    have B6 := B5.trans (b6.mono B5.size)
    clear b6 B5 ro_5 rw_5
    go_wp2
    go_ret
    exact ⟨rfl, B6⟩
  · have hI := fun w => implRelSame_any (5 : Int) w
    have hS := fun w => specRelSame_any (5 : Int) w
    rw [show inB (5 : Int) 1 4 = false by decide, show ifR false (sameL (5 : Int).toNat) = [] from rfl] at hI hS
    have HC := Lib.hid (And.intro hI hS)
    clear hI hS
    go_wp2_with fail
    refine (HC.out.1 _).mono ?_
    rintro e w2 ⟨v, rfl, ho, b2⟩
    obtain ⟨oa, oc, rfl, ro_2⟩ := row_rd ho
    clear ho
    have B2 := B1.trans (b2.mono B1.size)
    clear b2 B1 
    go_wp2_with fail
    refine (HC.out.2 _).mono ?_
    rintro e w3 ⟨v, rfl, ho, b3⟩
    obtain ⟨wa, wc, rfl, rw_3⟩ := row_rd ho
    clear ho
    have ro_3 := ro_2.below b3
    have B3 := B2.trans (b3.mono B2.size)
    clear b3 B2 ro_2
    go_wp2_with fail
    refine (sameInts_refl oa wa oc wc _ _ (by simp) ro_3 rw_3).mono ?_
    rintro e w4 ⟨rfl, d4⟩
    have ro_4 := d4.rd ro_3
    have rw_4 := d4.rd rw_3
    have B4 := B3.trans (d4.below _)
    clear d4 B3 ro_3 rw_3
    go_wp2_with fail
    refine (sameInts_refl oa wa oc wc _ _ (by simp) ro_4 rw_4).mono ?_
    rintro e w5 ⟨rfl, d5⟩
    have ro_5 := d5.rd ro_4
    have rw_5 := d5.rd rw_4
    have B5 := B4.trans (d5.below _)
    clear d5 B4 ro_4 rw_4
    go_wp2
    go_ret
    exact ⟨rfl, B5⟩
end Go.Proofs.Ytpbkgdohfnjjpaa
