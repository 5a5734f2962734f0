/-
  The walk of FnExecuteKinds, out of the contracts of the draw and of the functions that it calls; for whatever bytes.
-/
import Derived.Test.YthdnpcpimggjnaaGreatDoorVB
import Derived.Test.YthdnpcpimggjnaaGreatDoorVL
namespace Go.Proofs.YthdnpcpimggjnaaGreatDoor
open Go.RowKit

theorem fnExecuteKinds_long (ao : Option Addr) (cap n : Nat) (w : World) (hm : n ≤ maxLen) (hl : ¬ n ≤ 1048576) :
    Calls Tryz.prog 3 #[.slice ao n cap] w fun e w' => e = .returned (.bool true) ∧ Below w.heap.size w w' := by
  unfold maxLen at hm
  go_enter Tryz.func3, Tryz.ntmps3
  go_wp2
  go_ret
  exact ⟨rfl, Below.refl _ _⟩

set_option maxHeartbeats 8000000 in
set_option maxRecDepth 100000 in
theorem fnExecuteKinds_walk (ao : Option Addr) (c : Nat) (bs : List Nat) (w : World) (hm : MaxAt w) (hlow : 0 < w.heap.size) (hl : bs.length ≤ 1048576) (hb : RdB w ao bs) (hc : bs.length ≤ c) (hbA : bs ≠ [] → ∀ a, ao = some a → a.block < w.heap.size) :
    Calls Tryz.prog 3 #[.slice ao bs.length c] w fun e w' => e = .returned (.bool true) ∧ Below w.heap.size w w' := by
  have HD := Lib.hid (drawKindAll_any ao c bs w hb hc hbA)
  have HM := Lib.hid (And.intro hm hlow)
  clear hb hbA hm hlow
  go_enter Tryz.func3, Tryz.ntmps3
  go_wp2_with fail
  refine HD.out.mono ?_
  rintro e w1 ⟨v, a, rfl, hrl, ho1, B1⟩
  obtain ⟨aa, ac, rfl, ra⟩ := row_rd ho1
  have hl1 : a.length ≤ 1048576 := by omega
  clear ho1 HD
  have hI := fun w h => implKindAll_any aa ac a w hl1 h
  have hS := fun w h => specKindAll_any aa ac a w hl1 h
  cases hp : relIn a with
  | false =>
    rw [hp] at hI hS
    obtain ⟨ks, Ek⟩ : ∃ k, kindsOf a = k := ⟨_, rfl⟩
    rw [Ek] at hI hS
    have e1 : (ks == ks) = true := str_beq ks
    have e2 : (ks != ks) = false := str_bne ks
    have HC := Lib.hid (And.intro hI hS)
    clear hI hS hp Ek
    go_wp2_with fail
    refine (HC.out.1 _ ra).mono ?_
    rintro e w2 ⟨rfl, b2⟩
    have ra_2 := ra.below b2
    have B2 := B1.trans (b2.mono B1.size)
    clear b2 B1 ra
    go_wp2_with fail
    refine (HC.out.2 _ ra_2).mono ?_
    rintro e w3 ⟨rfl, b3⟩
    have ra_3 := ra_2.below b3
    have B3 := B2.trans (b3.mono B2.size)
    clear b3 B2 ra_2
    go_wp2
    go_ret
    exact ⟨rfl, B3⟩
  | true =>
    obtain ⟨ns, hns, hlt, hne, h4⟩ := nats_of hp
    have hsl := sizeL_nat hp
    obtain ⟨n, hn, hn100⟩ := hsl
    have hZ := fun w h => implRelSize_any aa ac a w hl1 h
    rw [hp] at hI hS hZ
    rw [hn] at hZ
    have hlen : ns.length = a.length := by rw [hns]; simp
    have hSp := fun (w : World) (h : Rd w aa a) => spaced_any aa ac ns w (by omega) hlt (by rw [← hns]; exact h)
    have hks : (kindsOf a).size ≤ 1048576 := kinds_size a
    have hdn := fun w => digits_any n hn100 w
    have hdl := dig_len ⟨n, hn100⟩
    simp only at hdl
    have hspl := sp_len ns hlt
    have hE := fun (w : World) (hm : MaxAt w) (hl : 0 < w.heap.size) (l : List UInt8) (hk : orDash (kindsOf a) = baOf l) (hll : l.length ≤ 1048576) =>
      exec_kinds ns l n w hm hl hne hlt h4 (by rw [← hns]; exact hp) (by rw [← hns]; exact hk) hll (by rw [← hns]; exact hn) hn100
    obtain ⟨ks, Ek⟩ : ∃ k, kindsOf a = k := ⟨_, rfl⟩
    rw [Ek] at hI hS hks hE
    obtain ⟨sd, Ed⟩ : ∃ d, orDash ks = d := ⟨_, rfl⟩
    have hsd : sd.size ≤ 1048576 := by
      rw [← Ed]
      unfold orDash
      split
      · decide
      · exact hks
    have hE2 := fun (w : World) (hm : MaxAt w) (hl : 0 < w.heap.size) => hE w hm hl sd.data.toList (by rw [ba_of, Ed]) (by simpa using hsd)
    simp only [ba_of] at hE2
    obtain ⟨sp, Esp⟩ : ∃ s, baOf (joinC 32 (ns.map dig)) = s := ⟨_, rfl⟩
    obtain ⟨dn, Edn⟩ : ∃ s, baOf (dig n) = s := ⟨_, rfl⟩
    have hsp1 : sp.size ≤ 12 := by rw [← Esp, ba_size]; omega
    have hdn1 : dn.size ≤ 2 := by rw [← Edn, ba_size]; omega
    rw [Esp, Edn] at hE2
    rw [Esp] at hSp
    rw [Edn] at hdn
    rw [hlen] at hSp
    have e1 : (ks == ks) = true := str_beq ks
    have e2 : (ks != ks) = false := str_bne ks
    have HC := Lib.hid (And.intro hI (And.intro hS (And.intro hZ (And.intro hSp (And.intro hE2 hdn)))))
    have HQ := Lib.hid (And.intro hsp1 (And.intro hdn1 (And.intro hsd Ed)))
    clear hI hS hZ hSp hE hE2 hdn Ek hks hsd Ed Esp Edn hsp1 hdn1 hdl hspl hp hns hlt hne h4 hn hn100 hlen
    go_wp2_with fail
    refine (HC.out.1 _ ra).mono ?_
    rintro e w2 ⟨rfl, b2⟩
    have ra_2 := ra.below b2
    have B2 := B1.trans (b2.mono B1.size)
    clear b2 B1 ra
    go_wp2_with fail
    refine (HC.out.2.1 _ ra_2).mono ?_
    rintro e w3 ⟨rfl, b3⟩
    have ra_3 := ra_2.below b3
    have B3 := B2.trans (b3.mono B2.size)
    clear b3 B2 ra_2
    go_wp2_with fail
    refine (HC.out.2.2.1 _ ra_3).mono ?_
    rintro e w4 ⟨rfl, b4⟩
    have ra_4 := ra_3.below b4
    have B4 := B3.trans (b4.mono B3.size)
    clear b4 B3 ra_3
    rw [show ifN true (n : Int) = (n : Int) from rfl]
    cases hemp : ks.toList.isEmpty with
    | true =>
      have hs2 : sd = ⟨#[45]⟩ := by rw [← HQ.out.2.2.2]; unfold orDash; rw [if_pos hemp]
      subst hs2
      go_wp2_with fail
      refine (HC.out.2.2.2.1 _ ra_4).mono ?_
      rintro e w5 ⟨rfl, b5⟩
      have B5 := B4.trans (b5.mono B4.size)
      clear b5 B4 ra_4
      have s1 := HQ.out.1
      have s2 := HQ.out.2.1
      have s3 := HQ.out.2.2.1
      have q1 : ¬ ((9223372036854775807 : Int) < 5 + (sp.size : Int)) := by omega
      have q2 : ¬ ((9223372036854775807 : Int) < 5 + (sp.size : Int) + 7) := by omega
      have q3 : ¬ ((9223372036854775807 : Int) < 4) := by omega
      have q4 : ¬ ((9223372036854775807 : Int) < 4 + 7) := by omega
      have q5 : ¬ ((9223372036854775807 : Int) < 4 + 7 + (dn.size : Int)) := by omega
      have q6 : ¬ ((9223372036854775807 : Int) < 4 + 7 + (dn.size : Int) + 1) := by omega
      clear s1 s2 s3
      go_wp2_with fail
      refine (HC.out.2.2.2.2.1 _ (HM.out.1.below B5 HM.out.2) (by have := B5.size; have := HM.out.2; omega)).mono ?_
      rintro e w6 ⟨rfl, b6⟩
      have B6 := B5.trans (b6.mono B5.size)
      clear b6 B5
      go_wp2_with fail
      refine (HC.out.2.2.2.2.2 _).mono ?_
      rintro e w7 ⟨rfl, b7⟩
      have B7 := B6.trans (b7.mono B6.size)
      clear b7 B6
      go_wp2
      go_ret
      exact ⟨rfl, B7⟩
    | false =>
      have hs2 : sd = ks := by rw [← HQ.out.2.2.2]; unfold orDash; rw [hemp]; rfl
      subst hs2
      go_wp2_with fail
      refine (HC.out.2.2.2.1 _ ra_4).mono ?_
      rintro e w5 ⟨rfl, b5⟩
      have B5 := B4.trans (b5.mono B4.size)
      clear b5 B4 ra_4
      have s1 := HQ.out.1
      have s2 := HQ.out.2.1
      have s3 := HQ.out.2.2.1
      have q1 : ¬ ((9223372036854775807 : Int) < 5 + (sp.size : Int)) := by omega
      have q2 : ¬ ((9223372036854775807 : Int) < 5 + (sp.size : Int) + 7) := by omega
      have q3 : ¬ ((9223372036854775807 : Int) < 3 + (sd.size : Int)) := by omega
      have q4 : ¬ ((9223372036854775807 : Int) < 3 + (sd.size : Int) + 7) := by omega
      have q5 : ¬ ((9223372036854775807 : Int) < 3 + (sd.size : Int) + 7 + (dn.size : Int)) := by omega
      have q6 : ¬ ((9223372036854775807 : Int) < 3 + (sd.size : Int) + 7 + (dn.size : Int) + 1) := by omega
      clear s1 s2 s3
      go_wp2_with fail
      refine (HC.out.2.2.2.2.1 _ (HM.out.1.below B5 HM.out.2) (by have := B5.size; have := HM.out.2; omega)).mono ?_
      rintro e w6 ⟨rfl, b6⟩
      have B6 := B5.trans (b6.mono B5.size)
      clear b6 B5
      go_wp2_with fail
      refine (HC.out.2.2.2.2.2 _).mono ?_
      rintro e w7 ⟨rfl, b7⟩
      have B7 := B6.trans (b7.mono B6.size)
      clear b7 B6
      go_wp2
      go_ret
      exact ⟨rfl, B7⟩
end Go.Proofs.YthdnpcpimggjnaaGreatDoor
