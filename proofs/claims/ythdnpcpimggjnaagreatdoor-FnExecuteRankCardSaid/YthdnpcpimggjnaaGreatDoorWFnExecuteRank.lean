/-
  The walk of FnExecuteRank, out of the contracts of the draw and of the functions that it calls; for whatever bytes.
-/
import Derived.Test.YthdnpcpimggjnaaGreatDoorRD
namespace Go.Proofs.YthdnpcpimggjnaaGreatDoor
open Go.RowKit

theorem fnExecuteRank_long (ao : Option Addr) (cap n : Nat) (w : World) (hm : n ≤ maxLen) (hl : ¬ n ≤ 1048576) :
    Calls Tryz.prog 4 #[.slice ao n cap] w fun e w' => e = .returned (.bool true) ∧ Below w.heap.size w w' := by
  unfold maxLen at hm
  go_enter Tryz.func4, Tryz.ntmps4
  go_wp2
  go_ret
  exact ⟨rfl, Below.refl _ _⟩

set_option maxHeartbeats 8000000 in
set_option maxRecDepth 100000 in
theorem fnExecuteRank_walk (ao : Option Addr) (c : Nat) (bs : List Nat) (w : World) (hm : MaxAt w) (hlow : 0 < w.heap.size) (hl : bs.length ≤ 1048576) (hb : RdB w ao bs) (hc : bs.length ≤ c) (hbA : bs ≠ [] → ∀ a, ao = some a → a.block < w.heap.size) :
    Calls Tryz.prog 4 #[.slice ao bs.length c] w fun e w' => e = .returned (.bool true) ∧ Below w.heap.size w w' := by
  have HD := Lib.hid (drawRectRank_any ao c bs w hb hc hbA)
  have HM := Lib.hid (And.intro hm hlow)
  clear hb hbA hm hlow
  go_enter Tryz.func4, Tryz.ntmps4
  go_wp2_with fail
  refine HD.out.mono ?_
  rintro e w1 ⟨v, a, rfl, hrl, ho1, B1⟩
  obtain ⟨aa, ac, rfl, ra⟩ := row_rd ho1
  have hl1 : a.length ≤ 1048576 := by omega
  clear ho1 HD
  cases hp : relIn a with
  | false =>
    have hk : relIn a = true → 0 ≤ (fullL a).length ∧ LeastC a.length (fullL a) a 0 := fun h => by rw [hp] at h; cases h
    have hI := fun w h => implRectRank_any aa ac a 0 w hk hl1 h
    have hS := fun w h => specRectRank_any aa ac a 0 w hk hl1 h
    rw [hp] at hI hS
    obtain ⟨o, Eo⟩ : ∃ kk, rkI false 0 = kk := ⟨_, rfl⟩
    rw [Eo] at hI hS
    have e1 : (o == o) = true := by simp
    have e2 : (o != o) = false := by simp
    have HC := Lib.hid (And.intro hI hS)
    clear hI hS hp Eo hk
    go_wp2_with fail
    refine (HC.out.1 _ ra).mono ?_
    rintro e w2 ⟨rfl, b2⟩
    have ra_2 := ra.below b2
    have B2 := B1.trans (b2.mono B1.size)
    clear b2 B1 ra
    go_wp2_with fail
    refine (HC.out.2 _ ra_2).mono ?_
    rintro e w3 ⟨rfl, b3⟩
    have B3 := B2.trans (b3.mono B2.size)
    clear b3 B2 ra_2
    go_wp2
    go_ret
    exact ⟨rfl, B3⟩
  | true =>
    obtain ⟨ns, hns, hlt, hne, h4⟩ := nats_of hp
    obtain ⟨n, hn, hn100⟩ := sizeL_nat hp
    obtain ⟨k, m, hk, hk2, hm, hkn, hmk, hk0⟩ := ranks (Rl.of hp)
    have hfour := (Rl.of hp).four
    have hk100 : k < 100 := by omega
    have hI := fun w h => implRectRank_any aa ac a k w (fun _ => hk) hl1 h
    have hS := fun w h => specRectRank_any aa ac a k w (fun _ => hk) hl1 h
    have hZ := fun w h => implRelSize_any aa ac a w hl1 h
    rw [hp, show rkI true k = (k : Int) from rfl] at hI hS
    rw [hp, hn] at hZ
    have hlen : ns.length = a.length := by rw [hns]; simp
    have hSp := fun (w : World) (h : Rd w aa a) => spaced_any aa ac ns w (by omega) hlt (by rw [← hns]; exact h)
    have hdn := fun w => digits_any n hn100 w
    have hdk := fun w => digits_any k hk100 w
    have hdl := dig_len ⟨n, hn100⟩
    have hdl2 := dig_len ⟨k, hk100⟩
    simp only at hdl hdl2
    have hspl := sp_len ns hlt
    have hE := fun (w : World) (hm : MaxAt w) (hl : 0 < w.heap.size) =>
      exec_rank ns k n w hm hl hne hlt h4 (by rw [← hns]; exact hp) (by rw [← hns]; exact hk) hk100 (by rw [← hns]; exact hn) hn100
    obtain ⟨sp, Esp⟩ : ∃ s, baOf (joinC 32 (ns.map dig)) = s := ⟨_, rfl⟩
    obtain ⟨dn, Edn⟩ : ∃ s, baOf (dig n) = s := ⟨_, rfl⟩
    obtain ⟨dk, Edk⟩ : ∃ s, baOf (dig k) = s := ⟨_, rfl⟩
    have hsp1 : sp.size ≤ 12 := by rw [← Esp, ba_size]; omega
    have hdn1 : dn.size ≤ 2 := by rw [← Edn, ba_size]; omega
    have hdk1 : dk.size ≤ 2 := by rw [← Edk, ba_size]; omega
    rw [Esp, Edn, Edk] at hE
    rw [Esp] at hSp
    rw [Edn] at hdn
    rw [Edk] at hdk
    rw [hlen] at hSp
    have HC := Lib.hid (And.intro hI (And.intro hS (And.intro hZ (And.intro hSp (And.intro hE (And.intro hdn hdk))))))
    have q1 : ¬ ((9223372036854775807 : Int) < 5 + (sp.size : Int)) := by omega
    have q2 : ¬ ((9223372036854775807 : Int) < 5 + (sp.size : Int) + 13) := by omega
    have q3 : ¬ ((9223372036854775807 : Int) < 3 + (dk.size : Int)) := by omega
    have q4 : ¬ ((9223372036854775807 : Int) < 3 + (dk.size : Int) + 10) := by omega
    have q5 : ¬ ((9223372036854775807 : Int) < 3 + (dk.size : Int) + 10 + (dn.size : Int)) := by omega
    have q6 : ¬ ((9223372036854775807 : Int) < 3 + (dk.size : Int) + 10 + (dn.size : Int) + 1) := by omega
    clear hI hS hZ hSp hE hdn hdk Esp Edn Edk hsp1 hdn1 hdk1 hdl hdl2 hspl hp hns hlt hne h4 hn hn100 hlen hk hk2 hm hkn hmk hk0 hk100 hfour
    go_wp2_with fail
    refine (HC.out.1 _ ra).mono ?_
    rintro e w2 ⟨rfl, b2⟩
    have ra_2 := ra.below b2
    have B2 := B1.trans (b2.mono B1.size)
    clear b2 B1 ra
    go_wp2_with fail
    refine (HC.out.2.1 _ ra_2).mono ?_
    rintro e w3 ⟨rfl, b3⟩
    have ra_3 := ra_2.below b3
    have B3 := B2.trans (b3.mono B2.size)
    clear b3 B2 ra_2
    go_wp2_with fail
    refine (HC.out.2.2.1 _ ra_3).mono ?_
    rintro e w4 ⟨rfl, b4⟩
    have ra_4 := ra_3.below b4
    have B4 := B3.trans (b4.mono B3.size)
    clear b4 B3 ra_3
    rw [show ifN true (n : Int) = (n : Int) from rfl]
    go_wp2_with fail
    refine (HC.out.2.2.2.1 _ ra_4).mono ?_
    rintro e w5 ⟨rfl, b5⟩
    have B5 := B4.trans (b5.mono B4.size)
    clear b5 B4 ra_4
    go_wp2_with fail
    refine (HC.out.2.2.2.2.1 _ (HM.out.1.below B5 HM.out.2) (by have := B5.size; have := HM.out.2; omega)).mono ?_
    rintro e w6 ⟨rfl, b6⟩
    have B6 := B5.trans (b6.mono B5.size)
    clear b6 B5
    go_wp2_with fail
    refine (HC.out.2.2.2.2.2.2 _).mono ?_
    rintro e w7 ⟨rfl, b7⟩
    have B7 := B6.trans (b7.mono B6.size)
    clear b7 B6
    go_wp2_with fail
    refine (HC.out.2.2.2.2.2.1 _).mono ?_
    rintro e w8 ⟨rfl, b8⟩
    have B8 := B7.trans (b8.mono B7.size)
    clear b8 B7
    go_wp2
    go_ret
    exact ⟨rfl, B8⟩
end Go.Proofs.YthdnpcpimggjnaaGreatDoor
