/-
  The walk of FnRectOf, out of the contracts of the draw and of the functions that it calls; for whatever bytes.
-/
import Derived.Test.YtnmgoeklcmoalabSR
import Derived.Test.YtnmgoeklcmoalabRZ
import Derived.Test.YtnmgoeklcmoalabSB
import Derived.Test.YtnmgoeklcmoalabQI
import Derived.Test.YtnmgoeklcmoalabQH
import Derived.Test.YtnmgoeklcmoalabQS
import Derived.Test.YtnmgoeklcmoalabGB
namespace Go.Proofs.Ytnmgoeklcmoalab
open Go.RowKit

theorem fnRectOf_long (ao : Option Addr) (cap n : Nat) (w : World) (hm : n ≤ maxLen) (hl : ¬ n ≤ 1048576) :
    Calls Try.prog 6 #[.slice ao n cap] w fun e w' => e = .returned (.bool true) ∧ Below w.heap.size w w' := by
  unfold maxLen at hm
  go_enter Try.func6, Try.ntmps6
  go_wp2
  go_ret
  exact ⟨rfl, Below.refl _ _⟩

set_option maxHeartbeats 8000000 in
theorem fnRectOf_walk (ao : Option Addr) (c : Nat) (bs : List Nat) (w : World) (hl : bs.length ≤ 1048576) (hb : RdB w ao bs) (hc : bs.length ≤ c) (hbA : bs ≠ [] → ∀ a, ao = some a → a.block < w.heap.size) :
    Calls Try.prog 6 #[.slice ao bs.length c] w fun e w' => e = .returned (.bool true) ∧ Below w.heap.size w w' := by
  have HD := Lib.hid (drawRectOf_any ao c bs w hb hc hbA)
  clear hb hbA
  go_enter Try.func6, Try.ntmps6
  go_wp2_with fail
  refine HD.out.mono ?_
  rintro e w1 ⟨n, xss, xa, xc, rfl, h1, h5, h9, h2, rx, B1⟩
  have hx9 : xss.length ≤ 1048576 := by omega
  clear HD
  cases hp : inB (n : Int) 1 4 && xss.all (okR n) with
  | false =>
    have hI := fun w h => implRectOf_any xa xc (n : Int) xss w hx9 h
    have hS := fun w h => specRectOf_any xa xc (n : Int) xss w hx9 h
    rw [Int.toNat_natCast, hp] at hI hS
    have HC := Lib.hid (And.intro hI hS)
    clear hI hS hp
    go_wp2_with fail
    refine (HC.out.1 _ rx).mono ?_
    rintro e w2 ⟨v, rfl, ho, b2⟩
    obtain ⟨oa, oc, rfl, ro_2⟩ := row_rd (xs := ifR false (rofL n xss)) ho
    clear ho
    have rx_2 := rx.below b2
    have B2 := B1.trans (b2.mono B1.size)
    clear b2 B1 rx
    go_wp2_with fail
    refine (HC.out.2 _ rx_2).mono ?_
    rintro e w3 ⟨v, rfl, ho, b3⟩
    obtain ⟨wa, wc, rfl, rw_3⟩ := row_rd (xs := ifR false (rofL n xss)) ho
    clear ho
    have rx_3 := rx_2.below b3
    have ro_3 := ro_2.below b3
    have B3 := B2.trans (b3.mono B2.size)
    clear b3 B2 rx_2 ro_2
    go_wp2_with fail
    refine (sameInts_refl oa wa oc wc _ _ (by simp [ifR]) ro_3 rw_3).mono ?_
    rintro e w4 ⟨rfl, d4⟩
    have rx_4 := rx_3.dn d4
    have ro_4 := d4.rd ro_3
    have rw_4 := d4.rd rw_3
    have B4 := B3.trans (d4.below _)
    clear d4 B3 rx_3 ro_3 rw_3
    go_wp2_with fail
    refine (sameInts_refl oa wa oc wc _ _ (by simp [ifR]) ro_4 rw_4).mono ?_
    rintro e w5 ⟨rfl, d5⟩
    have rx_5 := rx_4.dn d5
    have ro_5 := d5.rd ro_4
    have rw_5 := d5.rd rw_4
    have B5 := B4.trans (d5.below _)
    clear d5 B4 rx_4 ro_4 rw_4
    go_wp2
    go_ret
    exact ⟨rfl, B5⟩
  | true =>
    have hI := fun w h => implRectOf_any xa xc (n : Int) xss w hx9 h
    have hS := fun w h => specRectOf_any xa xc (n : Int) xss w hx9 h
    rw [Int.toNat_natCast, hp] at hI hS
    rw [show ifR true (rofL n xss) = rofL n xss from rfl] at hI hS
    rw [Bool.and_eq_true] at hp
    have hn4 : n ≤ 4 := by
      have := hp.1
      unfold inB at this
      rw [decide_eq_true_iff] at this
      omega
    obtain ⟨R1, k, hk, hkl⟩ := made_rank h1 hn4 hp.2
    have hZ := fun ao ca w h => implRectRank_any ao ca (rofL n xss) k w (fun _ => hk) (rl_short R1) h
    rw [R1.ok, show rkI true k = (k : Int) from rfl] at hZ
    have hkl2 : (k : Int) ≤ (xss.length : Int) := by omega
    have Lo : (rofL n xss).length ≤ 1048576 := rl_short R1
    obtain ⟨lo, Elo⟩ : ∃ kk, rofL n xss = kk := ⟨_, rfl⟩
    rw [Elo] at hI
    rw [Elo] at hS
    rw [Elo] at hZ
    rw [Elo] at Lo
    have HC := Lib.hid (And.intro hI (And.intro hS hZ))
    clear hI hS hZ hk hp R1 Elo
    go_wp2_with fail
    refine (HC.out.1 _ rx).mono ?_
    rintro e w2 ⟨v, rfl, ho, b2⟩
    obtain ⟨oa, oc, rfl, ro_2⟩ := row_rd ho
    clear ho
    have rx_2 := rx.below b2
    have B2 := B1.trans (b2.mono B1.size)
    clear b2 B1 rx
    go_wp2_with fail
    refine (HC.out.2.1 _ rx_2).mono ?_
    rintro e w3 ⟨v, rfl, ho, b3⟩
    obtain ⟨wa, wc, rfl, rw_3⟩ := row_rd ho
    clear ho
    have rx_3 := rx_2.below b3
    have ro_3 := ro_2.below b3
    have B3 := B2.trans (b3.mono B2.size)
    clear b3 B2 rx_2 ro_2
    go_wp2_with fail
    refine (sameInts_refl oa wa oc wc _ _ Lo ro_3 rw_3).mono ?_
    rintro e w4 ⟨rfl, d4⟩
    have rx_4 := rx_3.dn d4
    have ro_4 := d4.rd ro_3
    have rw_4 := d4.rd rw_3
    have B4 := B3.trans (d4.below _)
    clear d4 B3 rx_3 ro_3 rw_3
    go_wp2_with fail
    refine (HC.out.2.2 oa oc _ ro_4).mono ?_
    rintro e w5 ⟨rfl, b5⟩
    have rx_5 := rx_4.below b5
    have ro_5 := ro_4.below b5
    have rw_5 := rw_4.below b5
    have B5 := B4.trans (b5.mono B4.size)
    clear b5 B4 rx_4 ro_4 rw_4
    go_wp2
    go_ret
    exact ⟨rfl, B5⟩
end Go.Proofs.Ytnmgoeklcmoalab
