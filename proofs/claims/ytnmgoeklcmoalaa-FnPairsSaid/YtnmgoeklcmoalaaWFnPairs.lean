/-
  The walk of FnPairs, out of the contracts of the draw and of the functions that it calls; for whatever bytes.
-/
import Derived.Test.YtnmgoeklcmoalaaSR
import Derived.Test.YtnmgoeklcmoalaaRP
import Derived.Test.YtnmgoeklcmoalaaRQ
import Derived.Test.YtnmgoeklcmoalaaRD
import Derived.Test.YtnmgoeklcmoalaaFC
import Derived.Test.YtnmgoeklcmoalaaGB
namespace Go.Proofs.Ytnmgoeklcmoalaa
open Go.RowKit

theorem fnPairs_long (ao : Option Addr) (cap n : Nat) (w : World) (hm : n ≤ maxLen) (hl : ¬ n ≤ 1048576) :
    Calls Try.prog 6 #[.slice ao n cap] w fun e w' => e = .returned (.bool true) ∧ Below w.heap.size w w' := by
  unfold maxLen at hm
  go_enter Try.func6, Try.ntmps6
  go_wp2
  go_ret
  exact ⟨rfl, Below.refl _ _⟩

set_option maxHeartbeats 8000000 in
theorem fnPairs_walk (ao : Option Addr) (c : Nat) (bs : List Nat) (w : World) (hl : bs.length ≤ 1048576) (hb : RdB w ao bs) (hc : bs.length ≤ c) (hbA : bs ≠ [] → ∀ a, ao = some a → a.block < w.heap.size) :
    Calls Try.prog 6 #[.slice ao bs.length c] w fun e w' => e = .returned (.bool true) ∧ Below w.heap.size w w' := by
  have HD := Lib.hid (drawRelPairs_any ao c bs w hb hc hbA)
  clear hb hbA
  go_enter Try.func6, Try.ntmps6
  go_wp2_with fail
  refine HD.out.mono ?_
  rintro e w1 ⟨v, a, rfl, hrl, ho1, B1⟩
  obtain ⟨aa, ac, rfl, ra⟩ := row_rd ho1
  have hl1 : a.length ≤ 1048576 := by omega
  clear ho1 HD
  cases hp : relIn a with
  | false =>
    have hI := fun w h => gave_rows (implRelPairs_any aa ac a w hl1 h)
    have hS := fun w h => gave_rows (specRelPairs_any aa ac a w hl1 h)
    rw [hp] at hI hS
    rw [show ifPn a = 0 by unfold ifPn; rw [hp]; rfl, show (List.range 0).map (PR (pairsOf a)) = [] from rfl] at hI hS
    obtain ⟨xss, Ex⟩ : ∃ l : List (List Int), [] = l := ⟨_, rfl⟩
    rw [Ex] at hI hS
    have hxl : xss.length = 0 := by rw [← Ex]; rfl
    have HC := Lib.hid (And.intro hI hS)
    clear hI hS hp Ex
    go_wp2_with fail
    refine (HC.out.1 _ ra).mono ?_
    rintro e w2 ⟨oa, oc, rfl, ro_2, ho2, b2⟩
    have ra_2 := ra.below b2
    have B2 := B1.trans (b2.mono B1.size)
    clear b2 B1 ra
    go_wp2_with fail
    refine (HC.out.2 _ ra_2).mono ?_
    rintro e w3 ⟨wa, wc, rfl, rw_3, hw2, b3⟩
    have ra_3 := ra_2.below b3
    have ro_3 := ro_2.below b3
    have B3 := B2.trans (b3.mono B2.size)
    clear b3 B2 ra_2 ro_2
    go_wp2_with fail
    refine (sameRows_n oa wa oc wc 0 xss hxl _ (by decide) (fun xs hx => by rw [ho2 xs hx]; decide) ro_3 rw_3).mono ?_
    rintro e w4 ⟨rfl, d4⟩
    have ra_4 := d4.rd ra_3
    have ro_4 := ro_3.dn d4
    have rw_4 := rw_3.dn d4
    have B4 := B3.trans (d4.below _)
    clear d4 B3 ra_3 ro_3 rw_3
    go_wp2_with fail
    refine (sameRows_n oa wa oc wc 0 xss hxl _ (by decide) (fun xs hx => by rw [ho2 xs hx]; decide) ro_4 rw_4).mono ?_
    rintro e w5 ⟨rfl, d5⟩
    have ra_5 := d5.rd ra_4
    have ro_5 := ro_4.dn d5
    have rw_5 := rw_4.dn d5
    have B5 := B4.trans (d5.below _)
    clear d5 B4 ra_4 ro_4 rw_4
    go_wp2
    go_ret
    exact ⟨rfl, B5⟩
  | true =>
    have hI := fun w h => gave_rows (implRelPairs_any aa ac a w hl1 h)
    have hS := fun w h => gave_rows (specRelPairs_any aa ac a w hl1 h)
    rw [hp] at hI hS
    have R1 := Rl.of hp
    have hZ := fun w h => implRelSize_any aa ac a w hl1 h
    rw [hp, show ifN true (sizeL a) = sizeL a from rfl, size_pairs R1] at hZ
    have hord := fun i h => pairs_lex a R1.four i h
    rw [show ifPn a = (pairsOf a).length by unfold ifPn; rw [hp]; rfl, PR_map] at hI hS
    have h16 : (pairsOf a).length ≤ 1048576 := by
      have h1 := pairsTo_le a.length a (a.length * a.length)
      have h2 : a.length * a.length ≤ 4 * 4 := Nat.mul_le_mul hrl hrl
      unfold pairsOf
      omega
    have hxl : ((pairsOf a).map rowQ).length = (pairsOf a).length := by simp
    have hat : ∀ i (h : i < (pairsOf a).length), ((pairsOf a).map rowQ)[i]? = some [((pairsOf a)[i].1.val : Int), ((pairsOf a)[i].2.val : Int)] := fun i h => by
      rw [List.getElem?_map, List.getElem?_eq_getElem h]
      rfl
    obtain ⟨xss, Ex⟩ : ∃ l, (pairsOf a).map rowQ = l := ⟨_, rfl⟩
    rw [Ex] at hI hS hxl hat
    have key : ∀ i, i + 1 < (pairsOf a).length → ∃ f g s t : Int, xss[i]? = some [f, g] ∧ xss[i + 1]? = some [s, t] ∧ decide (s < f) = false ∧ ((s == f) = false ∨ ((s == f) = true ∧ decide (t ≤ g) = false)) := fun i h => by
      refine ⟨_, _, _, _, hat i (by omega), hat (i + 1) h, ?_⟩
      rcases hord i h with e | ⟨e, e2⟩
      · exact ⟨decide_eq_false (by omega), .inl (beq_eq_false_iff_ne.2 (by omega))⟩
      · exact ⟨decide_eq_false (by omega), .inr ⟨by rw [e]; simp, decide_eq_false (by omega)⟩⟩
    obtain ⟨n, En⟩ : ∃ n, (pairsOf a).length = n := ⟨_, rfl⟩
    rw [En] at hI hS hxl h16 hZ key
    have e1 : ((n : Int) == (n : Int)) = true := by simp
    have HC := Lib.hid (And.intro hI (And.intro hS hZ))
    have HK := Lib.hid key
    clear hI hS hZ hp R1 En Ex hord hat key
    go_wp2_with fail
    refine (HC.out.1 _ ra).mono ?_
    rintro e w2 ⟨oa, oc, rfl, ro_2, ho2, b2⟩
    have ra_2 := ra.below b2
    have B2 := B1.trans (b2.mono B1.size)
    clear b2 B1 ra
    go_wp2_with fail
    refine (HC.out.2.1 _ ra_2).mono ?_
    rintro e w3 ⟨wa, wc, rfl, rw_3, hw2, b3⟩
    have ra_3 := ra_2.below b3
    have ro_3 := ro_2.below b3
    have B3 := B2.trans (b3.mono B2.size)
    clear b3 B2 ra_2 ro_2
    go_wp2_with fail
    refine (sameRows_n oa wa oc wc n xss hxl _ h16 (fun xs hx => by rw [ho2 xs hx]; decide) ro_3 rw_3).mono ?_
    rintro e w4 ⟨rfl, d4⟩
    have ra_4 := d4.rd ra_3
    have ro_4 := ro_3.dn d4
    have rw_4 := rw_3.dn d4
    have B4 := B3.trans (d4.below _)
    clear d4 B3 ra_3 ro_3 rw_3
    go_wp2_with fail
    refine (HC.out.2.2 _ ra_4).mono ?_
    rintro e w5 ⟨rfl, b5⟩
    have ra_5 := ra_4.below b5
    have ro_5 := ro_4.below b5
    have rw_5 := rw_4.below b5
    have B5 := B4.trans (b5.mono B4.size)
    clear b5 B4 ra_4 ro_4 rw_4
    have HRO := Lib.hid ro_5
    go_wp2
    go_loopw [10, 11, 12] (fun i _ _ wr => ∃ p : Nat, p ≤ n ∧ i = .int .i64 ((p : Int) + 1) ∧ Dn w5 wr)
      (fun i _ _ _ => n + 1 - (intOf i).toNat)
    case atStart => exact ⟨0, Nat.zero_le _, rfl, Dn.refl _⟩
    case round =>
      obtain ⟨p, hpl, rfl, hd⟩ := hrel
      by_cases hlt : p + 1 < n
      · obtain ⟨f, g, s, t, hx1, hx2, g1, hcmp⟩ := HK.out p hlt
        obtain ⟨b, off, ak, ck, hb1, hbl, hc1, hr1⟩ := HRO.out p _ hx1
        obtain ⟨b', off', ak2, ck2, hb2, hbl2, hc2, hr2⟩ := HRO.out (p + 1) _ hx2
        rw [hb1] at hb2
        cases hb2
        cases hb1
        obtain ⟨b3, o3, rfl, hl3, hc3⟩ := hr1 0 _ rfl
        obtain ⟨b3', o3', h3, _, hc4⟩ := hr1 1 _ rfl
        cases h3
        obtain ⟨b5, o5, rfl, hl5, hc5⟩ := hr2 0 _ rfl
        obtain ⟨b5', o5', h5, _, hc6⟩ := hr2 1 _ rfl
        cases h5
        rw [← hd.cell] at hc1 hc2 hc3 hc4 hc5 hc6
        rw [Nat.add_zero] at hc3 hc5
        simp only [List.length_cons, List.length_nil, Nat.zero_add, Nat.reduceAdd] at hc1 hc2
        have hi1 : (p : Int) + 1 < (n : Int) := by omega
        have hi2 : (p : Int) < (n : Int) := by omega
        clear hx1 hx2 hr1 hr2
        rcases hcmp with g2 | ⟨g2, g3⟩
        · skip
          go_wp2
          go_quiet (fail)
          go_wp2
          go_roundw
          case rel => exact ⟨p + 1, by omega, by go_num, hd.trans (Dn.drewN _ _)⟩
          case measure => simp [intOf]; omega
        · skip
          go_wp2
          go_quiet (fail)
          go_wp2
          go_roundw
          case rel => exact ⟨p + 1, by omega, by go_num, hd.trans (Dn.drewN _ _)⟩
          case measure => simp [intOf]; omega
      · have hi1 : ¬ (p : Int) + 1 < (n : Int) := by omega
        go_wp2
        go_ret
        exact ⟨rfl, B5.trans (hd.below _)⟩
end Go.Proofs.Ytnmgoeklcmoalaa
