/-
  The walk of FnBlocks, out of the contracts of the draw and of the functions that it calls; for whatever bytes.
-/
import Derived.Test.YtnmgoeklcmoalabSR
import Derived.Test.YtnmgoeklcmoalabRW
import Derived.Test.YtnmgoeklcmoalabRI
import Derived.Test.YtnmgoeklcmoalabQE
import Derived.Test.YtnmgoeklcmoalabQG
import Derived.Test.YtnmgoeklcmoalabQI
import Derived.Test.YtnmgoeklcmoalabQS
import Derived.Test.YtnmgoeklcmoalabGB
namespace Go.Proofs.Ytnmgoeklcmoalab
open Go.RowKit

theorem fnBlocks_long (ao : Option Addr) (cap n : Nat) (w : World) (hm : n ≤ maxLen) (hl : ¬ n ≤ 1048576) :
    Calls Try.prog 4 #[.slice ao n cap] w fun e w' => e = .returned (.bool true) ∧ Below w.heap.size w w' := by
  unfold maxLen at hm
  go_enter Try.func4, Try.ntmps4
  go_wp2
  go_ret
  exact ⟨rfl, Below.refl _ _⟩

set_option maxRecDepth 100000 in
set_option maxHeartbeats 8000000 in
theorem fnBlocks_walk (ao : Option Addr) (c : Nat) (bs : List Nat) (w : World) (hl : bs.length ≤ 1048576) (hb : RdB w ao bs) (hc : bs.length ≤ c) (hbA : bs ≠ [] → ∀ a, ao = some a → a.block < w.heap.size) :
    Calls Try.prog 4 #[.slice ao bs.length c] w fun e w' => e = .returned (.bool true) ∧ Below w.heap.size w w' := by
  have HD := Lib.hid (drawRectBlocks_any ao c bs w hb hc hl hbA)
  clear hb hbA
  go_enter Try.func4, Try.ntmps4
  go_wp2_with fail
  refine HD.out.mono ?_
  rintro e w1 ⟨v, a, rfl, hrl, ho1, B1⟩
  obtain ⟨aa, ac, rfl, ra⟩ := row_rd ho1
  have hl1 : a.length ≤ 1048576 := by omega
  clear ho1 HD
  cases hp : blkB a with
  | false =>
    have hI := fun w h => gave_rows (implRectBlocks_any aa ac a w hl1 h)
    have hS := fun w h => gave_rows (specRectBlocks_any aa ac a w hl1 h)
    rw [hp] at hI hS
    have hn16 : blkN a ≤ 1048576 := by
      have h1 : (blkL a).length ≤ a.length := blk_len a a.length
      unfold blkN
      by_cases e : blkB a = true
      · rw [if_pos e]; omega
      · rw [if_neg e]; omega
    obtain ⟨xss, Ex⟩ : ∃ l, (List.range (blkN a)).map (PI (blkL a)) = l := ⟨_, rfl⟩
    rw [Ex] at hI hS
    have hxl : xss.length = blkN a := by rw [← Ex]; simp
    obtain ⟨n, En⟩ : ∃ n, blkN a = n := ⟨_, rfl⟩
    rw [En] at hI hS hn16 hxl
    have HC := Lib.hid (And.intro hI hS)
    clear hI hS hp En Ex
    go_wp2_with fail
    refine (HC.out.1 _ ra).mono ?_
    rintro e w2 ⟨oa, oc, rfl, ro_2, ho2, b2⟩
    have ra_2 := ra.below b2
    have B2 := B1.trans (b2.mono B1.size)
    clear b2 B1 ra
    go_wp2_with fail
    refine (HC.out.2 _ ra_2).mono ?_
    rintro e w3 ⟨wa, wc, rfl, rw_3, hw2, b3⟩
    have ra_3 := ra_2.below b3
    have ro_3 := ro_2.below b3
    have B3 := B2.trans (b3.mono B2.size)
    clear b3 B2 ra_2 ro_2
    go_wp2_with fail
    refine (sameRows_n oa wa oc wc n xss hxl _ hn16 (fun xs hx => by rw [ho2 xs hx]; decide) ro_3 rw_3).mono ?_
    rintro e w4 ⟨rfl, d4⟩
    have ra_4 := d4.rd ra_3
    have ro_4 := ro_3.dn d4
    have rw_4 := rw_3.dn d4
    have B4 := B3.trans (d4.below _)
    clear d4 B3 ra_3 ro_3 rw_3
    go_wp2_with fail
    refine (sameRows_n oa wa oc wc n xss hxl _ hn16 (fun xs hx => by rw [ho2 xs hx]; decide) ro_4 rw_4).mono ?_
    rintro e w5 ⟨rfl, d5⟩
    have ra_5 := d5.rd ra_4
    have ro_5 := ro_4.dn d5
    have rw_5 := rw_4.dn d5
    have B5 := B4.trans (d5.below _)
    clear d5 B4 ra_4 ro_4 rw_4
    go_wp2
    go_ret
    exact ⟨rfl, B5⟩
  | true =>
    have hI := fun w h => gave_rows (implRectBlocks_any aa ac a w hl1 h)
    have hS := fun w h => gave_rows (specRectBlocks_any aa ac a w hl1 h)
    rw [hp] at hI hS
    have hn16 : blkN a ≤ 1048576 := by
      have h1 : (blkL a).length ≤ a.length := blk_len a a.length
      unfold blkN
      by_cases e : blkB a = true
      · rw [if_pos e]; omega
      · rw [if_neg e]; omega
    have hp2 : (relIn a && stepB a) = true := hp
    rw [Bool.and_eq_true] at hp2
    have R1 := Rl.of hp2.1
    rw [show blkN a = (blkL a).length by unfold blkN; rw [hp]; rfl] at hI hS hn16
    rw [PI_map] at hI hS
    have hxl : ((blkL a).map rowR).length = (blkL a).length := by simp
    have hO := fun ao ca w h => implRectOf_any ao ca (a.length : Int) ((blkL a).map rowR) w (by rw [hxl]; exact hn16) h
    rw [Int.toNat_natCast, (blk_union R1).2, (blk_union R1).1, inB_yes (show (1 : Int) ≤ (a.length : Int) by have := R1.one; omega) (show (a.length : Int) ≤ 4 by omega), hxl, show (true && true) = true from rfl, show ifR true a = a from rfl] at hO
    obtain ⟨m, hm1, hm2⟩ := least_ex R1
    obtain rfl := blk_rank R1 hp2.2 hm2
    have hK := fun w h => implRectRank_any aa ac a (blkL a).length w (fun _ => ⟨hm1, hm2⟩) hl1 h
    rw [hp2.1, show rkI true (blkL a).length = ((blkL a).length : Int) from rfl] at hK
    have key := fun i j hj hi => blk_apart R1 hp2.2 i j hj hi
    obtain ⟨xss, Ex⟩ : ∃ l, (blkL a).map rowR = l := ⟨_, rfl⟩
    rw [Ex] at hI hS hO hxl key
    obtain ⟨n, En⟩ : ∃ n, (blkL a).length = n := ⟨_, rfl⟩
    rw [En] at hI hS hO hxl hn16 key hK
    have e1 : ((n : Int) == (n : Int)) = true := by simp
    have HC := Lib.hid (And.intro hI (And.intro hS (And.intro hO hK)))
    have HKY := Lib.hid key
    have HL1 := Lib.hid hl1
    clear hI hS hO hK hp hp2 hm1 hm2 En Ex R1 key
    go_wp2_with fail
    refine (HC.out.1 _ ra).mono ?_
    rintro e w2 ⟨oa, oc, rfl, ro_2, ho2, b2⟩
    have ra_2 := ra.below b2
    have B2 := B1.trans (b2.mono B1.size)
    clear b2 B1 ra
    go_wp2_with fail
    refine (HC.out.2.1 _ ra_2).mono ?_
    rintro e w3 ⟨wa, wc, rfl, rw_3, hw2, b3⟩
    have ra_3 := ra_2.below b3
    have ro_3 := ro_2.below b3
    have B3 := B2.trans (b3.mono B2.size)
    clear b3 B2 ra_2 ro_2
    go_wp2_with fail
    refine (sameRows_n oa wa oc wc n xss hxl _ hn16 (fun xs hx => by rw [ho2 xs hx]; decide) ro_3 rw_3).mono ?_
    rintro e w4 ⟨rfl, d4⟩
    have ra_4 := d4.rd ra_3
    have ro_4 := ro_3.dn d4
    have rw_4 := rw_3.dn d4
    have B4 := B3.trans (d4.below _)
    clear d4 B3 ra_3 ro_3 rw_3
    go_wp2_with fail
    refine (HC.out.2.2.1 oa oc _ ro_4).mono ?_
    rintro e w5 ⟨v, rfl, ho, b5⟩
    obtain ⟨xa, xc, rfl, rx_5⟩ := row_rd ho
    clear ho
    have ra_5 := ra_4.below b5
    have ro_5 := ro_4.below b5
    have rw_5 := rw_4.below b5
    have B5 := B4.trans (b5.mono B4.size)
    clear b5 B4 ra_4 ro_4 rw_4
    go_wp2_with fail
    refine (HC.out.2.2.2 _ ra_5).mono ?_
    rintro e w6 ⟨rfl, b6⟩
    have ra_6 := ra_5.below b6
    have ro_6 := ro_5.below b6
    have rw_6 := rw_5.below b6
    have rx_6 := rx_5.below b6
    have B6 := B5.trans (b6.mono B5.size)
    clear b6 B5 ra_5 ro_5 rw_5 rx_5
    have HRO := Lib.hid ro_6
    have HRA := Lib.hid ra_6
    have HRX := Lib.hid rx_6
    have HBB := Lib.hid B6
    clear ro_6 ra_6 rx_6 B6
    go_wp2
    go_loopw [12, 13] (fun i _ wr => ∃ t : Nat, t ≤ n ∧ i = .int .i64 t ∧ Dn w6 wr)
      (fun i _ _ => n - (intOf i).toNat)
    case atStart => exact ⟨0, Nat.zero_le _, rfl, Dn.refl _⟩
    case round =>
      obtain ⟨t, htn, rfl, hd⟩ := hrel
      by_cases hlt : t < n
      · have hi1 : ((t : Nat) : Int) < (n : Int) := by omega
        go_wp2
        go_loopw [13] (fun q wq => ∃ m : Nat, m ≤ t ∧ q = .int .i64 m ∧ Dn w6 wq)
          (fun q _ => t - (intOf q).toNat)
        case atStart => exact ⟨0, Nat.zero_le _, rfl, hd⟩
        case round =>
          clear hd
          obtain ⟨m, hm, rfl, hd⟩ := hrel
          by_cases hlm : m < t
          · have hi2 : ((m : Nat) : Int) < (t : Int) := by omega
            have hi3 : ((m : Nat) : Int) < (n : Int) := by omega
            obtain ⟨p, q, s, u, hx1, hx2, g1, g2⟩ := HKY.out t m hlm hlt
            obtain ⟨b1, f1, ak1, ck1, rfl, hl1, c11, hr1⟩ := (HRO.out.dn hd) t _ hx1
            obtain ⟨b2, f2, ak2, ck2, he2, hl2, c12, hr2⟩ := (HRO.out.dn hd) m _ hx2
            cases he2
            obtain ⟨d1, o1, rfl, hm1, c21⟩ := hr1 0 _ rfl
            obtain ⟨d1', o1', e31, hm1', c31⟩ := hr1 1 _ rfl
            cases e31
            obtain ⟨d2, o2, rfl, hm2, c22⟩ := hr2 0 _ rfl
            obtain ⟨d2', o2', e32, hm2', c32⟩ := hr2 1 _ rfl
            cases e32
            rw [Nat.add_zero] at c21 c22
            simp only [List.length_cons, List.length_nil, Nat.zero_add, Nat.reduceAdd] at c11 c12
            clear hr1 hr2 hx1 hx2
            go_wp2
            go_quiet (fail)
            go_wp2
            go_roundw
            case rel => exact ⟨m + 1, by omega, by go_num, hd.trans (Dn.drewN _ _)⟩
            case measure => simp [intOf]; omega
          · obtain rfl : m = t := by omega
            go_wp2
            go_roundw
            case rel => exact ⟨m + 1, by omega, by go_num, hd⟩
            case measure => simp [intOf]; omega
      · obtain rfl : t = n := by omega
        have hxe := hd.rd HRX.out
        have hae := hd.rd HRA.out
        have hl1 := HL1.out
        go_wp2_with fail
        refine (sameInts_refl xa aa xc ac _ _ hl1 hxe hae).mono ?_
        rintro e w9 ⟨rfl, d9⟩
        go_wp2
        go_ret
        exact ⟨rfl, HBB.out.trans ((hd.trans d9).below _)⟩
end Go.Proofs.Ytnmgoeklcmoalab
