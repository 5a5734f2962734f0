/-
  The walk of FnRectAll, out of the contracts of the draw and of the functions that it calls; for whatever bytes.
-/
import Derived.Test.YtnmgoeklcmoalabSR
import Derived.Test.YtnmgoeklcmoalabRV
import Derived.Test.YtnmgoeklcmoalabRH
import Derived.Test.YtnmgoeklcmoalabRD
import Derived.Test.YtnmgoeklcmoalabQE
import Derived.Test.YtnmgoeklcmoalabQI
import Derived.Test.YtnmgoeklcmoalabQA
import Derived.Test.YtnmgoeklcmoalabGB
namespace Go.Proofs.Ytnmgoeklcmoalab
open Go.RowKit

theorem fnRectAll_long (ao : Option Addr) (cap n : Nat) (w : World) (hm : n ≤ maxLen) (hl : ¬ n ≤ 1048576) :
    Calls Try.prog 3 #[.slice ao n cap] w fun e w' => e = .returned (.bool true) ∧ Below w.heap.size w w' := by
  unfold maxLen at hm
  go_enter Try.func3, Try.ntmps3
  go_wp2
  go_ret
  exact ⟨rfl, Below.refl _ _⟩

set_option maxRecDepth 100000 in
set_option maxHeartbeats 8000000 in
theorem fnRectAll_walk (ao : Option Addr) (c : Nat) (bs : List Nat) (w : World) (hl : bs.length ≤ 1048576) (hb : RdB w ao bs) (hc : bs.length ≤ c) (hbA : bs ≠ [] → ∀ a, ao = some a → a.block < w.heap.size) :
    Calls Try.prog 3 #[.slice ao bs.length c] w fun e w' => e = .returned (.bool true) ∧ Below w.heap.size w w' := by
  have HD := Lib.hid (drawRectAll_any ao c bs w hb hc hbA)
  clear hb hbA
  go_enter Try.func3, Try.ntmps3
  go_wp2_with fail
  refine HD.out.mono ?_
  rintro e w1 ⟨v, a, rfl, hrl, ho1, B1⟩
  obtain ⟨aa, ac, rfl, ra⟩ := row_rd ho1
  have hl1 : a.length ≤ 1048576 := by omega
  clear ho1 HD
  cases hp : relIn a with
  | false =>
    have hI := fun w h => gave_rows (implRectAll_any aa ac a w hl1 h)
    have hS := fun w h => gave_rows (specRectAll_any aa ac a w hl1 h)
    rw [hp] at hI hS
    have hn16 : fullN a ≤ 1048576 := fullN_le hrl
    obtain ⟨xss, Ex⟩ : ∃ l, (List.range (fullN a)).map (PI (fullL a)) = l := ⟨_, rfl⟩
    rw [Ex] at hI hS
    have hxl : xss.length = fullN a := by rw [← Ex]; simp
    obtain ⟨n, En⟩ : ∃ n, fullN a = n := ⟨_, rfl⟩
    rw [En] at hI hS hn16 hxl
    have HC := Lib.hid (And.intro hI hS)
    clear hI hS hp En Ex
    go_wp2_with fail
    refine (HC.out.1 _ ra).mono ?_
    rintro e w2 ⟨oa, oc, rfl, ro_2, ho2, b2⟩
    have ra_2 := ra.below b2
    have B2 := B1.trans (b2.mono B1.size)
    clear b2 B1 ra
    go_wp2_with fail
    refine (HC.out.2 _ ra_2).mono ?_
    rintro e w3 ⟨wa, wc, rfl, rw_3, hw2, b3⟩
    have ra_3 := ra_2.below b3
    have ro_3 := ro_2.below b3
    have B3 := B2.trans (b3.mono B2.size)
    clear b3 B2 ra_2 ro_2
    go_wp2_with fail
    refine (sameRows_n oa wa oc wc n xss hxl _ hn16 (fun xs hx => by rw [ho2 xs hx]; decide) ro_3 rw_3).mono ?_
    rintro e w4 ⟨rfl, d4⟩
    have ra_4 := d4.rd ra_3
    have ro_4 := ro_3.dn d4
    have rw_4 := rw_3.dn d4
    have B4 := B3.trans (d4.below _)
    clear d4 B3 ra_3 ro_3 rw_3
    go_wp2_with fail
    refine (sameRows_n oa wa oc wc n xss hxl _ hn16 (fun xs hx => by rw [ho2 xs hx]; decide) ro_4 rw_4).mono ?_
    rintro e w5 ⟨rfl, d5⟩
    have ra_5 := d5.rd ra_4
    have ro_5 := ro_4.dn d5
    have rw_5 := rw_4.dn d5
    have B5 := B4.trans (d5.below _)
    clear d5 B4 ra_4 ro_4 rw_4
    go_wp2
    go_ret
    exact ⟨rfl, B5⟩
  | true =>
    have hI := fun w h => gave_rows (implRectAll_any aa ac a w hl1 h)
    have hS := fun w h => gave_rows (specRectAll_any aa ac a w hl1 h)
    rw [hp] at hI hS
    have hn16 : fullN a ≤ 1048576 := fullN_le hrl
    have R1 := Rl.of hp
    rw [show fullN a = (fullL a).length by unfold fullN; rw [hp]; rfl] at hI hS hn16
    rw [PI_map] at hI hS
    have hxl : ((fullL a).map rowR).length = (fullL a).length := by simp
    have hO := fun ao ca w h => implRectOf_any ao ca (a.length : Int) ((fullL a).map rowR) w (by rw [hxl]; exact hn16) h
    rw [Int.toNat_natCast, rects_ok (fun r hr => (full_mem R1 hr).1), full_union R1, inB_yes (show (1 : Int) ≤ (a.length : Int) by have := R1.one; omega) (show (a.length : Int) ≤ 4 by omega), hxl, show (true && true) = true from rfl, show ifR true a = a from rfl] at hO
    have hT := fun w h => cTurn R1 aa ac w h
    have hP1 := fun z w h => implRectPolar_any aa ac a z w hl1 h
    have hP2 := fun ao ca z w h => implRectPolar_any ao ca (turnL a) z w (rl_short R1.turn) h
    have key := fun t h => full_idx R1 t h
    have keyA : ∀ t, t + 1 < (fullL a).length → ∀ z z2 p p2, ((fullL a).map rowR)[t]? = some [z, p] → ((fullL a).map rowR)[t + 1]? = some [z2, p2] → decide (z2 ≤ z) = false := fun t h z z2 p p2 e1 e2 => by
      have h1 := full_asc t h
      rw [List.getElem?_map, List.getElem?_eq_getElem (show t < (fullL a).length by omega)] at e1
      rw [List.getElem?_map, List.getElem?_eq_getElem h] at e2
      have e1 := Option.some.inj e1
      have e2 := Option.some.inj e2
      unfold rowR at e1 e2
      injection e1 with e1 _
      injection e2 with e2 _
      rw [← e1, ← e2]
      exact h1
    obtain ⟨lb, Elb⟩ : ∃ kk, turnL a = kk := ⟨_, rfl⟩
    rw [Elb] at hT
    rw [Elb] at hP2
    rw [Elb] at key
    obtain ⟨xss, Ex⟩ : ∃ l, (fullL a).map rowR = l := ⟨_, rfl⟩
    rw [Ex] at hI hS hO hxl key keyA
    obtain ⟨n, En⟩ : ∃ n, (fullL a).length = n := ⟨_, rfl⟩
    rw [En] at hI hS hO hxl hn16 key keyA
    have HC := Lib.hid (And.intro hI (And.intro hS (And.intro hO hT)))
    have HP1 := Lib.hid hP1
    have HP2 := Lib.hid hP2
    have HK := Lib.hid key
    have HKA := Lib.hid keyA
    have HL1 := Lib.hid hl1
    clear hI hS hO hT hP1 hP2 hp En Ex Elb R1 key keyA
    go_wp2_with fail
    refine (HC.out.1 _ ra).mono ?_
    rintro e w2 ⟨oa, oc, rfl, ro_2, ho2, b2⟩
    have ra_2 := ra.below b2
    have B2 := B1.trans (b2.mono B1.size)
    clear b2 B1 ra
    go_wp2_with fail
    refine (HC.out.2.1 _ ra_2).mono ?_
    rintro e w3 ⟨wa, wc, rfl, rw_3, hw2, b3⟩
    have ra_3 := ra_2.below b3
    have ro_3 := ro_2.below b3
    have B3 := B2.trans (b3.mono B2.size)
    clear b3 B2 ra_2 ro_2
    go_wp2_with fail
    refine (sameRows_n oa wa oc wc n xss hxl _ hn16 (fun xs hx => by rw [ho2 xs hx]; decide) ro_3 rw_3).mono ?_
    rintro e w4 ⟨rfl, d4⟩
    have ra_4 := d4.rd ra_3
    have ro_4 := ro_3.dn d4
    have rw_4 := rw_3.dn d4
    have B4 := B3.trans (d4.below _)
    clear d4 B3 ra_3 ro_3 rw_3
    go_wp2_with fail
    refine (HC.out.2.2.1 oa oc _ ro_4).mono ?_
    rintro e w5 ⟨v, rfl, ho, b5⟩
    obtain ⟨xa, xc, rfl, rx_5⟩ := row_rd ho
    clear ho
    have ra_5 := ra_4.below b5
    have ro_5 := ro_4.below b5
    have rw_5 := rw_4.below b5
    have B5 := B4.trans (b5.mono B4.size)
    clear b5 B4 ra_4 ro_4 rw_4
    go_wp2_with fail
    refine (HC.out.2.2.2 _ ra_5).mono ?_
    rintro e w6 ⟨v, rfl, ho, b6⟩
    obtain ⟨ba, bc, rfl, rb_6⟩ := row_rd ho
    clear ho
    have ra_6 := ra_5.below b6
    have ro_6 := ro_5.below b6
    have rw_6 := rw_5.below b6
    have rx_6 := rx_5.below b6
    have B6 := B5.trans (b6.mono B5.size)
    clear b6 B5 ra_5 ro_5 rw_5 rx_5
    have HRO := Lib.hid ro_6
    have HRB := Lib.hid rb_6
    have HRA := Lib.hid ra_6
    have HRX := Lib.hid rx_6
    have HBB := Lib.hid B6
    have hs0 := Nat.le_refl w6.heap.size
    clear ro_6 rb_6 ra_6 rx_6 B6
    go_wp2
    go_loopw [12, 13, 14, 15, 16] (fun i _ _ _ _ wr => ∃ t : Nat, t ≤ n ∧ ((t = 0 ∧ i = .int .i64 0) ∨ ∃ p : Nat, t = p + 1 ∧ i = .int .i64 ((p : Int) + 1)) ∧ Below w6.heap.size w6 wr)
      (fun i _ _ _ _ _ => n + 1 - (intOf i).toNat)
    case atStart => exact ⟨0, Nat.zero_le _, .inl ⟨rfl, rfl⟩, Below.refl _ _⟩
    case round =>
      clear hs0
      obtain ⟨t, htn, hcase, hB⟩ := hrel
      have hend : ∀ wr : World, Below w6.heap.size w6 wr → Rd wr xa a := fun wr h => HRX.out.below h
      by_cases hlt : t < n
      · obtain ⟨z, p, hx1, k1, k2, k3, k4⟩ := HK.out t hlt
        have hc1 := fun w h => HP1.out z w h
        have hc2 := fun w h => HP2.out ba bc p w h
        rw [k1, k2] at hc1
        rw [k3, k4] at hc2
        have HC1 := Lib.hid hc1
        have HC2 := Lib.hid hc2
        have HX1 := Lib.hid hx1
        have hz : (z != z) = false := by simp
        have hpp : (p != p) = false := by simp
        clear hc1 hc2 k1 k2 k3 k4 hend
        rcases hcase with ⟨rfl, rfl⟩ | ⟨q, rfl, rfl⟩
        · have hi1 : (0 : Int) < (n : Int) := by omega
          obtain ⟨bu, fu, aku, cku, rfl, hlu, c1u, hru⟩ := (HRO.out.below hB) (0) _ HX1.out
          obtain ⟨du, ou, rfl, hmu, c2u⟩ := hru 0 _ rfl
          obtain ⟨d2u, o2u, e3u, hm2u, c3u⟩ := hru 1 _ rfl
          cases e3u
          rw [Nat.add_zero] at c2u
          simp only [List.length_cons, List.length_nil, Nat.zero_add, Nat.reduceAdd] at c1u
          clear hru
          rw [Nat.add_zero] at c1u
          have ra1 := HRA.out.below hB
          go_wp2_with fail
          refine (HC1.out _ ra1).mono ?_
          rintro e wx ⟨rfl, bx⟩
          have hBx := hB.trans (bx.mono hB.size)
          clear bx hB ra1 c1u c2u c3u hlu hmu hm2u
          obtain ⟨bv, fv, akv, ckv, hev, hlv, c1v, hrv⟩ := (HRO.out.below hBx) (0) _ HX1.out
          cases hev
          obtain ⟨dv, ov, rfl, hmv, c2v⟩ := hrv 0 _ rfl
          obtain ⟨d2v, o2v, e3v, hm2v, c3v⟩ := hrv 1 _ rfl
          cases e3v
          rw [Nat.add_zero] at c2v
          simp only [List.length_cons, List.length_nil, Nat.zero_add, Nat.reduceAdd] at c1v
          clear hrv
          rw [Nat.add_zero] at c1v
          have rb1 := HRB.out.below hBx
          go_wp2_with fail
          refine (HC2.out _ rb1).mono ?_
          rintro e wy ⟨rfl, bz⟩
          have hBy := hBx.trans (bz.mono hBx.size)
          clear bz hBx rb1 c1v c2v c3v hlv hmv hm2v
          obtain ⟨bx, fx, akx, ckx, hex, hlx, c1x, hrx⟩ := (HRO.out.below hBy) (0) _ HX1.out
          cases hex
          obtain ⟨dx, ox, rfl, hmx, c2x⟩ := hrx 0 _ rfl
          obtain ⟨d2x, o2x, e3x, hm2x, c3x⟩ := hrx 1 _ rfl
          cases e3x
          rw [Nat.add_zero] at c2x
          simp only [List.length_cons, List.length_nil, Nat.zero_add, Nat.reduceAdd] at c1x
          clear hrx
          rw [Nat.add_zero] at c1x
          go_wp2
          go_quiet (fail)
          go_wp2
          go_roundw
          case rel => exact ⟨1, by omega, .inr ⟨0, rfl, by go_num⟩, hBy.trans ((Dn.drewN wy _).below _)⟩
          case measure => first | (simp [intOf]; done) | (simp [intOf]; omega)
        · have hi1 : (q : Int) + 1 < (n : Int) := by omega
          have hi0 : (q : Int) + 1 > 0 := by omega
          have hi2 : (q : Int) < (n : Int) := by omega
          obtain ⟨bu, fu, aku, cku, rfl, hlu, c1u, hru⟩ := (HRO.out.below hB) (q + 1) _ HX1.out
          obtain ⟨du, ou, rfl, hmu, c2u⟩ := hru 0 _ rfl
          obtain ⟨d2u, o2u, e3u, hm2u, c3u⟩ := hru 1 _ rfl
          cases e3u
          rw [Nat.add_zero] at c2u
          simp only [List.length_cons, List.length_nil, Nat.zero_add, Nat.reduceAdd] at c1u
          clear hru
          have ra1 := HRA.out.below hB
          go_wp2_with fail
          refine (HC1.out _ ra1).mono ?_
          rintro e wx ⟨rfl, bx⟩
          have hBx := hB.trans (bx.mono hB.size)
          clear bx hB ra1 c1u c2u c3u hlu hmu hm2u
          obtain ⟨bv, fv, akv, ckv, hev, hlv, c1v, hrv⟩ := (HRO.out.below hBx) (q + 1) _ HX1.out
          cases hev
          obtain ⟨dv, ov, rfl, hmv, c2v⟩ := hrv 0 _ rfl
          obtain ⟨d2v, o2v, e3v, hm2v, c3v⟩ := hrv 1 _ rfl
          cases e3v
          rw [Nat.add_zero] at c2v
          simp only [List.length_cons, List.length_nil, Nat.zero_add, Nat.reduceAdd] at c1v
          clear hrv
          have rb1 := HRB.out.below hBx
          go_wp2_with fail
          refine (HC2.out _ rb1).mono ?_
          rintro e wy ⟨rfl, bz⟩
          have hBy := hBx.trans (bz.mono hBx.size)
          clear bz hBx rb1 c1v c2v c3v hlv hmv hm2v
          obtain ⟨bx, fx, akx, ckx, hex, hlx, c1x, hrx⟩ := (HRO.out.below hBy) (q + 1) _ HX1.out
          cases hex
          obtain ⟨dx, ox, rfl, hmx, c2x⟩ := hrx 0 _ rfl
          obtain ⟨d2x, o2x, e3x, hm2x, c3x⟩ := hrx 1 _ rfl
          cases e3x
          rw [Nat.add_zero] at c2x
          simp only [List.length_cons, List.length_nil, Nat.zero_add, Nat.reduceAdd] at c1x
          clear hrx
          obtain ⟨z0, p0, hx0, _, _, _, _⟩ := HK.out q (by omega)
          have hA := HKA.out q hlt z0 z p0 p hx0 HX1.out
          obtain ⟨bk, fk, akk, ckk, hek, hlk, c1k, hrk⟩ := (HRO.out.below hBy) (q) _ hx0
          cases hek
          obtain ⟨dk, ok, rfl, hmk, c2k⟩ := hrk 0 _ rfl
          obtain ⟨d2k, o2k, e3k, hm2k, c3k⟩ := hrk 1 _ rfl
          cases e3k
          rw [Nat.add_zero] at c2k
          simp only [List.length_cons, List.length_nil, Nat.zero_add, Nat.reduceAdd] at c1k
          clear hrk
          go_wp2
          go_quiet (fail)
          go_wp2
          go_roundw
          case rel => exact ⟨q + 1 + 1, by omega, .inr ⟨q + 1, rfl, by go_num⟩, hBy.trans ((Dn.drewN wy _).below _)⟩
          case measure => first | (simp [intOf]; done) | (simp [intOf]; omega)
      · obtain rfl : t = n := by omega
        have hxe := hend wr hB
        have hae := HRA.out.below hB
        have hl1 := HL1.out
        rcases hcase with ⟨rfl, rfl⟩ | ⟨q, rfl, rfl⟩
        · have hi1 : ¬ (0 : Int) < ((0 : Nat) : Int) := by omega
          go_wp2_with fail
          refine (sameInts_refl xa aa xc ac _ _ hl1 hxe hae).mono ?_
          rintro e w9 ⟨rfl, d9⟩
          go_wp2
          go_ret
          exact ⟨rfl, (HBB.out.trans (hB.mono HBB.out.size)).trans (d9.below _)⟩
        · have hi1 : ¬ (q : Int) + 1 < ((q + 1 : Nat) : Int) := by omega
          go_wp2_with fail
          refine (sameInts_refl xa aa xc ac _ _ hl1 hxe hae).mono ?_
          rintro e w9 ⟨rfl, d9⟩
          go_wp2
          go_ret
          exact ⟨rfl, (HBB.out.trans (hB.mono HBB.out.size)).trans (d9.below _)⟩
end Go.Proofs.Ytnmgoeklcmoalab
