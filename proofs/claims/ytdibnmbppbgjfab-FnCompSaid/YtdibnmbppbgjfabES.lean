/-
  The walk of FnComp, out of the contracts of the draw, of CompOf and of RelTurned; for whatever bytes.
-/
import Derived.Test.YtdibnmbppbgjfabDI
import Derived.Test.YtdibnmbppbgjfabED
import Derived.Test.YtdibnmbppbgjfabER
namespace Go.Proofs.Ytdibnmbppbgjfab
open Go.RowKit

set_option maxHeartbeats 1000000 in
theorem sameInts_any (ao bo : Option Addr) (ca cb : Nat) (xs ys : List Int) (w : World) (hl : xs.length ≤ 1048576) (hl2 : ys.length ≤ 1048576) (hx : Rd w ao xs) (hy : Rd w bo ys) :
    Calls Try.prog 15 #[.slice ao xs.length ca, .slice bo ys.length cb] w fun e w' => e = .returned (.bool (decide (xs = ys))) ∧ Dn w w' := by
  go_enter Try.func15, Try.ntmps15
  by_cases hne : xs.length = ys.length
  · have h1 : ((xs.length : Int) != (ys.length : Int)) = false := by simp [hne]
    have hlen := Lib.hid hne
    clear hne
    go_wp2
    go_loopw [5] (fun i wr => ∃ k : Nat, k ≤ xs.length ∧ i = .int .i64 k ∧ xs.take k = ys.take k ∧ Dn w wr)
      (fun i _ => xs.length - (intOf i).toNat)
    case atStart => exact ⟨0, Nat.zero_le _, rfl, rfl, Dn.refl _⟩
    case round =>
      obtain ⟨k, hk, rfl, ht, hd⟩ := hrel
      have HT := Lib.hid ht
      clear ht
      by_cases hlt : k < xs.length
      · have hlt2 : k < ys.length := by rw [← hlen.out]; exact hlt
        obtain ⟨b, off, x, hxk, rfl, hbl, hc1⟩ := (hd.rd hx).get k hlt
        obtain ⟨b2, off2, y, hyk, rfl, hbl2, hc2⟩ := (hd.rd hy).get k hlt2
        have hi1 : ((k : Nat) : Int) < (xs.length : Int) := by omega
        have hi2 : ((k : Nat) : Int) < (ys.length : Int) := by omega
        have HX := Lib.hid hxk
        have HY := Lib.hid hyk
        clear hx hy hxk hyk
        go_wp2
        go_quiet (fail)
        by_cases heq : x = y
        · have h2 : (x != y) = false := by simp [heq]
          have HE := Lib.hid heq
          clear heq
          go_wp2
          go_roundw
          case rel =>
            refine ⟨k + 1, by omega, by go_num, ?_, hd.trans (Dn.drewN _ _)⟩
            rw [List.take_add_one, List.take_add_one, HT.out, HX.out, HY.out, HE.out]
          case measure => simp [intOf]; omega
        · go_wp2
          go_ret
          have hd' : ¬ xs = ys := by
            rintro rfl
            have := HX.out.symm.trans HY.out
            exact heq (by simpa using this)
          exact ⟨by simp [hd'], hd.trans (Dn.drewN _ _)⟩
      · go_wp2
        go_ret
        obtain rfl : k = xs.length := by omega
        have := HT.out
        rw [List.take_length, hlen.out, List.take_length] at this
        exact ⟨by simp [this], hd⟩
  · have h1 : ((xs.length : Int) != (ys.length : Int)) = true := by simp; omega
    go_wp2
    go_ret
    refine ⟨?_, Dn.refl _⟩
    have : ¬ xs = ys := fun h => hne (by rw [h])
    simp [this]

theorem sameInts_refl (ao bo : Option Addr) (ca cb : Nat) (xs : List Int) (w : World) (hl : xs.length ≤ 1048576) (hx : Rd w ao xs) (hy : Rd w bo xs) :
    Calls Try.prog 15 #[.slice ao xs.length ca, .slice bo xs.length cb] w fun e w' => e = .returned (.bool true) ∧ Dn w w' := by
  refine (sameInts_any ao bo ca cb xs xs w hl hl hx hy).mono ?_
  rintro e w' ⟨rfl, hd⟩
  exact ⟨by simp, hd⟩

/-- a composition turned is that of the relations turned, in the other order -/
theorem turn_comp {n : Nat} {xs ys : List Int} (h : Rl n xs) (k : Rl n ys) : compL (turnL ys) (turnL xs) = turnL (compL xs ys) := by
  refine (k.turn.comp h.turn).ext (h.comp k).turn fun i j hi hj => ?_
  rw [Bool.eq_iff_iff, hB_comp k.turn h.turn i j hi hj, hB_turn (h.comp k) i j hi hj, hB_comp h k j i hj hi]
  constructor
  · rintro ⟨l, hl, e1, e2⟩
    rw [hB_turn k i l hi hl] at e1
    rw [hB_turn h l j hl hj] at e2
    exact ⟨l, hl, e2, e1⟩
  · rintro ⟨l, hl, e1, e2⟩
    exact ⟨l, hl, by rw [hB_turn k i l hi hl]; exact e2, by rw [hB_turn h l j hl hj]; exact e1⟩

theorem fnComp_long (ao : Option Addr) (cap n : Nat) (w : World) (hm : n ≤ maxLen) (hl : ¬ n ≤ 1048576) :
    Calls Try.prog 4 #[.slice ao n cap] w fun e w' => e = .returned (.bool true) ∧ Below w.heap.size w w' := by
  unfold maxLen at hm
  go_enter Try.func4, Try.ntmps4
  go_wp2
  go_ret
  exact ⟨rfl, Below.refl _ _⟩

set_option maxHeartbeats 8000000 in
theorem fnComp_walk (ao : Option Addr) (c : Nat) (bs : List Nat) (w : World) (hl : bs.length ≤ 1048576) (hb : RdB w ao bs) (hc : bs.length ≤ c) (hbA : bs ≠ [] → ∀ a, ao = some a → a.block < w.heap.size) :
    Calls Try.prog 4 #[.slice ao bs.length c] w fun e w' => e = .returned (.bool true) ∧ Below w.heap.size w w' := by
  have HD := Lib.hid (drawCompOf_any ao c bs w hb hc hbA)
  clear hb hbA
  go_enter Try.func4, Try.ntmps4
  go_wp2_with fail
  refine HD.out.mono ?_
  rintro e w1 ⟨v, u, rs, ss, rfl, hrl, hsl, ho1, ho2, B1⟩
  obtain ⟨ra, rc, rfl, hr⟩ := row_rd ho1
  obtain ⟨sa, sc, rfl, hs⟩ := row_rd ho2
  have hl1 : rs.length ≤ 1048576 := by omega
  have hl2 : ss.length ≤ 1048576 := by omega
  have HR := Lib.hid (And.intro hr hs)
  clear hr hs ho1 ho2 HD
  cases hp : twoIn rs ss with
  | false =>
    have hI := fun w h h2 => implCompOf_any ra sa rc sc rs ss w hl1 hl2 h h2
    have hS := fun w h h2 => specCompOf_any ra sa rc sc rs ss w hl1 hl2 h h2
    rw [hp] at hI hS
    have HC := Lib.hid (And.intro hI hS)
    clear hI hS hp
    go_wp2_with fail
    refine (HC.out.1 _ HR.out.1 HR.out.2).mono ?_
    rintro e w2 ⟨v, rfl, ho, b2⟩
    obtain ⟨oa, oc, rfl, hro⟩ := row_rd (xs := ifR false (compL rs ss)) ho
    have B2 := B1.trans (b2.mono B1.size)
    have HR2 := Lib.hid (And.intro (HR.out.1.below b2) (And.intro (HR.out.2.below b2) hro))
    clear ho b2 B1 hro
    go_wp2_with fail
    refine (HC.out.2 _ HR2.out.1 HR2.out.2.1).mono ?_
    rintro e w3 ⟨v, rfl, ho, b3⟩
    obtain ⟨wa, wc, rfl, hrw⟩ := row_rd (xs := ifR false (compL rs ss)) ho
    have B3 := B2.trans (b3.mono B2.size)
    have HR3 := Lib.hid (And.intro (HR2.out.2.2.below b3) hrw)
    clear ho b3 B2 hrw
    go_wp2_with fail
    refine (sameInts_refl _ _ _ _ _ _ (by simp [ifR]) HR3.out.1 HR3.out.2).mono ?_
    rintro e w4 ⟨rfl, d4⟩
    go_wp2_with fail
    refine (sameInts_refl _ _ _ _ _ _ (by simp [ifR]) (d4.rd HR3.out.1) (d4.rd HR3.out.2)).mono ?_
    rintro e w5 ⟨rfl, d5⟩
    go_wp2
    go_ret
    exact ⟨rfl, B3.trans ((d4.trans d5).below _)⟩
  | true =>
    obtain ⟨R1, R2⟩ := two_rl hp
    obtain ⟨e1, e2, e3⟩ := twoIn_yes hp
    have hI := fun w h h2 => implCompOf_any ra sa rc sc rs ss w hl1 hl2 h h2
    have hS := fun w h h2 => specCompOf_any ra sa rc sc rs ss w hl1 hl2 h h2
    rw [hp] at hI hS
    have h5 := R1.four
    obtain ⟨o, hoE⟩ : ∃ o, compL rs ss = o := ⟨_, rfl⟩
    obtain ⟨x, hxE⟩ : ∃ x, compL (turnL ss) (turnL rs) = x := ⟨_, rfl⟩
    have hyE : turnL o = x := by rw [← hoE, ← hxE]; exact (turn_comp R1 R2).symm
    have hT1 := fun w h => implRelTurned_any ra rc rs w hl1 h
    have hT2 := fun w h => implRelTurned_any sa sc ss w hl2 h
    rw [e1] at hT1
    rw [e2] at hT2
    obtain ⟨t1, ht1⟩ : ∃ t, turnL rs = t := ⟨_, rfl⟩
    obtain ⟨t2, ht2⟩ : ∃ t, turnL ss = t := ⟨_, rfl⟩
    have hol : o.length ≤ 1048576 := by rw [← hoE, (R1.comp R2).len]; omega
    have hxl : x.length ≤ 1048576 := by rw [← hxE, (R2.turn.comp R1.turn).len]; omega
    have ht1l : t1.length ≤ 1048576 := by rw [← ht1, R1.turn.len]; omega
    have ht2l : t2.length ≤ 1048576 := by rw [← ht2, R2.turn.len]; omega
    have htwo : twoIn t2 t1 = true := by
      rw [← ht1, ← ht2]
      unfold twoIn
      rw [R1.turn.ok, R2.turn.ok, R1.turn.len, R2.turn.len]
      simp
    have hCt := fun ao bo ca cb w h h2 => implCompOf_any ao bo ca cb t2 t1 w ht2l ht1l h h2
    rw [htwo] at hCt
    have hTo := fun ao ca w h => implRelTurned_any ao ca o w hol h
    rw [show relIn o = true by rw [← hoE]; exact (R1.comp R2).ok] at hTo
    rw [show ifR true (turnL o) = x from hyE] at hTo
    rw [show ifR true (compL t2 t1) = x by rw [← ht1, ← ht2]; exact hxE] at hCt
    rw [show ifR true (compL rs ss) = o from hoE] at hI hS
    rw [show ifR true (turnL rs) = t1 from ht1] at hT1
    rw [show ifR true (turnL ss) = t2 from ht2] at hT2
    have HC := Lib.hid (And.intro hI (And.intro hS (And.intro hT1 (And.intro hT2 (And.intro hCt hTo)))))
    clear hI hS hT1 hT2 hCt hTo hp R1 R2 e1 e2 e3 hoE hxE hyE ht1 ht2 htwo h5
    go_wp2_with fail
    refine (HC.out.1 _ HR.out.1 HR.out.2).mono ?_
    rintro e w2 ⟨v, rfl, ho, b2⟩
    obtain ⟨oa, oc, rfl, hro⟩ := row_rd ho
    have B2 := B1.trans (b2.mono B1.size)
    have HR2 := Lib.hid (And.intro (HR.out.1.below b2) (And.intro (HR.out.2.below b2) hro))
    clear ho b2 B1 hro HR
    go_wp2_with fail
    refine (HC.out.2.1 _ HR2.out.1 HR2.out.2.1).mono ?_
    rintro e w3 ⟨v, rfl, ho, b3⟩
    obtain ⟨wa, wc, rfl, hrw⟩ := row_rd ho
    have B3 := B2.trans (b3.mono B2.size)
    have HR3 := Lib.hid (And.intro (HR2.out.1.below b3) (And.intro (HR2.out.2.1.below b3) (And.intro (HR2.out.2.2.below b3) hrw)))
    clear ho b3 B2 hrw HR2
    go_wp2_with fail
    refine (sameInts_refl _ _ _ _ _ _ hol HR3.out.2.2.1 HR3.out.2.2.2).mono ?_
    rintro e w4 ⟨rfl, d4⟩
    have HR4 := Lib.hid (And.intro (d4.rd HR3.out.1) (And.intro (d4.rd HR3.out.2.1) (d4.rd HR3.out.2.2.1)))
    have B4 := B3.trans (d4.below _)
    clear d4 B3 HR3
    go_wp2_with fail
    refine (HC.out.2.2.1 _ HR4.out.1).mono ?_
    rintro e w5 ⟨v, rfl, ho, b5⟩
    obtain ⟨c1, k1, rfl, hrc⟩ := row_rd ho
    have B5 := B4.trans (b5.mono B4.size)
    have HR5 := Lib.hid (And.intro (HR4.out.2.1.below b5) (And.intro (HR4.out.2.2.below b5) hrc))
    clear ho b5 B4 hrc HR4
    go_wp2_with fail
    refine (HC.out.2.2.2.1 _ HR5.out.1).mono ?_
    rintro e w6 ⟨v, rfl, ho, b6⟩
    obtain ⟨c2, k2, rfl, hrc⟩ := row_rd ho
    have B6 := B5.trans (b6.mono B5.size)
    have HR6 := Lib.hid (And.intro (HR5.out.2.1.below b6) (And.intro (HR5.out.2.2.below b6) hrc))
    clear ho b6 B5 hrc HR5
    go_wp2_with fail
    refine (HC.out.2.2.2.2.1 c2 c1 k2 k1 _ HR6.out.2.2 HR6.out.2.1).mono ?_
    rintro e w7 ⟨v, rfl, ho, b7⟩
    obtain ⟨xa, xc, rfl, hrx⟩ := row_rd ho
    have B7 := B6.trans (b7.mono B6.size)
    have HR7 := Lib.hid (And.intro (HR6.out.1.below b7) hrx)
    clear ho b7 B6 hrx HR6
    go_wp2_with fail
    refine (HC.out.2.2.2.2.2 oa oc _ HR7.out.1).mono ?_
    rintro e w8 ⟨v, rfl, ho, b8⟩
    obtain ⟨ya, yc, rfl, hry⟩ := row_rd ho
    have B8 := B7.trans (b8.mono B7.size)
    have HR8 := Lib.hid (And.intro (HR7.out.2.below b8) hry)
    clear ho b8 B7 hry HR7
    go_wp2_with fail
    refine (sameInts_refl _ _ _ _ _ _ hxl HR8.out.1 HR8.out.2).mono ?_
    rintro e w9 ⟨rfl, d9⟩
    go_wp2
    go_ret
    exact ⟨rfl, B8.trans (d9.below _)⟩
end Go.Proofs.Ytdibnmbppbgjfab
