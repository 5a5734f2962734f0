/-
  The walk of FnIf, out of the contracts of the draw and of the functions that it calls; for whatever bytes.
-/
import Derived.Test.YtcdiicckngndcabPV
import Derived.Test.YtcdiicckngndcabPY
import Derived.Test.YtcdiicckngndcabSI
namespace Go.Proofs.Ytcdiicckngndcab
open Go.RowKit

theorem fnIf_long (ao : Option Addr) (cap n : Nat) (w : World) (hm : n ≤ maxLen) (hl : ¬ n ≤ 1048576) :
    Calls Try.prog 7 #[.slice ao n cap] w fun e w' => e = .returned (.bool true) ∧ Below w.heap.size w w' := by
  unfold maxLen at hm
  go_enter Try.func7, Try.ntmps7
  go_wp2
  go_ret
  exact ⟨rfl, Below.refl _ _⟩

set_option maxHeartbeats 8000000 in
theorem fnIf_walk (ao : Option Addr) (c : Nat) (bs : List Nat) (w : World) (hl : bs.length ≤ 1048576) (hb : RdB w ao bs) (hc : bs.length ≤ c) (hbA : bs ≠ [] → ∀ a, ao = some a → a.block < w.heap.size) :
    Calls Try.prog 7 #[.slice ao bs.length c] w fun e w' => e = .returned (.bool true) ∧ Below w.heap.size w w' := by
  have HD := Lib.hid (drawProgIf_any ao c bs w hb hc hbA)
  clear hb hbA
  go_enter Try.func7, Try.ntmps7
  go_wp2_with fail
  refine HD.out.mono ?_
  rintro e w1 ⟨v, u, a, b, z, rfl, hrl, hsl, ho1, ho2, B1⟩
  obtain ⟨aa, ac, rfl, ra⟩ := row_rd ho1
  obtain ⟨ba, bc, rfl, rb⟩ := row_rd ho2
  have hl1 : a.length ≤ 1048576 := by omega
  have hl2 : b.length ≤ 1048576 := by omega
  clear ho1 ho2 HD
  have hI := fun w h h2 => implProgIf_any z aa ba ac bc a b w hl1 hl2 h h2
  have hS := fun w h h2 => specProgIf_any z aa ba ac bc a b w hl1 hl2 h h2
  rw [ifC_eq] at hS
  cases hp : ifB z a b with
  | false =>
    rw [hp] at hI hS
    have HC := Lib.hid (And.intro hI hS)
    clear hI hS hp
    go_wp2_with fail
    refine (HC.out.1 _ ra rb).mono ?_
    rintro e w2 ⟨v, rfl, ho, b2⟩
    obtain ⟨oa, oc, rfl, ro_2⟩ := row_rd (xs := ifR false (ifL z a b)) ho
    clear ho
    have ra_2 := ra.below b2
    have rb_2 := rb.below b2
    have B2 := B1.trans (b2.mono B1.size)
    clear b2 B1 ra rb
    go_wp2_with fail
    refine (HC.out.2 _ ra_2 rb_2).mono ?_
    rintro e w3 ⟨v, rfl, ho, b3⟩
    obtain ⟨wa, wc, rfl, rw_3⟩ := row_rd (xs := ifR false (ifL z a b)) ho
    clear ho
    have ra_3 := ra_2.below b3
    have rb_3 := rb_2.below b3
    have ro_3 := ro_2.below b3
    have B3 := B2.trans (b3.mono B2.size)
    clear b3 B2 ra_2 rb_2 ro_2
    go_wp2_with fail
    refine (sameInts_refl oa wa oc wc _ _ (by simp [ifR]) ro_3 rw_3).mono ?_
    rintro e w4 ⟨rfl, d4⟩
    have ra_4 := d4.rd ra_3
    have rb_4 := d4.rd rb_3
    have ro_4 := d4.rd ro_3
    have rw_4 := d4.rd rw_3
    have B4 := B3.trans (d4.below _)
    clear d4 B3 ra_3 rb_3 ro_3 rw_3
    go_wp2_with fail
    refine (sameInts_refl oa wa oc wc _ _ (by simp [ifR]) ro_4 rw_4).mono ?_
    rintro e w5 ⟨rfl, d5⟩
    have ra_5 := d5.rd ra_4
    have rb_5 := d5.rd rb_4
    have ro_5 := d5.rd ro_4
    have rw_5 := d5.rd rw_4
    have B5 := B4.trans (d5.below _)
    clear d5 B4 ra_4 rb_4 ro_4 rw_4
    go_wp2
    go_ret
    exact ⟨rfl, B5⟩
  | true =>
    have hp2 := hp
    unfold ifB at hp2
    rw [Bool.and_eq_true] at hp2
    obtain ⟨R, K⟩ := two_rl hp2.1
    have h1 := R.one
    have h4 := R.four
    have hz := St.of h4 hp2.2
    rw [hp, show ifR true (ifL z a b) = ifL z a b from rfl] at hI hS
    have Lo : (ifL z a b).length ≤ 1048576 := rl_short8 (R.ifL K z)
    have hX := fun ao bo ca cb w h h2 => qEither R K ao bo ca cb w h h2
    have hY := fun ao bo ca cb w h h2 => pIf K R (St.not h4 hz) (if_turned R K hz) ao bo ca cb w h h2
    have hB := fun ao bo ca cb w h h2 => qBelow (R.ifL K z) (R.either K) (if_below (z := z) R K) ao bo ca cb w h h2
    have htop := top_wrap a.length h1 h4
    have hsub := not_sub h4 hz
    have hwr : ∀ x : Int, St a.length x → wrap64 x = x := fun x hx => by
      obtain ⟨u, rfl, _⟩ := hx
      exact (by decide +kernel : ∀ u : Fin 16, wrap64 (u.val : Int) = (u.val : Int)) u
    have hw2 := hwr _ (St.not h4 hz)
    obtain ⟨o, ho⟩ : ∃ o, ifL z a b = o := ⟨_, rfl⟩
    rw [ho] at hI hS hY hB Lo
    obtain ⟨x, hx⟩ : ∃ x, eitherL a b = x := ⟨_, rfl⟩
    rw [hx] at hX hB
    obtain ⟨y, hy⟩ : ∃ y, notA a.length z = y := ⟨_, rfl⟩
    rw [hy] at hY hsub hw2
    obtain ⟨T, hT⟩ : ∃ T : Int, ((2 ^ a.length - 1 : Nat) : Int) = T := ⟨_, rfl⟩
    rw [hT] at htop hsub
    have hsub2 : wrap64 (T - z) = y := by rw [hsub]; exact hw2
    have HC := Lib.hid (And.intro hI (And.intro hS (And.intro hX (And.intro hY hB))))
    clear hI hS hX hY hB hp hp2 R K hz ho hx hy hT hwr hw2 hsub
    go_wp2_with fail
    refine (HC.out.1 _ ra rb).mono ?_
    rintro e w2 ⟨v, rfl, ho, b2⟩
    obtain ⟨oa, oc, rfl, ro_2⟩ := row_rd ho
    clear ho
    have ra_2 := ra.below b2
    have rb_2 := rb.below b2
    have B2 := B1.trans (b2.mono B1.size)
    clear b2 B1 ra rb
    go_wp2_with fail
    refine (HC.out.2.1 _ ra_2 rb_2).mono ?_
    rintro e w3 ⟨v, rfl, ho, b3⟩
    obtain ⟨wa, wc, rfl, rw_3⟩ := row_rd ho
    clear ho
    have ra_3 := ra_2.below b3
    have rb_3 := rb_2.below b3
    have ro_3 := ro_2.below b3
    have B3 := B2.trans (b3.mono B2.size)
    clear b3 B2 ra_2 rb_2 ro_2
    go_wp2_with fail
    refine (sameInts_refl oa wa oc wc _ _ Lo ro_3 rw_3).mono ?_
    rintro e w4 ⟨rfl, d4⟩
    have ra_4 := d4.rd ra_3
    have rb_4 := d4.rd rb_3
    have ro_4 := d4.rd ro_3
    have rw_4 := d4.rd rw_3
    have B4 := B3.trans (d4.below _)
    clear d4 B3 ra_3 rb_3 ro_3 rw_3
    go_wp2_with fail
    refine (HC.out.2.2.1 _ _ _ _ _ ra_4 rb_4).mono ?_
    rintro e w5 ⟨v, rfl, ho, b5⟩
    obtain ⟨xa, xc, rfl, rx_5⟩ := row_rd ho
    clear ho
    have ra_5 := ra_4.below b5
    have rb_5 := rb_4.below b5
    have ro_5 := ro_4.below b5
    have rw_5 := rw_4.below b5
    have B5 := B4.trans (b5.mono B4.size)
    clear b5 B4 ra_4 rb_4 ro_4 rw_4
    go_wp2_with fail
    refine (HC.out.2.2.2.1 _ _ _ _ _ rb_5 ra_5).mono ?_
    rintro e w6 ⟨v, rfl, ho, b6⟩
    obtain ⟨ya, yc, rfl, ry_6⟩ := row_rd ho
    clear ho
    have ra_6 := ra_5.below b6
    have rb_6 := rb_5.below b6
    have ro_6 := ro_5.below b6
    have rw_6 := rw_5.below b6
    have rx_6 := rx_5.below b6
    have B6 := B5.trans (b6.mono B5.size)
    clear b6 B5 ra_5 rb_5 ro_5 rw_5 rx_5
    go_wp2_with fail
    refine (sameInts_refl ya oa yc oc _ _ Lo ry_6 ro_6).mono ?_
    rintro e w7 ⟨rfl, d7⟩
    have ra_7 := d7.rd ra_6
    have rb_7 := d7.rd rb_6
    have ro_7 := d7.rd ro_6
    have rw_7 := d7.rd rw_6
    have rx_7 := d7.rd rx_6
    have ry_7 := d7.rd ry_6
    have B7 := B6.trans (d7.below _)
    clear d7 B6 ra_6 rb_6 ro_6 rw_6 rx_6 ry_6
    go_wp2_with fail
    refine (HC.out.2.2.2.2 _ _ _ _ _ ro_7 rx_7).mono ?_
    rintro e w8 ⟨rfl, b8⟩
    have ra_8 := ra_7.below b8
    have rb_8 := rb_7.below b8
    have ro_8 := ro_7.below b8
    have rw_8 := rw_7.below b8
    have rx_8 := rx_7.below b8
    have ry_8 := ry_7.below b8
    have B8 := B7.trans (b8.mono B7.size)
    clear b8 B7 ra_7 rb_7 ro_7 rw_7 rx_7 ry_7
    go_wp2
    go_ret
    exact ⟨rfl, B8⟩
end Go.Proofs.Ytcdiicckngndcab
