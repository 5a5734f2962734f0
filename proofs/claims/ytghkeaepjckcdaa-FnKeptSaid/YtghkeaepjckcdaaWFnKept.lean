/-
  The walk of FnKept, out of the contracts of the draw and of the functions that it calls; for whatever bytes.
-/
import Derived.Test.YtghkeaepjckcdaaKA
import Derived.Test.YtghkeaepjckcdaaKB
namespace Go.Proofs.Ytghkeaepjckcdaa
open Go.RowKit

theorem fnKept_long (ao : Option Addr) (cap n : Nat) (w : World) (hm : n ≤ maxLen) (hl : ¬ n ≤ 1048576) :
    Calls Try.prog 7 #[.slice ao n cap] w fun e w' => e = .returned (.bool true) ∧ Below w.heap.size w w' := by
  unfold maxLen at hm
  go_enter Try.func7, Try.ntmps7
  go_wp2
  go_ret
  exact ⟨rfl, Below.refl _ _⟩

set_option maxHeartbeats 8000000 in
theorem fnKept_walk (ao : Option Addr) (c : Nat) (bs : List Nat) (w : World) (hl : bs.length ≤ 1048576) (hb : RdB w ao bs) (hc : bs.length ≤ c) (hbA : bs ≠ [] → ∀ a, ao = some a → a.block < w.heap.size) :
    Calls Try.prog 7 #[.slice ao bs.length c] w fun e w' => e = .returned (.bool true) ∧ Below w.heap.size w w' := by
  have HD := Lib.hid (drawEquKept_any ao c bs w hl hb hc hbA)
  clear hb hbA
  go_enter Try.func7, Try.ntmps7
  go_wp2_with fail
  refine HD.out.mono ?_
  rintro e w1 ⟨v, u, a, b, rfl, hrl, hsl, ho1, ho2, B1⟩
  obtain ⟨aa, ac, rfl, ra⟩ := row_rd ho1
  obtain ⟨ba, bc, rfl, rb⟩ := row_rd ho2
  have hl1 : a.length ≤ 1048576 := by omega
  have hl2 : b.length ≤ 1048576 := by omega
  clear ho1 ho2 HD
  cases hp : keptAll a b with
  | false =>
    have hI := (fun w h h2 => implEquKept_any aa ba ac bc a b w hl1 hl2 h h2)
    have hS := (fun w h h2 => specEquKept_any aa ba ac bc a b w hl1 hl2 h h2)
    rw [hp] at hI hS
    have HC := Lib.hid (And.intro hI hS)
    clear hI hS hp
    go_wp2_with fail
    refine (HC.out.1 _ ra rb).mono ?_
    rintro e w2 ⟨rfl, b2⟩
    have B2 := B1.trans (b2.mono B1.size)
    have ra2 := ra.below b2
    have rb2 := rb.below b2
    clear b2 B1 ra rb
    go_wp2_with fail
    refine (HC.out.2 _ ra2 rb2).mono ?_
    rintro e w3 ⟨rfl, b3⟩
    have B3 := B2.trans (b3.mono B2.size)
    clear b3 B2 ra2 rb2
    go_wp2
    go_ret
    exact ⟨rfl, B3⟩
  | true =>
    obtain ⟨E1, R2, hk⟩ := kept_rl hp
    have hlb := R2.len
    have hI := (fun w h h2 => implEquKept_any aa ba ac bc a b w hl1 hl2 h h2)
    have hS := (fun w h h2 => specEquKept_any aa ba ac bc a b w hl1 hl2 h h2)
    rw [hp] at hI hS
    have K0 := fun ao bo ca cb w h h2 => cComp R2 R2 ao bo ca cb w h h2
    have K1 := fun w => kSame (n := b.length) (by rw [hlb]; exact E1.rl.one) (by rw [hlb]; exact E1.rl.four) w
    have Q0 := fun ao bo ca cb w h h2 => kKept E1 (R2.comp R2) (kept_twice E1 R2 hk) ao bo ca cb w h h2
    have Q1 := (by rw [hlb]; exact fun ao bo ca cb w h h2 => kKept E1 (Rl.same E1.rl.one E1.rl.four) (kept_same E1) ao bo ca cb w h h2 : ∀ (ao bo : Option Addr) (ca cb : Nat) (w : World), Rd w ao a → Rd w bo (sameL b.length) → Calls Try.prog 30 #[.slice ao a.length ca, .slice bo (sameL b.length).length cb] w fun e w' => e = .returned (.bool true) ∧ Below w.heap.size w w')
    have Lx : (compL b b).length ≤ 1048576 := rl_short (R2.comp R2)
    have Ls : (sameL b.length).length ≤ 1048576 := rl_short (Rl.same (n := b.length) (by rw [hlb]; exact E1.rl.one) (by rw [hlb]; exact E1.rl.four))
    obtain ⟨lx, Ex⟩ : ∃ l, compL b b = l := ⟨_, rfl⟩
    try rw [Ex] at hI
    try rw [Ex] at hS
    try rw [Ex] at K0
    try rw [Ex] at K1
    try rw [Ex] at Q0
    try rw [Ex] at Q1
    try rw [Ex] at Lx
    try rw [Ex] at Ls
    obtain ⟨ls, Es⟩ : ∃ l, sameL b.length = l := ⟨_, rfl⟩
    try rw [Es] at hI
    try rw [Es] at hS
    try rw [Es] at K0
    try rw [Es] at K1
    try rw [Es] at Q0
    try rw [Es] at Q1
    try rw [Es] at Lx
    try rw [Es] at Ls
    have HhI := Lib.hid hI
    have HhS := Lib.hid hS
    have HK0 := Lib.hid K0
    have HK1 := Lib.hid K1
    have HQ0 := Lib.hid Q0
    have HQ1 := Lib.hid Q1
    clear hI hS K0 K1 Q0 Q1 hp E1 R2 hk hlb Ex Es
    go_wp2_with fail
    refine (HhI.out _ ra rb).mono ?_
    rintro e w2 ⟨rfl, b2⟩
    have B2 := B1.trans (b2.mono B1.size)
    have ra_2 := ra.below b2
    have rb_2 := rb.below b2
    clear b2 B1 ra rb
    go_wp2_with fail
    refine (HhS.out _ ra_2 rb_2).mono ?_
    rintro e w3 ⟨rfl, b3⟩
    have B3 := B2.trans (b3.mono B2.size)
    have ra_3 := ra_2.below b3
    have rb_3 := rb_2.below b3
    clear b3 B2 ra_2 rb_2
    go_wp2_with fail
    refine (HK0.out ba ba bc bc _ rb_3 rb_3).mono ?_
    rintro e w4 ⟨v, rfl, ho, b4⟩
    obtain ⟨xa, xc, rfl, rx_4⟩ := row_rd ho
    have B4 := B3.trans (b4.mono B3.size)
    have ra_4 := ra_3.below b4
    have rb_4 := rb_3.below b4
    clear ho b4 B3 ra_3 rb_3
    go_wp2_with fail
    refine (HK1.out _).mono ?_
    rintro e w5 ⟨v, rfl, ho, b5⟩
    obtain ⟨sa, sc, rfl, rs_5⟩ := row_rd ho
    have B5 := B4.trans (b5.mono B4.size)
    have ra_5 := ra_4.below b5
    have rb_5 := rb_4.below b5
    have rx_5 := rx_4.below b5
    clear ho b5 B4 ra_4 rb_4 rx_4
    go_wp2_with fail
    refine (HQ0.out aa xa ac xc _ ra_5 rx_5).mono ?_
    rintro e w6 ⟨rfl, b6⟩
    have B6 := B5.trans (b6.mono B5.size)
    have ra_6 := ra_5.below b6
    have rb_6 := rb_5.below b6
    have rx_6 := rx_5.below b6
    have rs_6 := rs_5.below b6
    clear b6 B5 ra_5 rb_5 rx_5 rs_5
    go_wp2_with fail
    refine (HQ1.out aa sa ac sc _ ra_6 rs_6).mono ?_
    rintro e w7 ⟨rfl, b7⟩
    have B7 := B6.trans (b7.mono B6.size)
    have ra_7 := ra_6.below b7
    have rb_7 := rb_6.below b7
    have rx_7 := rx_6.below b7
    have rs_7 := rs_6.below b7
    clear b7 B6 ra_6 rb_6 rx_6 rs_6
    go_wp2
    go_ret
    exact ⟨rfl, B7⟩
end Go.Proofs.Ytghkeaepjckcdaa
