/-
  Draws of laws on drawn relations: below, sizes, split, all kinds, points alone.
-/
import Derived.Test.YtpbkgdohfnjjpaaGD
import Derived.Test.YtpbkgdohfnjjpaaDI
namespace Go.Proofs.Ytpbkgdohfnjjpaa
open Go.RowKit

theorem drawRelBelow_any (ao : Option Addr) (c : Nat) (bs : List Nat) (w : World) (hb : RdB w ao bs) (hc : bs.length ≤ c) (hbA : bs ≠ [] → ∀ a, ao = some a → a.block < w.heap.size) :
    Calls Try.prog 10 #[.slice ao bs.length c] w (Drew2 w) := by
  have HD := Lib.hid (l91Two_any ao c bs w hb hc hbA)
  clear hb hbA
  go_enter Try.func10, Try.ntmps10
  go_wp2_with fail
  refine HD.out.mono ?_
  rintro e w3 ⟨v, u, rs, ss, rfl, h1, h2, ho1, ho2, hB⟩
  obtain ⟨aa, ac, rfl, ra⟩ := row_rd ho1
  obtain ⟨ba, bc, rfl, rb⟩ := row_rd ho2
  have HO := Lib.hid (And.intro h1 (And.intro h2 (And.intro ho1 (And.intro ho2 hB))))
  have hT := Lib.hid (l1Two_any aa ba ac bc rs ss w3 (by omega) (by omega) ra rb)
  have HR := Lib.hid (And.intro ra rb)
  clear HD h1 h2 ho1 ho2 hB ra rb hc
  by_cases hg : (bs.length : Int) % 3 > 0
  · cases hp : twoIn rs ss with
    | false =>
      have hT2 := hT.out
      rw [hp] at hT2
      have HT := Lib.hid hT2
      clear hT hT2 hp
      go_wp2_with (refine HT.out.mono ?_; rintro e w4 ⟨rfl, d4⟩)
      go_ret2
      obtain ⟨h1, h2, ho1, ho2, hB⟩ := HO.out
      exact ⟨_, _, rs, ss, rfl, h1, h2, keepT ho1 (d4.below _), keepT ho2 (d4.below _), hB.trans (d4.below _)⟩
    | true =>
      obtain ⟨R1, R2⟩ := two_rl hp
      have hT2 := hT.out
      rw [hp] at hT2
      have HT := Lib.hid hT2
      have HRR := Lib.hid (And.intro R1 R2)
      clear hT hT2 hp R1 R2
      go_wp2_with fail
      refine HT.out.mono ?_
      rintro e w4 ⟨rfl, d4⟩
      have hC := l1Both_any aa ba ac bc rs ss w4 HRR.out.1.four (by rw [HRR.out.2.len]) (d4.rd HR.out.1) (d4.rd HR.out.2)
      have HC := Lib.hid hC
      have HD4 := Lib.hid d4
      clear hC d4
      go_wp2_with (refine HC.out.mono ?_; rintro e w5 ⟨v5, rfl, ho5, b5⟩; have HO5 := Lib.hid (And.intro ho5 b5); clear ho5 b5)
      go_ret2
      obtain ⟨h1, h2, ho1, ho2, hB⟩ := HO.out
      obtain ⟨ho5, b5⟩ := HO5.out
      have B4 : Below w.heap.size w w4 := hB.trans (HD4.out.below _)
      have hl : (bothL rs ss).length = rs.length := (HRR.out.1.both HRR.out.2).len
      exact ⟨_, _, bothL rs ss, ss, rfl, by rw [hl]; exact h1, h2, by rw [hl]; exact own_mono ho5 B4.size, keepT (keepT ho2 (HD4.out.below _)) b5, B4.trans (b5.mono B4.size)⟩
  · clear hT HR
    go_wp2
    go_ret2
    obtain ⟨h1, h2, ho1, ho2, hB⟩ := HO.out
    exact ⟨_, _, rs, ss, rfl, h1, h2, ho1, ho2, hB⟩
theorem drawRelSize_any (ao : Option Addr) (c : Nat) (bs : List Nat) (w : World) (hb : RdB w ao bs) (hc : bs.length ≤ c) (hbA : bs ≠ [] → ∀ a, ao = some a → a.block < w.heap.size) :
    Calls Try.prog 17 #[.slice ao bs.length c] w (Drew w) := by
  have HD := Lib.hid (l91Some_any ao c bs w hb hc hbA)
  clear hb hbA
  go_enter Try.func17, Try.ntmps17
  go_wp2_with fail
  refine HD.out.mono ?_
  rintro e w3 ⟨v, rs, rfl, hrl, ho, hB⟩
  have HR := Lib.hid (And.intro hrl (And.intro ho hB))
  clear hrl ho hB HD
  go_wp2
  go_ret
  exact ⟨v, rs, rfl, HR.out⟩
theorem drawKindSplit_any (ao : Option Addr) (c : Nat) (bs : List Nat) (w : World) (hb : RdB w ao bs) (hc : bs.length ≤ c) (hbA : bs ≠ [] → ∀ a, ao = some a → a.block < w.heap.size) :
    Calls Try.prog 28 #[.slice ao bs.length c] w (Drew w) := by
  have HD := Lib.hid (l91Some_any ao c bs w hb hc hbA)
  clear hb hbA
  go_enter Try.func28, Try.ntmps28
  go_wp2_with fail
  refine HD.out.mono ?_
  rintro e w3 ⟨v, rs, rfl, hrl, ho, hB⟩
  have HR := Lib.hid (And.intro hrl (And.intro ho hB))
  clear hrl ho hB HD
  go_wp2
  go_ret
  exact ⟨v, rs, rfl, HR.out⟩
theorem drawKindAll_any (ao : Option Addr) (c : Nat) (bs : List Nat) (w : World) (hb : RdB w ao bs) (hc : bs.length ≤ c) (hbA : bs ≠ [] → ∀ a, ao = some a → a.block < w.heap.size) :
    Calls Try.prog 25 #[.slice ao bs.length c] w (Drew w) := by
  have HD := Lib.hid (l91Some_any ao c bs w hb hc hbA)
  clear hb hbA
  go_enter Try.func25, Try.ntmps25
  go_wp2_with fail
  refine HD.out.mono ?_
  rintro e w3 ⟨v, rs, rfl, hrl, ho, hB⟩
  have HR := Lib.hid (And.intro hrl (And.intro ho hB))
  clear hrl ho hB HD
  go_wp2
  go_ret
  exact ⟨v, rs, rfl, HR.out⟩
theorem drawRelSame_any (ao : Option Addr) (c : Nat) (bs : List Nat) (w : World) (hb : RdB w ao bs) (hc : bs.length ≤ c) (hbA : bs ≠ [] → ∀ a, ao = some a → a.block < w.heap.size) :
    Calls Try.prog 21 #[.slice ao bs.length c] w fun e w' => ∃ k : Nat, k < 6 ∧ e = .returned (.int .i64 k) ∧ Below w.heap.size w w' := by
  have HB := Lib.hid (And.intro hb hbA)
  clear hb hbA
  go_enter Try.func21, Try.ntmps21
  go_wp2_with fail
  refine (open_any ao c bs w hc).mono ?_
  rintro e w1 ⟨bs', hbs, rfl, hr, hB⟩
  have hl : bs'.length ≤ 2000 := by rw [hbs, List.length_take]; omega
  have hA : bs' ≠ [] → ∀ a, ao = some a → a.block < w.heap.size := fun h => HB.out.2 (fun e => h (by rw [hbs, e]; rfl))
  have hb1 : RdB w1 ao bs' := by rw [hbs]; exact (HB.out.1.take 2000).below hB
  have S : DrS w1 w1 w.heap.size ao bs' c 0 := ⟨hr, Below.refl _ _, Nat.le_refl _, fun _ _ _ => rfl⟩
  have HC := Lib.hid (pick_step S hb1 hA hl (by omega) 6 6 rfl (by omega) (by omega))
  clear hr hbs hA hb1 S hl
  go_wp2_with fail
  refine HC.out.mono ?_
  rintro e w2 ⟨k, hk, rfl, S2, hss, _, _⟩
  have HS := Lib.hid (And.intro hk (hB.trans S2.bl))
  clear S2 hss HC
  go_wp2
  go_ret
  exact ⟨k, HS.out.1, rfl, HS.out.2⟩
end Go.Proofs.Ytpbkgdohfnjjpaa
