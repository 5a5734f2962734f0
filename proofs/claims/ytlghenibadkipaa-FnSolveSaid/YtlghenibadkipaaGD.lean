/-
  The draw of two relations, the second one often a composition of the first one: for the law of solutions.
-/
import Derived.Test.YtlghenibadkipaaGC
namespace Go.Proofs.Ytlghenibadkipaa
open Go.RowKit

theorem keepT {w w' : World} {lo n : Nat} {v : Value} {us : List Value} (h : w.ownsRow lo 3 1 v n us) (hb : Below w.heap.size w w') : w'.ownsRow lo 3 1 v n us :=
  own_keep h hb fun k e => (h.lt k e).2
theorem drawCompSolve_any (ao : Option Addr) (c : Nat) (bs : List Nat) (w : World) (hb : RdB w ao bs) (hc : bs.length ≤ c) (hbA : bs ≠ [] → ∀ a, ao = some a → a.block < w.heap.size) :
    Calls Try.prog 18 #[.slice ao bs.length c] w (Drew2 w) := by
  have HD := Lib.hid (l91Two_any ao c bs w hb hc hbA)
  clear hb hbA
  go_enter Try.func18, Try.ntmps18
  go_wp2_with fail
  refine HD.out.mono ?_
  rintro e w3 ⟨v, u, rs, ss, rfl, h1, h2, ho1, ho2, hB⟩
  obtain ⟨aa, ac, rfl, ra⟩ := row_rd ho1
  obtain ⟨ba, bc, rfl, rb⟩ := row_rd ho2
  have HO := Lib.hid (And.intro h1 (And.intro h2 (And.intro ho1 (And.intro ho2 hB))))
  have hT := Lib.hid (l1Two_any aa ba ac bc rs ss w3 (by omega) (by omega) ra rb)
  have HR := Lib.hid (And.intro ra rb)
  clear HD h1 h2 ho1 ho2 hB ra rb hc
  by_cases hg : (bs.length : Int) % 3 > 0
  · cases hp : twoIn rs ss with
    | false =>
      have hT2 := hT.out
      rw [hp] at hT2
      have HT := Lib.hid hT2
      clear hT hT2 hp
      go_wp2_with (refine HT.out.mono ?_; rintro e w4 ⟨rfl, d4⟩)
      go_ret2
      obtain ⟨h1, h2, ho1, ho2, hB⟩ := HO.out
      exact ⟨_, _, rs, ss, rfl, h1, h2, keepT ho1 (d4.below _), keepT ho2 (d4.below _), hB.trans (d4.below _)⟩
    | true =>
      obtain ⟨R1, R2⟩ := two_rl hp
      have hT2 := hT.out
      rw [hp] at hT2
      have HT := Lib.hid hT2
      have HRR := Lib.hid (And.intro R1 R2)
      clear hT hT2 hp R1 R2
      go_wp2_with fail
      refine HT.out.mono ?_
      rintro e w4 ⟨rfl, d4⟩
      have hC := l2Comp_any aa ba ac bc rs ss w4 HRR.out.1.four (by rw [HRR.out.2.len]; exact HRR.out.1.four) HRR.out.1.in16 (d4.rd HR.out.1) (d4.rd HR.out.2)
      have HC := Lib.hid hC
      have HD4 := Lib.hid d4
      clear hC d4
      go_wp2_with (refine HC.out.mono ?_; rintro e w5 ⟨v5, rfl, ho5, b5⟩; have HO5 := Lib.hid (And.intro ho5 b5); clear ho5 b5)
      go_ret2
      obtain ⟨h1, h2, ho1, ho2, hB⟩ := HO.out
      obtain ⟨ho5, b5⟩ := HO5.out
      have B4 : Below w.heap.size w w4 := hB.trans (HD4.out.below _)
      have hl : (compL rs ss).length = rs.length := (HRR.out.1.comp HRR.out.2).len
      exact ⟨_, _, rs, compL rs ss, rfl, h1, by rw [hl]; exact h1, keepT (keepT ho1 (HD4.out.below _)) b5, by rw [hl]; exact own_mono ho5 B4.size, B4.trans (b5.mono B4.size)⟩
  · clear hT HR
    go_wp2
    go_ret2
    obtain ⟨h1, h2, ho1, ho2, hB⟩ := HO.out
    exact ⟨_, _, rs, ss, rfl, h1, h2, ho1, ho2, hB⟩
end Go.Proofs.Ytlghenibadkipaa
