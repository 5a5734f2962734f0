/-
  The draw of a relation that is often stepped: l92Stepped, DrawRectStepped, DrawRectBlocks.
-/
import Derived.Test.YtnmgoeklcmoalabQC
import Derived.Test.YtnmgoeklcmoalabGD
import Derived.Test.YtnmgoeklcmoalabDI
namespace Go.Proofs.Ytnmgoeklcmoalab
open Go.RowKit

theorem l92Stepped_any (ao : Option Addr) (c : Nat) (bs : List Nat) (w : World) (hb : RdB w ao bs) (hc : bs.length ≤ c) (hl : bs.length ≤ 1048576) (hbA : bs ≠ [] → ∀ a, ao = some a → a.block < w.heap.size) :
    Calls Try.prog 45 #[.slice ao bs.length c] w (Drew w) := by
  have HD := Lib.hid (l91Some_any ao c bs w hb hc hbA)
  clear hb hbA
  go_enter Try.func45, Try.ntmps45
  go_wp2_with fail
  refine HD.out.mono ?_
  rintro e w3 ⟨v, rs, rfl, h1, ho1, hB⟩
  obtain ⟨aa, ac, rfl, ra⟩ := row_rd ho1
  have hT := specRectStep_any aa ac rs w3 (by omega) ra
  have HO := Lib.hid (And.intro h1 (And.intro ho1 hB))
  clear HD h1 ho1 hB ra
  cases hp : relIn rs with
  | false =>
    rw [hp] at hT
    have HT := Lib.hid hT
    clear hT hp
    go_wp2_with fail
    refine HT.out.mono ?_
    rintro e w4 ⟨v4, rfl, ho4, b4⟩
    obtain ⟨oa, oc, rfl, ro⟩ := row_rd (xs := ifR false (stepL rs)) ho4
    have HB := Lib.hid b4
    clear ho4 b4 ro HT
    go_wp2
    go_ret
    obtain ⟨h1, ho1, hB⟩ := HO.out
    exact ⟨_, rs, rfl, h1, keepT ho1 HB.out, hB.trans (HB.out.mono hB.size)⟩
  | true =>
    rw [hp, show ifR true (stepL rs) = stepL rs from rfl] at hT
    have R := Rl.of hp
    have hsl : (stepL rs).length ≤ 4 := by rw [(stepL_rl R).len]; exact R.four
    have HT := Lib.hid hT
    have HL := Lib.hid hsl
    clear hT hp R hsl
    by_cases hg : (bs.length : Int) % 3 > 0
    · go_wp2_with fail
      refine HT.out.mono ?_
      rintro e w4 ⟨v4, rfl, ho4, b4⟩
      have HB := Lib.hid (And.intro ho4 b4)
      clear ho4 b4 HT
      go_wp2
      go_ret
      obtain ⟨h1, ho1, hB⟩ := HO.out
      exact ⟨_, stepL rs, rfl, HL.out, own_mono HB.out.1 hB.size, hB.trans (HB.out.2.mono hB.size)⟩
    · go_wp2_with fail
      refine HT.out.mono ?_
      rintro e w4 ⟨v4, rfl, ho4, b4⟩
      have HB := Lib.hid (And.intro ho4 b4)
      clear ho4 b4 HT
      go_wp2
      go_ret
      obtain ⟨h1, ho1, hB⟩ := HO.out
      exact ⟨_, rs, rfl, h1, keepT ho1 HB.out.2, hB.trans (HB.out.2.mono hB.size)⟩
theorem drawRectBlocks_any (ao : Option Addr) (c : Nat) (bs : List Nat) (w : World) (hb : RdB w ao bs) (hc : bs.length ≤ c) (hl : bs.length ≤ 1048576) (hbA : bs ≠ [] → ∀ a, ao = some a → a.block < w.heap.size) :
    Calls Try.prog 16 #[.slice ao bs.length c] w (Drew w) := by
  have HD := Lib.hid (l92Stepped_any ao c bs w hb hc hl hbA)
  clear hb hbA
  go_enter Try.func16, Try.ntmps16
  go_wp2_with fail
  refine HD.out.mono ?_
  rintro e w3 ⟨v, rs, rfl, hrest⟩
  have HR := Lib.hid hrest
  clear hrest HD
  go_wp2
  go_ret
  exact ⟨v, rs, rfl, HR.out⟩
end Go.Proofs.Ytnmgoeklcmoalab
