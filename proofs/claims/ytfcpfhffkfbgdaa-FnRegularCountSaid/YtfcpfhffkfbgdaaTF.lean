/-
  Relations counted by a test: how many there are, and the draws of the laws.
-/
import Derived.Test.YtfcpfhffkfbgdaaTD
import Derived.Test.YtfcpfhffkfbgdaaDE
import Derived.Test.YtfcpfhffkfbgdaaSI
namespace Go.Proofs.Ytfcpfhffkfbgdaa
open Go.RowKit

/-- how many there are -/
theorem reg_counts : cntL 1 regB (List.range 2) = 2 ∧ cntL 2 regB (List.range 16) = 16 ∧ cntL 3 regB (List.range 512) = 470 := by decide +kernel
theorem sq_counts : cntL 1 sqB (List.range 2) = 2 ∧ cntL 2 sqB (List.range 16) = 11 ∧ cntL 3 sqB (List.range 512) = 123 := by decide +kernel
theorem drawRegularCount_any (ao : Option Addr) (c : Nat) (bs : List Nat) (w : World) (hb : RdB w ao bs) (hc : bs.length ≤ c) (hbA : bs ≠ [] → ∀ a, ao = some a → a.block < w.heap.size) :
    Calls Try.prog 37 #[.slice ao bs.length c] w fun e w' => ∃ k : Nat, k < 5 ∧ e = .returned (.int .i64 k) ∧ Below w.heap.size w w' := by
  have HB := Lib.hid (And.intro hb hbA)
  clear hb hbA
  go_enter Try.func37, Try.ntmps37
  go_wp2_with fail
  refine (open_any ao c bs w hc).mono ?_
  rintro e w1 ⟨bs', hbs, rfl, hr, hB⟩
  have hl : bs'.length ≤ 2000 := by rw [hbs, List.length_take]; omega
  have hA : bs' ≠ [] → ∀ a, ao = some a → a.block < w.heap.size := fun h => HB.out.2 (fun e => h (by rw [hbs, e]; rfl))
  have hb1 : RdB w1 ao bs' := by rw [hbs]; exact (HB.out.1.take 2000).below hB
  have S : DrS w1 w1 w.heap.size ao bs' c 0 := ⟨hr, Below.refl _ _, Nat.le_refl _, fun _ _ _ => rfl⟩
  have HC := Lib.hid (pick_step S hb1 hA hl (by omega) 5 5 rfl (by omega) (by omega))
  clear hr hbs hA hb1 S hl
  go_wp2_with fail
  refine HC.out.mono ?_
  rintro e w2 ⟨k, hk, rfl, S2, hss, _, _⟩
  have HS := Lib.hid (And.intro hk (hB.trans S2.bl))
  clear S2 hss HC
  go_wp2
  go_ret
  exact ⟨k, HS.out.1, rfl, HS.out.2⟩
theorem drawRegularSquare_any (ao : Option Addr) (c : Nat) (bs : List Nat) (w : World) (hb : RdB w ao bs) (hc : bs.length ≤ c) (hbA : bs ≠ [] → ∀ a, ao = some a → a.block < w.heap.size) :
    Calls Try.prog 38 #[.slice ao bs.length c] w fun e w' => ∃ k : Nat, k < 5 ∧ e = .returned (.int .i64 k) ∧ Below w.heap.size w w' := by
  have HB := Lib.hid (And.intro hb hbA)
  clear hb hbA
  go_enter Try.func38, Try.ntmps38
  go_wp2_with fail
  refine (open_any ao c bs w hc).mono ?_
  rintro e w1 ⟨bs', hbs, rfl, hr, hB⟩
  have hl : bs'.length ≤ 2000 := by rw [hbs, List.length_take]; omega
  have hA : bs' ≠ [] → ∀ a, ao = some a → a.block < w.heap.size := fun h => HB.out.2 (fun e => h (by rw [hbs, e]; rfl))
  have hb1 : RdB w1 ao bs' := by rw [hbs]; exact (HB.out.1.take 2000).below hB
  have S : DrS w1 w1 w.heap.size ao bs' c 0 := ⟨hr, Below.refl _ _, Nat.le_refl _, fun _ _ _ => rfl⟩
  have HC := Lib.hid (pick_step S hb1 hA hl (by omega) 5 5 rfl (by omega) (by omega))
  clear hr hbs hA hb1 S hl
  go_wp2_with fail
  refine HC.out.mono ?_
  rintro e w2 ⟨k, hk, rfl, S2, hss, _, _⟩
  have HS := Lib.hid (And.intro hk (hB.trans S2.bl))
  clear S2 hss HC
  go_wp2
  go_ret
  exact ⟨k, HS.out.1, rfl, HS.out.2⟩
end Go.Proofs.Ytfcpfhffkfbgdaa
