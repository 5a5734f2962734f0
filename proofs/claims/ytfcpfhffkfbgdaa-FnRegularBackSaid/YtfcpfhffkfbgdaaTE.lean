/-
  Regular relations: facts on compositions, and the draws of their laws.
-/
import Derived.Test.YtfcpfhffkfbgdaaTB
import Derived.Test.YtfcpfhffkfbgdaaGB
import Derived.Test.YtfcpfhffkfbgdaaDF
namespace Go.Proofs.Ytfcpfhffkfbgdaa
open Go.RowKit

theorem comp_assoc {n : Nat} {a b c : List Int} (ha : Rl n a) (hb : Rl n b) (hc : Rl n c) : compL (compL a b) c = compL a (compL b c) := by
  refine Rl.ext ((ha.comp hb).comp hc) (ha.comp (hb.comp hc)) fun i j hi hj => ?_
  rw [Bool.eq_iff_iff, hB_comp (ha.comp hb) hc i j hi hj, hB_comp ha (hb.comp hc) i j hi hj]
  constructor
  · rintro ⟨l, hl, e1, e2⟩
    obtain ⟨k, hk, e3, e4⟩ := (hB_comp ha hb i l hi hl).1 e1
    exact ⟨k, hk, e3, (hB_comp hb hc k j hk hj).2 ⟨l, hl, e4, e2⟩⟩
  · rintro ⟨k, hk, e1, e2⟩
    obtain ⟨l, hl, e3, e4⟩ := (hB_comp hb hc k j hk hj).1 e2
    exact ⟨l, hl, (hB_comp ha hb i l hi hl).2 ⟨k, hk, e1, e3⟩, e4⟩
/-- what composes below is below -/
theorem most_below {n : Nat} {a : List Int} (h : Rl n a) : belowB (compL (compL a (mostX a)) a) a = true := by
  rw [comp_assoc h h.mostX h, below_iff (h.comp (h.mostX.comp h)) h]
  intro i j hi hj e
  obtain ⟨k, hk, e1, e2⟩ := (hB_comp h (h.mostX.comp h) i j hi hj).1 e
  have e3 := (below_iff (h.mostX.comp h) (h.left h)).1 (right_below h (h.left h)) k j hk hj e2
  exact (below_iff (h.comp (h.left h)) h).1 (left_below h h) i j hi hj ((hB_comp h (h.left h) i j hi hj).2 ⟨k, hk, e1, e3⟩)
/-- what goes back goes back -/
theorem back_one {n : Nat} {a : List Int} (h : Rl n a) (hr : regB a = true) : compL (compL a (backL a)) a = a := by
  have e : compL (compL a (mostX a)) a = a := of_decide_eq_true hr
  have M := h.mostX
  unfold backL
  rw [← comp_assoc h (M.comp h) M, ← comp_assoc h M h, e, e]
theorem back_two {n : Nat} {a : List Int} (h : Rl n a) (hr : regB a = true) : compL (compL (backL a) a) (backL a) = backL a := by
  have e : compL (compL a (mostX a)) a = a := of_decide_eq_true hr
  have M := h.mostX
  have e1 : compL (backL a) a = compL (mostX a) a := by
    unfold backL
    rw [comp_assoc (M.comp h) M h, comp_assoc M h (M.comp h), ← comp_assoc h M h, e]
  rw [e1]
  unfold backL
  rw [← comp_assoc (M.comp h) (M.comp h) M, comp_assoc M h (M.comp h), ← comp_assoc h M h, e]
theorem cRegularIn {n : Nat} {xs : List Int} (h : Rl n xs) (s : Bool) (hs : regB xs = s) (ao : Option Addr) (ca : Nat) (w : World) (hx : Rd w ao xs) : Calls Try.prog 16 #[.slice ao xs.length ca] w fun e w' => e = .returned (.bool s) ∧ Below w.heap.size w w' := by
  have := implRegularIn_any ao ca xs w (rl_short h) hx
  rw [h.ok, hs, Bool.true_and] at this
  exact this
theorem drawRegularMost_any (ao : Option Addr) (c : Nat) (bs : List Nat) (w : World) (hb : RdB w ao bs) (hc : bs.length ≤ c) (hbA : bs ≠ [] → ∀ a, ao = some a → a.block < w.heap.size) :
    Calls Try.prog 32 #[.slice ao bs.length c] w (Drew w) := by
  have HD := Lib.hid (l91Some_any ao c bs w hb hc hbA)
  clear hb hbA
  go_enter Try.func32, Try.ntmps32
  go_wp2_with fail
  refine HD.out.mono ?_
  rintro e w3 ⟨v, rs, rfl, hrest⟩
  have HR := Lib.hid hrest
  clear hrest HD
  go_wp2
  go_ret
  exact ⟨v, rs, rfl, HR.out⟩
theorem drawRegularBack_any (ao : Option Addr) (c : Nat) (bs : List Nat) (w : World) (hb : RdB w ao bs) (hc : bs.length ≤ c) (hbA : bs ≠ [] → ∀ a, ao = some a → a.block < w.heap.size) :
    Calls Try.prog 36 #[.slice ao bs.length c] w (Drew w) := by
  have HD := Lib.hid (l91Some_any ao c bs w hb hc hbA)
  clear hb hbA
  go_enter Try.func36, Try.ntmps36
  go_wp2_with fail
  refine HD.out.mono ?_
  rintro e w3 ⟨v, rs, rfl, hrest⟩
  have HR := Lib.hid hrest
  clear hrest HD
  go_wp2
  go_ret
  exact ⟨v, rs, rfl, HR.out⟩
end Go.Proofs.Ytfcpfhffkfbgdaa
