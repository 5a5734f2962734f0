/-
  The walk of FnExactRelIn, out of the contracts; no conditions but what the reading of the argument gives.
-/
import Derived.Test.YtjiboflkifmheaaD
namespace Go.Proofs.Ytjiboflkifmheaa
open Go.RowKit

theorem row_rd {w : World} {base : Nat} {e : TypeId} {v : Value} {xs : List Int} (h : w.ownsRow base e 1 v xs.length (xs.map (Value.int .i64))) :
    ∃ ao cap, v = .slice ao xs.length cap ∧ Rd w ao xs := by
  rcases h.2 with ⟨rfl, hn⟩ | ⟨g, cap, cur, rfl, hb, hg, hnc, hcm, hcs, htake⟩
  · refine ⟨none, 0, by rw [hn], ?_⟩
    intro k x hx
    rw [List.eq_nil_of_length_eq_zero hn] at hx
    simp at hx
  · refine ⟨_, cap, rfl, ?_⟩
    intro k x hx
    refine ⟨g, 0, rfl, (Array.getElem?_eq_some_iff.1 hg).1, ?_⟩
    have hk : k < xs.length := (List.getElem?_eq_some_iff.1 hx).1
    have := h.cellAt k (by omega)
    rw [Nat.zero_add, this]
    simp [hx]

set_option maxHeartbeats 1000000 in
theorem exactRelIn_walk (ao : Option Addr) (cap : Nat) (xs : List Int) (w : World) (hr : Rd w ao xs) (hm : xs.length ≤ maxLen) :
    Calls Try.prog 4 #[.slice ao xs.length cap] w fun e w' => e = .returned (.bool true) ∧ Below w.heap.size w w' := by
  unfold maxLen at hm
  by_cases hl : xs.length ≤ 1048576
  · go_enter Try.func4, Try.ntmps4
    go_wp2_with fail
    refine (toIntS_any ao cap xs _ hl hr).mono ?_
    rintro e w1 ⟨v1, rfl, ho1, hb1⟩
    obtain ⟨a1, c1, rfl, hr1⟩ := row_rd ho1
    go_wp2_with fail
    refine (specRelIn_any a1 c1 xs _ hl hr1).mono ?_
    rintro e w2 ⟨rfl, hd2⟩
    have hb2 := hb1.trans (hd2.below _)
    clear ho1 hr1 hd2 hb1
    go_wp2_with fail
    refine (toIntS_any ao cap xs _ hl (hr.below hb2)).mono ?_
    rintro e w3 ⟨v3, rfl, ho3, hb3⟩
    obtain ⟨a3, c3, rfl, hr3⟩ := row_rd ho3
    have hb3' := hb2.trans (hb3.mono hb2.size)
    clear ho3 hb3 hb2
    go_wp2_with fail
    refine (implRelIn_any a3 c3 xs _ hl hr3).mono ?_
    rintro e w4 ⟨rfl, hb4⟩
    have hr4 := hr3.below hb4
    have hb4' := hb3'.trans (hb4.mono hb3'.size)
    clear hr3 hb3' hb4
    go_wp2_with fail
    refine (toIntS_any ao cap xs _ hl (hr.below hb4')).mono ?_
    rintro e w5 ⟨v5, rfl, ho5, hb5⟩
    obtain ⟨a5, c5, rfl, hr5⟩ := row_rd ho5
    have hr45 := hr4.below hb5
    have hb5' := hb4'.trans (hb5.mono hb4'.size)
    clear ho5 hb5 hb4' hr4
    go_wp2_with fail
    refine (eqIntS_any a3 a5 c3 c5 xs xs _ hl hl hr45 hr5).mono ?_
    rintro e w6 ⟨rfl, hd6⟩
    have hb6 := hb5'.trans (hd6.below _)
    clear hr45 hr5 hd6 hb5'
    go_wp2
    go_ret
    exact ⟨rfl, hb6⟩
  · go_enter Try.func4, Try.ntmps4
    go_wp2
    go_ret
    exact ⟨rfl, Below.refl _ _⟩
end Go.Proofs.Ytjiboflkifmheaa
