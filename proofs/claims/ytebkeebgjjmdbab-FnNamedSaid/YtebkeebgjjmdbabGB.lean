/-
  Contracts of the program's functions on relations, as laws on drawn relations ask them.
-/
import Derived.Test.YtebkeebgjjmdbabDI
import Derived.Test.YtebkeebgjjmdbabEN
import Derived.Test.YtebkeebgjjmdbabGA
import Derived.Test.YtebkeebgjjmdbabER
import Derived.Test.YtebkeebgjjmdbabSI
namespace Go.Proofs.Ytebkeebgjjmdbab
open Go.RowKit

theorem rl_short {n : Nat} {xs : List Int} (h : Rl n xs) : xs.length ≤ 1048576 := by have := h.len; have := h.four; omega
theorem two_ok {n : Nat} {xs ys : List Int} (h : Rl n xs) (k : Rl n ys) : twoIn xs ys = true := by
  unfold twoIn
  rw [h.ok, k.ok, h.len, k.len]
  simp
theorem cComp {n : Nat} {xs ys : List Int} (h : Rl n xs) (k : Rl n ys) (ao bo : Option Addr) (ca cb : Nat) (w : World) (hx : Rd w ao xs) (hy : Rd w bo ys) : Calls Try.prog 9 #[.slice ao xs.length ca, .slice bo ys.length cb] w (Gave w (compL xs ys) true) := by
  have := implCompOf_any ao bo ca cb xs ys w (rl_short h) (rl_short k) hx hy
  rw [two_ok h k] at this
  exact this
theorem sameInts_eq (ao bo : Option Addr) (ca cb : Nat) (xs ys : List Int) (w : World) (he : xs = ys) (hl : xs.length ≤ 1048576) (hx : Rd w ao xs) (hy : Rd w bo ys) :
    Calls Try.prog 7 #[.slice ao xs.length ca, .slice bo ys.length cb] w fun e w' => e = .returned (.bool true) ∧ Dn w w' := by
  subst he
  exact sameInts_refl ao bo ca cb xs w hl hx hy
end Go.Proofs.Ytebkeebgjjmdbab
