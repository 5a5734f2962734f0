/-
  Contracts of the program's functions on relations, as laws on drawn relations ask them.
-/
import Derived.Test.YtnmgoeklcmoalabDI
import Derived.Test.YtnmgoeklcmoalabEN
import Derived.Test.YtnmgoeklcmoalabGA
import Derived.Test.YtnmgoeklcmoalabER
import Derived.Test.YtnmgoeklcmoalabSI
namespace Go.Proofs.Ytnmgoeklcmoalab
open Go.RowKit

theorem rl_short {n : Nat} {xs : List Int} (h : Rl n xs) : xs.length ≤ 1048576 := by have := h.len; have := h.four; omega
theorem two_ok {n : Nat} {xs ys : List Int} (h : Rl n xs) (k : Rl n ys) : twoIn xs ys = true := by
  unfold twoIn
  rw [h.ok, k.ok, h.len, k.len]
  simp
theorem cTurn {n : Nat} {xs : List Int} (h : Rl n xs) (ao : Option Addr) (ca : Nat) (w : World) (hx : Rd w ao xs) : Calls Try.prog 13 #[.slice ao xs.length ca] w (Gave w (turnL xs) true) := by
  have := implRelTurned_any ao ca xs w (rl_short h) hx
  rw [h.ok] at this
  exact this
theorem cComp {n : Nat} {xs ys : List Int} (h : Rl n xs) (k : Rl n ys) (ao bo : Option Addr) (ca cb : Nat) (w : World) (hx : Rd w ao xs) (hy : Rd w bo ys) : Calls Try.prog 30 #[.slice ao xs.length ca, .slice bo ys.length cb] w (Gave w (compL xs ys) true) := by
  have := implCompOf_any ao bo ca cb xs ys w (rl_short h) (rl_short k) hx hy
  rw [two_ok h k] at this
  exact this
theorem sameInts_eq (ao bo : Option Addr) (ca cb : Nat) (xs ys : List Int) (w : World) (he : xs = ys) (hl : xs.length ≤ 1048576) (hx : Rd w ao xs) (hy : Rd w bo ys) :
    Calls Try.prog 15 #[.slice ao xs.length ca, .slice bo ys.length cb] w fun e w' => e = .returned (.bool true) ∧ Dn w w' := by
  subst he
  exact sameInts_refl ao bo ca cb xs w hl hx hy
end Go.Proofs.Ytnmgoeklcmoalab
