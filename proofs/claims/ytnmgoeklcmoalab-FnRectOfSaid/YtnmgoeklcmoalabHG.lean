/-
  The model's kinds of relations, letter by letter.
-/
import Derived.Test.YtnmgoeklcmoalabEF
import Derived.Test.YtnmgoeklcmoalabHA
import Derived.Deep.RegionHeld3
namespace Go.Proofs.Ytnmgoeklcmoalab
open Go.RowKit

theorem bothR {n : Nat} {xs ys : List Int} (h : Rl n xs) (k : Rl n ys) (w : World) : Calls Try.prog 83 #[relOf xs, relOf ys] w fun e w' => e = .returned (relOf (bothL xs ys)) ∧ Below w.heap.size w w' := both_any xs ys w (h.len.symm ▸ h.four) (h.len.trans k.len.symm)
theorem belowR {n : Nat} {xs ys : List Int} (h : Rl n xs) (k : Rl n ys) (w : World) : Calls Try.prog 69 #[relOf xs, relOf ys] w fun e w' => e = .returned (.bool (belowB xs ys)) ∧ Below w.heap.size w w' := below_any xs ys w (h.len.symm ▸ h).ok (k.len.symm ▸ k).ok (h.len.trans k.len.symm)

end Go.Proofs.Ytnmgoeklcmoalab

namespace Go.Proofs.Ytnmgoeklcmoalab
open Go.RowKit

theorem Rl.pos {n : Nat} {xs : List Int} (h : Rl n xs) : 1 ≤ xs.length := h.len.symm ▸ h.one
theorem sBelow {n : Nat} {xs ys : List Int} (h : Rl n xs) (k : Rl n ys) (ao bo : Option Addr) (ca cb : Nat) (w : World) (hx : Rd w ao xs) (hy : Rd w bo ys) : Calls Try.prog 84 #[.slice ao xs.length ca, .slice bo ys.length cb] w fun e w' => e = .returned (.bool (belowB xs ys)) ∧ Dn w w' :=
  l1Below_any ao bo ca cb xs ys w (h.len.symm ▸ h.four) (h.len.trans k.len.symm) hx hy
end Go.Proofs.Ytnmgoeklcmoalab
