/-
  The model's kinds of relations, letter by letter.
-/
import Derived.Test.YtbblfmknohaioaaEF
import Derived.Test.YtbblfmknohaioaaHA
namespace Go.Proofs.Ytbblfmknohaioaa
open Go.RowKit

theorem Rl.pos {n : Nat} {xs : List Int} (h : Rl n xs) : 1 ≤ xs.length := h.len.symm ▸ h.one
theorem sBelow {n : Nat} {xs ys : List Int} (h : Rl n xs) (k : Rl n ys) (ao bo : Option Addr) (ca cb : Nat) (w : World) (hx : Rd w ao xs) (hy : Rd w bo ys) : Calls Try.prog 67 #[.slice ao xs.length ca, .slice bo ys.length cb] w fun e w' => e = .returned (.bool (belowB xs ys)) ∧ Dn w w' :=
  l1Below_any ao bo ca cb xs ys w (h.len.symm ▸ h.four) (h.len.trans k.len.symm) hx hy
end Go.Proofs.Ytbblfmknohaioaa
