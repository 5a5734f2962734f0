/-
  The program's betweenDifferent, inBothDirections and the tests of the kinds.
-/
import Derived.Test.YtpbkgdohfnjjpabEF
import Derived.Test.YtpbkgdohfnjjpabHA
import Derived.Deep.RegionHeld3
namespace Go.Proofs.Ytpbkgdohfnjjpab
open Go.RowKit

theorem sameR {n : Nat} {xs : List Int} (h : Rl n xs) (w : World) : Calls Try.prog 76 #[.int .i64 xs.length] w fun e w' => e = .returned (relOf (sameL xs.length)) ∧ Below w.heap.size w w' := sameOn_any xs.length w (h.len.symm ▸ h.one) (h.len.symm ▸ h.four)
theorem bothR {n : Nat} {xs ys : List Int} (h : Rl n xs) (k : Rl n ys) (w : World) : Calls Try.prog 90 #[relOf xs, relOf ys] w fun e w' => e = .returned (relOf (bothL xs ys)) ∧ Below w.heap.size w w' := both_any xs ys w (h.len.symm ▸ h.four) (h.len.trans k.len.symm)
theorem eitherR' {n : Nat} {xs ys : List Int} (h : Rl n xs) (k : Rl n ys) (w : World) : Calls Try.prog 99 #[relOf xs, relOf ys] w fun e w' => e = .returned (relOf (eitherL xs ys)) ∧ Below w.heap.size w w' := either_any xs ys w (h.len.symm ▸ h.four) (h.len.trans k.len.symm)
theorem belowR {n : Nat} {xs ys : List Int} (h : Rl n xs) (k : Rl n ys) (w : World) : Calls Try.prog 73 #[relOf xs, relOf ys] w fun e w' => e = .returned (.bool (belowB xs ys)) ∧ Below w.heap.size w w' := below_any xs ys w (h.len.symm ▸ h).ok (k.len.symm ▸ k).ok (h.len.trans k.len.symm)

end Go.Proofs.Ytpbkgdohfnjjpab
