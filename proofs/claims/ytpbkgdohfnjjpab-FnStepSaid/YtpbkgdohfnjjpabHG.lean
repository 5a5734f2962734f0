/-
  The model's kinds of relations, letter by letter.
-/
import Derived.Test.YtpbkgdohfnjjpabEF
import Derived.Test.YtpbkgdohfnjjpabHA
namespace Go.Proofs.Ytpbkgdohfnjjpab
open Go.RowKit

theorem Rl.pos {n : Nat} {xs : List Int} (h : Rl n xs) : 1 ≤ xs.length := h.len.symm ▸ h.one
theorem sSame {n : Nat} {xs : List Int} (h : Rl n xs) (w : World) : Calls Try.prog 46 #[.int .i64 xs.length] w (GaveL w (sameL xs.length)) := by
  refine (l1Same_any xs.length w (h.len.symm ▸ h.one) (h.len.symm ▸ h.four)).mono ?_
  rintro e w' ⟨v, rfl, ho, hb⟩
  exact ⟨v, rfl, by rw [sameL_len]; exact ho, hb⟩
theorem sBelow {n : Nat} {xs ys : List Int} (h : Rl n xs) (k : Rl n ys) (ao bo : Option Addr) (ca cb : Nat) (w : World) (hx : Rd w ao xs) (hy : Rd w bo ys) : Calls Try.prog 89 #[.slice ao xs.length ca, .slice bo ys.length cb] w fun e w' => e = .returned (.bool (belowB xs ys)) ∧ Dn w w' :=
  l1Below_any ao bo ca cb xs ys w (h.len.symm ▸ h.four) (h.len.trans k.len.symm) hx hy
theorem sEqual {n : Nat} {xs ys : List Int} (h : Rl n xs) (k : Rl n ys) (ao bo : Option Addr) (ca cb : Nat) (w : World) (hx : Rd w ao xs) (hy : Rd w bo ys) : Calls Try.prog 51 #[.slice ao xs.length ca, .slice bo ys.length cb] w fun e w' => e = .returned (.bool (decide (xs = ys))) ∧ Dn w w' :=
  l2Equal_any ao bo ca cb xs ys w (by have := h.len; have := h.four; omega) (by have := k.len; have := k.four; omega) hx hy

end Go.Proofs.Ytpbkgdohfnjjpab
