/-
  The program's powers from a place on, together; CompReach and CompStar; for lists of at most 2^20 numbers.
-/
import Derived.Test.YtonmjcfkanldcaaEH
namespace Go.Proofs.Ytonmjcfkanldcaa
open Go.RowKit

theorem eitherR {n : Nat} {xs ys : List Int} (h : Rl n xs) (k : Rl n ys) (w : World) : Calls Try.prog 68 #[relOf xs, relOf ys] w fun e w' => e = .returned (relOf (eitherL xs ys)) ∧ Below w.heap.size w w' := either_any xs ys w (h.len.symm ▸ h.four) (h.len.trans k.len.symm)

theorem own_otherR {w : World} {e : TypeId} {size lo n g cap : Nat} {us : List Value} (h : w.ownsRow lo e size (.slice (some ⟨g, 0, none⟩) n cap) n us) {p : Addr} (hp : g ≠ p.block) (v : Value) : (w.setCell p v).ownsRow lo e size (.slice (some ⟨g, 0, none⟩) n cap) n us := by
  refine ⟨h.1, ?_⟩
  rcases h.2 with h2 | ⟨g', cap', cur, he, h2, h3, h4⟩
  · exact .inl h2
  · cases he
    exact .inr ⟨g, cap, cur, rfl, h2, (Below.heap_setCell w p v g hp).trans h3, h4⟩

end Go.Proofs.Ytonmjcfkanldcaa
