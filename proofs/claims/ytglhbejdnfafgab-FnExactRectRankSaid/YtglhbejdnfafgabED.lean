/-
  The program's composition: relation.then, CompOf; for relations of at most 4 points.
-/
import Derived.Test.YtglhbejdnfafgabEA
import Derived.Test.YtglhbejdnfafgabAD
namespace Go.Proofs.Ytglhbejdnfafgab
open Go.RowKit Go.Shelf
attribute [local go_sem] Oper.semAt_some

theorem below_five (w : World) (o p q r s : Obj) : Below w.heap.size w (((((w.alloc o).alloc p).alloc q).alloc r).alloc s) := (below_four w o p q r).alloc (by simp; omega) _


theorem two_rl {xs ys : List Int} (h : twoIn xs ys = true) : Rl xs.length xs ∧ Rl xs.length ys := by
  obtain ⟨h1, h2, h3⟩ := twoIn_yes h
  exact ⟨Rl.of h1, h3 ▸ Rl.of h2⟩

end Go.Proofs.Ytglhbejdnfafgab
