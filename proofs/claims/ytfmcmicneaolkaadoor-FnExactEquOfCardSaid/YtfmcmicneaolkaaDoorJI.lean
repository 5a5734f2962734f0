/-
  The points of a relation's pairs linked: linkedBy.
-/
import Derived.Test.YtfmcmicneaolkaaDoorJC
import Derived.Test.YtfmcmicneaolkaaDoorAD
namespace Go.Proofs.YtfmcmicneaolkaaDoor
open Go.RowKit Go.Shelf
attribute [local go_sem] Oper.semAt_some

theorem LinkW.drew {w : World} {B n : Nat} {ps : List Nat} (h : LinkW w B n ps) : LinkW w.drew B n ps := ⟨h.row, h.node⟩
theorem linkW_ownFrom {β : Type} {B n C : Nat} (f : β → List Nat) (h1 : 1 ≤ n) (hC : B + 1 + n ≤ C) : OwnFrom C (fun (s : β) W => LinkW W B n (f s)) := by
  intro s W W' row hs hg hr
  have hlt := hs.lt (n - 1) (by omega)
  refine hs.keep fun k hk1 hk2 => hg.block k (by omega) ?_
  intro e
  have := (hr k e.symm).1
  omega


/-- the forest of a relation's pairs -/
def linkS (xs : List Int) : List Nat := linkAcc (pairsOf xs)
theorem linkS_fo {n : Nat} {xs : List Int} (h : Rl n xs) : Fo (linkS xs) := Fo.acc (by rw [h.len]; exact h.four) _
end Go.Proofs.YtfmcmicneaolkaaDoor
