/-
  Residuals: the program's leftResidual, rightResidual, CompLeft, CompRight, and the model's.
-/
import Derived.Test.YtcdiicckngndcabED
namespace Go.Proofs.Ytcdiicckngndcab
open Go.RowKit

theorem turnedR {n : Nat} {xs : List Int} (h : Rl n xs) (w : World) : Calls Try.prog 50 #[relOf xs] w fun e w' => e = .returned (relOf (turnL xs)) ∧ Below w.heap.size w w' := turned_any xs w (h.len.symm ▸ h.one) (h.len.symm ▸ h.four)
/-! the model's -/
/-- a call of the model's that gives a list of its own -/
def GaveL (w : World) (r : List Int) (e : Ending) (w' : World) : Prop :=
  ∃ v, e = .returned v ∧ w'.ownsRow w.heap.size 3 1 v r.length (r.map (Value.int .i64)) ∧ Below w.heap.size w w'
theorem sTurn {n : Nat} {xs : List Int} (h : Rl n xs) (ao : Option Addr) (ca : Nat) (w : World) (hx : Rd w ao xs) : Calls Try.prog 56 #[.slice ao xs.length ca] w (GaveL w (turnL xs)) := by
  refine (l1Turned_any ao ca xs w h.ok hx).mono ?_
  rintro e w' ⟨v, rfl, ho, hb⟩
  exact ⟨v, rfl, by rw [h.turn.len, ← h.len]; exact ho, hb⟩
theorem sComp {n : Nat} {xs ys : List Int} (h : Rl n xs) (k : Rl n ys) (ao bo : Option Addr) (ca cb : Nat) (w : World) (hx : Rd w ao xs) (hy : Rd w bo ys) : Calls Try.prog 103 #[.slice ao xs.length ca, .slice bo ys.length cb] w (GaveL w (compL xs ys)) := by
  refine (l2Comp_any ao bo ca cb xs ys w (h.len.symm ▸ h.four) (k.len.symm ▸ k.four) h.in16 hx hy).mono ?_
  rintro e w' ⟨v, rfl, ho, hb⟩
  exact ⟨v, rfl, by rw [compL_len]; exact ho, hb⟩
theorem GaveL.form {w : World} {r : List Int} {v : Value} {w' : World} (ho : w'.ownsRow w.heap.size 3 1 v r.length (r.map (Value.int .i64))) (hn : 1 ≤ r.length) : ∃ g cap, v = .slice (some ⟨g, 0, none⟩) r.length cap ∧ w.heap.size ≤ g ∧ g < w'.heap.size ∧ Rd w' (some ⟨g, 0, none⟩) r := by
  obtain ⟨g, cap, rfl, h1, h2⟩ := own_form ho hn
  exact ⟨g, cap, rfl, h1, h2, rd_own ho rfl⟩

end Go.Proofs.Ytcdiicckngndcab
