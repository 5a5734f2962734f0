/-
  Lists of the call's own between two marks of memory; the laws' helpers over such lists.
-/
import Derived.Test.YtcdiicckngndcabK
namespace Go.Proofs.Ytcdiicckngndcab
open Go.RowKit

/-- v is a list of the call's own, in a block from lo on and below hi -/
structure OwnR (w : World) (lo hi : Nat) (v : Value) (xs : List Int) : Prop where
  row : w.ownsRow lo 3 1 v xs.length (xs.map (Value.int .i64))
  top : ∀ k, v.ownBlock = some k → k < hi
  size : hi ≤ w.heap.size

theorem OwnR.made {w' : World} {lo : Nat} {v : Value} {xs : List Int} (h : w'.ownsRow lo 3 1 v xs.length (xs.map (Value.int .i64))) : OwnR w' lo w'.heap.size v xs :=
  ⟨h, fun k hk => (h.lt k hk).2, Nat.le_refl _⟩
theorem OwnR.base {w : World} {lo hi : Nat} {v : Value} {xs : List Int} (h : OwnR w lo hi v xs) {k : Nat} (hk : v.ownBlock = some k) : lo ≤ k := (h.row.lt k hk).1
theorem OwnR.below {w w' : World} {lo hi B : Nat} {v : Value} {xs : List Int} (h : OwnR w lo hi v xs) (hb : Below B w w') (hB : hi ≤ B) : OwnR w' lo hi v xs := by
  refine ⟨⟨h.row.1, ?_⟩, h.top, Nat.le_trans h.size hb.size⟩
  rcases h.row.2 with h2 | ⟨g, cap, cur, rfl, h2, h3, h4⟩
  · exact .inl h2
  · exact .inr ⟨g, cap, cur, rfl, h2, (hb.block g (Nat.lt_of_lt_of_le (h.top g rfl) hB)).trans h3, h4⟩
theorem OwnR.dn {w w' : World} {lo hi : Nat} {v : Value} {xs : List Int} (h : OwnR w lo hi v xs) (hd : Dn w w') : OwnR w' lo hi v xs :=
  ⟨hd.row h.row, h.top, by rw [hd.heap]; exact h.size⟩
theorem OwnR.grown {w w' : World} {lo hi : Nat} {v : Value} {xs : List Int} {row : Option Nat} (h : OwnR w lo hi v xs) (hg : w.grownBy w' row) (hr : ∀ k, row = some k → hi ≤ k ∨ k < lo) : OwnR w' lo hi v xs := by
  refine ⟨h.row.kept hg ?_, h.top, Nat.le_trans h.size hg.size⟩
  cases hv : v.ownBlock with
  | none => exact .inl rfl
  | some k =>
    right
    intro e
    have h1 := h.top k hv
    have h2 := h.base hv
    rcases hr k e.symm with h3 | h3 <;> omega
theorem OwnR.rd {w : World} {lo hi : Nat} {v : Value} {xs : List Int} (h : OwnR w lo hi v xs) : ∃ ao cap, v = .slice ao xs.length cap ∧ Rd w ao xs := row_rd h.row

/-- a contract over lists of the call's own -/
theorem gave_own {w : World} {r : List Int} {ok : Bool} {e : Ending} {w' : World} (h : Gave w r ok e w') :
    ∃ v, e = .returned (.tuple #[v, .bool ok]) ∧ OwnR w' w.heap.size w'.heap.size v r ∧ Below w.heap.size w w' := by
  obtain ⟨v, he, ho, hb⟩ := h
  exact ⟨v, he, OwnR.made ho, hb⟩
end Go.Proofs.Ytcdiicckngndcab
