/-
  Lists of the call's own between two marks of memory; the laws' helpers over such lists.
-/
import Derived.Test.YtcdiicckngndcaaK
namespace Go.Proofs.Ytcdiicckngndcaa
open Go.RowKit

/-- v is a list of the call's own, in a block from lo on and below hi -/
structure OwnR (w : World) (lo hi : Nat) (v : Value) (xs : List Int) : Prop where
  row : w.ownsRow lo 3 1 v xs.length (xs.map (Value.int .i64))
  top : ∀ k, v.ownBlock = some k → k < hi
  size : hi ≤ w.heap.size

theorem OwnR.made {w' : World} {lo : Nat} {v : Value} {xs : List Int} (h : w'.ownsRow lo 3 1 v xs.length (xs.map (Value.int .i64))) : OwnR w' lo w'.heap.size v xs :=
  ⟨h, fun k hk => (h.lt k hk).2, Nat.le_refl _⟩
theorem OwnR.base {w : World} {lo hi : Nat} {v : Value} {xs : List Int} (h : OwnR w lo hi v xs) {k : Nat} (hk : v.ownBlock = some k) : lo ≤ k := (h.row.lt k hk).1
theorem OwnR.below {w w' : World} {lo hi B : Nat} {v : Value} {xs : List Int} (h : OwnR w lo hi v xs) (hb : Below B w w') (hB : hi ≤ B) : OwnR w' lo hi v xs := by
  refine ⟨⟨h.row.1, ?_⟩, h.top, Nat.le_trans h.size hb.size⟩
  rcases h.row.2 with h2 | ⟨g, cap, cur, rfl, h2, h3, h4⟩
  · exact .inl h2
  · exact .inr ⟨g, cap, cur, rfl, h2, (hb.block g (Nat.lt_of_lt_of_le (h.top g rfl) hB)).trans h3, h4⟩
theorem OwnR.dn {w w' : World} {lo hi : Nat} {v : Value} {xs : List Int} (h : OwnR w lo hi v xs) (hd : Dn w w') : OwnR w' lo hi v xs :=
  ⟨hd.row h.row, h.top, by rw [hd.heap]; exact h.size⟩
theorem OwnR.grown {w w' : World} {lo hi : Nat} {v : Value} {xs : List Int} {row : Option Nat} (h : OwnR w lo hi v xs) (hg : w.grownBy w' row) (hr : ∀ k, row = some k → hi ≤ k ∨ k < lo) : OwnR w' lo hi v xs := by
  refine ⟨h.row.kept hg ?_, h.top, Nat.le_trans h.size hg.size⟩
  cases hv : v.ownBlock with
  | none => exact .inl rfl
  | some k =>
    right
    intro e
    have h1 := h.top k hv
    have h2 := h.base hv
    rcases hr k e.symm with h3 | h3 <;> omega
theorem OwnR.rd {w : World} {lo hi : Nat} {v : Value} {xs : List Int} (h : OwnR w lo hi v xs) : ∃ ao cap, v = .slice ao xs.length cap ∧ Rd w ao xs := row_rd h.row

theorem toIntS_own (ao : Option Addr) (cap : Nat) (xs : List Int) (w : World) (hl : xs.length ≤ 1048576) (hr : Rd w ao xs) :
    Calls Try.prog 14 #[.slice ao xs.length cap] w fun e w' => ∃ v, e = .returned v ∧ OwnR w' w.heap.size w'.heap.size v xs ∧ Below w.heap.size w w' := by
  refine (toIntS_any ao cap xs w hl hr).mono ?_
  rintro e w' ⟨v, rfl, ho, hb⟩
  exact ⟨v, rfl, OwnR.made ho, hb⟩

theorem eqIntS_own {w : World} {lo hi lo2 hi2 : Nat} {v u : Value} {xs ys : List Int} (hl : xs.length ≤ 1048576) (hl2 : ys.length ≤ 1048576) (h : OwnR w lo hi v xs) (h2 : OwnR w lo2 hi2 u ys) :
    Calls Try.prog 16 #[v, u] w fun e w' => e = .returned (.bool (decide (xs = ys))) ∧ Dn w w' := by
  obtain ⟨ao, ca, rfl, hr⟩ := h.rd
  obtain ⟨bo, cb, rfl, hr2⟩ := h2.rd
  exact eqIntS_any ao bo ca cb xs ys w hl hl2 hr hr2

theorem markIntS_own {w : World} {lo hi : Nat} {v : Value} {xs : List Int} (k : Nat) (hk : k ≤ 1099511627776) (hl : xs.length ≤ 1048576) (h : OwnR w lo hi v xs) :
    Calls Try.prog 25 #[v, .int .i64 k] w fun e w' => e = .returned (.int .i64 ((k + xs.length : Nat) : Int)) ∧ OwnR w' lo hi v (marks k xs.length) ∧ w.grownBy w' v.ownBlock := by
  have hrow := h.row
  rcases hrow.2 with ⟨rfl, hn⟩ | ⟨g, cap, cur, rfl, h2, h3, h4⟩
  · have e0 : xs = [] := List.eq_nil_of_length_eq_zero hn
    subst e0
    refine (markIntS_none k w).mono ?_
    rintro e w' ⟨rfl, rfl⟩
    exact ⟨rfl, h, World.grownBy.refl _ _⟩
  · refine (markIntS_some lo g cap xs.length k _ w hl hk hrow).mono ?_
    rintro e w' ⟨rfl, ho, hg⟩
    refine ⟨rfl, ⟨?_, h.top, Nat.le_trans h.size hg.size⟩, hg⟩
    rw [marks_len]
    exact ho

theorem heldIntS_own {w : World} {lo hi : Nat} {v : Value} (k n : Nat) (hk : k ≤ 1099511627776) (hl : n ≤ 1048576) (h : OwnR w lo hi v (marks k n)) :
    Calls Try.prog 26 #[v, .int .i64 k] w fun e w' => e = .returned (.int .i64 ((k + n : Nat) : Int)) ∧ w' = w := by
  obtain ⟨ao, ca, rfl, hr⟩ := h.rd
  have := heldIntS_any ao n ca k w hl hk hr
  rw [marks_len]
  exact this

/-- a contract over lists of the call's own -/
theorem gave_own {w : World} {r : List Int} {ok : Bool} {e : Ending} {w' : World} (h : Gave w r ok e w') :
    ∃ v, e = .returned (.tuple #[v, .bool ok]) ∧ OwnR w' w.heap.size w'.heap.size v r ∧ Below w.heap.size w w' := by
  obtain ⟨v, he, ho, hb⟩ := h
  exact ⟨v, he, OwnR.made ho, hb⟩
end Go.Proofs.Ytcdiicckngndcaa
