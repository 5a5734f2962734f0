/-
  Lists of rows of two numbers: contracts of eqIntSS, markIntSS, heldIntSS (the laws' helpers).
-/
import Derived.Test.YtnmgoeklcmoalabEA
import Derived.BigQuiet
namespace Go.Proofs.Ytnmgoeklcmoalab
open Go.RowKit

/-- a row of two numbers in a block of its own -/
abbrev sl2 (g : Nat) : Value := .slice (some ⟨g, 0, none⟩) 2 2
theorem own_same {w w' : World} {lo n size : Nat} {e : TypeId} {v : Value} {us : List Value} (h : w.ownsRow lo e size v n us) (hb : ∀ k, v.ownBlock = some k → w'.heap[k]? = w.heap[k]?) : w'.ownsRow lo e size v n us := by
  refine ⟨h.1, ?_⟩
  rcases h.2 with h2 | ⟨g, cap, cur, rfl, h2, h3, h4⟩
  · exact .inl h2
  · exact .inr ⟨g, cap, cur, rfl, h2, (hb g rfl).trans h3, h4⟩
theorem OwnR.same {w w' : World} {lo hi : Nat} {v : Value} {xs : List Int} (h : OwnR w lo hi v xs) (hs : hi ≤ w'.heap.size) (hb : ∀ k, v.ownBlock = some k → w'.heap[k]? = w.heap[k]?) : OwnR w' lo hi v xs :=
  ⟨own_same h.row hb, h.top, hs⟩
/-- v is a list of n rows of two numbers, all in blocks of their own from lo on and below hi -/
structure Own2 (w : World) (lo hi : Nat) (v : Value) (n : Nat) (r : Nat → List Int) (gs : Nat → Nat) : Prop where
  row : w.ownsRow lo 23 1 v n ((List.range n).map fun k => sl2 (gs k))
  top : ∀ k, v.ownBlock = some k → k < hi
  size : hi ≤ w.heap.size
  apart : ∀ i j, i < j → j < n → gs i ≠ gs j
  rows : ∀ j, j < n → (r j).length = 2 ∧ OwnR w lo hi (sl2 (gs j)) (r j)
theorem Own2.same {w w' : World} {lo hi n : Nat} {v : Value} {r : Nat → List Int} {gs : Nat → Nat} (h : Own2 w lo hi v n r gs) (hs : hi ≤ w'.heap.size) (hb : ∀ k, lo ≤ k → k < hi → w'.heap[k]? = w.heap[k]?) : Own2 w' lo hi v n r gs :=
  ⟨own_same h.row fun k hk => hb k (h.row.lt k hk).1 (h.top k hk), h.top, hs, h.apart, fun j hj => ⟨(h.rows j hj).1, (h.rows j hj).2.same hs fun k hk => hb k ((h.rows j hj).2.base hk) ((h.rows j hj).2.top k hk)⟩⟩
theorem Own2.below {w w' : World} {lo hi n B : Nat} {v : Value} {r : Nat → List Int} {gs : Nat → Nat} (h : Own2 w lo hi v n r gs) (hb : Below B w w') (hB : hi ≤ B) : Own2 w' lo hi v n r gs :=
  h.same (Nat.le_trans h.size hb.size) fun k _ h2 => hb.block k (by omega)
theorem Own2.dn {w w' : World} {lo hi n : Nat} {v : Value} {r : Nat → List Int} {gs : Nat → Nat} (h : Own2 w lo hi v n r gs) (hd : Dn w w') : Own2 w' lo hi v n r gs :=
  h.same (by rw [hd.heap]; exact h.size) fun k _ _ => by rw [hd.heap]
theorem Own2.grown {w w' : World} {lo hi n : Nat} {v : Value} {r : Nat → List Int} {gs : Nat → Nat} {row : Option Nat} (h : Own2 w lo hi v n r gs) (hg : w.grownBy w' row) (hr : ∀ k, row = some k → hi ≤ k ∨ k < lo) : Own2 w' lo hi v n r gs :=
  h.same (Nat.le_trans h.size hg.size) fun k h1 h2 => hg.block k (Nat.lt_of_lt_of_le h2 h.size) (by
    intro e
    rcases hr k e.symm with h3 | h3 <;> omega)
/-- what the list reads as, cell by cell -/
theorem Own2.rd {w : World} {lo hi n : Nat} {v : Value} {r : Nat → List Int} {gs : Nat → Nat} (h : Own2 w lo hi v n r gs) : ∃ ao cap, v = .slice ao n cap ∧ ∀ k, k < n → ∃ b, ao = some ⟨b, 0, none⟩ ∧ w.cell? ⟨b, k, none⟩ = some (sl2 (gs k)) := by
  rcases h.row.2 with ⟨rfl, h2⟩ | ⟨g, cap, cur, rfl, _⟩
  · subst h2
    exact ⟨none, 0, rfl, fun k hk => absurd hk (by omega)⟩
  · refine ⟨_, cap, rfl, fun k hk => ⟨g, rfl, ?_⟩⟩
    rw [h.row.cellAt k (by omega), List.getElem?_map, List.getElem?_range hk]
    rfl

/-- only blocks from lo on and below hi may have changed -/
structure Only (lo hi : Nat) (w w' : World) : Prop where
  below : Below lo w w'
  above : ∀ b, hi ≤ b → b < w.heap.size → w'.heap[b]? = w.heap[b]?
theorem Only.refl {lo hi : Nat} {w : World} : Only lo hi w w := ⟨Below.refl _ _, fun _ _ _ => rfl⟩
theorem Only.grown {lo hi : Nat} {w w1 w2 : World} {g : Nat} (h : Only lo hi w w1) (hg : w1.grownBy w2 (some g)) (h1 : lo ≤ g) (h2 : g < hi) (hs : lo ≤ w1.heap.size) : Only lo hi w w2 :=
  ⟨h.below.grown hg hs (fun q hq => by cases hq; exact h1), fun b hb hlt => (hg.block b (Nat.lt_of_lt_of_le hlt h.below.size) (by simp; omega)).trans (h.above b hb hlt)⟩
theorem rows_apart2 {w : World} {b1 b2 s1 s2 n1 m1 n2 g gp c1 c2 : Nat} {u1 u2 : List Value} (h : w.ownsRow b1 3 s1 (.slice (some ⟨g, 0, none⟩) n1 c1) m1 u1) (k : w.ownsRow b2 23 s2 (.slice (some ⟨gp, 0, none⟩) n2 c2) n2 u2) : g ≠ gp := by
  rcases h.2 with ⟨h2, _⟩ | ⟨g', cap', cur', he, _, hh, _⟩
  · cases h2
  · cases he
    rcases k.2 with ⟨k2, _⟩ | ⟨gp', cap2, cur2, ke, _, kh, _⟩
    · cases k2
    · cases ke
      rintro rfl
      rw [hh] at kh
      simp at kh

end Go.Proofs.Ytnmgoeklcmoalab
