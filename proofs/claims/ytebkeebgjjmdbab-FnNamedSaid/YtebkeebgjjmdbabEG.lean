/-
  The program's list of powers.
-/
import Derived.Test.YtebkeebgjjmdbabEB
import Derived.Test.YtebkeebgjjmdbabEF
import Derived.WalkMore
import Derived.Deep.CutRange
namespace Go.Proofs.Ytebkeebgjjmdbab
open Go.RowKit

theorem Try.info39 : (Try.prog.info? 39).map (fun i => (i.zero, i.size, i.bytes)) = some (some (rel5 0 0 0 0 0), 5, 40) := by kernel_rfl

/-- a relation's five cells -/
def relC (xs : List Int) : List Value := [.int .i64 xs.length, .int .i64 (rowAt xs 0), .int .i64 (rowAt xs 1), .int .i64 (rowAt xs 2), .int .i64 (rowAt xs 3)]
/-- the cells of the first m powers -/
def powC (xs : List Int) : Nat → List Value
  | 0 => []
  | m + 1 => powC xs m ++ relC (powL xs m)
theorem powC_len (xs : List Int) : ∀ m, (powC xs m).length = m * 5
  | 0 => rfl
  | m + 1 => by
    unfold powC
    rw [List.length_append, powC_len xs m]
    simp [relC]
    omega
theorem powC_at (xs : List Int) : ∀ (m k : Nat), k < m → ∀ j, j < 5 → (powC xs m)[k * 5 + j]? = (relC (powL xs k))[j]?
  | 0, k, h, j, hj => absurd h (by omega)
  | m + 1, k, h, j, hj => by
    unfold powC
    by_cases e : k < m
    · rw [List.getElem?_append_left (by rw [powC_len]; omega)]
      exact powC_at xs m k e j hj
    · obtain rfl : k = m := by omega
      rw [List.getElem?_append_right (by rw [powC_len]; omega), powC_len]
      congr 1
      omega
def lenOf : Value → Nat
  | .slice _ n _ => n
  | _ => 0

/-- the cells of the power k, in a row of m -/
theorem pow_cells {w : World} {base g cap m : Nat} {xs : List Int} (h : w.ownsRow base 39 5 (.slice (some ⟨g, 0, none⟩) m cap) m (powC xs m)) (k : Nat) (hk : k < m) :
    w.cell? ⟨g, k * 5, none⟩ = some (.int .i64 (powL xs k).length) ∧ w.cell? ⟨g, k * 5 + 1, none⟩ = some (.int .i64 (rowAt (powL xs k) 0)) ∧ w.cell? ⟨g, k * 5 + 2, none⟩ = some (.int .i64 (rowAt (powL xs k) 1)) ∧
    w.cell? ⟨g, k * 5 + 3, none⟩ = some (.int .i64 (rowAt (powL xs k) 2)) ∧ w.cell? ⟨g, k * 5 + 4, none⟩ = some (.int .i64 (rowAt (powL xs k) 3)) := by
  refine ⟨?_, ?_, ?_, ?_, ?_⟩
  · exact (h.cellAt (k * 5) (by omega)).trans (powC_at xs m k hk 0 (by omega))
  · exact (h.cellAt (k * 5 + 1) (by omega)).trans (powC_at xs m k hk 1 (by omega))
  · exact (h.cellAt (k * 5 + 2) (by omega)).trans (powC_at xs m k hk 2 (by omega))
  · exact (h.cellAt (k * 5 + 3) (by omega)).trans (powC_at xs m k hk 3 (by omega))
  · exact (h.cellAt (k * 5 + 4) (by omega)).trans (powC_at xs m k hk 4 (by omega))

theorem pow_form {w : World} {lo n : Nat} {v : Value} {us : List Value} (h : w.ownsRow lo 39 5 v n us) (hn : 1 ≤ n) : ∃ g cap, v = .slice (some ⟨g, 0, none⟩) n cap ∧ lo ≤ g ∧ g < w.heap.size := by
  rcases h.2 with ⟨_, h2⟩ | ⟨g, cap, cur, rfl, _⟩
  · omega
  · exact ⟨g, cap, rfl, (h.lt g rfl).1, (h.lt g rfl).2⟩
theorem own_keepR {w w' : World} {e : TypeId} {size lo B n : Nat} {v : Value} {us : List Value} (h : w.ownsRow lo e size v n us) (hb : Below B w w') (hB : ∀ k, v.ownBlock = some k → k < B) : w'.ownsRow lo e size v n us := by
  refine ⟨h.1, ?_⟩
  rcases h.2 with h2 | ⟨g, cap, cur, rfl, h2, h3, h4⟩
  · exact .inl h2
  · exact .inr ⟨g, cap, cur, rfl, h2, (hb.block g (hB g rfl)).trans h3, h4⟩

theorem cell_five_new (w : World) (a b c d e : Value) (t : TypeId) : ∀ j u, [a, b, c, d, e][j]? = some u → (w.alloc (.cells #[a, b, c, d, e] t)).cell? ((⟨w.heap.size, 0, none⟩ : Addr).add j) = some u := by
  intro j u hj
  match j, hj with
  | 0, hj | 1, hj | 2, hj | 3, hj | 4, hj =>
    simp at hj
    subst hj
    simp [Addr.add]
  | j + 5, hj => simp at hj
/-- the first m powers are all different -/
def NewTo (xs : List Int) (m : Nat) : Prop := ∀ i j, i < j → j < m → powL xs i ≠ powL xs j

end Go.Proofs.Ytebkeebgjjmdbab
