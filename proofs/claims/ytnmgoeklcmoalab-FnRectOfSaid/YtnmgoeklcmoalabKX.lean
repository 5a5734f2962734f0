/-
  What a sequence keeps that writes one block and yields: all cells lie as they lay, but those of a block and of a list's own block.
-/
import Derived.Test.YtnmgoeklcmoalabDD
import Derived.Laws.EntriesVeiled
namespace Go.Proofs.Ytnmgoeklcmoalab
open Go.RowKit Go.Shelf

/-- all cells lie as they lay, but those of block X and of a list's own block -/
def KeepX (X : Nat) (v : Value) (W W' : World) : Prop :=
  W.heap.size ≤ W'.heap.size ∧ ∀ b o, b ≠ X → some b ≠ v.ownBlock → W.heap[b]? = some o → o.isCells = true → W'.heap[b]? = some o
theorem KeepX.refl (X : Nat) (v : Value) (W : World) : KeepX X v W W := ⟨Nat.le_refl _, fun _ _ _ _ h _ => h⟩
theorem KeepX.trans {X : Nat} {v : Value} {A B C : World} (h : KeepX X v A B) (k : KeepX X v B C) : KeepX X v A C :=
  ⟨Nat.le_trans h.1 k.1, fun b _ hX hv ho hc => k.2 b _ hX hv (h.2 b _ hX hv ho hc) hc⟩
theorem KeepX.below {X : Nat} {v : Value} {A B : World} (h : Below A.heap.size A B) : KeepX X v A B :=
  ⟨h.size, fun b _ _ _ ho _ => (h.block b (Array.getElem?_eq_some_iff.1 ho).1).trans ho⟩
theorem KeepX.drew {X : Nat} {v : Value} (A : World) : KeepX X v A A.drew := ⟨Nat.le_refl _, fun _ _ _ _ h _ => h⟩
theorem keep_row {X : Nat} {u v : Value} {A B : World} {base : Nat} {e : TypeId} {n : Nat} {us : List Value} (h : KeepX X u A B) (ho : A.ownsRow base e 1 v n us) (hX : ∀ q, v.ownBlock = some q → q ≠ X) (hv : ∀ q, v.ownBlock = some q → some q ≠ u.ownBlock) :
    B.ownsRow base e 1 v n us := by
  refine ⟨ho.1, ?_⟩
  rcases ho.2 with h2 | ⟨g, cap, cur, rfl, hb, hg, hr⟩
  · exact .inl h2
  · exact .inr ⟨g, cap, cur, rfl, hb, h.2 g _ (hX g rfl) (hv g rfl) hg rfl, hr⟩
theorem keepX_nil {X : Nat} {v : Value} {A B : World} (h : KeepX X (.slice none 0 0) A B) : KeepX X v A B := ⟨h.1, fun b _ hX _ ho hc => h.2 b _ hX (by simp [Value.ownBlock]) ho hc⟩
theorem below_put {B l : Nat} {W : World} (o : Obj) (h : B ≤ l) : Below B W (W.putObj l o) :=
  ⟨rfl, rfl, rfl, by simp, fun k hk => World.putObj_heap_other (by omega)⟩
theorem keepX_put {X l : Nat} {v : Value} {W : World} {o : Obj} (o' : Obj) (hl : W.heap[l]? = some o) (ho : o.isCells = false) : KeepX X v W (W.putObj l o') :=
  ⟨by simp, fun b o2 _ _ hb hc => by
    by_cases e : b = l
    · subst e
      rw [hl] at hb
      cases hb
      rw [ho] at hc
      cases hc
    · exact (World.putObj_heap_other e).trans hb⟩

theorem keepX_set (X : Nat) (u : Value) (W : World) (v : Value) : KeepX X u W (W.setCell ⟨X, 0, none⟩ v) :=
  ⟨(KeepsOthers.setCell W ⟨X, 0, none⟩ v).size, fun b _ hX _ hb _ => (Below.heap_setCell W ⟨X, 0, none⟩ v b hX).trans hb⟩
end Go.Proofs.Ytnmgoeklcmoalab
