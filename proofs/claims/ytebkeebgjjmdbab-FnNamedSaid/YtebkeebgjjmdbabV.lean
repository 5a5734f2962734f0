/-
  Contracts of the program's turned and RelTurned, and of the model's l1Turned and RelTurned; for lists of at most 2^20 numbers.
-/
import Derived.Test.YtebkeebgjjmdbabU
namespace Go.Proofs.Ytebkeebgjjmdbab
open Go.RowKit Go.Shelf
attribute [local go_sem] Oper.semAt_some

theorem relAt_own {α : Type} (b : Nat) (f : α → List Int) : Own (fun (s : α) W => RelAt W b (f s)) := by
  intro s W W' row hs hg hr
  refine (hg.block b hs.lt ?_).trans hs
  intro e
  obtain ⟨o, ho, hc⟩ := hr b e.symm
  rw [hs] at ho
  simp only [Option.some.injEq] at ho
  rw [← ho] at hc
  exact absurd hc (by simp [Obj.isCells])

/-- pairs turned, one by one -/
def turnAcc (n : Nat) (pre : List (Fin n × Fin n)) : List Int := pre.foldl (fun zs p => addPair zs p.2.val p.1.val) (List.replicate n 0)
theorem turnAcc_snoc (n : Nat) (pre : List (Fin n × Fin n)) (p : Fin n × Fin n) : turnAcc n (pre ++ [p]) = addPair (turnAcc n pre) p.2.val p.1.val := by
  unfold turnAcc
  rw [List.foldl_append]
  rfl
theorem turnAcc_len (n : Nat) (pre : List (Fin n × Fin n)) : (turnAcc n pre).length = n := by
  have h : ∀ (l : List (Fin n × Fin n)) (zs : List Int), (l.foldl (fun zs p => addPair zs p.2.val p.1.val) zs).length = zs.length := by
    intro l
    induction l with
    | nil => intro zs; rfl
    | cons p r ih => intro zs; rw [List.foldl_cons, ih, addPair_len]
  unfold turnAcc
  rw [h]
  simp

theorem zero_new (w : World) (n : Nat) : RelAt (w.alloc (.cells #[.int .i64 n, .int .i64 0, .int .i64 0, .int .i64 0, .int .i64 0] 39)) w.heap.size (List.replicate n 0) := by
  have h := RelAt.new w (List.replicate n 0)
  have hz : ∀ i, rowAt (List.replicate n 0) i = 0 := by
    intro i
    unfold rowAt
    rw [List.getD_eq_getElem?_getD, List.getElem?_replicate]
    split <;> rfl
  rw [hz, hz, hz, hz, List.length_replicate] at h
  exact h

theorem put5_all (w : World) (b : Nat) (v0 v1 v2 v3 v4 : Value) :
    KeepsOthers w (((((w.setCell ⟨b, 0, none⟩ v0).setCell ⟨b, 1, none⟩ v1).setCell ⟨b, 2, none⟩ v2).setCell ⟨b, 3, none⟩ v3).setCell ⟨b, 4, none⟩ v4) ∧
    (∀ B, B ≠ b → (((((w.setCell ⟨b, 0, none⟩ v0).setCell ⟨b, 1, none⟩ v1).setCell ⟨b, 2, none⟩ v2).setCell ⟨b, 3, none⟩ v3).setCell ⟨b, 4, none⟩ v4).heap[B]? = w.heap[B]?) ∧
    (∀ B, B ≤ b → Below B w (((((w.setCell ⟨b, 0, none⟩ v0).setCell ⟨b, 1, none⟩ v1).setCell ⟨b, 2, none⟩ v2).setCell ⟨b, 3, none⟩ v3).setCell ⟨b, 4, none⟩ v4)) := by
  refine ⟨((((KeepsOthers.setCell _ _ _).trans (KeepsOthers.setCell _ _ _)).trans (KeepsOthers.setCell _ _ _)).trans (KeepsOthers.setCell _ _ _)).trans (KeepsOthers.setCell _ _ _), ?_, ?_⟩
  · intro B hB
    exact (Below.heap_setCell _ ⟨b, 4, none⟩ _ B hB).trans ((Below.heap_setCell _ ⟨b, 3, none⟩ _ B hB).trans ((Below.heap_setCell _ ⟨b, 2, none⟩ _ B hB).trans ((Below.heap_setCell _ ⟨b, 1, none⟩ _ B hB).trans (Below.heap_setCell _ ⟨b, 0, none⟩ _ B hB))))
  · intro B hB
    exact (((((Below.refl B w).setCell (p := ⟨b, 0, none⟩) hB v0).setCell (p := ⟨b, 1, none⟩) hB v1).setCell (p := ⟨b, 2, none⟩) hB v2).setCell (p := ⟨b, 3, none⟩) hB v3).setCell (p := ⟨b, 4, none⟩) hB v4
theorem keepsO_below {w w' : World} (h : Below w.heap.size w w') : KeepsOthers w w' :=
  ⟨h.size, fun k _ hk _ => (h.block k (Array.getElem?_eq_some_iff.1 hk).1).trans hk⟩

end Go.Proofs.Ytebkeebgjjmdbab
