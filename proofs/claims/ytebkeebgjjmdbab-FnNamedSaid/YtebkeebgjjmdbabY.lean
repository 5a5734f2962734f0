/-
  Contracts of the model's RelEnds and of the program's RelEnds; for lists of at most 2^20 numbers.
-/
import Derived.Sort.QuietIn
import Derived.Test.YtebkeebgjjmdbabX
namespace Go.Proofs.Ytebkeebgjjmdbab
open Go.RowKit Go.Shelf
attribute [local go_sem] Oper.semAt_some

/-- the ends of a relation -/
def startsOf (xs : List Int) : Int := endsS xs.length (pairsOf xs)
def targetsOf (xs : List Int) : Int := endsT xs.length (pairsOf xs)

theorem below_drewN' {B : Nat} {a w : World} (h : Below B a w) (n : Nat) : Below B a (w.drewN n) := h.trans ⟨rfl, rfl, rfl, Nat.le_refl _, fun _ _ => rfl⟩

theorem ends_post (W : World) (b1 b2 b3 : Nat) (t : TypeId) (B : Nat) (v1 v2 : Int) {u1 u2 : Value} {xs : List Int} (h12 : b1 ≠ b2) (h13 : b1 ≠ b3) (h23 : b2 ≠ b3) (hB1 : B ≤ b1) (hB2 : B ≤ b2)
    (h1 : Boxed W b1 t u1) (h2 : Boxed W b2 t u2) (h3 : RelAt W b3 xs) :
    KeepsOthers W (((W.setCell ⟨b1, 0, none⟩ (.int .i64 v1)).setCell ⟨b2, 0, none⟩ (.int .i64 v2)).drew) ∧ KeepB b3 W (((W.setCell ⟨b1, 0, none⟩ (.int .i64 v1)).setCell ⟨b2, 0, none⟩ (.int .i64 v2)).drew) ∧
      Boxed (((W.setCell ⟨b1, 0, none⟩ (.int .i64 v1)).setCell ⟨b2, 0, none⟩ (.int .i64 v2)).drew) b1 t (.int .i64 v1) ∧ Boxed (((W.setCell ⟨b1, 0, none⟩ (.int .i64 v1)).setCell ⟨b2, 0, none⟩ (.int .i64 v2)).drew) b2 t (.int .i64 v2) ∧
      RelAt (((W.setCell ⟨b1, 0, none⟩ (.int .i64 v1)).setCell ⟨b2, 0, none⟩ (.int .i64 v2)).drew) b3 xs ∧ Below B W (((W.setCell ⟨b1, 0, none⟩ (.int .i64 v1)).setCell ⟨b2, 0, none⟩ (.int .i64 v2)).drew) := by
  have k3 : ((W.setCell ⟨b1, 0, none⟩ (.int .i64 v1)).setCell ⟨b2, 0, none⟩ (.int .i64 v2)).heap[b3]? = W.heap[b3]? :=
    (Below.heap_setCell _ ⟨b2, 0, none⟩ _ b3 (fun e => h23 e.symm)).trans (Below.heap_setCell _ ⟨b1, 0, none⟩ _ b3 (fun e => h13 e.symm))
  have m2 : Boxed (W.setCell ⟨b1, 0, none⟩ (.int .i64 v1)) b2 t u2 := h2.other (fun e => h12 e.symm) _
  refine ⟨((KeepsOthers.setCell _ _ _).trans (KeepsOthers.setCell _ _ _)).trans (KeepsOthers.drew _), k3, ?_, ?_, Eq.trans k3 h3, (((Below.refl B W).setCell (p := ⟨b1, 0, none⟩) hB1 _).setCell (p := ⟨b2, 0, none⟩) hB2 _).drew⟩
  · exact (h1.set (.int .i64 v1)).other h12 _
  · exact m2.set (.int .i64 v2)

end Go.Proofs.Ytebkeebgjjmdbab
