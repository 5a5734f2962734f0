/-
  A region that draws its order, beside leavers: each of the orders.
-/
import Derived.Test.YtgmjdkhegbdbjaaBZC
import Derived.Orders
import Derived.Conc.CompanyDraw
namespace Go.Br
open Go Go.Conc Go.RowKit
set_option linter.unusedVariables false
set_option linter.unusedSimpArgs false

def ordersOf (md : Region.Mode) (ops : Array Oper) : Nat → Array Bool → List (List Nat)
  | 0, _ => [[]]
  | n + 1, l => match Region.ready md ops l with
    | [] => [[]]
    | r :: rs => (r :: rs).flatMap fun i => (ordersOf md ops n (l.setIfInBounds i true)).map (i :: ·)
theorem go_mem (md : Region.Mode) (ops : Array Oper) : ∀ (fuel t : Nat) (l : Array Bool), Region.linearise.go md ops fuel t l [] ∈ ordersOf md ops fuel l
  | 0, t, l => by simp [Region.linearise.go, ordersOf]
  | fuel + 1, t, l => by
    simp only [Region.linearise.go, ordersOf]
    change (match (Region.ready md ops l)[t % (Region.ready md ops l).length]? with | some i => _ | none => _) ∈ _
    generalize Region.ready md ops l = rs
    cases rs with
    | nil => simp
    | cons r rs =>
      have hlt : t % (r :: rs).length < (r :: rs).length := Nat.mod_lt _ (by simp)
      rw [List.getElem?_eq_getElem hlt]
      dsimp only
      rw [linearise_go_acc]
      simp only [List.reverse_cons, List.reverse_nil, List.nil_append, List.singleton_append]
      rw [List.mem_flatMap]
      exact ⟨_, List.getElem_mem hlt, List.mem_map.2 ⟨_, go_mem md ops fuel _ _, rfl⟩⟩
section
variable {P : Program} {Q : (Nat → Bool) → Goroutine → World → Prop} {Sh : Nat → Bool} {w : World} {b : Frame} {a : Act} {k : List Item} {cs : List Frame}
theorem b_draw {id : Nat} {ops : Array Oper} {L : List (List Nat)} (hd : Region.departs ops = false) (hL : ordersOf .any ops ops.size (Array.replicate ops.size false) = L)
    (h : ∀ l ∈ L, WB P Q Sh (G (b.at a (.inRegion ops l :: k)) cs) w) : WB P Q Sh (G (b.at a (.code (.region id ops true) :: k)) cs) w := by
  refine WB.step rfl fun τ d => ?_
  refine ⟨_, _, _, stepG_region_draw, ⟨rfl, Nat.le_succ _, Nat.le_refl _, fun _ h => h⟩, by simp, ?_⟩
  have hs : ∀ m t, Region.schedule m ops t ∈ L := by
    intro m t
    unfold Region.schedule
    rw [hd, Bool.not_false, Bool.or_true, if_pos rfl, ← hL]
    exact go_mem _ _ _ _ _
  exact (h _ (hs _ _)).on _ _
end
end Go.Br
