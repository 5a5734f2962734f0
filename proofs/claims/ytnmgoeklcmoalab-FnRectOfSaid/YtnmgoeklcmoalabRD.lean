/-
  Draws with a relation and a set, a number or points: l91Set, DrawCompPower, DrawCompFar, and the draws made of l91Some and l91Set.
-/
import Derived.Test.YtnmgoeklcmoalabDI
import Derived.Deep.RegionHeldLaw
namespace Go.Proofs.Ytnmgoeklcmoalab
open Go.RowKit

/-- the reader's place, set -/
theorem RdrAt.at {w : World} {R : Nat} {ao : Option Addr} {n c p : Nat} (h : RdrAt w R ao n c p) (q : Nat) : RdrAt (w.setCell ⟨R, 1, none⟩ (.int .i64 (q : Nat))) R ao n c q := by
  unfold RdrAt
  have hlt : R < w.heap.size := (Array.getElem?_eq_some_iff.1 h).1
  have h2 : w.heap[R] = .cells #[.slice ao n c, .int .i64 p] 86 := (Array.getElem?_eq_some_iff.1 h).2
  simp [World.setCell, hlt, h2, Array.getElem_modify]
theorem RdrAt.at61 {w : World} {R : Nat} {ao : Option Addr} {n c p : Nat} (h : RdrAt w R ao n c p) : RdrAt (w.setCell ⟨R, 1, none⟩ (.int .i64 61)) R ao n c 61 := h.at 61
theorem DrS.hereD {w wd : World} {R : Nat} {ao : Option Addr} {bs : List Nat} {c p : Nat} (S : DrS w wd R ao bs c p) : DrS wd wd R ao bs c p :=
  ⟨S.rd, Below.refl _ _, Nat.le_refl _, fun _ _ _ => rfl⟩
theorem wrapMore (n j : Nat) (h4 : n ≤ 4) (hj : j < 24) : IntKind.i64.wrap (IntKind.i64.wrap (2 ^ n) + IntKind.i64.wrap ((j : Int) / 23)) = ((2 ^ n + j / 23 : Nat) : Int) := by
  have e : (j : Int) / 23 = ((j / 23 : Nat) : Int) := by omega
  rw [e]
  have hj2 : j / 23 = 0 ∨ j / 23 = 1 := by omega
  rcases hj2 with h | h <;> rw [h] <;> (rcases (by omega : n = 0 ∨ n = 1 ∨ n = 2 ∨ n = 3 ∨ n = 4) with rfl | rfl | rfl | rfl | rfl <;> decide +kernel)
/-- what a draw gives: a list of its own, of at most 4 numbers, and a number -/
def DrewI (w : World) (e : Ending) (w' : World) : Prop :=
  ∃ (v : Value) (rs : List Int) (z : Int), e = .returned (.tuple #[v, .int .i64 z]) ∧ rs.length ≤ 4 ∧ w'.ownsRow w.heap.size 3 1 v rs.length (rs.map (Value.int .i64)) ∧ Below w.heap.size w w'

theorem drawRectAll_any (ao : Option Addr) (c : Nat) (bs : List Nat) (w : World) (hb : RdB w ao bs) (hc : bs.length ≤ c) (hbA : bs ≠ [] → ∀ a, ao = some a → a.block < w.heap.size) :
    Calls Try.prog 8 #[.slice ao bs.length c] w (Drew w) := by
  have HD := Lib.hid (l91Some_any ao c bs w hb hc hbA)
  clear hb hbA
  go_enter Try.func8, Try.ntmps8
  go_wp2_with fail
  refine HD.out.mono ?_
  rintro e w3 ⟨v, rs, rfl, hrest⟩
  have HR := Lib.hid hrest
  clear hrest HD
  go_wp2
  go_ret
  exact ⟨v, rs, rfl, HR.out⟩
end Go.Proofs.Ytnmgoeklcmoalab
