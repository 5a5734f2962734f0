/-
  The program's powers: period, at, CompPower; for lists of at most 2^20 numbers.
-/
import Derived.Test.YtnmgoeklcmoalaaEG
import Derived.Deep.RegionHeld3
namespace Go.Proofs.Ytnmgoeklcmoalaa
open Go.RowKit

/-- a list of powers as the program's value -/
abbrev plV (g cap m a : Nat) : Value := .agg #[.slice (some ⟨g, 0, none⟩) (m + 1) cap, .int .i64 a]

theorem wrap_of (x : Int) (h1 : -1048576 ≤ x) (h2 : x ≤ 1048576) : IntKind.i64.wrap x = x := by
  simp only [IntKind.wrap, IntKind.bits, IntKind.signed]
  simp only [Bool.true_and]
  by_cases h : 0 ≤ x
  · rw [if_neg (by intro hh; have := of_decide_eq_true hh; omega)]
    omega
  · rw [if_pos (by apply decide_eq_true; omega)]
    omega

/-- a block that holds a list of powers -/
def PbAt (w : World) (b : Nat) (v : Value) (a : Int) : Prop := w.heap[b]? = some (.cells #[v, .int .i64 a] 118 (0, 0))
theorem PbAt.new (w : World) (v : Value) (a : Int) : PbAt (w.alloc (.cells #[v, .int .i64 a] 118)) w.heap.size v a := heap_alloc_new w _
theorem PbAt.lt {w : World} {b : Nat} {v : Value} {a : Int} (h : PbAt w b v a) : b < w.heap.size := (Array.getElem?_eq_some_iff.1 h).1
theorem PbAt.alloc {w : World} {b : Nat} {v : Value} {a : Int} (h : PbAt w b v a) (o : Obj) : PbAt (w.alloc o) b v a := (Below.heap_alloc w o b h.lt).trans h
theorem PbAt.drew {w : World} {b : Nat} {v : Value} {a : Int} (h : PbAt w b v a) : PbAt w.drew b v a := h
theorem PbAt.below {w w' : World} {B b : Nat} {v : Value} {a : Int} (h : PbAt w b v a) (hb : Below B w w') (hlt : b < B) : PbAt w' b v a := (hb.block b hlt).trans h
theorem PbAt.other {w : World} {b : Nat} {v : Value} {a : Int} (h : PbAt w b v a) {p : Addr} (hp : b ≠ p.block) (u : Value) : PbAt (w.setCell p u) b v a := (Below.heap_setCell w p u b hp).trans h
theorem PbAt.cell0 {w : World} {b : Nat} {v : Value} {a : Int} (h : PbAt w b v a) : w.cell? ⟨b, 0, none⟩ = some v := by
  unfold PbAt at h
  simp [World.cell?, h]
theorem PbAt.cell1 {w : World} {b : Nat} {v : Value} {a : Int} (h : PbAt w b v a) : w.cell? ⟨b, 1, none⟩ = some (.int .i64 a) := by
  unfold PbAt at h
  simp [World.cell?, h]
end Go.Proofs.Ytnmgoeklcmoalaa
