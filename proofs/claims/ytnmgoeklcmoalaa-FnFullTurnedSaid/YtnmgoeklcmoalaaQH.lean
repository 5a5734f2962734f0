/-
  Relations made of rectangles: the program's withRectangle; the model's RectOf; for lists of lists of at most 2^20 numbers in all.
-/
import Derived.Test.YtnmgoeklcmoalaaOBA
import Derived.Test.YtnmgoeklcmoalaaFE
namespace Go.Proofs.Ytnmgoeklcmoalaa
open Go.RowKit

/-- block b holds a pair of sets -/
def PrAt (w : World) (b : Nat) (s t : Int) : Prop := w.heap[b]? = some (.cells #[.int .i64 s, .int .i64 t] 97 (0, 0))
theorem PrAt.new (w : World) (s t : Int) : PrAt (w.alloc (.cells #[.int .i64 s, .int .i64 t] 97)) w.heap.size s t := heap_alloc_new w _
theorem PrAt.lt {w : World} {b : Nat} {s t : Int} (h : PrAt w b s t) : b < w.heap.size := (Array.getElem?_eq_some_iff.1 h).1
theorem PrAt.alloc {w : World} {b : Nat} {s t : Int} (h : PrAt w b s t) (o : Obj) : PrAt (w.alloc o) b s t := (Below.heap_alloc w o b h.lt).trans h
theorem PrAt.drew {w : World} {b : Nat} {s t : Int} (h : PrAt w b s t) : PrAt w.drew b s t := h
theorem PrAt.below {w w' : World} {B b : Nat} {s t : Int} (h : PrAt w b s t) (hb : Below B w w') (hlt : b < B) : PrAt w' b s t := (hb.block b hlt).trans h
theorem PrAt.other {w : World} {b : Nat} {s t : Int} (h : PrAt w b s t) {p : Addr} (hp : b ≠ p.block) (u : Value) : PrAt (w.setCell p u) b s t := (Below.heap_setCell w p u b hp).trans h
theorem PrAt.cell0 {w : World} {b : Nat} {s t : Int} (h : PrAt w b s t) : w.cell? ⟨b, 0, none⟩ = some (.int .i64 s) := by
  unfold PrAt at h
  simp [World.cell?, h]
theorem PrAt.cell1 {w : World} {b : Nat} {s t : Int} (h : PrAt w b s t) : w.cell? ⟨b, 1, none⟩ = some (.int .i64 t) := by
  unfold PrAt at h
  simp [World.cell?, h]
theorem PrAt.free {w : World} {b : Nat} {s t : Int} (h : PrAt w b s t) (j : Nat) : w.frozen? ⟨b, j, none⟩ = false := by
  unfold PrAt at h
  simp [World.frozen?, h]

/-! a rectangle put to the rows -/
/-- a rectangle put to the first k rows -/
def rectTo (zs : List Int) (s t : Int) : Nat → List Int
  | 0 => zs
  | k + 1 => if hasB s k then (rectTo zs s t k).set k (bits .or .i64 (rowAt (rectTo zs s t k) k) t) else rectTo zs s t k
theorem rect_yes {zs : List Int} {s t : Int} {k : Nat} (h : hasB s k = true) : rectTo zs s t (k + 1) = (rectTo zs s t k).set k (bits .or .i64 (rowAt (rectTo zs s t k) k) t) := by
  show (if hasB s k then _ else _) = _
  rw [h]
  rfl
theorem rect_no {zs : List Int} {s t : Int} {k : Nat} (h : hasB s k = false) : rectTo zs s t (k + 1) = rectTo zs s t k := by
  show (if hasB s k then _ else _) = _
  rw [h]
  rfl
theorem rect_len (zs : List Int) (s t : Int) (k : Nat) : (rectTo zs s t k).length = zs.length := by
  induction k with
  | zero => rfl
  | succ k ih =>
    show (if hasB s k then (rectTo zs s t k).set k (bits .or .i64 (rowAt (rectTo zs s t k) k) t) else rectTo zs s t k).length = zs.length
    split
    · rw [List.length_set, ih]
    · exact ih

/-! rectangles as lists -/
def okR (n : Nat) (p : List Int) : Bool := decide (p.length = 2) && rowIn n (rowAt p 0) && rowIn n (rowAt p 1)
def addR (n : Nat) (zs p : List Int) : List Int := rectTo zs (rowAt p 0) (rowAt p 1) n
def rofL (n : Nat) (xss : List (List Int)) : List Int := xss.foldl (addR n) (List.replicate n 0)
theorem rof_len (n : Nat) (xss : List (List Int)) : (rofL n xss).length = n := by
  have h : ∀ (l : List (List Int)) (zs : List Int), (l.foldl (addR n) zs).length = zs.length := by
    intro l
    induction l with
    | nil => intro zs; rfl
    | cons p r ih => intro zs; rw [List.foldl_cons, ih]; exact rect_len _ _ _ _
  unfold rofL
  rw [h]
  simp
theorem rof_bad {n : Nat} {xss : List (List Int)} {k : Nat} {p : List Int} (h : xss[k]? = some p) (hb : okR n p = false) : xss.all (okR n) = false := by
  rw [List.all_eq_false]
  exact ⟨p, List.mem_of_getElem? h, by simp [hb]⟩
theorem rof_all {n : Nat} {xss : List (List Int)} {k : Nat} {p : List Int} (h : xss[k]? = some p) (hb : okR n p = true) (ha : (xss.take k).all (okR n) = true) : (xss.take (k + 1)).all (okR n) = true := by
  rw [List.take_add_one, h]
  simp [ha, hb]
theorem rof_step {n : Nat} {xss : List (List Int)} {k : Nat} {p : List Int} (h : xss[k]? = some p) : rofL n (xss.take (k + 1)) = addR n (rofL n (xss.take k)) p := by
  rw [List.take_add_one, h]
  unfold rofL
  rw [Option.toList_some, List.foldl_append]
  rfl
theorem pairOf {p : List Int} (h : p.length = 2) : ∃ x y, p = [x, y] := by
  match p, h with
  | [x, y], _ => exact ⟨x, y, rfl⟩

end Go.Proofs.Ytnmgoeklcmoalaa
