/-
  Relations made of rectangles: the program's withRectangle; the model's RectOf; for lists of lists of at most 2^20 numbers in all.
-/
import Derived.Test.YtpbkgdohfnjjpabOBA
import Derived.Test.YtpbkgdohfnjjpabFE
namespace Go.Proofs.Ytpbkgdohfnjjpab
open Go.RowKit

/-- block b holds a pair of sets -/
def PrAt (w : World) (b : Nat) (s t : Int) : Prop := w.heap[b]? = some (.cells #[.int .i64 s, .int .i64 t] 100 (0, 0))
theorem PrAt.new (w : World) (s t : Int) : PrAt (w.alloc (.cells #[.int .i64 s, .int .i64 t] 100)) w.heap.size s t := heap_alloc_new w _
theorem PrAt.lt {w : World} {b : Nat} {s t : Int} (h : PrAt w b s t) : b < w.heap.size := (Array.getElem?_eq_some_iff.1 h).1
theorem PrAt.alloc {w : World} {b : Nat} {s t : Int} (h : PrAt w b s t) (o : Obj) : PrAt (w.alloc o) b s t := (Below.heap_alloc w o b h.lt).trans h
theorem PrAt.drew {w : World} {b : Nat} {s t : Int} (h : PrAt w b s t) : PrAt w.drew b s t := h
theorem PrAt.below {w w' : World} {B b : Nat} {s t : Int} (h : PrAt w b s t) (hb : Below B w w') (hlt : b < B) : PrAt w' b s t := (hb.block b hlt).trans h
theorem PrAt.other {w : World} {b : Nat} {s t : Int} (h : PrAt w b s t) {p : Addr} (hp : b ≠ p.block) (u : Value) : PrAt (w.setCell p u) b s t := (Below.heap_setCell w p u b hp).trans h
theorem PrAt.cell0 {w : World} {b : Nat} {s t : Int} (h : PrAt w b s t) : w.cell? ⟨b, 0, none⟩ = some (.int .i64 s) := by
  unfold PrAt at h
  simp [World.cell?, h]
theorem PrAt.cell1 {w : World} {b : Nat} {s t : Int} (h : PrAt w b s t) : w.cell? ⟨b, 1, none⟩ = some (.int .i64 t) := by
  unfold PrAt at h
  simp [World.cell?, h]
theorem PrAt.free {w : World} {b : Nat} {s t : Int} (h : PrAt w b s t) (j : Nat) : w.frozen? ⟨b, j, none⟩ = false := by
  unfold PrAt at h
  simp [World.frozen?, h]

/-! a rectangle put to the rows -/
/-- a rectangle put to the first k rows -/
def rectTo (zs : List Int) (s t : Int) : Nat → List Int
  | 0 => zs
  | k + 1 => if hasB s k then (rectTo zs s t k).set k (bits .or .i64 (rowAt (rectTo zs s t k) k) t) else rectTo zs s t k
theorem rect_yes {zs : List Int} {s t : Int} {k : Nat} (h : hasB s k = true) : rectTo zs s t (k + 1) = (rectTo zs s t k).set k (bits .or .i64 (rowAt (rectTo zs s t k) k) t) := by
  show (if hasB s k then _ else _) = _
  rw [h]
  rfl
theorem rect_no {zs : List Int} {s t : Int} {k : Nat} (h : hasB s k = false) : rectTo zs s t (k + 1) = rectTo zs s t k := by
  show (if hasB s k then _ else _) = _
  rw [h]
  rfl
theorem rect_len (zs : List Int) (s t : Int) (k : Nat) : (rectTo zs s t k).length = zs.length := by
  induction k with
  | zero => rfl
  | succ k ih =>
    show (if hasB s k then (rectTo zs s t k).set k (bits .or .i64 (rowAt (rectTo zs s t k) k) t) else rectTo zs s t k).length = zs.length
    split
    · rw [List.length_set, ih]
    · exact ih

set_option maxHeartbeats 2000000 in
theorem withRectangle_any (zs : List Int) (s t : Int) (w : World) (h4 : zs.length ≤ 4) :
    Calls Try.prog 95 #[relOf zs, .agg #[.int .i64 s, .int .i64 t]] w fun e w' => e = .returned (relOf (rectTo zs s t zs.length)) ∧ Below w.heap.size w w' := by
  have hr0 := ((RelAt.new w zs).alloc (.cells #[.int .i64 s, .int .i64 t] 100)).alloc (.cells #[.int .i64 0, .int .i64 0, .int .i64 0, .int .i64 0, .int .i64 0] 50)
  have hs0 := (PrAt.new (w.alloc (.cells #[.int .i64 zs.length, .int .i64 (rowAt zs 0), .int .i64 (rowAt zs 1), .int .i64 (rowAt zs 2), .int .i64 (rowAt zs 3)] 50)) s t).alloc (.cells #[.int .i64 0, .int .i64 0, .int .i64 0, .int .i64 0, .int .i64 0] 50)
  have ht0 := rel_zero ((w.alloc (.cells #[.int .i64 zs.length, .int .i64 (rowAt zs 0), .int .i64 (rowAt zs 1), .int .i64 (rowAt zs 2), .int .i64 (rowAt zs 3)] 50)).alloc (.cells #[.int .i64 s, .int .i64 t] 100))
  simp only [World.size_alloc] at hs0 ht0
  have B0 := below_three w (.cells #[.int .i64 zs.length, .int .i64 (rowAt zs 0), .int .i64 (rowAt zs 1), .int .i64 (rowAt zs 2), .int .i64 (rowAt zs 3)] 50) (.cells #[.int .i64 s, .int .i64 t] 100) (.cells #[.int .i64 0, .int .i64 0, .int .i64 0, .int .i64 0, .int .i64 0] 50)
  have hc0 := hr0.cell0
  go_enter Try.func95, Try.ntmps95
  go_wp2
  go_loopw [8, 5] (fun i _ wr => ∃ k : Nat, k ≤ zs.length ∧ i = .int .i64 k ∧ RelAt wr w.heap.size (rectTo zs s t k) ∧ PrAt wr (w.heap.size + 1) s t ∧ RelAt wr (w.heap.size + 1 + 1) [] ∧ Below w.heap.size w wr)
    (fun i _ _ => zs.length - (intOf i).toNat)
  case atStart => exact ⟨0, Nat.zero_le _, rfl, hr0, hs0, ht0, B0⟩
  case round =>
    obtain ⟨k, hk, rfl, hr, hs, hrz, hb⟩ := hrel
    clear hr0 hc0 hs0 ht0 B0
    have hl := rect_len zs s t k
    by_cases hlt : k < zs.length
    · have hc1 := hr.row k (by omega)
      have hd0 := hs.cell0
      have hd1 := hs.cell1
      have hq : (k : Int) < 4 := by omega
      have hf := hr.free (1 + k)
      cases hz : hasB s k with
      | false =>
        have HST := Lib.hid (rect_no (zs := zs) (t := t) hz)
        have HL := Lib.hid hl
        clear hl
        go_wp2_with (go_at_call 54; refine (has_any _ k (by omega) _).mono ?_; rintro e w2 ⟨rfl, rfl⟩)
        go_roundw
        case rel => exact ⟨k + 1, by omega, by go_num, by rw [HST.out]; exact hr, hs, hrz, hb⟩
        case measure => simp [intOf]; omega
      | true =>
        have hst := rect_yes (zs := zs) (t := t) hz
        have hset := hr.set k (by rw [hl]; exact hlt) (by omega) (bits .or .i64 (rowAt (rectTo zs s t k) k) t)
        have HST := Lib.hid (And.intro hst hset)
        clear hst hset hl
        obtain ⟨Z, hZ⟩ : ∃ Z, rectTo zs s t k = Z := ⟨_, rfl⟩
        rw [hZ] at hr hc1 HST
        clear hZ
        go_wp2_with (go_at_call 54; refine (has_any _ k (by omega) _).mono ?_; rintro e w2 ⟨rfl, rfl⟩)
        go_region
        all_goals
          go_wp2
          go_roundw
          case rel => exact ⟨k + 1, by omega, by go_num, by rw [HST.out.1]; exact HST.out.2, hs.other (p := ⟨w.heap.size, 1 + k, none⟩) (by simp) _, hrz.other (p := ⟨w.heap.size, 1 + k, none⟩) (by simp; omega) _, hb.drew.setCell (Nat.le_refl _) _⟩
          case measure => simp [intOf]; omega
    · obtain rfl : k = zs.length := by omega
      obtain ⟨Z, hZ⟩ : ∃ Z, rectTo zs s t zs.length = Z := ⟨_, rfl⟩
      rw [hZ] at hr hl
      have HZ := Lib.hid hZ
      have hcn := hr.cell0
      rw [hl] at hcn
      have hc1 := hr.cell1
      have hc2 := hr.cell2
      have hc3 := hr.cell3
      have hc4 := hr.cell4
      have hz0 := hrz.cell0
      have hz1 := hrz.cell1
      have hz2 := hrz.cell2
      have hz3 := hrz.cell3
      have hz4 := hrz.cell4
      have hy0 := hrz.free 0
      have hy1 := hrz.free 1
      have hy2 := hrz.free 2
      have hy3 := hrz.free 3
      have hy4 := hrz.free 4
      have HL := Lib.hid hl
      clear hZ hl
      go_wp2
      refine bodyPost_ret (v := relOf Z) (by simp [results, Try.results95, go_sem, hz0, hz1, hz2, hz3, hz4, HL.out]) rfl ⟨by rw [HZ.out], ?_⟩
      repeat (first | exact hb | refine Below.setCell ?_ (by simp; omega) _)

/-! rectangles as lists -/
def okR (n : Nat) (p : List Int) : Bool := decide (p.length = 2) && rowIn n (rowAt p 0) && rowIn n (rowAt p 1)
def addR (n : Nat) (zs p : List Int) : List Int := rectTo zs (rowAt p 0) (rowAt p 1) n
def rofL (n : Nat) (xss : List (List Int)) : List Int := xss.foldl (addR n) (List.replicate n 0)
theorem rof_len (n : Nat) (xss : List (List Int)) : (rofL n xss).length = n := by
  have h : ∀ (l : List (List Int)) (zs : List Int), (l.foldl (addR n) zs).length = zs.length := by
    intro l
    induction l with
    | nil => intro zs; rfl
    | cons p r ih => intro zs; rw [List.foldl_cons, ih]; exact rect_len _ _ _ _
  unfold rofL
  rw [h]
  simp
theorem rof_bad {n : Nat} {xss : List (List Int)} {k : Nat} {p : List Int} (h : xss[k]? = some p) (hb : okR n p = false) : xss.all (okR n) = false := by
  rw [List.all_eq_false]
  exact ⟨p, List.mem_of_getElem? h, by simp [hb]⟩
theorem rof_all {n : Nat} {xss : List (List Int)} {k : Nat} {p : List Int} (h : xss[k]? = some p) (hb : okR n p = true) (ha : (xss.take k).all (okR n) = true) : (xss.take (k + 1)).all (okR n) = true := by
  rw [List.take_add_one, h]
  simp [ha, hb]
theorem rof_step {n : Nat} {xss : List (List Int)} {k : Nat} {p : List Int} (h : xss[k]? = some p) : rofL n (xss.take (k + 1)) = addR n (rofL n (xss.take k)) p := by
  rw [List.take_add_one, h]
  unfold rofL
  rw [Option.toList_some, List.foldl_append]
  rfl
theorem pairOf {p : List Int} (h : p.length = 2) : ∃ x y, p = [x, y] := by
  match p, h with
  | [x, y], _ => exact ⟨x, y, rfl⟩

end Go.Proofs.Ytpbkgdohfnjjpab
