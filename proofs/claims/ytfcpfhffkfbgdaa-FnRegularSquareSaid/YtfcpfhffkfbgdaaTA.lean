/-
  Regular relations: the program's most, isRegular, back, isOwnSquare, RegularIn, RegularMost and RegularBack, for lists of at most 2^20 numbers.
-/
import Derived.Test.YtfcpfhffkfbgdaaEF
import Derived.Lib.Hide
import Derived.Deep.RegionHeld
namespace Go.Proofs.Ytfcpfhffkfbgdaa
open Go.RowKit

/-- the greatest x so that a, x and a compose below a -/
def mostX (xs : List Int) : List Int := rightL xs (leftL xs xs)
def regB (xs : List Int) : Bool := decide (compL (compL xs (mostX xs)) xs = xs)
def backL (xs : List Int) : List Int := compL (compL (mostX xs) xs) (mostX xs)
def sqB (xs : List Int) : Bool := decide (compL xs xs = xs)
theorem Rl.mostX {n : Nat} {xs : List Int} (h : Rl n xs) : Rl n (mostX xs) := h.right (h.left h)
theorem Rl.backL {n : Nat} {xs : List Int} (h : Rl n xs) : Rl n (backL xs) := (h.mostX.comp h).comp h.mostX

set_option maxRecDepth 100000 in
set_option maxHeartbeats 4000000 in
theorem most_walk (xs a d : List Int) (w : World)
    (h1 : ∀ w, Calls Try.prog 76 #[relOf xs, relOf xs] w fun e w' => e = .returned (relOf a) ∧ Below w.heap.size w w')
    (h2 : ∀ w, Calls Try.prog 75 #[relOf xs, relOf a] w fun e w' => e = .returned (relOf d) ∧ Below w.heap.size w w') :
    Calls Try.prog 45 #[relOf xs] w fun e w' => e = .returned (relOf d) ∧ Below w.heap.size w w' := by
  have x0 := (RelAt.new w xs).alloc (.cells #[.int .i64 0, .int .i64 0, .int .i64 0, .int .i64 0, .int .i64 0] 44)
  have z0 := rel_zero (w.alloc (.cells #[.int .i64 xs.length, .int .i64 (rowAt xs 0), .int .i64 (rowAt xs 1), .int .i64 (rowAt xs 2), .int .i64 (rowAt xs 3)] 44))
  have B0 := below_two w (.cells #[.int .i64 xs.length, .int .i64 (rowAt xs 0), .int .i64 (rowAt xs 1), .int .i64 (rowAt xs 2), .int .i64 (rowAt xs 3)] 44) (.cells #[.int .i64 0, .int .i64 0, .int .i64 0, .int .i64 0, .int .i64 0] 44)
  simp only [World.size_alloc] at z0
  have H := Lib.hid (And.intro h1 h2)
  clear h1 h2
  have p0 := x0.cell0
  have p1 := x0.cell1
  have p2 := x0.cell2
  have p3 := x0.cell3
  have p4 := x0.cell4
  go_enter Try.func45, Try.ntmps45
  go_wp2
  obtain ⟨W0, hW0⟩ : ∃ W0, (w.alloc (.cells #[.int .i64 xs.length, .int .i64 (rowAt xs 0), .int .i64 (rowAt xs 1), .int .i64 (rowAt xs 2), .int .i64 (rowAt xs 3)] 44)).alloc (.cells #[.int .i64 0, .int .i64 0, .int .i64 0, .int .i64 0, .int .i64 0] 44) = W0 := ⟨_, rfl⟩
  rw [hW0] at p0 p1 p2 p3 p4 x0 B0 ⊢
  rw [hW0] at z0
  clear hW0
  have x := x0.drew
  have B := B0.drew
  have z := z0.drew
  clear x0 B0 z0
  go_region_held (fun w' => w'.cell? ⟨w.heap.size, 0, none⟩ = some (.int .i64 xs.length) ∧ w'.cell? ⟨w.heap.size, 1, none⟩ = some (.int .i64 (rowAt xs 0)) ∧ w'.cell? ⟨w.heap.size, 2, none⟩ = some (.int .i64 (rowAt xs 1)) ∧ w'.cell? ⟨w.heap.size, 3, none⟩ = some (.int .i64 (rowAt xs 2)) ∧ w'.cell? ⟨w.heap.size, 4, none⟩ = some (.int .i64 (rowAt xs 3))) (go_keep) (first
    | (go_at_call 76; (refine (H.out.1 _).mono ?_; rintro e w2 ⟨rfl, hb⟩; have x := x.below hb x.lt; have B := B.trans (hb.mono B.size); have p0 := x.cell0; have p1 := x.cell1; have p2 := x.cell2; have p3 := x.cell3; have p4 := x.cell4; have z := z.below hb z.lt; have f0 := z.free 0; have f1 := z.free 1; have f2 := z.free 2; have f3 := z.free 3; have f4 := z.free 4; have u0 := z.cell0; have u1 := z.cell1; have u2 := z.cell2; have u3 := z.cell3; have u4 := z.cell4; clear hb))
    | (go_at_call 75; (refine (H.out.2 _).mono ?_; rintro e w3 ⟨rfl, hb⟩; have x := x.below hb x.lt; have B := B.trans (hb.mono B.size); have p0 := x.cell0; have p1 := x.cell1; have p2 := x.cell2; have p3 := x.cell3; have p4 := x.cell4; have z := z.below hb z.lt; have f0 := z.free 0; have f1 := z.free 1; have f2 := z.free 2; have f3 := z.free 3; have f4 := z.free 4; have u0 := z.cell0; have u1 := z.cell1; have u2 := z.cell2; have u3 := z.cell3; have u4 := z.cell4; clear hb)))
  all_goals
    go_wp2
    refine bodyPost_ret (v := relOf d) (by simp [results, Try.results45, go_sem, u0, u1, u2, u3, u4]) rfl ⟨rfl, ?_⟩
    have bb := fun (W : World) (j : Nat) (v : Value) (h : Below w.heap.size w W) => h.setCell (p := ⟨w.heap.size + 1, j, none⟩) (by simp) v
    exact bb _ _ _ (bb _ _ _ (bb _ _ _ (bb _ _ _ (bb _ _ _ B))))
theorem mostR {n : Nat} {xs : List Int} (h : Rl n xs) (w : World) :
    Calls Try.prog 45 #[relOf xs] w fun e w' => e = .returned (relOf (mostX xs)) ∧ Below w.heap.size w w' :=
  most_walk xs (leftL xs xs) (mostX xs) w (fun w => leftR h h w) (fun w => rightR h (h.left h) w)

set_option maxRecDepth 100000 in
set_option maxHeartbeats 4000000 in
theorem isRegular_walk (xs a b c : List Int) (s : Bool) (w : World)
    (h1 : ∀ w, Calls Try.prog 45 #[relOf xs] w fun e w' => e = .returned (relOf a) ∧ Below w.heap.size w w')
    (h2 : ∀ w, Calls Try.prog 68 #[relOf xs, relOf a] w fun e w' => e = .returned (relOf b) ∧ Below w.heap.size w w')
    (h3 : ∀ w, Calls Try.prog 68 #[relOf b, relOf xs] w fun e w' => e = .returned (relOf c) ∧ Below w.heap.size w w')
    (hn : (c.length : Int) = (xs.length : Int)) (hs : (rowAt c 0 == rowAt xs 0 && (rowAt c 1 == rowAt xs 1 && (rowAt c 2 == rowAt xs 2 && rowAt c 3 == rowAt xs 3))) = s) :
    Calls Try.prog 42 #[relOf xs] w fun e w' => e = .returned (.bool s) ∧ Below w.heap.size w w' := by
  have x0 := RelAt.new w xs
  have B0 := below_one w (.cells #[.int .i64 xs.length, .int .i64 (rowAt xs 0), .int .i64 (rowAt xs 1), .int .i64 (rowAt xs 2), .int .i64 (rowAt xs 3)] 44)
  have H := Lib.hid (And.intro h1 (And.intro h2 h3))
  clear h1 h2 h3
  have hE : ∀ w, Sem.run Try.prog (Op.equalIn 9999 42 (.agg #[.int .i64 (rowAt c 0), .int .i64 (rowAt c 1), .int .i64 (rowAt c 2), .int .i64 (rowAt c 3)]) (.agg #[.int .i64 (rowAt xs 0), .int .i64 (rowAt xs 1), .int .i64 (rowAt xs 2), .int .i64 (rowAt xs 3)])) w = .ok s w :=
    fun w => (eqRowsD 9997 (rowAt c 0) (rowAt c 1) (rowAt c 2) (rowAt c 3) (rowAt xs 0) (rowAt xs 1) (rowAt xs 2) (rowAt xs 3) w).trans (by rw [hs])
  have en : ((c.length : Int) == (xs.length : Int)) = true := by rw [hn]; simp
  clear hs hn
  cases s
  all_goals
    have p0 := x0.cell0
    have p1 := x0.cell1
    have p2 := x0.cell2
    have p3 := x0.cell3
    have p4 := x0.cell4
    go_enter Try.func42, Try.ntmps42
    go_wp2
    obtain ⟨W0, hW0⟩ : ∃ W0, (w.alloc (.cells #[.int .i64 xs.length, .int .i64 (rowAt xs 0), .int .i64 (rowAt xs 1), .int .i64 (rowAt xs 2), .int .i64 (rowAt xs 3)] 44)) = W0 := ⟨_, rfl⟩
    rw [hW0] at p0 p1 p2 p3 p4 x0 B0 ⊢
    clear hW0
    have x := x0.drew
    have B := B0.drew
    clear x0 B0
    go_region_held (fun w' => w'.cell? ⟨w.heap.size, 0, none⟩ = some (.int .i64 xs.length) ∧ w'.cell? ⟨w.heap.size, 1, none⟩ = some (.int .i64 (rowAt xs 0)) ∧ w'.cell? ⟨w.heap.size, 2, none⟩ = some (.int .i64 (rowAt xs 1)) ∧ w'.cell? ⟨w.heap.size, 3, none⟩ = some (.int .i64 (rowAt xs 2)) ∧ w'.cell? ⟨w.heap.size, 4, none⟩ = some (.int .i64 (rowAt xs 3))) (go_keep) (first
      | (go_at_call 45; (refine (H.out.1 _).mono ?_; rintro e w2 ⟨rfl, hb⟩; have x := x.below hb x.lt; have B := B.trans (hb.mono B.size); have p0 := x.cell0; have p1 := x.cell1; have p2 := x.cell2; have p3 := x.cell3; have p4 := x.cell4; clear hb))
      | (go_at_call 68; ((with_reducible refine (H.out.2.1 _).mono ?_); rintro e w3 ⟨rfl, hb⟩; have x := x.below hb x.lt; have B := B.trans (hb.mono B.size); have p0 := x.cell0; have p1 := x.cell1; have p2 := x.cell2; have p3 := x.cell3; have p4 := x.cell4; clear hb))
      | (go_at_call 68; ((with_reducible refine (H.out.2.2 _).mono ?_); rintro e w4 ⟨rfl, hb⟩; have x := x.below hb x.lt; have B := B.trans (hb.mono B.size); have p0 := x.cell0; have p1 := x.cell1; have p2 := x.cell2; have p3 := x.cell3; have p4 := x.cell4; clear hb)))
    all_goals
      go_wp2
      go_ret
      exact ⟨rfl, B⟩

theorem isRegularR {n : Nat} {xs : List Int} (h : Rl n xs) (w : World) :
    Calls Try.prog 42 #[relOf xs] w fun e w' => e = .returned (.bool (regB xs)) ∧ Below w.heap.size w w' :=
  isRegular_walk xs (mostX xs) (compL xs (mostX xs)) (compL (compL xs (mostX xs)) xs) (regB xs) w (fun w => mostR h w) (fun w => then_any h h.mostX w) (fun w => then_any (h.comp h.mostX) h w)
    (by rw [((h.comp h.mostX).comp h).len, h.len]) (rows_eq ((h.comp h.mostX).comp h) h)

set_option maxRecDepth 100000 in
set_option maxHeartbeats 4000000 in
theorem isOwnSquare_walk (xs c : List Int) (s : Bool) (w : World)
    (h1 : ∀ w, Calls Try.prog 68 #[relOf xs, relOf xs] w fun e w' => e = .returned (relOf c) ∧ Below w.heap.size w w')
    (hn : (c.length : Int) = (xs.length : Int)) (hs : (rowAt c 0 == rowAt xs 0 && (rowAt c 1 == rowAt xs 1 && (rowAt c 2 == rowAt xs 2 && rowAt c 3 == rowAt xs 3))) = s) :
    Calls Try.prog 53 #[relOf xs] w fun e w' => e = .returned (.bool s) ∧ Below w.heap.size w w' := by
  have x0 := RelAt.new w xs
  have B0 := below_one w (.cells #[.int .i64 xs.length, .int .i64 (rowAt xs 0), .int .i64 (rowAt xs 1), .int .i64 (rowAt xs 2), .int .i64 (rowAt xs 3)] 44)
  have H := Lib.hid (h1)
  clear h1
  have hE : ∀ w, Sem.run Try.prog (Op.equalIn 9999 42 (.agg #[.int .i64 (rowAt c 0), .int .i64 (rowAt c 1), .int .i64 (rowAt c 2), .int .i64 (rowAt c 3)]) (.agg #[.int .i64 (rowAt xs 0), .int .i64 (rowAt xs 1), .int .i64 (rowAt xs 2), .int .i64 (rowAt xs 3)])) w = .ok s w :=
    fun w => (eqRowsD 9997 (rowAt c 0) (rowAt c 1) (rowAt c 2) (rowAt c 3) (rowAt xs 0) (rowAt xs 1) (rowAt xs 2) (rowAt xs 3) w).trans (by rw [hs])
  have en : ((c.length : Int) == (xs.length : Int)) = true := by rw [hn]; simp
  clear hs hn
  cases s
  all_goals
    have p0 := x0.cell0
    have p1 := x0.cell1
    have p2 := x0.cell2
    have p3 := x0.cell3
    have p4 := x0.cell4
    go_enter Try.func53, Try.ntmps53
    go_wp2
    obtain ⟨W0, hW0⟩ : ∃ W0, (w.alloc (.cells #[.int .i64 xs.length, .int .i64 (rowAt xs 0), .int .i64 (rowAt xs 1), .int .i64 (rowAt xs 2), .int .i64 (rowAt xs 3)] 44)) = W0 := ⟨_, rfl⟩
    rw [hW0] at p0 p1 p2 p3 p4 x0 B0 ⊢
    clear hW0
    have x := x0.drew
    have B := B0.drew
    clear x0 B0
    go_region_held (fun w' => w'.cell? ⟨w.heap.size, 0, none⟩ = some (.int .i64 xs.length) ∧ w'.cell? ⟨w.heap.size, 1, none⟩ = some (.int .i64 (rowAt xs 0)) ∧ w'.cell? ⟨w.heap.size, 2, none⟩ = some (.int .i64 (rowAt xs 1)) ∧ w'.cell? ⟨w.heap.size, 3, none⟩ = some (.int .i64 (rowAt xs 2)) ∧ w'.cell? ⟨w.heap.size, 4, none⟩ = some (.int .i64 (rowAt xs 3))) (go_keep) (first
      | (go_at_call 68; (refine (H.out _).mono ?_; rintro e w2 ⟨rfl, hb⟩; have x := x.below hb x.lt; have B := B.trans (hb.mono B.size); have p0 := x.cell0; have p1 := x.cell1; have p2 := x.cell2; have p3 := x.cell3; have p4 := x.cell4; clear hb)))
    all_goals
      go_wp2
      go_ret
      exact ⟨rfl, B⟩

theorem isOwnSquareR {n : Nat} {xs : List Int} (h : Rl n xs) (w : World) :
    Calls Try.prog 53 #[relOf xs] w fun e w' => e = .returned (.bool (sqB xs)) ∧ Below w.heap.size w w' :=
  isOwnSquare_walk xs (compL xs xs) (sqB xs) w (fun w => then_any h h w) (by rw [(h.comp h).len, h.len]) (rows_eq (h.comp h) h)

set_option maxRecDepth 100000 in
set_option maxHeartbeats 4000000 in
theorem back_walk (xs a b d : List Int) (w : World)
    (h1 : ∀ w, Calls Try.prog 45 #[relOf xs] w fun e w' => e = .returned (relOf a) ∧ Below w.heap.size w w')
    (h2 : ∀ w, Calls Try.prog 68 #[relOf a, relOf xs] w fun e w' => e = .returned (relOf b) ∧ Below w.heap.size w w')
    (h3 : ∀ w, Calls Try.prog 68 #[relOf b, relOf a] w fun e w' => e = .returned (relOf d) ∧ Below w.heap.size w w') :
    Calls Try.prog 47 #[relOf xs] w fun e w' => e = .returned (relOf d) ∧ Below w.heap.size w w' := by
  have x0 := (RelAt.new w xs).alloc (.cells #[.int .i64 0, .int .i64 0, .int .i64 0, .int .i64 0, .int .i64 0] 44)
  have z0 := rel_zero (w.alloc (.cells #[.int .i64 xs.length, .int .i64 (rowAt xs 0), .int .i64 (rowAt xs 1), .int .i64 (rowAt xs 2), .int .i64 (rowAt xs 3)] 44))
  have B0 := below_two w (.cells #[.int .i64 xs.length, .int .i64 (rowAt xs 0), .int .i64 (rowAt xs 1), .int .i64 (rowAt xs 2), .int .i64 (rowAt xs 3)] 44) (.cells #[.int .i64 0, .int .i64 0, .int .i64 0, .int .i64 0, .int .i64 0] 44)
  simp only [World.size_alloc] at z0
  have H := Lib.hid (And.intro h1 (And.intro h2 h3))
  clear h1 h2 h3
  have p0 := x0.cell0
  have p1 := x0.cell1
  have p2 := x0.cell2
  have p3 := x0.cell3
  have p4 := x0.cell4
  go_enter Try.func47, Try.ntmps47
  go_wp2_with fail
  obtain ⟨W0, hW0⟩ : ∃ W0, (w.alloc (.cells #[.int .i64 xs.length, .int .i64 (rowAt xs 0), .int .i64 (rowAt xs 1), .int .i64 (rowAt xs 2), .int .i64 (rowAt xs 3)] 44)).alloc (.cells #[.int .i64 0, .int .i64 0, .int .i64 0, .int .i64 0, .int .i64 0] 44) = W0 := ⟨_, rfl⟩
  rw [hW0] at p0 p1 p2 p3 p4 x0 B0 ⊢
  rw [hW0] at z0
  clear hW0
  refine (H.out.1 _).mono ?_
  rintro e w1 ⟨rfl, hb⟩
  have x1 := (x0.below hb x0.lt).alloc (.cells #[.int .i64 a.length, .int .i64 (rowAt a 0), .int .i64 (rowAt a 1), .int .i64 (rowAt a 2), .int .i64 (rowAt a 3)] 44)
  have z1 := (z0.below hb z0.lt).alloc (.cells #[.int .i64 a.length, .int .i64 (rowAt a 0), .int .i64 (rowAt a 1), .int .i64 (rowAt a 2), .int .i64 (rowAt a 3)] 44)
  have y1 := RelAt.new w1 a
  have B1 := (B0.trans (hb.mono B0.size)).alloc (Nat.le_trans B0.size hb.size) (.cells #[.int .i64 a.length, .int .i64 (rowAt a 0), .int .i64 (rowAt a 1), .int .i64 (rowAt a 2), .int .i64 (rowAt a 3)] 44)
  have hsz : w.heap.size + 1 < w1.heap.size := Nat.lt_of_lt_of_le z0.lt hb.size
  have ne1 : ¬ w1.heap.size = w.heap.size + 1 := by omega
  have ne2 : ¬ w1.heap.size = w.heap.size := by omega
  have ne3 : ¬ w.heap.size + 1 = w1.heap.size := by omega
  have ne4 : ¬ w.heap.size = w1.heap.size := by omega
  clear hb x0 z0 B0 p0 p1 p2 p3 p4 hsz
  have p0 := x1.cell0
  have p1 := x1.cell1
  have p2 := x1.cell2
  have p3 := x1.cell3
  have p4 := x1.cell4
  have q0 := y1.cell0
  have q1 := y1.cell1
  have q2 := y1.cell2
  have q3 := y1.cell3
  have q4 := y1.cell4
  go_wp2
  obtain ⟨W1, hW1⟩ : ∃ W1, (w1.alloc (.cells #[.int .i64 a.length, .int .i64 (rowAt a 0), .int .i64 (rowAt a 1), .int .i64 (rowAt a 2), .int .i64 (rowAt a 3)] 44)) = W1 := ⟨_, rfl⟩
  rw [hW1] at p0 p1 p2 p3 p4 q0 q1 q2 q3 q4 x1 y1 z1 B1 ⊢
  clear hW1
  have x := x1.drew
  have y := y1.drew
  have B := B1.drew
  have z := z1.drew
  clear x1 B1 z1 y1
  go_region_held (fun w' => (w'.cell? ⟨w.heap.size, 0, none⟩ = some (.int .i64 xs.length) ∧ w'.cell? ⟨w.heap.size, 1, none⟩ = some (.int .i64 (rowAt xs 0)) ∧ w'.cell? ⟨w.heap.size, 2, none⟩ = some (.int .i64 (rowAt xs 1)) ∧ w'.cell? ⟨w.heap.size, 3, none⟩ = some (.int .i64 (rowAt xs 2)) ∧ w'.cell? ⟨w.heap.size, 4, none⟩ = some (.int .i64 (rowAt xs 3))) ∧ w'.cell? ⟨w1.heap.size, 0, none⟩ = some (.int .i64 a.length) ∧ w'.cell? ⟨w1.heap.size, 1, none⟩ = some (.int .i64 (rowAt a 0)) ∧ w'.cell? ⟨w1.heap.size, 2, none⟩ = some (.int .i64 (rowAt a 1)) ∧ w'.cell? ⟨w1.heap.size, 3, none⟩ = some (.int .i64 (rowAt a 2)) ∧ w'.cell? ⟨w1.heap.size, 4, none⟩ = some (.int .i64 (rowAt a 3))) (go_keep) (first
    | (go_at_call 68; ((with_reducible refine (H.out.2.1 _).mono ?_); rintro e w2 ⟨rfl, hb⟩; have x := x.below hb x.lt; have B := B.trans (hb.mono B.size); have p0 := x.cell0; have p1 := x.cell1; have p2 := x.cell2; have p3 := x.cell3; have p4 := x.cell4; have z := z.below hb z.lt; have f0 := z.free 0; have f1 := z.free 1; have f2 := z.free 2; have f3 := z.free 3; have f4 := z.free 4; have u0 := z.cell0; have u1 := z.cell1; have u2 := z.cell2; have u3 := z.cell3; have u4 := z.cell4; have y := y.below hb y.lt; have q0 := y.cell0; have q1 := y.cell1; have q2 := y.cell2; have q3 := y.cell3; have q4 := y.cell4; clear hb))
    | (go_at_call 68; ((with_reducible refine (H.out.2.2 _).mono ?_); rintro e w3 ⟨rfl, hb⟩; have x := x.below hb x.lt; have B := B.trans (hb.mono B.size); have p0 := x.cell0; have p1 := x.cell1; have p2 := x.cell2; have p3 := x.cell3; have p4 := x.cell4; have z := z.below hb z.lt; have f0 := z.free 0; have f1 := z.free 1; have f2 := z.free 2; have f3 := z.free 3; have f4 := z.free 4; have u0 := z.cell0; have u1 := z.cell1; have u2 := z.cell2; have u3 := z.cell3; have u4 := z.cell4; have y := y.below hb y.lt; have q0 := y.cell0; have q1 := y.cell1; have q2 := y.cell2; have q3 := y.cell3; have q4 := y.cell4; clear hb)))
  all_goals
    go_wp2
    refine bodyPost_ret (v := relOf d) (by simp [results, Try.results47, go_sem, u0, u1, u2, u3, u4]) rfl ⟨rfl, ?_⟩
    have bb := fun (W : World) (j : Nat) (v : Value) (h : Below w.heap.size w W) => h.setCell (p := ⟨w.heap.size + 1, j, none⟩) (by simp) v
    exact bb _ _ _ (bb _ _ _ (bb _ _ _ (bb _ _ _ (bb _ _ _ B))))
theorem backR {n : Nat} {xs : List Int} (h : Rl n xs) (w : World) :
    Calls Try.prog 47 #[relOf xs] w fun e w' => e = .returned (relOf (backL xs)) ∧ Below w.heap.size w w' :=
  back_walk xs (mostX xs) (compL (mostX xs) xs) (backL xs) w (fun w => mostR h w) (fun w => then_any h.mostX h w) (fun w => then_any (h.mostX.comp h) h.mostX w)

theorem implRegularIn_any (ao : Option Addr) (ca : Nat) (xs : List Int) (w : World) (hl : xs.length ≤ 1048576) (hx : Rd w ao xs) :
    Calls Try.prog 16 #[.slice ao xs.length ca] w fun e w' => e = .returned (.bool (relIn xs && regB xs)) ∧ Below w.heap.size w w' := by
  cases hp : relIn xs with
  | false =>
    rw [Bool.false_and]
    have HP := Lib.hid hp
    clear hp
    go_enter Try.func16, Try.ntmps16
    go_wp2_with (go_at_call 41; refine (relationFrom_no _ _ _ _ hl HP.out hx).mono ?_; rintro e w1 ⟨rfl, hb⟩)
    go_ret
    exact ⟨rfl, hb.alloc hb.size _⟩
  | true =>
    rw [Bool.true_and]
    have HC := Lib.hid (fun w => isRegularR (Rl.of hp) w)
    have HP := Lib.hid hp
    clear hp
    go_enter Try.func16, Try.ntmps16
    go_wp2_with fail
    refine (relationFrom_yes _ _ _ _ HP.out hx).mono ?_
    rintro e w1 ⟨rfl, hb⟩
    have x1 := RelAt.new w1 xs
    have B1 := hb.alloc hb.size (.cells #[.int .i64 xs.length, .int .i64 (rowAt xs 0), .int .i64 (rowAt xs 1), .int .i64 (rowAt xs 2), .int .i64 (rowAt xs 3)] 44)
    have p0 := x1.cell0
    have p1 := x1.cell1
    have p2 := x1.cell2
    have p3 := x1.cell3
    have p4 := x1.cell4
    clear x1 hb
    go_wp2_with fail
    refine (HC.out _).mono ?_
    rintro e w3 ⟨rfl, hb3⟩
    go_wp2
    go_ret
    exact ⟨rfl, B1.trans (hb3.mono B1.size)⟩

theorem cf_most (args : Array Value) (w : World) : Sem.run Try.prog (callFunc 45 args) w = .ok (.enter 45 args) w := by kernel_rfl
theorem implRegularMost_any (ao : Option Addr) (ca : Nat) (xs : List Int) (w : World) (hl : xs.length ≤ 1048576) (hx : Rd w ao xs) :
    Calls Try.prog 19 #[.slice ao xs.length ca] w (Gave w (ifR (relIn xs) (mostX xs)) (relIn xs)) := by
  cases hp : relIn xs with
  | false =>
    have h1 := Lib.hid (madeOfOne_no (.func (.func 45) #[] #[]) ao ca xs w hl hx hp)
    clear hp
    go_enter Try.func19, Try.ntmps19
    go_wp2_with (go_at_call 44; refine h1.out.mono ?_; rintro e w1 ⟨v, rfl, ho, hb⟩)
    go_ret2
    exact ⟨v, rfl, ho, hb⟩
  | true =>
    have R := Rl.of hp
    have h1 := Lib.hid (madeOfOne_yes 45 cf_most mostX ao ca xs w hx hp (R.mostX.len) (fun w => mostR R w))
    clear hp R
    go_enter Try.func19, Try.ntmps19
    go_wp2_with (go_at_call 44; refine h1.out.mono ?_; rintro e w1 ⟨v, rfl, ho, hb⟩)
    go_ret2
    exact ⟨v, rfl, ho, hb⟩

set_option maxHeartbeats 4000000 in
theorem implRegularBack_any (ao : Option Addr) (ca : Nat) (xs : List Int) (w : World) (hl : xs.length ≤ 1048576) (hx : Rd w ao xs) :
    Calls Try.prog 23 #[.slice ao xs.length ca] w (Gave w (ifR (relIn xs && regB xs) (backL xs)) (relIn xs && regB xs)) := by
  cases hp : relIn xs with
  | false =>
    rw [Bool.false_and]
    have HP := Lib.hid hp
    clear hp
    go_enter Try.func23, Try.ntmps23
    go_wp2_with (go_at_call 41; refine (relationFrom_no _ _ _ _ hl HP.out hx).mono ?_; rintro e w1 ⟨rfl, hb⟩)
    go_ret2
    exact ⟨.slice none 0 0, rfl, World.ownsRow_nil _ _ _ _, hb.alloc hb.size _⟩
  | true =>
    have R := Rl.of hp
    have h4 := R.four
    have hbl := R.backL.len
    rw [Bool.true_and]
    have HC := Lib.hid (And.intro (fun w => isRegularR R w) (fun w => backR R w))
    have HP := Lib.hid hp
    clear hp R
    obtain ⟨d, hd⟩ : ∃ d, backL xs = d := ⟨_, rfl⟩
    obtain ⟨s, hs⟩ : ∃ s, regB xs = s := ⟨_, rfl⟩
    rw [hd, hs] at HC
    rw [hd] at hbl
    rw [hd, hs]
    clear hd hs
    have HL := Lib.hid (by omega : d.length ≤ 4)
    clear hbl h4
    go_enter Try.func23, Try.ntmps23
    go_wp2_with fail
    refine (relationFrom_yes _ _ _ _ HP.out hx).mono ?_
    rintro e w1 ⟨rfl, hb⟩
    have x1 := RelAt.new w1 xs
    have B1 := hb.alloc hb.size (.cells #[.int .i64 xs.length, .int .i64 (rowAt xs 0), .int .i64 (rowAt xs 1), .int .i64 (rowAt xs 2), .int .i64 (rowAt xs 3)] 44)
    have p0 := x1.cell0
    have p1 := x1.cell1
    have p2 := x1.cell2
    have p3 := x1.cell3
    have p4 := x1.cell4
    clear hb
    go_wp2_with fail
    refine (HC.out.1 _).mono ?_
    rintro e w3 ⟨rfl, hb3⟩
    have x3 := x1.below hb3 x1.lt
    have B3 := B1.trans (hb3.mono B1.size)
    clear x1 hb3 B1 p0 p1 p2 p3 p4
    have p0 := x3.cell0
    have p1 := x3.cell1
    have p2 := x3.cell2
    have p3 := x3.cell3
    have p4 := x3.cell4
    clear x3
    cases s with
    | false =>
      go_wp2
      go_ret2
      exact ⟨.slice none 0 0, rfl, World.ownsRow_nil _ _ _ _, B3⟩
    | true =>
      go_wp2_with fail
      refine (HC.out.2 _).mono ?_
      rintro e w4 ⟨rfl, hb4⟩
      have B4 := B3.trans (hb4.mono B3.size)
      clear p0 p1 p2 p3 p4
      go_wp2_with fail
      refine (list_any d w4 HL.out).mono ?_
      rintro e w5 ⟨v, rfl, ho, hb5⟩
      go_wp2
      go_ret2
      exact ⟨v, rfl, own_mono ho B4.size, B4.trans (hb5.mono B4.size)⟩
end Go.Proofs.Ytfcpfhffkfbgdaa
