/-
  Pairs that turn and others: KindSplit of both.
-/
import Derived.Test.YtpbkgdohfnjjpaaHCb
import Derived.Test.YtpbkgdohfnjjpaaDD
namespace Go.Proofs.Ytpbkgdohfnjjpaa
open Go.RowKit

/-- pairs of different points that turn, and those that do not -/
def turnsL (xs : List Int) : List Int := twoW (offI xs)
def oneWayL (xs : List Int) : List Int := bothL (offI xs) (otherL (turnsL xs))
theorem Rl.turns {n : Nat} {xs : List Int} (h : Rl n xs) : Rl n (turnsL xs) := h.off.twoW
theorem Rl.oneWay {n : Nat} {xs : List Int} (h : Rl n xs) : Rl n (oneWayL xs) := h.off.both h.turns.other
/-- two lists of the call's own, apart -/
def GaveLL (w : World) (r s : List Int) (ok : Bool) (e : Ending) (w' : World) : Prop :=
  ∃ u v l0 h0 l1 h1, e = .returned (.tuple #[u, v, .bool ok]) ∧ OwnR w' l0 h0 u r ∧ OwnR w' l1 h1 v s ∧ w.heap.size ≤ l0 ∧ w.heap.size ≤ l1 ∧ (h0 ≤ l1 ∨ h1 ≤ l0) ∧ Below w.heap.size w w'
/-- two lists of the call's own -/
def GaveLLS (w : World) (r s : List Int) (ok : Bool) (e : Ending) (w' : World) : Prop :=
  ∃ u v, e = .returned (.tuple #[u, v, .bool ok]) ∧ OwnR w' w.heap.size w'.heap.size u r ∧ OwnR w' w.heap.size w'.heap.size v s ∧ Below w.heap.size w w'

/-! the model's rows -/
def splitX (xs : List Int) : List Int := (List.range xs.length).map fun i => bits .andNot .i64 (bits .and .i64 (rowAt xs i) (rowAt (turnL xs) i)) (pt i)
def splitY (xs : List Int) : List Int := (List.range xs.length).map fun i => bits .andNot .i64 (bits .andNot .i64 (rowAt xs i) (rowAt (turnL xs) i)) (pt i)
theorem rowAt_range (n : Nat) (f : Nat → Int) (i : Nat) (hi : i < n) : rowAt ((List.range n).map f) i = f i := by
  unfold rowAt
  rw [List.getD_eq_getElem?_getD, List.getElem?_map, List.getElem?_range hi]
  rfl
theorem b_an : ∀ n : Fin 5, ∀ x y : Fin 16, ∀ i : Fin n.val, x.val < 2 ^ n.val → ∃ u : Fin 16, bits .andNot .i64 (bits .and .i64 (x.val : Int) (y.val : Int)) (pt i.val) = (u.val : Int) ∧ u.val < 2 ^ n.val ∧ ∀ j : Fin n.val, hasB (u.val : Int) j.val = (hasB (x.val : Int) j.val && hasB (y.val : Int) j.val && !decide (j.val = i.val)) := by decide +kernel
theorem b_ann : ∀ n : Fin 5, ∀ x y : Fin 16, ∀ i : Fin n.val, x.val < 2 ^ n.val → ∃ u : Fin 16, bits .andNot .i64 (bits .andNot .i64 (x.val : Int) (y.val : Int)) (pt i.val) = (u.val : Int) ∧ u.val < 2 ^ n.val ∧ ∀ j : Fin n.val, hasB (u.val : Int) j.val = (hasB (x.val : Int) j.val && !hasB (y.val : Int) j.val && !decide (j.val = i.val)) := by decide +kernel
theorem splitX_row {n : Nat} {xs : List Int} (h : Rl n xs) (i : Nat) (hi : i < n) : ∃ u : Fin 16, rowAt (splitX xs) i = (u.val : Int) ∧ u.val < 2 ^ n ∧ ∀ j, j < n → hasB (u.val : Int) j = (hB xs i j && hB xs j i && !decide (j = i)) := by
  obtain ⟨x, hx, hx2⟩ := h.row i
  obtain ⟨y, hy, _⟩ := h.turn.row i
  obtain ⟨u, h1, h2, h3⟩ := b_an ⟨n, by have := h.four; omega⟩ x y ⟨i, hi⟩ hx2
  refine ⟨u, ?_, h2, fun j hj => ?_⟩
  · unfold splitX
    rw [rowAt_range _ _ _ (by rw [h.len]; exact hi), hx, hy]
    exact h1
  · have e := h3 ⟨j, hj⟩
    have e2 := hB_turn h i j hi hj
    unfold hB at e2 ⊢
    rw [hy] at e2
    rw [hx, ← e2]
    exact e
theorem splitY_row {n : Nat} {xs : List Int} (h : Rl n xs) (i : Nat) (hi : i < n) : ∃ u : Fin 16, rowAt (splitY xs) i = (u.val : Int) ∧ u.val < 2 ^ n ∧ ∀ j, j < n → hasB (u.val : Int) j = (hB xs i j && !hB xs j i && !decide (j = i)) := by
  obtain ⟨x, hx, hx2⟩ := h.row i
  obtain ⟨y, hy, _⟩ := h.turn.row i
  obtain ⟨u, h1, h2, h3⟩ := b_ann ⟨n, by have := h.four; omega⟩ x y ⟨i, hi⟩ hx2
  refine ⟨u, ?_, h2, fun j hj => ?_⟩
  · unfold splitY
    rw [rowAt_range _ _ _ (by rw [h.len]; exact hi), hx, hy]
    exact h1
  · have e := h3 ⟨j, hj⟩
    have e2 := hB_turn h i j hi hj
    unfold hB at e2 ⊢
    rw [hy] at e2
    rw [hx, ← e2]
    exact e
theorem splitX_len (xs : List Int) : (splitX xs).length = xs.length := by unfold splitX; simp
theorem splitY_len (xs : List Int) : (splitY xs).length = xs.length := by unfold splitY; simp
theorem splitX_eq {n : Nat} {xs : List Int} (h : Rl n xs) : splitX xs = turnsL xs := by
  refine (Rl.mk' ((splitX_len xs).trans h.len) h.one h.four fun i hi => ?_).ext h.turns fun i j hi hj => ?_
  · obtain ⟨u, h1, h2, _⟩ := splitX_row h i hi
    exact ⟨u, h1, h2⟩
  · obtain ⟨u, h1, h2, h3⟩ := splitX_row h i hi
    unfold turnsL
    rw [hB_twoW h.off i j hi hj, hB_off h i j hi hj, hB_off h j i hj hi]
    unfold hB at h3 ⊢
    rw [h1, h3 j hj]
    by_cases e : j = i
    · subst e; simp
    · have e2 : ¬ i = j := fun q => e q.symm
      simp [e, e2]
theorem splitY_eq {n : Nat} {xs : List Int} (h : Rl n xs) : splitY xs = oneWayL xs := by
  refine (Rl.mk' ((splitY_len xs).trans h.len) h.one h.four fun i hi => ?_).ext h.oneWay fun i j hi hj => ?_
  · obtain ⟨u, h1, h2, _⟩ := splitY_row h i hi
    exact ⟨u, h1, h2⟩
  · obtain ⟨u, h1, h2, h3⟩ := splitY_row h i hi
    unfold oneWayL
    rw [hB_both h.off h.turns.other i j hi hj, hB_other h.turns i j hi hj]
    unfold turnsL
    rw [hB_twoW h.off i j hi hj, hB_off h i j hi hj, hB_off h j i hj hi]
    unfold hB at h3 ⊢
    rw [h1, h3 j hj]
    by_cases e : j = i
    · subst e; simp
    · have e2 : ¬ i = j := fun q => e q.symm
      simp [e, e2]
      cases hasB (rowAt xs i) j <;> cases hasB (rowAt xs j) i <;> rfl
theorem split_take (f : Nat → Int) (n k : Nat) (hk : k < n) : ((List.range n).map f).take (k + 1) = ((List.range n).map f).take k ++ [f k] := by
  rw [List.take_succ_eq_append_getElem (by simpa using hk)]
  simp

/-! the program's -/
set_option maxRecDepth 100000 in
set_option maxHeartbeats 8000000 in
theorem implSplit_walk (xs d s o p : List Int) (ao : Option Addr) (ca : Nat) (w : World) (hs4 : s.length ≤ 4) (hp4 : p.length ≤ 4)
    (h0 : Calls Try.prog 50 #[.slice ao xs.length ca] w fun e w' => e = .returned (.tuple #[relOf xs, .bool true]) ∧ Below w.heap.size w w')
    (h1 : ∀ w, Calls Try.prog 67 #[relOf xs] w fun e w' => e = .returned (relOf d) ∧ Below w.heap.size w w')
    (h2 : ∀ w, Calls Try.prog 68 #[relOf d] w fun e w' => e = .returned (relOf s) ∧ Below w.heap.size w w')
    (h3 : ∀ w, Calls Try.prog 69 #[relOf s] w fun e w' => e = .returned (relOf o) ∧ Below w.heap.size w w')
    (h4 : ∀ w, Calls Try.prog 45 #[relOf d, relOf o] w fun e w' => e = .returned (relOf p) ∧ Below w.heap.size w w') :
    Calls Try.prog 29 #[.slice ao xs.length ca] w (GaveLL w s p true) := by
  have H := Lib.hid (And.intro h0 (And.intro h1 (And.intro h2 (And.intro h3 h4))))
  clear h0 h1 h2 h3 h4
  go_enter Try.func29, Try.ntmps29
  go_wp2_with fail
  refine H.out.1.mono ?_
  rintro e w1 ⟨rfl, hb⟩
  have x1 := RelAt.new w1 xs
  have B1 := hb.alloc hb.size (.cells #[.int .i64 xs.length, .int .i64 (rowAt xs 0), .int .i64 (rowAt xs 1), .int .i64 (rowAt xs 2), .int .i64 (rowAt xs 3)] 48)
  clear hb
  have p0 := x1.cell0
  have p1 := x1.cell1
  have p2 := x1.cell2
  have p3 := x1.cell3
  have p4 := x1.cell4
  go_wp2_with fail
  refine (H.out.2.1 _).mono ?_
  rintro e w2 ⟨rfl, hb⟩
  have d2 := RelAt.new w2 d
  have B2 := (B1.trans (hb.mono B1.size)).alloc (Nat.le_trans B1.size hb.size) (.cells #[.int .i64 d.length, .int .i64 (rowAt d 0), .int .i64 (rowAt d 1), .int .i64 (rowAt d 2), .int .i64 (rowAt d 3)] 48)
  clear hb B1 x1 p0 p1 p2 p3 p4
  have p0 := d2.cell0
  have p1 := d2.cell1
  have p2 := d2.cell2
  have p3 := d2.cell3
  have p4 := d2.cell4
  go_wp2_with fail
  refine (H.out.2.2.1 _).mono ?_
  rintro e w3 ⟨rfl, hb⟩
  have d3 := (d2.below hb d2.lt).alloc (.cells #[.int .i64 s.length, .int .i64 (rowAt s 0), .int .i64 (rowAt s 1), .int .i64 (rowAt s 2), .int .i64 (rowAt s 3)] 48)
  have s3 := RelAt.new w3 s
  have B3 := (B2.trans (hb.mono B2.size)).alloc (Nat.le_trans B2.size hb.size) (.cells #[.int .i64 s.length, .int .i64 (rowAt s 0), .int .i64 (rowAt s 1), .int .i64 (rowAt s 2), .int .i64 (rowAt s 3)] 48)
  clear hb B2 d2 p0 p1 p2 p3 p4
  go_wp2
  obtain ⟨W0, hW0⟩ : ∃ W0, w3.alloc (.cells #[.int .i64 s.length, .int .i64 (rowAt s 0), .int .i64 (rowAt s 1), .int .i64 (rowAt s 2), .int .i64 (rowAt s 3)] 48) = W0 := ⟨_, rfl⟩
  rw [hW0] at d3 s3 B3 ⊢
  clear hW0
  have p0 := d3.cell0
  have p1 := d3.cell1
  have p2 := d3.cell2
  have p3 := d3.cell3
  have p4 := d3.cell4
  have q0 := s3.cell0
  have q1 := s3.cell1
  have q2 := s3.cell2
  have q3 := s3.cell3
  have q4 := s3.cell4
  have x := d3.drew
  have y := s3.drew
  have B := B3.drew
  have hwW0 : w.heap.size ≤ W0.heap.size := B3.size
  clear d3 s3 B3
  have nw2W0 : w2.heap.size ≠ W0.heap.size := Nat.ne_of_lt (show w2.heap.size < W0.heap.size from x.lt)
  have mw2W0 : W0.heap.size ≠ w2.heap.size := fun e => nw2W0 e.symm
  have bnw2W0 : (w2.heap.size == W0.heap.size) = false := beq_eq_false_iff_ne.2 nw2W0
  have bmw2W0 : (W0.heap.size == w2.heap.size) = false := beq_eq_false_iff_ne.2 mw2W0
  have nw3W0 : w3.heap.size ≠ W0.heap.size := Nat.ne_of_lt (show w3.heap.size < W0.heap.size from y.lt)
  have mw3W0 : W0.heap.size ≠ w3.heap.size := fun e => nw3W0 e.symm
  have bnw3W0 : (w3.heap.size == W0.heap.size) = false := beq_eq_false_iff_ne.2 nw3W0
  have bmw3W0 : (W0.heap.size == w3.heap.size) = false := beq_eq_false_iff_ne.2 mw3W0
  go_region_held (fun w' => w'.cell? ⟨w2.heap.size, 0, none⟩ = some (.int .i64 d.length) ∧ w'.cell? ⟨w2.heap.size, 1, none⟩ = some (.int .i64 (rowAt d 0)) ∧ w'.cell? ⟨w2.heap.size, 2, none⟩ = some (.int .i64 (rowAt d 1)) ∧ w'.cell? ⟨w2.heap.size, 3, none⟩ = some (.int .i64 (rowAt d 2)) ∧ w'.cell? ⟨w2.heap.size, 4, none⟩ = some (.int .i64 (rowAt d 3)) ∧ w'.cell? ⟨w3.heap.size, 0, none⟩ = some (.int .i64 s.length) ∧ w'.cell? ⟨w3.heap.size, 1, none⟩ = some (.int .i64 (rowAt s 0)) ∧ w'.cell? ⟨w3.heap.size, 2, none⟩ = some (.int .i64 (rowAt s 1)) ∧ w'.cell? ⟨w3.heap.size, 3, none⟩ = some (.int .i64 (rowAt s 2)) ∧ w'.cell? ⟨w3.heap.size, 4, none⟩ = some (.int .i64 (rowAt s 3))) (go_keep) (first
    | (go_at_call 69; refine (H.out.2.2.2.1 _).mono ?_; rintro e w4 ⟨rfl, hb⟩; (first | (replace x := x.below hb x.lt; replace y := y.below hb y.lt; replace B := B.trans (hb.mono B.size)) | (have z : RelAt w4 W0.heap.size [] := (rel_zero W0.drew).below hb (by simp); have x := (x.alloc (.cells #[.int .i64 0, .int .i64 0, .int .i64 0, .int .i64 0, .int .i64 0] 48)).below hb (x.alloc (.cells #[.int .i64 0, .int .i64 0, .int .i64 0, .int .i64 0, .int .i64 0] 48)).lt; have y := (y.alloc (.cells #[.int .i64 0, .int .i64 0, .int .i64 0, .int .i64 0, .int .i64 0] 48)).below hb (y.alloc (.cells #[.int .i64 0, .int .i64 0, .int .i64 0, .int .i64 0, .int .i64 0] 48)).lt; replace B := (B.alloc B.size (.cells #[.int .i64 0, .int .i64 0, .int .i64 0, .int .i64 0, .int .i64 0] 48)).trans (hb.mono (by have := B.size; simp at this ⊢; omega)))); have nw2w4 : w2.heap.size ≠ w4.heap.size := Nat.ne_of_lt (show w2.heap.size < w4.heap.size from x.lt); have mw2w4 : w4.heap.size ≠ w2.heap.size := fun e => nw2w4 e.symm; have bnw2w4 : (w2.heap.size == w4.heap.size) = false := beq_eq_false_iff_ne.2 nw2w4; have bmw2w4 : (w4.heap.size == w2.heap.size) = false := beq_eq_false_iff_ne.2 mw2w4; have nw3w4 : w3.heap.size ≠ w4.heap.size := Nat.ne_of_lt (show w3.heap.size < w4.heap.size from y.lt); have mw3w4 : w4.heap.size ≠ w3.heap.size := fun e => nw3w4 e.symm; have bnw3w4 : (w3.heap.size == w4.heap.size) = false := beq_eq_false_iff_ne.2 nw3w4; have bmw3w4 : (w4.heap.size == w3.heap.size) = false := beq_eq_false_iff_ne.2 mw3w4; replace p0 := x.cell0; replace p1 := x.cell1; replace p2 := x.cell2; replace p3 := x.cell3; replace p4 := x.cell4; replace q0 := y.cell0; replace q1 := y.cell1; replace q2 := y.cell2; replace q3 := y.cell3; replace q4 := y.cell4; have hw4 := B.size; clear hb)
    | (go_at_call 45; refine (H.out.2.2.2.2 _).mono ?_; rintro e w5 ⟨rfl, hb⟩; (first | (replace z := z.below hb z.lt; replace x := x.below hb x.lt; replace y := y.below hb y.lt; replace B := B.trans (hb.mono B.size); have f0 := z.free 0; have f1 := z.free 1; have f2 := z.free 2; have f3 := z.free 3; have f4 := z.free 4; have u0 := z.cell0; have u1 := z.cell1; have u2 := z.cell2; have u3 := z.cell3; have u4 := z.cell4) | (replace x := x.below hb x.lt; replace y := y.below hb y.lt; replace B := B.trans (hb.mono B.size)) | (have z := (rel_zero w4).below hb (by simp); have x := (x.alloc (.cells #[.int .i64 0, .int .i64 0, .int .i64 0, .int .i64 0, .int .i64 0] 48)).below hb (x.alloc (.cells #[.int .i64 0, .int .i64 0, .int .i64 0, .int .i64 0, .int .i64 0] 48)).lt; have y := (y.alloc (.cells #[.int .i64 0, .int .i64 0, .int .i64 0, .int .i64 0, .int .i64 0] 48)).below hb (y.alloc (.cells #[.int .i64 0, .int .i64 0, .int .i64 0, .int .i64 0, .int .i64 0] 48)).lt; replace B := (B.alloc B.size (.cells #[.int .i64 0, .int .i64 0, .int .i64 0, .int .i64 0, .int .i64 0] 48)).trans (hb.mono (by have := B.size; simp at this ⊢; omega)); have f0 := z.free 0; have f1 := z.free 1; have f2 := z.free 2; have f3 := z.free 3; have f4 := z.free 4; have u0 := z.cell0; have u1 := z.cell1; have u2 := z.cell2; have u3 := z.cell3; have u4 := z.cell4)); have nw2w5 : w2.heap.size ≠ w5.heap.size := Nat.ne_of_lt (show w2.heap.size < w5.heap.size from x.lt); have mw2w5 : w5.heap.size ≠ w2.heap.size := fun e => nw2w5 e.symm; have bnw2w5 : (w2.heap.size == w5.heap.size) = false := beq_eq_false_iff_ne.2 nw2w5; have bmw2w5 : (w5.heap.size == w2.heap.size) = false := beq_eq_false_iff_ne.2 mw2w5; have nw3w5 : w3.heap.size ≠ w5.heap.size := Nat.ne_of_lt (show w3.heap.size < w5.heap.size from y.lt); have mw3w5 : w5.heap.size ≠ w3.heap.size := fun e => nw3w5 e.symm; have bnw3w5 : (w3.heap.size == w5.heap.size) = false := beq_eq_false_iff_ne.2 nw3w5; have bmw3w5 : (w5.heap.size == w3.heap.size) = false := beq_eq_false_iff_ne.2 mw3w5; replace p0 := x.cell0; replace p1 := x.cell1; replace p2 := x.cell2; replace p3 := x.cell3; replace p4 := x.cell4; replace q0 := y.cell0; replace q1 := y.cell1; replace q2 := y.cell2; replace q3 := y.cell3; replace q4 := y.cell4; clear hb))
  all_goals go_wp2
  · have sX := y.alloc (.cells #[.int .i64 p.length, .int .i64 (rowAt p 0), .int .i64 (rowAt p 1), .int .i64 (rowAt p 2), .int .i64 (rowAt p 3)] 48)
    have pX := RelAt.new w5 p
    have BX := B.alloc B.size (.cells #[.int .i64 p.length, .int .i64 (rowAt p 0), .int .i64 (rowAt p 1), .int .i64 (rowAt p 2), .int .i64 (rowAt p 3)] 48)
    clear p0 p1 p2 p3 p4 q0 q1 q2 q3 q4 x y B
    obtain ⟨X, hX⟩ : ∃ X, w5.alloc (.cells #[.int .i64 p.length, .int .i64 (rowAt p 0), .int .i64 (rowAt p 1), .int .i64 (rowAt p 2), .int .i64 (rowAt p 3)] 48) = X := ⟨_, rfl⟩
    obtain ⟨Zb, hZ⟩ : ∃ Zb, w5.heap.size = Zb := ⟨_, rfl⟩
    rw [hX] at sX pX BX ⊢
    rw [hZ] at pX ⊢
    clear hX hZ
    have p0 := pX.cell0
    have p1 := pX.cell1
    have p2 := pX.cell2
    have p3 := pX.cell3
    have p4 := pX.cell4
    have q0 := sX.cell0
    have q1 := sX.cell1
    have q2 := sX.cell2
    have q3 := sX.cell3
    have q4 := sX.cell4
    replace sX := sX.drew
    replace pX := pX.drew
    replace BX := BX.drew
    go_region_held (fun w' => w'.cell? ⟨w3.heap.size, 0, none⟩ = some (.int .i64 s.length) ∧ w'.cell? ⟨w3.heap.size, 1, none⟩ = some (.int .i64 (rowAt s 0)) ∧ w'.cell? ⟨w3.heap.size, 2, none⟩ = some (.int .i64 (rowAt s 1)) ∧ w'.cell? ⟨w3.heap.size, 3, none⟩ = some (.int .i64 (rowAt s 2)) ∧ w'.cell? ⟨w3.heap.size, 4, none⟩ = some (.int .i64 (rowAt s 3)) ∧ w'.cell? ⟨Zb, 0, none⟩ = some (.int .i64 p.length) ∧ w'.cell? ⟨Zb, 1, none⟩ = some (.int .i64 (rowAt p 0)) ∧ w'.cell? ⟨Zb, 2, none⟩ = some (.int .i64 (rowAt p 1)) ∧ w'.cell? ⟨Zb, 3, none⟩ = some (.int .i64 (rowAt p 2)) ∧ w'.cell? ⟨Zb, 4, none⟩ = some (.int .i64 (rowAt p 3))) (go_keep) (first
      | ((with_reducible refine (list_any s _ hs4).mono ?_); rintro e w6 ⟨u, rfl, os, hb⟩; have bS := BX.size; replace sX := sX.below hb sX.lt; replace pX := pX.below hb pX.lt; replace BX := BX.trans (hb.mono BX.size); (try replace oP := oP.below hb oP.size); have oS := OwnR.made os; replace p0 := pX.cell0; replace p1 := pX.cell1; replace p2 := pX.cell2; replace p3 := pX.cell3; replace p4 := pX.cell4; replace q0 := sX.cell0; replace q1 := sX.cell1; replace q2 := sX.cell2; replace q3 := sX.cell3; replace q4 := sX.cell4; clear hb os)
      | ((with_reducible refine (list_any p _ hp4).mono ?_); rintro e w7 ⟨v, rfl, op, hb⟩; have bP := BX.size; replace sX := sX.below hb sX.lt; replace pX := pX.below hb pX.lt; replace BX := BX.trans (hb.mono BX.size); (try replace oS := oS.below hb oS.size); have oP := OwnR.made op; replace p0 := pX.cell0; replace p1 := pX.cell1; replace p2 := pX.cell2; replace p3 := pX.cell3; replace p4 := pX.cell4; replace q0 := sX.cell0; replace q1 := sX.cell1; replace q2 := sX.cell2; replace q3 := sX.cell3; replace q4 := sX.cell4; clear hb op))
    all_goals
      go_wp2
      go_ret3
      exact ⟨_, _, _, _, _, _, rfl, oS, oP, bS, bP, (by first | exact .inl (Nat.le_refl _) | exact .inr (Nat.le_refl _)), BX⟩
  · have pX := z.put p
    have hzo := fun (W : World) (i : Nat) (v : Value) (h : RelAt W w3.heap.size s) => h.other (p := ⟨w4.heap.size, i, none⟩) nw3w4 v
    have sX := hzo _ 4 (.int .i64 (rowAt p 3)) (hzo _ 3 (.int .i64 (rowAt p 2)) (hzo _ 2 (.int .i64 (rowAt p 1)) (hzo _ 1 (.int .i64 (rowAt p 0)) (hzo _ 0 (.int .i64 p.length) y))))
    have bb := fun (W : World) (t : Nat) (v : Value) (h : Below w.heap.size w W) => h.setCell (p := ⟨w4.heap.size, t, none⟩) hw4 v
    have BX := bb _ 4 (.int .i64 (rowAt p 3)) (bb _ 3 (.int .i64 (rowAt p 2)) (bb _ 2 (.int .i64 (rowAt p 1)) (bb _ 1 (.int .i64 (rowAt p 0)) (bb _ 0 (.int .i64 p.length) B))))
    clear p0 p1 p2 p3 p4 q0 q1 q2 q3 q4 x y B z f0 f1 f2 f3 f4 u0 u1 u2 u3 u4
    obtain ⟨X, hX⟩ : ∃ X, (((((w5.setCell ⟨w4.heap.size, 0, none⟩ (.int .i64 p.length)).setCell ⟨w4.heap.size, 1, none⟩ (.int .i64 (rowAt p 0))).setCell ⟨w4.heap.size, 2, none⟩ (.int .i64 (rowAt p 1))).setCell ⟨w4.heap.size, 3, none⟩ (.int .i64 (rowAt p 2))).setCell ⟨w4.heap.size, 4, none⟩ (.int .i64 (rowAt p 3))) = X := ⟨_, rfl⟩
    obtain ⟨Zb, hZ⟩ : ∃ Zb, w4.heap.size = Zb := ⟨_, rfl⟩
    rw [hX] at sX pX BX ⊢
    rw [hZ] at pX ⊢
    clear hX hZ
    have p0 := pX.cell0
    have p1 := pX.cell1
    have p2 := pX.cell2
    have p3 := pX.cell3
    have p4 := pX.cell4
    have q0 := sX.cell0
    have q1 := sX.cell1
    have q2 := sX.cell2
    have q3 := sX.cell3
    have q4 := sX.cell4
    replace sX := sX.drew
    replace pX := pX.drew
    replace BX := BX.drew
    go_region_held (fun w' => w'.cell? ⟨w3.heap.size, 0, none⟩ = some (.int .i64 s.length) ∧ w'.cell? ⟨w3.heap.size, 1, none⟩ = some (.int .i64 (rowAt s 0)) ∧ w'.cell? ⟨w3.heap.size, 2, none⟩ = some (.int .i64 (rowAt s 1)) ∧ w'.cell? ⟨w3.heap.size, 3, none⟩ = some (.int .i64 (rowAt s 2)) ∧ w'.cell? ⟨w3.heap.size, 4, none⟩ = some (.int .i64 (rowAt s 3)) ∧ w'.cell? ⟨Zb, 0, none⟩ = some (.int .i64 p.length) ∧ w'.cell? ⟨Zb, 1, none⟩ = some (.int .i64 (rowAt p 0)) ∧ w'.cell? ⟨Zb, 2, none⟩ = some (.int .i64 (rowAt p 1)) ∧ w'.cell? ⟨Zb, 3, none⟩ = some (.int .i64 (rowAt p 2)) ∧ w'.cell? ⟨Zb, 4, none⟩ = some (.int .i64 (rowAt p 3))) (go_keep) (first
      | ((with_reducible refine (list_any s _ hs4).mono ?_); rintro e w6 ⟨u, rfl, os, hb⟩; have bS := BX.size; replace sX := sX.below hb sX.lt; replace pX := pX.below hb pX.lt; replace BX := BX.trans (hb.mono BX.size); (try replace oP := oP.below hb oP.size); have oS := OwnR.made os; replace p0 := pX.cell0; replace p1 := pX.cell1; replace p2 := pX.cell2; replace p3 := pX.cell3; replace p4 := pX.cell4; replace q0 := sX.cell0; replace q1 := sX.cell1; replace q2 := sX.cell2; replace q3 := sX.cell3; replace q4 := sX.cell4; clear hb os)
      | ((with_reducible refine (list_any p _ hp4).mono ?_); rintro e w7 ⟨v, rfl, op, hb⟩; have bP := BX.size; replace sX := sX.below hb sX.lt; replace pX := pX.below hb pX.lt; replace BX := BX.trans (hb.mono BX.size); (try replace oS := oS.below hb oS.size); have oP := OwnR.made op; replace p0 := pX.cell0; replace p1 := pX.cell1; replace p2 := pX.cell2; replace p3 := pX.cell3; replace p4 := pX.cell4; replace q0 := sX.cell0; replace q1 := sX.cell1; replace q2 := sX.cell2; replace q3 := sX.cell3; replace q4 := sX.cell4; clear hb op))
    all_goals
      go_wp2
      go_ret3
      exact ⟨_, _, _, _, _, _, rfl, oS, oP, bS, bP, (by first | exact .inl (Nat.le_refl _) | exact .inr (Nat.le_refl _)), BX⟩
  · have pX := z.put p
    have hzo := fun (W : World) (i : Nat) (v : Value) (h : RelAt W w3.heap.size s) => h.other (p := ⟨W0.heap.size, i, none⟩) nw3W0 v
    have sX := hzo _ 4 (.int .i64 (rowAt p 3)) (hzo _ 3 (.int .i64 (rowAt p 2)) (hzo _ 2 (.int .i64 (rowAt p 1)) (hzo _ 1 (.int .i64 (rowAt p 0)) (hzo _ 0 (.int .i64 p.length) y))))
    have bb := fun (W : World) (t : Nat) (v : Value) (h : Below w.heap.size w W) => h.setCell (p := ⟨W0.heap.size, t, none⟩) hwW0 v
    have BX := bb _ 4 (.int .i64 (rowAt p 3)) (bb _ 3 (.int .i64 (rowAt p 2)) (bb _ 2 (.int .i64 (rowAt p 1)) (bb _ 1 (.int .i64 (rowAt p 0)) (bb _ 0 (.int .i64 p.length) B))))
    clear p0 p1 p2 p3 p4 q0 q1 q2 q3 q4 x y B z f0 f1 f2 f3 f4 u0 u1 u2 u3 u4
    obtain ⟨X, hX⟩ : ∃ X, (((((w5.setCell ⟨W0.heap.size, 0, none⟩ (.int .i64 p.length)).setCell ⟨W0.heap.size, 1, none⟩ (.int .i64 (rowAt p 0))).setCell ⟨W0.heap.size, 2, none⟩ (.int .i64 (rowAt p 1))).setCell ⟨W0.heap.size, 3, none⟩ (.int .i64 (rowAt p 2))).setCell ⟨W0.heap.size, 4, none⟩ (.int .i64 (rowAt p 3))) = X := ⟨_, rfl⟩
    obtain ⟨Zb, hZ⟩ : ∃ Zb, W0.heap.size = Zb := ⟨_, rfl⟩
    rw [hX] at sX pX BX ⊢
    rw [hZ] at pX ⊢
    clear hX hZ
    have p0 := pX.cell0
    have p1 := pX.cell1
    have p2 := pX.cell2
    have p3 := pX.cell3
    have p4 := pX.cell4
    have q0 := sX.cell0
    have q1 := sX.cell1
    have q2 := sX.cell2
    have q3 := sX.cell3
    have q4 := sX.cell4
    replace sX := sX.drew
    replace pX := pX.drew
    replace BX := BX.drew
    go_region_held (fun w' => w'.cell? ⟨w3.heap.size, 0, none⟩ = some (.int .i64 s.length) ∧ w'.cell? ⟨w3.heap.size, 1, none⟩ = some (.int .i64 (rowAt s 0)) ∧ w'.cell? ⟨w3.heap.size, 2, none⟩ = some (.int .i64 (rowAt s 1)) ∧ w'.cell? ⟨w3.heap.size, 3, none⟩ = some (.int .i64 (rowAt s 2)) ∧ w'.cell? ⟨w3.heap.size, 4, none⟩ = some (.int .i64 (rowAt s 3)) ∧ w'.cell? ⟨Zb, 0, none⟩ = some (.int .i64 p.length) ∧ w'.cell? ⟨Zb, 1, none⟩ = some (.int .i64 (rowAt p 0)) ∧ w'.cell? ⟨Zb, 2, none⟩ = some (.int .i64 (rowAt p 1)) ∧ w'.cell? ⟨Zb, 3, none⟩ = some (.int .i64 (rowAt p 2)) ∧ w'.cell? ⟨Zb, 4, none⟩ = some (.int .i64 (rowAt p 3))) (go_keep) (first
      | ((with_reducible refine (list_any s _ hs4).mono ?_); rintro e w6 ⟨u, rfl, os, hb⟩; have bS := BX.size; replace sX := sX.below hb sX.lt; replace pX := pX.below hb pX.lt; replace BX := BX.trans (hb.mono BX.size); (try replace oP := oP.below hb oP.size); have oS := OwnR.made os; replace p0 := pX.cell0; replace p1 := pX.cell1; replace p2 := pX.cell2; replace p3 := pX.cell3; replace p4 := pX.cell4; replace q0 := sX.cell0; replace q1 := sX.cell1; replace q2 := sX.cell2; replace q3 := sX.cell3; replace q4 := sX.cell4; clear hb os)
      | ((with_reducible refine (list_any p _ hp4).mono ?_); rintro e w7 ⟨v, rfl, op, hb⟩; have bP := BX.size; replace sX := sX.below hb sX.lt; replace pX := pX.below hb pX.lt; replace BX := BX.trans (hb.mono BX.size); (try replace oS := oS.below hb oS.size); have oP := OwnR.made op; replace p0 := pX.cell0; replace p1 := pX.cell1; replace p2 := pX.cell2; replace p3 := pX.cell3; replace p4 := pX.cell4; replace q0 := sX.cell0; replace q1 := sX.cell1; replace q2 := sX.cell2; replace q3 := sX.cell3; replace q4 := sX.cell4; clear hb op))
    all_goals
      go_wp2
      go_ret3
      exact ⟨_, _, _, _, _, _, rfl, oS, oP, bS, bP, (by first | exact .inl (Nat.le_refl _) | exact .inr (Nat.le_refl _)), BX⟩
end Go.Proofs.Ytpbkgdohfnjjpaa
