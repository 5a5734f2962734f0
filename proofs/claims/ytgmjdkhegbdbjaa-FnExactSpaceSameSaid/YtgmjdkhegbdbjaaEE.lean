/-
  Residuals: the program's leftResidual, rightResidual, CompLeft, CompRight, and the model's.
-/
import Derived.Test.YtgmjdkhegbdbjaaED
namespace Go.Proofs.Ytgmjdkhegbdbjaa
open Go.RowKit

theorem turnedR {n : Nat} {xs : List Int} (h : Rl n xs) (w : World) : Calls Try.prog 49 #[relOf xs] w fun e w' => e = .returned (relOf (turnL xs)) ∧ Below w.heap.size w w' := turned_any xs w (h.len.symm ▸ h.one) (h.len.symm ▸ h.four)
theorem otherR {n : Nat} {xs : List Int} (h : Rl n xs) (w : World) : Calls Try.prog 74 #[relOf xs] w fun e w' => e = .returned (relOf (otherL xs)) ∧ Below w.heap.size w w' := other_any xs w (h.len.symm ▸ h.one) (h.len.symm ▸ h.four)

set_option maxHeartbeats 4000000 in
theorem leftResidual_walk (xs ys a b c d : List Int) (w : World)
    (h1 : ∀ w, Calls Try.prog 49 #[relOf xs] w fun e w' => e = .returned (relOf a) ∧ Below w.heap.size w w')
    (h2 : ∀ w, Calls Try.prog 74 #[relOf ys] w fun e w' => e = .returned (relOf b) ∧ Below w.heap.size w w')
    (h3 : ∀ w, Calls Try.prog 55 #[relOf a, relOf b] w fun e w' => e = .returned (relOf c) ∧ Below w.heap.size w w')
    (h4 : ∀ w, Calls Try.prog 74 #[relOf c] w fun e w' => e = .returned (relOf d) ∧ Below w.heap.size w w') :
    Calls Try.prog 54 #[relOf xs, relOf ys] w fun e w' => e = .returned (relOf d) ∧ Below w.heap.size w w' := by
  have x1 := ((RelAt.new w xs).alloc (.cells #[.int .i64 ys.length, .int .i64 (rowAt ys 0), .int .i64 (rowAt ys 1), .int .i64 (rowAt ys 2), .int .i64 (rowAt ys 3)] 45)).alloc (.cells #[.int .i64 0, .int .i64 0, .int .i64 0, .int .i64 0, .int .i64 0] 45)
  have y1 := (RelAt.new (w.alloc (.cells #[.int .i64 xs.length, .int .i64 (rowAt xs 0), .int .i64 (rowAt xs 1), .int .i64 (rowAt xs 2), .int .i64 (rowAt xs 3)] 45)) ys).alloc (.cells #[.int .i64 0, .int .i64 0, .int .i64 0, .int .i64 0, .int .i64 0] 45)
  have z1 := rel_zero ((w.alloc (.cells #[.int .i64 xs.length, .int .i64 (rowAt xs 0), .int .i64 (rowAt xs 1), .int .i64 (rowAt xs 2), .int .i64 (rowAt xs 3)] 45)).alloc (.cells #[.int .i64 ys.length, .int .i64 (rowAt ys 0), .int .i64 (rowAt ys 1), .int .i64 (rowAt ys 2), .int .i64 (rowAt ys 3)] 45))
  have B0 := below_three w (.cells #[.int .i64 xs.length, .int .i64 (rowAt xs 0), .int .i64 (rowAt xs 1), .int .i64 (rowAt xs 2), .int .i64 (rowAt xs 3)] 45) (.cells #[.int .i64 ys.length, .int .i64 (rowAt ys 0), .int .i64 (rowAt ys 1), .int .i64 (rowAt ys 2), .int .i64 (rowAt ys 3)] 45) (.cells #[.int .i64 0, .int .i64 0, .int .i64 0, .int .i64 0, .int .i64 0] 45)
  simp only [World.size_alloc] at y1 z1
  have H := Lib.hid (And.intro h1 (And.intro h2 (And.intro h3 h4)))
  clear h1 h2 h3 h4
  have p0 := x1.cell0
  have p1 := x1.cell1
  have p2 := x1.cell2
  have p3 := x1.cell3
  have p4 := x1.cell4
  have q0 := y1.cell0
  have q1 := y1.cell1
  have q2 := y1.cell2
  have q3 := y1.cell3
  have q4 := y1.cell4
  go_enter Try.func54, Try.ntmps54
  go_wp2
  go_region_with (first
    | (go_at_call 74; have gd := z4; clear gd; refine (H.out.2.2.2 _).mono ?_; rintro e w5 ⟨rfl, hb5⟩; have z5 := z4.below hb5 z4.lt; have B5 := B4.trans (hb5.mono B4.size); have f0 := z5.free 0; have f1 := z5.free 1; have f2 := z5.free 2; have f3 := z5.free 3; have f4 := z5.free 4; have u0 := z5.cell0; have u1 := z5.cell1; have u2 := z5.cell2; have u3 := z5.cell3; have u4 := z5.cell4)
    | (go_at_call 55; have gd := z3; clear gd; refine (H.out.2.2.1 _).mono ?_; rintro e w4 ⟨rfl, hb4⟩; have z4 := z3.below hb4 z3.lt; have B4 := B3.trans (hb4.mono B3.size))
    | (go_at_call 74; have gd := z2; clear gd; refine (H.out.2.1 _).mono ?_; rintro e w3 ⟨rfl, hb3⟩; have z3 := z2.below hb3 z2.lt; have B3 := B2.trans (hb3.mono B2.size))
    | (go_at_call 49; refine (H.out.1 _).mono ?_; rintro e w2 ⟨rfl, hb2⟩; have y2 := y1.drew.below hb2 (by simp); have z2 := z1.drew.below hb2 (by simp); have B2 := B0.drew.trans (hb2.mono B0.drew.size); have r0 := y2.cell0; have r1 := y2.cell1; have r2 := y2.cell2; have r3 := y2.cell3; have r4 := y2.cell4))
  all_goals
    go_wp2
    refine bodyPost_ret (v := relOf d) (by simp [results, Try.results54, go_sem, u0, u1, u2, u3, u4]) rfl ⟨rfl, ?_⟩
    have bb := fun (W : World) (j : Nat) (v : Value) (h : Below w.heap.size w W) => h.setCell (p := ⟨w.heap.size + 1 + 1, j, none⟩) (by simp; omega) v
    exact bb _ _ _ (bb _ _ _ (bb _ _ _ (bb _ _ _ (bb _ _ _ B5))))

theorem leftR {n : Nat} {xs ys : List Int} (h : Rl n xs) (k : Rl n ys) (w : World) :
    Calls Try.prog 54 #[relOf xs, relOf ys] w fun e w' => e = .returned (relOf (leftL xs ys)) ∧ Below w.heap.size w w' :=
  leftResidual_walk xs ys (turnL xs) (otherL ys) (compL (turnL xs) (otherL ys)) (leftL xs ys) w (fun w => turnedR h w) (fun w => otherR k w) (fun w => then_any h.turn k.other w) (fun w => otherR (h.turn.comp k.other) w)

set_option maxHeartbeats 4000000 in
theorem rightResidual_walk (xs ys a b c d : List Int) (w : World)
    (h1 : ∀ w, Calls Try.prog 49 #[relOf xs] w fun e w' => e = .returned (relOf a) ∧ Below w.heap.size w w')
    (h2 : ∀ w, Calls Try.prog 49 #[relOf ys] w fun e w' => e = .returned (relOf b) ∧ Below w.heap.size w w')
    (h3 : ∀ w, Calls Try.prog 54 #[relOf a, relOf b] w fun e w' => e = .returned (relOf c) ∧ Below w.heap.size w w')
    (h4 : ∀ w, Calls Try.prog 49 #[relOf c] w fun e w' => e = .returned (relOf d) ∧ Below w.heap.size w w') :
    Calls Try.prog 106 #[relOf xs, relOf ys] w fun e w' => e = .returned (relOf d) ∧ Below w.heap.size w w' := by
  have x1 := ((RelAt.new w xs).alloc (.cells #[.int .i64 ys.length, .int .i64 (rowAt ys 0), .int .i64 (rowAt ys 1), .int .i64 (rowAt ys 2), .int .i64 (rowAt ys 3)] 45)).alloc (.cells #[.int .i64 0, .int .i64 0, .int .i64 0, .int .i64 0, .int .i64 0] 45)
  have y1 := (RelAt.new (w.alloc (.cells #[.int .i64 xs.length, .int .i64 (rowAt xs 0), .int .i64 (rowAt xs 1), .int .i64 (rowAt xs 2), .int .i64 (rowAt xs 3)] 45)) ys).alloc (.cells #[.int .i64 0, .int .i64 0, .int .i64 0, .int .i64 0, .int .i64 0] 45)
  have z1 := rel_zero ((w.alloc (.cells #[.int .i64 xs.length, .int .i64 (rowAt xs 0), .int .i64 (rowAt xs 1), .int .i64 (rowAt xs 2), .int .i64 (rowAt xs 3)] 45)).alloc (.cells #[.int .i64 ys.length, .int .i64 (rowAt ys 0), .int .i64 (rowAt ys 1), .int .i64 (rowAt ys 2), .int .i64 (rowAt ys 3)] 45))
  have B0 := below_three w (.cells #[.int .i64 xs.length, .int .i64 (rowAt xs 0), .int .i64 (rowAt xs 1), .int .i64 (rowAt xs 2), .int .i64 (rowAt xs 3)] 45) (.cells #[.int .i64 ys.length, .int .i64 (rowAt ys 0), .int .i64 (rowAt ys 1), .int .i64 (rowAt ys 2), .int .i64 (rowAt ys 3)] 45) (.cells #[.int .i64 0, .int .i64 0, .int .i64 0, .int .i64 0, .int .i64 0] 45)
  simp only [World.size_alloc] at y1 z1
  have H := Lib.hid (And.intro h1 (And.intro h2 (And.intro h3 h4)))
  clear h1 h2 h3 h4
  have p0 := x1.cell0
  have p1 := x1.cell1
  have p2 := x1.cell2
  have p3 := x1.cell3
  have p4 := x1.cell4
  have q0 := y1.cell0
  have q1 := y1.cell1
  have q2 := y1.cell2
  have q3 := y1.cell3
  have q4 := y1.cell4
  go_enter Try.func106, Try.ntmps106
  go_wp2
  go_region_with (first
    | (go_at_call 49; have gd := z4; clear gd; refine (H.out.2.2.2 _).mono ?_; rintro e w5 ⟨rfl, hb5⟩; have z5 := z4.below hb5 z4.lt; have B5 := B4.trans (hb5.mono B4.size); have f0 := z5.free 0; have f1 := z5.free 1; have f2 := z5.free 2; have f3 := z5.free 3; have f4 := z5.free 4; have u0 := z5.cell0; have u1 := z5.cell1; have u2 := z5.cell2; have u3 := z5.cell3; have u4 := z5.cell4)
    | (go_at_call 54; have gd := z3; clear gd; refine (H.out.2.2.1 _).mono ?_; rintro e w4 ⟨rfl, hb4⟩; have z4 := z3.below hb4 z3.lt; have B4 := B3.trans (hb4.mono B3.size))
    | (go_at_call 49; have gd := z2; clear gd; refine (H.out.2.1 _).mono ?_; rintro e w3 ⟨rfl, hb3⟩; have z3 := z2.below hb3 z2.lt; have B3 := B2.trans (hb3.mono B2.size))
    | (go_at_call 49; refine (H.out.1 _).mono ?_; rintro e w2 ⟨rfl, hb2⟩; have y2 := y1.drew.below hb2 (by simp); have z2 := z1.drew.below hb2 (by simp); have B2 := B0.drew.trans (hb2.mono B0.drew.size); have r0 := y2.cell0; have r1 := y2.cell1; have r2 := y2.cell2; have r3 := y2.cell3; have r4 := y2.cell4))
  all_goals
    go_wp2
    refine bodyPost_ret (v := relOf d) (by simp [results, Try.results106, go_sem, u0, u1, u2, u3, u4]) rfl ⟨rfl, ?_⟩
    have bb := fun (W : World) (j : Nat) (v : Value) (h : Below w.heap.size w W) => h.setCell (p := ⟨w.heap.size + 1 + 1, j, none⟩) (by simp; omega) v
    exact bb _ _ _ (bb _ _ _ (bb _ _ _ (bb _ _ _ (bb _ _ _ B5))))

theorem rightR {n : Nat} {xs ys : List Int} (h : Rl n xs) (k : Rl n ys) (w : World) :
    Calls Try.prog 106 #[relOf xs, relOf ys] w fun e w' => e = .returned (relOf (rightL xs ys)) ∧ Below w.heap.size w w' := by
  rw [← right_eq h k]
  exact rightResidual_walk xs ys (turnL xs) (turnL ys) (leftL (turnL xs) (turnL ys)) _ w (fun w => turnedR h w) (fun w => turnedR k w) (fun w => leftR h.turn k.turn w) (fun w => turnedR (h.turn.left k.turn) w)

theorem cf_leftResidual (args : Array Value) (w : World) : Sem.run Try.prog (callFunc 54 args) w = .ok (.enter 54 args) w := by kernel_rfl
theorem cf_rightResidual (args : Array Value) (w : World) : Sem.run Try.prog (callFunc 106 args) w = .ok (.enter 106 args) w := by kernel_rfl
/-! the model's -/
/-- a call of the model's that gives a list of its own -/
def GaveL (w : World) (r : List Int) (e : Ending) (w' : World) : Prop :=
  ∃ v, e = .returned v ∧ w'.ownsRow w.heap.size 3 1 v r.length (r.map (Value.int .i64)) ∧ Below w.heap.size w w'
theorem sTurn {n : Nat} {xs : List Int} (h : Rl n xs) (ao : Option Addr) (ca : Nat) (w : World) (hx : Rd w ao xs) : Calls Try.prog 109 #[.slice ao xs.length ca] w (GaveL w (turnL xs)) := by
  refine (l1Turned_any ao ca xs w h.ok hx).mono ?_
  rintro e w' ⟨v, rfl, ho, hb⟩
  exact ⟨v, rfl, by rw [h.turn.len, ← h.len]; exact ho, hb⟩
theorem sOther {n : Nat} {xs : List Int} (h : Rl n xs) (ao : Option Addr) (ca : Nat) (w : World) (hx : Rd w ao xs) : Calls Try.prog 108 #[.slice ao xs.length ca] w (GaveL w (otherL xs)) := by
  refine (l1Other_any ao ca xs w (h.len.symm ▸ h.one) (h.len.symm ▸ h.four) hx).mono ?_
  rintro e w' ⟨v, rfl, ho, hb⟩
  exact ⟨v, rfl, by rw [h.other.len, ← h.len]; exact ho, hb⟩
theorem sComp {n : Nat} {xs ys : List Int} (h : Rl n xs) (k : Rl n ys) (ao bo : Option Addr) (ca cb : Nat) (w : World) (hx : Rd w ao xs) (hy : Rd w bo ys) : Calls Try.prog 75 #[.slice ao xs.length ca, .slice bo ys.length cb] w (GaveL w (compL xs ys)) := by
  refine (l2Comp_any ao bo ca cb xs ys w (h.len.symm ▸ h.four) (k.len.symm ▸ k.four) h.in16 hx hy).mono ?_
  rintro e w' ⟨v, rfl, ho, hb⟩
  exact ⟨v, rfl, by rw [compL_len]; exact ho, hb⟩
theorem GaveL.form {w : World} {r : List Int} {v : Value} {w' : World} (ho : w'.ownsRow w.heap.size 3 1 v r.length (r.map (Value.int .i64))) (hn : 1 ≤ r.length) : ∃ g cap, v = .slice (some ⟨g, 0, none⟩) r.length cap ∧ w.heap.size ≤ g ∧ g < w'.heap.size ∧ Rd w' (some ⟨g, 0, none⟩) r := by
  obtain ⟨g, cap, rfl, h1, h2⟩ := own_form ho hn
  exact ⟨g, cap, rfl, h1, h2, rd_own ho rfl⟩

theorem l2Left_walk (xs ys a b c d : List Int) (ao bo : Option Addr) (ca cb : Nat) (w : World) (ha : 1 ≤ a.length) (hb : 1 ≤ b.length) (hc : 1 ≤ c.length) (hx : Rd w ao xs) (hy : Rd w bo ys)
    (h1 : ∀ ao ca w, Rd w ao xs → Calls Try.prog 109 #[.slice ao xs.length ca] w (GaveL w a))
    (h2 : ∀ ao ca w, Rd w ao ys → Calls Try.prog 108 #[.slice ao ys.length ca] w (GaveL w b))
    (h3 : ∀ ao bo ca cb w, Rd w ao a → Rd w bo b → Calls Try.prog 75 #[.slice ao a.length ca, .slice bo b.length cb] w (GaveL w c))
    (h4 : ∀ ao ca w, Rd w ao c → Calls Try.prog 108 #[.slice ao c.length ca] w (GaveL w d)) :
    Calls Try.prog 107 #[.slice ao xs.length ca, .slice bo ys.length cb] w (GaveL w d) := by
  have H := Lib.hid (And.intro h1 (And.intro h2 (And.intro h3 h4)))
  clear h1 h2 h3 h4
  go_enter Try.func107, Try.ntmps107
  go_wp2_with fail
  refine (H.out.1 ao ca _ hx).mono ?_
  rintro e w1 ⟨v, rfl, o1, b1⟩
  obtain ⟨ga, qa, rfl, _, la, ra⟩ := GaveL.form o1 ha
  clear o1
  go_wp2_with fail
  refine (H.out.2.1 bo cb _ (hy.below b1)).mono ?_
  rintro e w2 ⟨v, rfl, o2, b2⟩
  obtain ⟨gb, qb, rfl, _, lb, rb⟩ := GaveL.form o2 hb
  have ra2 := ra.below b2
  have B2 := b1.trans (b2.mono b1.size)
  clear o2 ra b1 b2
  go_wp2_with fail
  refine (H.out.2.2.1 _ _ qa qb _ ra2 rb).mono ?_
  rintro e w3 ⟨v, rfl, o3, b3⟩
  obtain ⟨gc, qc, rfl, _, lc, rc⟩ := GaveL.form o3 hc
  have B3 := B2.trans (b3.mono B2.size)
  clear o3 ra2 rb b3 B2
  go_wp2_with fail
  refine (H.out.2.2.2 _ qc _ rc).mono ?_
  rintro e w4 ⟨v, rfl, o4, b4⟩
  go_wp2
  go_ret
  exact ⟨v, rfl, own_mono o4 B3.size, B3.trans (b4.mono B3.size)⟩

theorem sLeft {n : Nat} {xs ys : List Int} (h : Rl n xs) (k : Rl n ys) (ao bo : Option Addr) (ca cb : Nat) (w : World) (hx : Rd w ao xs) (hy : Rd w bo ys) :
    Calls Try.prog 107 #[.slice ao xs.length ca, .slice bo ys.length cb] w (GaveL w (leftL xs ys)) :=
  l2Left_walk xs ys (turnL xs) (otherL ys) (compL (turnL xs) (otherL ys)) (leftL xs ys) ao bo ca cb w (h.turn.len.symm ▸ h.one) (k.other.len.symm ▸ h.one) ((h.turn.comp k.other).len.symm ▸ h.one) hx hy
    (fun ao ca w => sTurn h ao ca w) (fun ao ca w => sOther k ao ca w) (fun ao bo ca cb w => sComp h.turn k.other ao bo ca cb w) (fun ao ca w => sOther (h.turn.comp k.other) ao ca w)

end Go.Proofs.Ytgmjdkhegbdbjaa
