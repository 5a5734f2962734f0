/-
  Residuals: the program's leftResidual, rightResidual, CompLeft, CompRight, and the model's.
-/
import Derived.Test.YthdnpcpimggjnaaGreatDoorED
namespace Go.Proofs.YthdnpcpimggjnaaGreatDoor
open Go.RowKit

theorem turnedR {n : Nat} {xs : List Int} (h : Rl n xs) (w : World) : Calls Tryz.prog 110 #[relOf xs] w fun e w' => e = .returned (relOf (turnL xs)) ∧ Below w.heap.size w w' := turned_any xs w (h.len.symm ▸ h.one) (h.len.symm ▸ h.four)
theorem otherR {n : Nat} {xs : List Int} (h : Rl n xs) (w : World) : Calls Tryz.prog 113 #[relOf xs] w fun e w' => e = .returned (relOf (otherL xs)) ∧ Below w.heap.size w w' := other_any xs w (h.len.symm ▸ h.one) (h.len.symm ▸ h.four)

set_option maxHeartbeats 4000000 in
theorem leftResidual_walk (xs ys a b c d : List Int) (w : World)
    (h1 : ∀ w, Calls Tryz.prog 110 #[relOf xs] w fun e w' => e = .returned (relOf a) ∧ Below w.heap.size w w')
    (h2 : ∀ w, Calls Tryz.prog 113 #[relOf ys] w fun e w' => e = .returned (relOf b) ∧ Below w.heap.size w w')
    (h3 : ∀ w, Calls Tryz.prog 112 #[relOf a, relOf b] w fun e w' => e = .returned (relOf c) ∧ Below w.heap.size w w')
    (h4 : ∀ w, Calls Tryz.prog 113 #[relOf c] w fun e w' => e = .returned (relOf d) ∧ Below w.heap.size w w') :
    Calls Tryz.prog 211 #[relOf xs, relOf ys] w fun e w' => e = .returned (relOf d) ∧ Below w.heap.size w w' := by
  have x1 := ((RelAt.new w xs).alloc (.cells #[.int .i64 ys.length, .int .i64 (rowAt ys 0), .int .i64 (rowAt ys 1), .int .i64 (rowAt ys 2), .int .i64 (rowAt ys 3)] 36)).alloc (.cells #[.int .i64 0, .int .i64 0, .int .i64 0, .int .i64 0, .int .i64 0] 36)
  have y1 := (RelAt.new (w.alloc (.cells #[.int .i64 xs.length, .int .i64 (rowAt xs 0), .int .i64 (rowAt xs 1), .int .i64 (rowAt xs 2), .int .i64 (rowAt xs 3)] 36)) ys).alloc (.cells #[.int .i64 0, .int .i64 0, .int .i64 0, .int .i64 0, .int .i64 0] 36)
  have z1 := rel_zero ((w.alloc (.cells #[.int .i64 xs.length, .int .i64 (rowAt xs 0), .int .i64 (rowAt xs 1), .int .i64 (rowAt xs 2), .int .i64 (rowAt xs 3)] 36)).alloc (.cells #[.int .i64 ys.length, .int .i64 (rowAt ys 0), .int .i64 (rowAt ys 1), .int .i64 (rowAt ys 2), .int .i64 (rowAt ys 3)] 36))
  have B0 := below_three w (.cells #[.int .i64 xs.length, .int .i64 (rowAt xs 0), .int .i64 (rowAt xs 1), .int .i64 (rowAt xs 2), .int .i64 (rowAt xs 3)] 36) (.cells #[.int .i64 ys.length, .int .i64 (rowAt ys 0), .int .i64 (rowAt ys 1), .int .i64 (rowAt ys 2), .int .i64 (rowAt ys 3)] 36) (.cells #[.int .i64 0, .int .i64 0, .int .i64 0, .int .i64 0, .int .i64 0] 36)
  simp only [World.size_alloc] at y1 z1
  have H := Lib.hid (And.intro h1 (And.intro h2 (And.intro h3 h4)))
  clear h1 h2 h3 h4
  have p0 := x1.cell0
  have p1 := x1.cell1
  have p2 := x1.cell2
  have p3 := x1.cell3
  have p4 := x1.cell4
  have q0 := y1.cell0
  have q1 := y1.cell1
  have q2 := y1.cell2
  have q3 := y1.cell3
  have q4 := y1.cell4
  go_enter Tryz.func211, Tryz.ntmps211
  go_wp2
  go_region_with (first
    | (go_at_call 113; have gd := z4; clear gd; refine (H.out.2.2.2 _).mono ?_; rintro e w5 ⟨rfl, hb5⟩; have z5 := z4.below hb5 z4.lt; have B5 := B4.trans (hb5.mono B4.size); have f0 := z5.free 0; have f1 := z5.free 1; have f2 := z5.free 2; have f3 := z5.free 3; have f4 := z5.free 4; have u0 := z5.cell0; have u1 := z5.cell1; have u2 := z5.cell2; have u3 := z5.cell3; have u4 := z5.cell4)
    | (go_at_call 112; have gd := z3; clear gd; refine (H.out.2.2.1 _).mono ?_; rintro e w4 ⟨rfl, hb4⟩; have z4 := z3.below hb4 z3.lt; have B4 := B3.trans (hb4.mono B3.size))
    | (go_at_call 113; have gd := z2; clear gd; refine (H.out.2.1 _).mono ?_; rintro e w3 ⟨rfl, hb3⟩; have z3 := z2.below hb3 z2.lt; have B3 := B2.trans (hb3.mono B2.size))
    | (go_at_call 110; refine (H.out.1 _).mono ?_; rintro e w2 ⟨rfl, hb2⟩; have y2 := y1.drew.below hb2 (by simp); have z2 := z1.drew.below hb2 (by simp); have B2 := B0.drew.trans (hb2.mono B0.drew.size); have r0 := y2.cell0; have r1 := y2.cell1; have r2 := y2.cell2; have r3 := y2.cell3; have r4 := y2.cell4))
  all_goals
    go_wp2
    refine bodyPost_ret (v := relOf d) (by simp [results, Tryz.results211, go_sem, u0, u1, u2, u3, u4]) rfl ⟨rfl, ?_⟩
    have bb := fun (W : World) (j : Nat) (v : Value) (h : Below w.heap.size w W) => h.setCell (p := ⟨w.heap.size + 1 + 1, j, none⟩) (by simp; omega) v
    exact bb _ _ _ (bb _ _ _ (bb _ _ _ (bb _ _ _ (bb _ _ _ B5))))

theorem leftR {n : Nat} {xs ys : List Int} (h : Rl n xs) (k : Rl n ys) (w : World) :
    Calls Tryz.prog 211 #[relOf xs, relOf ys] w fun e w' => e = .returned (relOf (leftL xs ys)) ∧ Below w.heap.size w w' :=
  leftResidual_walk xs ys (turnL xs) (otherL ys) (compL (turnL xs) (otherL ys)) (leftL xs ys) w (fun w => turnedR h w) (fun w => otherR k w) (fun w => then_any h.turn k.other w) (fun w => otherR (h.turn.comp k.other) w)

set_option maxHeartbeats 4000000 in
theorem rightResidual_walk (xs ys a b c d : List Int) (w : World)
    (h1 : ∀ w, Calls Tryz.prog 110 #[relOf xs] w fun e w' => e = .returned (relOf a) ∧ Below w.heap.size w w')
    (h2 : ∀ w, Calls Tryz.prog 110 #[relOf ys] w fun e w' => e = .returned (relOf b) ∧ Below w.heap.size w w')
    (h3 : ∀ w, Calls Tryz.prog 211 #[relOf a, relOf b] w fun e w' => e = .returned (relOf c) ∧ Below w.heap.size w w')
    (h4 : ∀ w, Calls Tryz.prog 110 #[relOf c] w fun e w' => e = .returned (relOf d) ∧ Below w.heap.size w w') :
    Calls Tryz.prog 212 #[relOf xs, relOf ys] w fun e w' => e = .returned (relOf d) ∧ Below w.heap.size w w' := by
  have x1 := ((RelAt.new w xs).alloc (.cells #[.int .i64 ys.length, .int .i64 (rowAt ys 0), .int .i64 (rowAt ys 1), .int .i64 (rowAt ys 2), .int .i64 (rowAt ys 3)] 36)).alloc (.cells #[.int .i64 0, .int .i64 0, .int .i64 0, .int .i64 0, .int .i64 0] 36)
  have y1 := (RelAt.new (w.alloc (.cells #[.int .i64 xs.length, .int .i64 (rowAt xs 0), .int .i64 (rowAt xs 1), .int .i64 (rowAt xs 2), .int .i64 (rowAt xs 3)] 36)) ys).alloc (.cells #[.int .i64 0, .int .i64 0, .int .i64 0, .int .i64 0, .int .i64 0] 36)
  have z1 := rel_zero ((w.alloc (.cells #[.int .i64 xs.length, .int .i64 (rowAt xs 0), .int .i64 (rowAt xs 1), .int .i64 (rowAt xs 2), .int .i64 (rowAt xs 3)] 36)).alloc (.cells #[.int .i64 ys.length, .int .i64 (rowAt ys 0), .int .i64 (rowAt ys 1), .int .i64 (rowAt ys 2), .int .i64 (rowAt ys 3)] 36))
  have B0 := below_three w (.cells #[.int .i64 xs.length, .int .i64 (rowAt xs 0), .int .i64 (rowAt xs 1), .int .i64 (rowAt xs 2), .int .i64 (rowAt xs 3)] 36) (.cells #[.int .i64 ys.length, .int .i64 (rowAt ys 0), .int .i64 (rowAt ys 1), .int .i64 (rowAt ys 2), .int .i64 (rowAt ys 3)] 36) (.cells #[.int .i64 0, .int .i64 0, .int .i64 0, .int .i64 0, .int .i64 0] 36)
  simp only [World.size_alloc] at y1 z1
  have H := Lib.hid (And.intro h1 (And.intro h2 (And.intro h3 h4)))
  clear h1 h2 h3 h4
  have p0 := x1.cell0
  have p1 := x1.cell1
  have p2 := x1.cell2
  have p3 := x1.cell3
  have p4 := x1.cell4
  have q0 := y1.cell0
  have q1 := y1.cell1
  have q2 := y1.cell2
  have q3 := y1.cell3
  have q4 := y1.cell4
  go_enter Tryz.func212, Tryz.ntmps212
  go_wp2
  go_region_with (first
    | (go_at_call 110; have gd := z4; clear gd; refine (H.out.2.2.2 _).mono ?_; rintro e w5 ⟨rfl, hb5⟩; have z5 := z4.below hb5 z4.lt; have B5 := B4.trans (hb5.mono B4.size); have f0 := z5.free 0; have f1 := z5.free 1; have f2 := z5.free 2; have f3 := z5.free 3; have f4 := z5.free 4; have u0 := z5.cell0; have u1 := z5.cell1; have u2 := z5.cell2; have u3 := z5.cell3; have u4 := z5.cell4)
    | (go_at_call 211; have gd := z3; clear gd; refine (H.out.2.2.1 _).mono ?_; rintro e w4 ⟨rfl, hb4⟩; have z4 := z3.below hb4 z3.lt; have B4 := B3.trans (hb4.mono B3.size))
    | (go_at_call 110; have gd := z2; clear gd; refine (H.out.2.1 _).mono ?_; rintro e w3 ⟨rfl, hb3⟩; have z3 := z2.below hb3 z2.lt; have B3 := B2.trans (hb3.mono B2.size))
    | (go_at_call 110; refine (H.out.1 _).mono ?_; rintro e w2 ⟨rfl, hb2⟩; have y2 := y1.drew.below hb2 (by simp); have z2 := z1.drew.below hb2 (by simp); have B2 := B0.drew.trans (hb2.mono B0.drew.size); have r0 := y2.cell0; have r1 := y2.cell1; have r2 := y2.cell2; have r3 := y2.cell3; have r4 := y2.cell4))
  all_goals
    go_wp2
    refine bodyPost_ret (v := relOf d) (by simp [results, Tryz.results212, go_sem, u0, u1, u2, u3, u4]) rfl ⟨rfl, ?_⟩
    have bb := fun (W : World) (j : Nat) (v : Value) (h : Below w.heap.size w W) => h.setCell (p := ⟨w.heap.size + 1 + 1, j, none⟩) (by simp; omega) v
    exact bb _ _ _ (bb _ _ _ (bb _ _ _ (bb _ _ _ (bb _ _ _ B5))))

theorem rightR {n : Nat} {xs ys : List Int} (h : Rl n xs) (k : Rl n ys) (w : World) :
    Calls Tryz.prog 212 #[relOf xs, relOf ys] w fun e w' => e = .returned (relOf (rightL xs ys)) ∧ Below w.heap.size w w' := by
  rw [← right_eq h k]
  exact rightResidual_walk xs ys (turnL xs) (turnL ys) (leftL (turnL xs) (turnL ys)) _ w (fun w => turnedR h w) (fun w => turnedR k w) (fun w => leftR h.turn k.turn w) (fun w => turnedR (h.turn.left k.turn) w)

theorem cf_leftResidual (args : Array Value) (w : World) : Sem.run Tryz.prog (callFunc 211 args) w = .ok (.enter 211 args) w := by kernel_rfl
theorem implCompLeft_any (ao bo : Option Addr) (ca cb : Nat) (xs ys : List Int) (w : World) (hl : xs.length ≤ 1048576) (hl2 : ys.length ≤ 1048576) (hx : Rd w ao xs) (hy : Rd w bo ys) :
    Calls Tryz.prog 153 #[.slice ao xs.length ca, .slice bo ys.length cb] w (Gave w (ifR (twoIn xs ys) (leftL xs ys)) (twoIn xs ys)) := by
  cases hp : twoIn xs ys with
  | false =>
    have h1 := Lib.hid (madeOfTwo_no (.func (.func 211) #[] #[]) ao bo ca cb xs ys w hl hl2 hx hy hp)
    clear hp
    go_enter Tryz.func153, Tryz.ntmps153
    go_wp2_with (go_at_call 209; refine h1.out.mono ?_; rintro e w1 ⟨v, rfl, ho, hb⟩)
    go_ret2
    exact ⟨v, rfl, ho, hb⟩
  | true =>
    obtain ⟨r1, r2⟩ := two_rl hp
    have h1 := Lib.hid (madeOfTwo_yes 211 cf_leftResidual leftL ao bo ca cb xs ys w hx hy hp (Rl.left r1 r2).len (fun w => leftR r1 r2 w))
    clear hp r1 r2
    go_enter Tryz.func153, Tryz.ntmps153
    go_wp2_with (go_at_call 209; refine h1.out.mono ?_; rintro e w1 ⟨v, rfl, ho, hb⟩)
    go_ret2
    exact ⟨v, rfl, ho, hb⟩

theorem cf_rightResidual (args : Array Value) (w : World) : Sem.run Tryz.prog (callFunc 212 args) w = .ok (.enter 212 args) w := by kernel_rfl
theorem implCompRight_any (ao bo : Option Addr) (ca cb : Nat) (xs ys : List Int) (w : World) (hl : xs.length ≤ 1048576) (hl2 : ys.length ≤ 1048576) (hx : Rd w ao xs) (hy : Rd w bo ys) :
    Calls Tryz.prog 154 #[.slice ao xs.length ca, .slice bo ys.length cb] w (Gave w (ifR (twoIn xs ys) (rightL xs ys)) (twoIn xs ys)) := by
  cases hp : twoIn xs ys with
  | false =>
    have h1 := Lib.hid (madeOfTwo_no (.func (.func 212) #[] #[]) ao bo ca cb xs ys w hl hl2 hx hy hp)
    clear hp
    go_enter Tryz.func154, Tryz.ntmps154
    go_wp2_with (go_at_call 209; refine h1.out.mono ?_; rintro e w1 ⟨v, rfl, ho, hb⟩)
    go_ret2
    exact ⟨v, rfl, ho, hb⟩
  | true =>
    obtain ⟨r1, r2⟩ := two_rl hp
    have h1 := Lib.hid (madeOfTwo_yes 212 cf_rightResidual rightL ao bo ca cb xs ys w hx hy hp (Rl.right r1 r2).len (fun w => rightR r1 r2 w))
    clear hp r1 r2
    go_enter Tryz.func154, Tryz.ntmps154
    go_wp2_with (go_at_call 209; refine h1.out.mono ?_; rintro e w1 ⟨v, rfl, ho, hb⟩)
    go_ret2
    exact ⟨v, rfl, ho, hb⟩

/-! the model's -/
/-- a call of the model's that gives a list of its own -/
def GaveL (w : World) (r : List Int) (e : Ending) (w' : World) : Prop :=
  ∃ v, e = .returned v ∧ w'.ownsRow w.heap.size 3 1 v r.length (r.map (Value.int .i64)) ∧ Below w.heap.size w w'
theorem sTurn {n : Nat} {xs : List Int} (h : Rl n xs) (ao : Option Addr) (ca : Nat) (w : World) (hx : Rd w ao xs) : Calls Tryz.prog 48 #[.slice ao xs.length ca] w (GaveL w (turnL xs)) := by
  refine (l1Turned_any ao ca xs w h.ok hx).mono ?_
  rintro e w' ⟨v, rfl, ho, hb⟩
  exact ⟨v, rfl, by rw [h.turn.len, ← h.len]; exact ho, hb⟩
theorem sOther {n : Nat} {xs : List Int} (h : Rl n xs) (ao : Option Addr) (ca : Nat) (w : World) (hx : Rd w ao xs) : Calls Tryz.prog 51 #[.slice ao xs.length ca] w (GaveL w (otherL xs)) := by
  refine (l1Other_any ao ca xs w (h.len.symm ▸ h.one) (h.len.symm ▸ h.four) hx).mono ?_
  rintro e w' ⟨v, rfl, ho, hb⟩
  exact ⟨v, rfl, by rw [h.other.len, ← h.len]; exact ho, hb⟩
theorem sComp {n : Nat} {xs ys : List Int} (h : Rl n xs) (k : Rl n ys) (ao bo : Option Addr) (ca cb : Nat) (w : World) (hx : Rd w ao xs) (hy : Rd w bo ys) : Calls Tryz.prog 54 #[.slice ao xs.length ca, .slice bo ys.length cb] w (GaveL w (compL xs ys)) := by
  refine (l2Comp_any ao bo ca cb xs ys w (h.len.symm ▸ h.four) (k.len.symm ▸ k.four) h.in16 hx hy).mono ?_
  rintro e w' ⟨v, rfl, ho, hb⟩
  exact ⟨v, rfl, by rw [compL_len]; exact ho, hb⟩
theorem GaveL.form {w : World} {r : List Int} {v : Value} {w' : World} (ho : w'.ownsRow w.heap.size 3 1 v r.length (r.map (Value.int .i64))) (hn : 1 ≤ r.length) : ∃ g cap, v = .slice (some ⟨g, 0, none⟩) r.length cap ∧ w.heap.size ≤ g ∧ g < w'.heap.size ∧ Rd w' (some ⟨g, 0, none⟩) r := by
  obtain ⟨g, cap, rfl, h1, h2⟩ := own_form ho hn
  exact ⟨g, cap, rfl, h1, h2, rd_own ho rfl⟩

end Go.Proofs.YthdnpcpimggjnaaGreatDoor
