/-
  The program's betweenDifferent, inBothDirections and the tests of the kinds.
-/
import Derived.Test.YtebkeebgjjmdbaaGreatDoorEF
import Derived.Test.YtebkeebgjjmdbaaGreatDoorHA
import Derived.Deep.RegionHeld3
namespace Go.Proofs.YtebkeebgjjmdbaaGreatDoor
open Go.RowKit

theorem sameR {n : Nat} {xs : List Int} (h : Rl n xs) (w : World) : Calls Tryz.prog 87 #[.int .i64 xs.length] w fun e w' => e = .returned (relOf (sameL xs.length)) ∧ Below w.heap.size w w' := sameOn_any xs.length w (h.len.symm ▸ h.one) (h.len.symm ▸ h.four)
theorem bothR {n : Nat} {xs ys : List Int} (h : Rl n xs) (k : Rl n ys) (w : World) : Calls Tryz.prog 98 #[relOf xs, relOf ys] w fun e w' => e = .returned (relOf (bothL xs ys)) ∧ Below w.heap.size w w' := both_any xs ys w (h.len.symm ▸ h.four) (h.len.trans k.len.symm)
theorem eitherR' {n : Nat} {xs ys : List Int} (h : Rl n xs) (k : Rl n ys) (w : World) : Calls Tryz.prog 94 #[relOf xs, relOf ys] w fun e w' => e = .returned (relOf (eitherL xs ys)) ∧ Below w.heap.size w w' := either_any xs ys w (h.len.symm ▸ h.four) (h.len.trans k.len.symm)
theorem belowR {n : Nat} {xs ys : List Int} (h : Rl n xs) (k : Rl n ys) (w : World) : Calls Tryz.prog 88 #[relOf xs, relOf ys] w fun e w' => e = .returned (.bool (belowB xs ys)) ∧ Below w.heap.size w w' := below_any xs ys w (h.len.symm ▸ h).ok (k.len.symm ▸ k).ok (h.len.trans k.len.symm)

set_option maxRecDepth 100000 in
set_option maxHeartbeats 4000000 in
theorem between_walk (xs a b c : List Int) (w : World)
    (h1 : ∀ w, Calls Tryz.prog 87 #[.int .i64 xs.length] w fun e w' => e = .returned (relOf a) ∧ Below w.heap.size w w')
    (h2 : ∀ w, Calls Tryz.prog 93 #[relOf a] w fun e w' => e = .returned (relOf b) ∧ Below w.heap.size w w')
    (h3 : ∀ w, Calls Tryz.prog 98 #[relOf xs, relOf b] w fun e w' => e = .returned (relOf c) ∧ Below w.heap.size w w') :
    Calls Tryz.prog 89 #[relOf xs] w fun e w' => e = .returned (relOf c) ∧ Below w.heap.size w w' := by
  have x0 := (RelAt.new w xs).alloc (.cells #[.int .i64 0, .int .i64 0, .int .i64 0, .int .i64 0, .int .i64 0] 36)
  have z0 := rel_zero (w.alloc (.cells #[.int .i64 xs.length, .int .i64 (rowAt xs 0), .int .i64 (rowAt xs 1), .int .i64 (rowAt xs 2), .int .i64 (rowAt xs 3)] 36))
  have B0 := below_two w (.cells #[.int .i64 xs.length, .int .i64 (rowAt xs 0), .int .i64 (rowAt xs 1), .int .i64 (rowAt xs 2), .int .i64 (rowAt xs 3)] 36) (.cells #[.int .i64 0, .int .i64 0, .int .i64 0, .int .i64 0, .int .i64 0] 36)
  simp only [World.size_alloc] at z0
  have H := Lib.hid (And.intro h1 (And.intro h2 h3))
  clear h1 h2 h3
  have p0 := x0.cell0
  have p1 := x0.cell1
  have p2 := x0.cell2
  have p3 := x0.cell3
  have p4 := x0.cell4
  go_enter Tryz.func89, Tryz.ntmps89
  go_wp2
  obtain ⟨W0, hW0⟩ : ∃ W0, (w.alloc (.cells #[.int .i64 xs.length, .int .i64 (rowAt xs 0), .int .i64 (rowAt xs 1), .int .i64 (rowAt xs 2), .int .i64 (rowAt xs 3)] 36)).alloc (.cells #[.int .i64 0, .int .i64 0, .int .i64 0, .int .i64 0, .int .i64 0] 36) = W0 := ⟨_, rfl⟩
  rw [hW0] at p0 p1 p2 p3 p4 x0 B0 ⊢
  rw [hW0] at z0
  clear hW0
  have x := x0.drew
  have B := B0.drew
  have z := z0.drew
  clear x0 B0 z0
  go_region_held (fun w' => w'.cell? ⟨w.heap.size, 0, none⟩ = some (.int .i64 xs.length) ∧ w'.cell? ⟨w.heap.size, 1, none⟩ = some (.int .i64 (rowAt xs 0)) ∧ w'.cell? ⟨w.heap.size, 2, none⟩ = some (.int .i64 (rowAt xs 1)) ∧ w'.cell? ⟨w.heap.size, 3, none⟩ = some (.int .i64 (rowAt xs 2)) ∧ w'.cell? ⟨w.heap.size, 4, none⟩ = some (.int .i64 (rowAt xs 3))) (go_keep) (first
    | (go_at_call 87; refine (H.out.1 _).mono ?_; rintro e w2 ⟨rfl, hb⟩; have x := x.below hb x.lt; have B := B.trans (hb.mono B.size); have p0 := x.cell0; have p1 := x.cell1; have p2 := x.cell2; have p3 := x.cell3; have p4 := x.cell4; have z := z.below hb z.lt; have f0 := z.free 0; have f1 := z.free 1; have f2 := z.free 2; have f3 := z.free 3; have f4 := z.free 4; have u0 := z.cell0; have u1 := z.cell1; have u2 := z.cell2; have u3 := z.cell3; have u4 := z.cell4; clear hb)
    | (go_at_call 93; refine (H.out.2.1 _).mono ?_; rintro e w3 ⟨rfl, hb⟩; have x := x.below hb x.lt; have B := B.trans (hb.mono B.size); have p0 := x.cell0; have p1 := x.cell1; have p2 := x.cell2; have p3 := x.cell3; have p4 := x.cell4; have z := z.below hb z.lt; have f0 := z.free 0; have f1 := z.free 1; have f2 := z.free 2; have f3 := z.free 3; have f4 := z.free 4; have u0 := z.cell0; have u1 := z.cell1; have u2 := z.cell2; have u3 := z.cell3; have u4 := z.cell4; clear hb)
    | (go_at_call 98; refine (H.out.2.2 _).mono ?_; rintro e w4 ⟨rfl, hb⟩; have x := x.below hb x.lt; have B := B.trans (hb.mono B.size); have p0 := x.cell0; have p1 := x.cell1; have p2 := x.cell2; have p3 := x.cell3; have p4 := x.cell4; have z := z.below hb z.lt; have f0 := z.free 0; have f1 := z.free 1; have f2 := z.free 2; have f3 := z.free 3; have f4 := z.free 4; have u0 := z.cell0; have u1 := z.cell1; have u2 := z.cell2; have u3 := z.cell3; have u4 := z.cell4; clear hb))
  all_goals
    go_wp2
    refine bodyPost_ret (v := relOf c) (by simp [results, Tryz.results89, go_sem, u0, u1, u2, u3, u4]) rfl ⟨rfl, ?_⟩
    have bb := fun (W : World) (j : Nat) (v : Value) (h : Below w.heap.size w W) => h.setCell (p := ⟨w.heap.size + 1, j, none⟩) (by simp) v
    exact bb _ _ _ (bb _ _ _ (bb _ _ _ (bb _ _ _ (bb _ _ _ B))))

theorem offR {n : Nat} {xs : List Int} (h : Rl n xs) (w : World) : Calls Tryz.prog 89 #[relOf xs] w fun e w' => e = .returned (relOf (offI xs)) ∧ Below w.heap.size w w' := by
  have hs : Rl n (sameL xs.length) := by rw [h.len]; exact Rl.same h.one h.four
  exact between_walk xs (sameL xs.length) (otherL (sameL xs.length)) (offI xs) w (fun w => sameR h w) (fun w => otherR hs w) (fun w => bothR h hs.other w)

set_option maxRecDepth 100000 in
set_option maxHeartbeats 4000000 in
theorem inBoth_walk (xs a b : List Int) (w : World)
    (h1 : ∀ w, Calls Tryz.prog 90 #[relOf xs] w fun e w' => e = .returned (relOf a) ∧ Below w.heap.size w w')
    (h2 : ∀ w, Calls Tryz.prog 98 #[relOf xs, relOf a] w fun e w' => e = .returned (relOf b) ∧ Below w.heap.size w w') :
    Calls Tryz.prog 91 #[relOf xs] w fun e w' => e = .returned (relOf b) ∧ Below w.heap.size w w' := by
  have x0 := (RelAt.new w xs).alloc (.cells #[.int .i64 0, .int .i64 0, .int .i64 0, .int .i64 0, .int .i64 0] 36)
  have z0 := rel_zero (w.alloc (.cells #[.int .i64 xs.length, .int .i64 (rowAt xs 0), .int .i64 (rowAt xs 1), .int .i64 (rowAt xs 2), .int .i64 (rowAt xs 3)] 36))
  have B0 := below_two w (.cells #[.int .i64 xs.length, .int .i64 (rowAt xs 0), .int .i64 (rowAt xs 1), .int .i64 (rowAt xs 2), .int .i64 (rowAt xs 3)] 36) (.cells #[.int .i64 0, .int .i64 0, .int .i64 0, .int .i64 0, .int .i64 0] 36)
  simp only [World.size_alloc] at z0
  have H := Lib.hid (And.intro h1 h2)
  clear h1 h2
  have p0 := x0.cell0
  have p1 := x0.cell1
  have p2 := x0.cell2
  have p3 := x0.cell3
  have p4 := x0.cell4
  go_enter Tryz.func91, Tryz.ntmps91
  go_wp2
  obtain ⟨W0, hW0⟩ : ∃ W0, (w.alloc (.cells #[.int .i64 xs.length, .int .i64 (rowAt xs 0), .int .i64 (rowAt xs 1), .int .i64 (rowAt xs 2), .int .i64 (rowAt xs 3)] 36)).alloc (.cells #[.int .i64 0, .int .i64 0, .int .i64 0, .int .i64 0, .int .i64 0] 36) = W0 := ⟨_, rfl⟩
  rw [hW0] at p0 p1 p2 p3 p4 x0 B0 ⊢
  rw [hW0] at z0
  clear hW0
  have x := x0.drew
  have B := B0.drew
  have z := z0.drew
  clear x0 B0 z0
  go_region_held (fun w' => w'.cell? ⟨w.heap.size, 0, none⟩ = some (.int .i64 xs.length) ∧ w'.cell? ⟨w.heap.size, 1, none⟩ = some (.int .i64 (rowAt xs 0)) ∧ w'.cell? ⟨w.heap.size, 2, none⟩ = some (.int .i64 (rowAt xs 1)) ∧ w'.cell? ⟨w.heap.size, 3, none⟩ = some (.int .i64 (rowAt xs 2)) ∧ w'.cell? ⟨w.heap.size, 4, none⟩ = some (.int .i64 (rowAt xs 3))) (go_keep) (first
    | (go_at_call 90; refine (H.out.1 _).mono ?_; rintro e w2 ⟨rfl, hb⟩; have x := x.below hb x.lt; have B := B.trans (hb.mono B.size); have p0 := x.cell0; have p1 := x.cell1; have p2 := x.cell2; have p3 := x.cell3; have p4 := x.cell4; have z := z.below hb z.lt; have f0 := z.free 0; have f1 := z.free 1; have f2 := z.free 2; have f3 := z.free 3; have f4 := z.free 4; have u0 := z.cell0; have u1 := z.cell1; have u2 := z.cell2; have u3 := z.cell3; have u4 := z.cell4; clear hb)
    | (go_at_call 98; refine (H.out.2 _).mono ?_; rintro e w3 ⟨rfl, hb⟩; have x := x.below hb x.lt; have B := B.trans (hb.mono B.size); have p0 := x.cell0; have p1 := x.cell1; have p2 := x.cell2; have p3 := x.cell3; have p4 := x.cell4; have z := z.below hb z.lt; have f0 := z.free 0; have f1 := z.free 1; have f2 := z.free 2; have f3 := z.free 3; have f4 := z.free 4; have u0 := z.cell0; have u1 := z.cell1; have u2 := z.cell2; have u3 := z.cell3; have u4 := z.cell4; clear hb))
  all_goals
    go_wp2
    refine bodyPost_ret (v := relOf b) (by simp [results, Tryz.results91, go_sem, u0, u1, u2, u3, u4]) rfl ⟨rfl, ?_⟩
    have bb := fun (W : World) (j : Nat) (v : Value) (h : Below w.heap.size w W) => h.setCell (p := ⟨w.heap.size + 1, j, none⟩) (by simp) v
    exact bb _ _ _ (bb _ _ _ (bb _ _ _ (bb _ _ _ (bb _ _ _ B))))

theorem twoR {n : Nat} {xs : List Int} (h : Rl n xs) (w : World) : Calls Tryz.prog 91 #[relOf xs] w fun e w' => e = .returned (relOf (twoW xs)) ∧ Below w.heap.size w w' :=
  inBoth_walk xs (turnL xs) (twoW xs) w (fun w => turnedR h w) (fun w => bothR h h.turn w)
end Go.Proofs.YtebkeebgjjmdbaaGreatDoor
