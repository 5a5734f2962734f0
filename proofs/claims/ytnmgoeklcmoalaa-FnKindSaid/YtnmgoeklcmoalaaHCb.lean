/-
  The test of connected relations.
-/
import Derived.Test.YtnmgoeklcmoalaaEF
import Derived.Test.YtnmgoeklcmoalaaHA
import Derived.Deep.RegionHeld3
namespace Go.Proofs.Ytnmgoeklcmoalaa
open Go.RowKit

theorem sameR {n : Nat} {xs : List Int} (h : Rl n xs) (w : World) : Calls Try.prog 109 #[.int .i64 xs.length] w fun e w' => e = .returned (relOf (sameL xs.length)) ∧ Below w.heap.size w w' := sameOn_any xs.length w (h.len.symm ▸ h.one) (h.len.symm ▸ h.four)
theorem bothR {n : Nat} {xs ys : List Int} (h : Rl n xs) (k : Rl n ys) (w : World) : Calls Try.prog 106 #[relOf xs, relOf ys] w fun e w' => e = .returned (relOf (bothL xs ys)) ∧ Below w.heap.size w w' := both_any xs ys w (h.len.symm ▸ h.four) (h.len.trans k.len.symm)
theorem eitherR' {n : Nat} {xs ys : List Int} (h : Rl n xs) (k : Rl n ys) (w : World) : Calls Try.prog 108 #[relOf xs, relOf ys] w fun e w' => e = .returned (relOf (eitherL xs ys)) ∧ Below w.heap.size w w' := either_any xs ys w (h.len.symm ▸ h.four) (h.len.trans k.len.symm)
theorem belowR {n : Nat} {xs ys : List Int} (h : Rl n xs) (k : Rl n ys) (w : World) : Calls Try.prog 75 #[relOf xs, relOf ys] w fun e w' => e = .returned (.bool (belowB xs ys)) ∧ Below w.heap.size w w' := below_any xs ys w (h.len.symm ▸ h).ok (k.len.symm ▸ k).ok (h.len.trans k.len.symm)

set_option maxRecDepth 100000 in
set_option maxHeartbeats 4000000 in
theorem between_walk (xs a b c : List Int) (w : World)
    (h1 : ∀ w, Calls Try.prog 109 #[.int .i64 xs.length] w fun e w' => e = .returned (relOf a) ∧ Below w.heap.size w w')
    (h2 : ∀ w, Calls Try.prog 121 #[relOf a] w fun e w' => e = .returned (relOf b) ∧ Below w.heap.size w w')
    (h3 : ∀ w, Calls Try.prog 106 #[relOf xs, relOf b] w fun e w' => e = .returned (relOf c) ∧ Below w.heap.size w w') :
    Calls Try.prog 101 #[relOf xs] w fun e w' => e = .returned (relOf c) ∧ Below w.heap.size w w' := by
  have x0 := (RelAt.new w xs).alloc (.cells #[.int .i64 0, .int .i64 0, .int .i64 0, .int .i64 0, .int .i64 0] 47)
  have z0 := rel_zero (w.alloc (.cells #[.int .i64 xs.length, .int .i64 (rowAt xs 0), .int .i64 (rowAt xs 1), .int .i64 (rowAt xs 2), .int .i64 (rowAt xs 3)] 47))
  have B0 := below_two w (.cells #[.int .i64 xs.length, .int .i64 (rowAt xs 0), .int .i64 (rowAt xs 1), .int .i64 (rowAt xs 2), .int .i64 (rowAt xs 3)] 47) (.cells #[.int .i64 0, .int .i64 0, .int .i64 0, .int .i64 0, .int .i64 0] 47)
  simp only [World.size_alloc] at z0
  have H := Lib.hid (And.intro h1 (And.intro h2 h3))
  clear h1 h2 h3
  have p0 := x0.cell0
  have p1 := x0.cell1
  have p2 := x0.cell2
  have p3 := x0.cell3
  have p4 := x0.cell4
  go_enter Try.func101, Try.ntmps101
  go_wp2
  obtain ⟨W0, hW0⟩ : ∃ W0, (w.alloc (.cells #[.int .i64 xs.length, .int .i64 (rowAt xs 0), .int .i64 (rowAt xs 1), .int .i64 (rowAt xs 2), .int .i64 (rowAt xs 3)] 47)).alloc (.cells #[.int .i64 0, .int .i64 0, .int .i64 0, .int .i64 0, .int .i64 0] 47) = W0 := ⟨_, rfl⟩
  rw [hW0] at p0 p1 p2 p3 p4 x0 B0 ⊢
  rw [hW0] at z0
  clear hW0
  have x := x0.drew
  have B := B0.drew
  have z := z0.drew
  clear x0 B0 z0
  go_region_held (fun w' => w'.cell? ⟨w.heap.size, 0, none⟩ = some (.int .i64 xs.length) ∧ w'.cell? ⟨w.heap.size, 1, none⟩ = some (.int .i64 (rowAt xs 0)) ∧ w'.cell? ⟨w.heap.size, 2, none⟩ = some (.int .i64 (rowAt xs 1)) ∧ w'.cell? ⟨w.heap.size, 3, none⟩ = some (.int .i64 (rowAt xs 2)) ∧ w'.cell? ⟨w.heap.size, 4, none⟩ = some (.int .i64 (rowAt xs 3))) (go_keep) (first
    | (go_at_call 109; refine (H.out.1 _).mono ?_; rintro e w2 ⟨rfl, hb⟩; have x := x.below hb x.lt; have B := B.trans (hb.mono B.size); have p0 := x.cell0; have p1 := x.cell1; have p2 := x.cell2; have p3 := x.cell3; have p4 := x.cell4; have z := z.below hb z.lt; have f0 := z.free 0; have f1 := z.free 1; have f2 := z.free 2; have f3 := z.free 3; have f4 := z.free 4; have u0 := z.cell0; have u1 := z.cell1; have u2 := z.cell2; have u3 := z.cell3; have u4 := z.cell4; clear hb)
    | (go_at_call 121; refine (H.out.2.1 _).mono ?_; rintro e w3 ⟨rfl, hb⟩; have x := x.below hb x.lt; have B := B.trans (hb.mono B.size); have p0 := x.cell0; have p1 := x.cell1; have p2 := x.cell2; have p3 := x.cell3; have p4 := x.cell4; have z := z.below hb z.lt; have f0 := z.free 0; have f1 := z.free 1; have f2 := z.free 2; have f3 := z.free 3; have f4 := z.free 4; have u0 := z.cell0; have u1 := z.cell1; have u2 := z.cell2; have u3 := z.cell3; have u4 := z.cell4; clear hb)
    | (go_at_call 106; refine (H.out.2.2 _).mono ?_; rintro e w4 ⟨rfl, hb⟩; have x := x.below hb x.lt; have B := B.trans (hb.mono B.size); have p0 := x.cell0; have p1 := x.cell1; have p2 := x.cell2; have p3 := x.cell3; have p4 := x.cell4; have z := z.below hb z.lt; have f0 := z.free 0; have f1 := z.free 1; have f2 := z.free 2; have f3 := z.free 3; have f4 := z.free 4; have u0 := z.cell0; have u1 := z.cell1; have u2 := z.cell2; have u3 := z.cell3; have u4 := z.cell4; clear hb))
  all_goals
    go_wp2
    refine bodyPost_ret (v := relOf c) (by simp [results, Try.results101, go_sem, u0, u1, u2, u3, u4]) rfl ⟨rfl, ?_⟩
    have bb := fun (W : World) (j : Nat) (v : Value) (h : Below w.heap.size w W) => h.setCell (p := ⟨w.heap.size + 1, j, none⟩) (by simp) v
    exact bb _ _ _ (bb _ _ _ (bb _ _ _ (bb _ _ _ (bb _ _ _ B))))

theorem offR {n : Nat} {xs : List Int} (h : Rl n xs) (w : World) : Calls Try.prog 101 #[relOf xs] w fun e w' => e = .returned (relOf (offI xs)) ∧ Below w.heap.size w w' := by
  have hs : Rl n (sameL xs.length) := by rw [h.len]; exact Rl.same h.one h.four
  exact between_walk xs (sameL xs.length) (otherL (sameL xs.length)) (offI xs) w (fun w => sameR h w) (fun w => otherR hs w) (fun w => bothR h hs.other w)

set_option maxRecDepth 100000 in
set_option maxHeartbeats 4000000 in
theorem inBoth_walk (xs a b : List Int) (w : World)
    (h1 : ∀ w, Calls Try.prog 47 #[relOf xs] w fun e w' => e = .returned (relOf a) ∧ Below w.heap.size w w')
    (h2 : ∀ w, Calls Try.prog 106 #[relOf xs, relOf a] w fun e w' => e = .returned (relOf b) ∧ Below w.heap.size w w') :
    Calls Try.prog 102 #[relOf xs] w fun e w' => e = .returned (relOf b) ∧ Below w.heap.size w w' := by
  have x0 := (RelAt.new w xs).alloc (.cells #[.int .i64 0, .int .i64 0, .int .i64 0, .int .i64 0, .int .i64 0] 47)
  have z0 := rel_zero (w.alloc (.cells #[.int .i64 xs.length, .int .i64 (rowAt xs 0), .int .i64 (rowAt xs 1), .int .i64 (rowAt xs 2), .int .i64 (rowAt xs 3)] 47))
  have B0 := below_two w (.cells #[.int .i64 xs.length, .int .i64 (rowAt xs 0), .int .i64 (rowAt xs 1), .int .i64 (rowAt xs 2), .int .i64 (rowAt xs 3)] 47) (.cells #[.int .i64 0, .int .i64 0, .int .i64 0, .int .i64 0, .int .i64 0] 47)
  simp only [World.size_alloc] at z0
  have H := Lib.hid (And.intro h1 h2)
  clear h1 h2
  have p0 := x0.cell0
  have p1 := x0.cell1
  have p2 := x0.cell2
  have p3 := x0.cell3
  have p4 := x0.cell4
  go_enter Try.func102, Try.ntmps102
  go_wp2
  obtain ⟨W0, hW0⟩ : ∃ W0, (w.alloc (.cells #[.int .i64 xs.length, .int .i64 (rowAt xs 0), .int .i64 (rowAt xs 1), .int .i64 (rowAt xs 2), .int .i64 (rowAt xs 3)] 47)).alloc (.cells #[.int .i64 0, .int .i64 0, .int .i64 0, .int .i64 0, .int .i64 0] 47) = W0 := ⟨_, rfl⟩
  rw [hW0] at p0 p1 p2 p3 p4 x0 B0 ⊢
  rw [hW0] at z0
  clear hW0
  have x := x0.drew
  have B := B0.drew
  have z := z0.drew
  clear x0 B0 z0
  go_region_held (fun w' => w'.cell? ⟨w.heap.size, 0, none⟩ = some (.int .i64 xs.length) ∧ w'.cell? ⟨w.heap.size, 1, none⟩ = some (.int .i64 (rowAt xs 0)) ∧ w'.cell? ⟨w.heap.size, 2, none⟩ = some (.int .i64 (rowAt xs 1)) ∧ w'.cell? ⟨w.heap.size, 3, none⟩ = some (.int .i64 (rowAt xs 2)) ∧ w'.cell? ⟨w.heap.size, 4, none⟩ = some (.int .i64 (rowAt xs 3))) (go_keep) (first
    | (go_at_call 47; refine (H.out.1 _).mono ?_; rintro e w2 ⟨rfl, hb⟩; have x := x.below hb x.lt; have B := B.trans (hb.mono B.size); have p0 := x.cell0; have p1 := x.cell1; have p2 := x.cell2; have p3 := x.cell3; have p4 := x.cell4; have z := z.below hb z.lt; have f0 := z.free 0; have f1 := z.free 1; have f2 := z.free 2; have f3 := z.free 3; have f4 := z.free 4; have u0 := z.cell0; have u1 := z.cell1; have u2 := z.cell2; have u3 := z.cell3; have u4 := z.cell4; clear hb)
    | (go_at_call 106; refine (H.out.2 _).mono ?_; rintro e w3 ⟨rfl, hb⟩; have x := x.below hb x.lt; have B := B.trans (hb.mono B.size); have p0 := x.cell0; have p1 := x.cell1; have p2 := x.cell2; have p3 := x.cell3; have p4 := x.cell4; have z := z.below hb z.lt; have f0 := z.free 0; have f1 := z.free 1; have f2 := z.free 2; have f3 := z.free 3; have f4 := z.free 4; have u0 := z.cell0; have u1 := z.cell1; have u2 := z.cell2; have u3 := z.cell3; have u4 := z.cell4; clear hb))
  all_goals
    go_wp2
    refine bodyPost_ret (v := relOf b) (by simp [results, Try.results102, go_sem, u0, u1, u2, u3, u4]) rfl ⟨rfl, ?_⟩
    have bb := fun (W : World) (j : Nat) (v : Value) (h : Below w.heap.size w W) => h.setCell (p := ⟨w.heap.size + 1, j, none⟩) (by simp) v
    exact bb _ _ _ (bb _ _ _ (bb _ _ _ (bb _ _ _ (bb _ _ _ B))))

theorem twoR {n : Nat} {xs : List Int} (h : Rl n xs) (w : World) : Calls Try.prog 102 #[relOf xs] w fun e w' => e = .returned (relOf (twoW xs)) ∧ Below w.heap.size w w' :=
  inBoth_walk xs (turnL xs) (twoW xs) w (fun w => turnedR h w) (fun w => bothR h h.turn w)
end Go.Proofs.Ytnmgoeklcmoalaa

namespace Go.Proofs.Ytnmgoeklcmoalaa
open Go.RowKit

set_option maxRecDepth 100000 in
set_option maxHeartbeats 4000000 in
theorem least1_walk (xs a b : List Int) (w : World)
    (h1 : ∀ w, Calls Try.prog 109 #[.int .i64 xs.length] w fun e w' => e = .returned (relOf a) ∧ Below w.heap.size w w')
    (h2 : ∀ w, Calls Try.prog 108 #[relOf xs, relOf a] w fun e w' => e = .returned (relOf b) ∧ Below w.heap.size w w') :
    Calls Try.prog 107 #[relOf xs] w fun e w' => e = .returned (relOf b) ∧ Below w.heap.size w w' := by
  have x0 := (RelAt.new w xs).alloc (.cells #[.int .i64 0, .int .i64 0, .int .i64 0, .int .i64 0, .int .i64 0] 47)
  have z0 := rel_zero (w.alloc (.cells #[.int .i64 xs.length, .int .i64 (rowAt xs 0), .int .i64 (rowAt xs 1), .int .i64 (rowAt xs 2), .int .i64 (rowAt xs 3)] 47))
  have B0 := below_two w (.cells #[.int .i64 xs.length, .int .i64 (rowAt xs 0), .int .i64 (rowAt xs 1), .int .i64 (rowAt xs 2), .int .i64 (rowAt xs 3)] 47) (.cells #[.int .i64 0, .int .i64 0, .int .i64 0, .int .i64 0, .int .i64 0] 47)
  simp only [World.size_alloc] at z0
  have H := Lib.hid (And.intro h1 h2)
  clear h1 h2
  have p0 := x0.cell0
  have p1 := x0.cell1
  have p2 := x0.cell2
  have p3 := x0.cell3
  have p4 := x0.cell4
  go_enter Try.func107, Try.ntmps107
  go_wp2
  obtain ⟨W0, hW0⟩ : ∃ W0, (w.alloc (.cells #[.int .i64 xs.length, .int .i64 (rowAt xs 0), .int .i64 (rowAt xs 1), .int .i64 (rowAt xs 2), .int .i64 (rowAt xs 3)] 47)).alloc (.cells #[.int .i64 0, .int .i64 0, .int .i64 0, .int .i64 0, .int .i64 0] 47) = W0 := ⟨_, rfl⟩
  rw [hW0] at p0 p1 p2 p3 p4 x0 B0 ⊢
  rw [hW0] at z0
  clear hW0
  have x := x0.drew
  have B := B0.drew
  have z := z0.drew
  clear x0 B0 z0
  go_region_held (fun w' => w'.cell? ⟨w.heap.size, 0, none⟩ = some (.int .i64 xs.length) ∧ w'.cell? ⟨w.heap.size, 1, none⟩ = some (.int .i64 (rowAt xs 0)) ∧ w'.cell? ⟨w.heap.size, 2, none⟩ = some (.int .i64 (rowAt xs 1)) ∧ w'.cell? ⟨w.heap.size, 3, none⟩ = some (.int .i64 (rowAt xs 2)) ∧ w'.cell? ⟨w.heap.size, 4, none⟩ = some (.int .i64 (rowAt xs 3))) (go_keep) (first
    | (go_at_call 109; refine (H.out.1 _).mono ?_; rintro e w2 ⟨rfl, hb⟩; have x := x.below hb x.lt; have B := B.trans (hb.mono B.size); have p0 := x.cell0; have p1 := x.cell1; have p2 := x.cell2; have p3 := x.cell3; have p4 := x.cell4; have z := z.below hb z.lt; have f0 := z.free 0; have f1 := z.free 1; have f2 := z.free 2; have f3 := z.free 3; have f4 := z.free 4; have u0 := z.cell0; have u1 := z.cell1; have u2 := z.cell2; have u3 := z.cell3; have u4 := z.cell4; clear hb)
    | (go_at_call 108; refine (H.out.2 _).mono ?_; rintro e w3 ⟨rfl, hb⟩; have x := x.below hb x.lt; have B := B.trans (hb.mono B.size); have p0 := x.cell0; have p1 := x.cell1; have p2 := x.cell2; have p3 := x.cell3; have p4 := x.cell4; have z := z.below hb z.lt; have f0 := z.free 0; have f1 := z.free 1; have f2 := z.free 2; have f3 := z.free 3; have f4 := z.free 4; have u0 := z.cell0; have u1 := z.cell1; have u2 := z.cell2; have u3 := z.cell3; have u4 := z.cell4; clear hb))
  all_goals
    go_wp2
    refine bodyPost_ret (v := relOf b) (by simp [results, Try.results107, go_sem, u0, u1, u2, u3, u4]) rfl ⟨rfl, ?_⟩
    have bb := fun (W : World) (j : Nat) (v : Value) (h : Below w.heap.size w W) => h.setCell (p := ⟨w.heap.size + 1, j, none⟩) (by simp) v
    exact bb _ _ _ (bb _ _ _ (bb _ _ _ (bb _ _ _ (bb _ _ _ B))))

theorem least1R {n : Nat} {xs : List Int} (h : Rl n xs) (w : World) : Calls Try.prog 107 #[relOf xs] w fun e w' => e = .returned (relOf (eitherL xs (sameL xs.length))) ∧ Below w.heap.size w w' := by
  have hs : Rl n (sameL xs.length) := by rw [h.len]; exact Rl.same h.one h.four
  exact least1_walk xs (sameL xs.length) _ w (fun w => sameR h w) (fun w => eitherR' h hs w)

set_option maxRecDepth 100000 in
set_option maxHeartbeats 4000000 in
theorem least2_walk (xs a b : List Int) (w : World)
    (h1 : ∀ w, Calls Try.prog 47 #[relOf xs] w fun e w' => e = .returned (relOf a) ∧ Below w.heap.size w w')
    (h2 : ∀ w, Calls Try.prog 108 #[relOf xs, relOf a] w fun e w' => e = .returned (relOf b) ∧ Below w.heap.size w w') :
    Calls Try.prog 110 #[relOf xs] w fun e w' => e = .returned (relOf b) ∧ Below w.heap.size w w' := by
  have x0 := (RelAt.new w xs).alloc (.cells #[.int .i64 0, .int .i64 0, .int .i64 0, .int .i64 0, .int .i64 0] 47)
  have z0 := rel_zero (w.alloc (.cells #[.int .i64 xs.length, .int .i64 (rowAt xs 0), .int .i64 (rowAt xs 1), .int .i64 (rowAt xs 2), .int .i64 (rowAt xs 3)] 47))
  have B0 := below_two w (.cells #[.int .i64 xs.length, .int .i64 (rowAt xs 0), .int .i64 (rowAt xs 1), .int .i64 (rowAt xs 2), .int .i64 (rowAt xs 3)] 47) (.cells #[.int .i64 0, .int .i64 0, .int .i64 0, .int .i64 0, .int .i64 0] 47)
  simp only [World.size_alloc] at z0
  have H := Lib.hid (And.intro h1 h2)
  clear h1 h2
  have p0 := x0.cell0
  have p1 := x0.cell1
  have p2 := x0.cell2
  have p3 := x0.cell3
  have p4 := x0.cell4
  go_enter Try.func110, Try.ntmps110
  go_wp2
  obtain ⟨W0, hW0⟩ : ∃ W0, (w.alloc (.cells #[.int .i64 xs.length, .int .i64 (rowAt xs 0), .int .i64 (rowAt xs 1), .int .i64 (rowAt xs 2), .int .i64 (rowAt xs 3)] 47)).alloc (.cells #[.int .i64 0, .int .i64 0, .int .i64 0, .int .i64 0, .int .i64 0] 47) = W0 := ⟨_, rfl⟩
  rw [hW0] at p0 p1 p2 p3 p4 x0 B0 ⊢
  rw [hW0] at z0
  clear hW0
  have x := x0.drew
  have B := B0.drew
  have z := z0.drew
  clear x0 B0 z0
  go_region_held (fun w' => w'.cell? ⟨w.heap.size, 0, none⟩ = some (.int .i64 xs.length) ∧ w'.cell? ⟨w.heap.size, 1, none⟩ = some (.int .i64 (rowAt xs 0)) ∧ w'.cell? ⟨w.heap.size, 2, none⟩ = some (.int .i64 (rowAt xs 1)) ∧ w'.cell? ⟨w.heap.size, 3, none⟩ = some (.int .i64 (rowAt xs 2)) ∧ w'.cell? ⟨w.heap.size, 4, none⟩ = some (.int .i64 (rowAt xs 3))) (go_keep) (first
    | (go_at_call 47; refine (H.out.1 _).mono ?_; rintro e w2 ⟨rfl, hb⟩; have x := x.below hb x.lt; have B := B.trans (hb.mono B.size); have p0 := x.cell0; have p1 := x.cell1; have p2 := x.cell2; have p3 := x.cell3; have p4 := x.cell4; have z := z.below hb z.lt; have f0 := z.free 0; have f1 := z.free 1; have f2 := z.free 2; have f3 := z.free 3; have f4 := z.free 4; have u0 := z.cell0; have u1 := z.cell1; have u2 := z.cell2; have u3 := z.cell3; have u4 := z.cell4; clear hb)
    | (go_at_call 108; refine (H.out.2 _).mono ?_; rintro e w3 ⟨rfl, hb⟩; have x := x.below hb x.lt; have B := B.trans (hb.mono B.size); have p0 := x.cell0; have p1 := x.cell1; have p2 := x.cell2; have p3 := x.cell3; have p4 := x.cell4; have z := z.below hb z.lt; have f0 := z.free 0; have f1 := z.free 1; have f2 := z.free 2; have f3 := z.free 3; have f4 := z.free 4; have u0 := z.cell0; have u1 := z.cell1; have u2 := z.cell2; have u3 := z.cell3; have u4 := z.cell4; clear hb))
  all_goals
    go_wp2
    refine bodyPost_ret (v := relOf b) (by simp [results, Try.results110, go_sem, u0, u1, u2, u3, u4]) rfl ⟨rfl, ?_⟩
    have bb := fun (W : World) (j : Nat) (v : Value) (h : Below w.heap.size w W) => h.setCell (p := ⟨w.heap.size + 1, j, none⟩) (by simp) v
    exact bb _ _ _ (bb _ _ _ (bb _ _ _ (bb _ _ _ (bb _ _ _ B))))

theorem least2R {n : Nat} {xs : List Int} (h : Rl n xs) (w : World) : Calls Try.prog 110 #[relOf xs] w fun e w' => e = .returned (relOf (eitherL xs (turnL xs))) ∧ Below w.heap.size w w' :=
  least2_walk xs (turnL xs) _ w (fun w => turnedR h w) (fun w => eitherR' h h.turn w)

set_option maxRecDepth 100000 in
set_option maxHeartbeats 4000000 in
theorem isRefl_walk (xs a : List Int) (s : Bool) (w : World)
    (h1 : ∀ w, Calls Try.prog 109 #[.int .i64 xs.length] w fun e w' => e = .returned (relOf a) ∧ Below w.heap.size w w')
    (h2 : ∀ w, Calls Try.prog 75 #[relOf a, relOf xs] w fun e w' => e = .returned (.bool s) ∧ Below w.heap.size w w') :
    Calls Try.prog 122 #[relOf xs] w fun e w' => e = .returned (.bool s) ∧ Below w.heap.size w w' := by
  have x0 := RelAt.new w xs
  have B0 := below_one w (.cells #[.int .i64 xs.length, .int .i64 (rowAt xs 0), .int .i64 (rowAt xs 1), .int .i64 (rowAt xs 2), .int .i64 (rowAt xs 3)] 47)
  have H := Lib.hid (And.intro h1 h2)
  clear h1 h2
  have p0 := x0.cell0
  have p1 := x0.cell1
  have p2 := x0.cell2
  have p3 := x0.cell3
  have p4 := x0.cell4
  go_enter Try.func122, Try.ntmps122
  go_wp2
  obtain ⟨W0, hW0⟩ : ∃ W0, (w.alloc (.cells #[.int .i64 xs.length, .int .i64 (rowAt xs 0), .int .i64 (rowAt xs 1), .int .i64 (rowAt xs 2), .int .i64 (rowAt xs 3)] 47)) = W0 := ⟨_, rfl⟩
  rw [hW0] at p0 p1 p2 p3 p4 x0 B0 ⊢
  clear hW0
  have x := x0.drew
  have B := B0.drew
  clear x0 B0
  go_region_held (fun w' => w'.cell? ⟨w.heap.size, 0, none⟩ = some (.int .i64 xs.length) ∧ w'.cell? ⟨w.heap.size, 1, none⟩ = some (.int .i64 (rowAt xs 0)) ∧ w'.cell? ⟨w.heap.size, 2, none⟩ = some (.int .i64 (rowAt xs 1)) ∧ w'.cell? ⟨w.heap.size, 3, none⟩ = some (.int .i64 (rowAt xs 2)) ∧ w'.cell? ⟨w.heap.size, 4, none⟩ = some (.int .i64 (rowAt xs 3))) (go_keep) (first
    | (go_at_call 109; refine (H.out.1 _).mono ?_; rintro e w2 ⟨rfl, hb⟩; have x := x.below hb x.lt; have B := B.trans (hb.mono B.size); have p0 := x.cell0; have p1 := x.cell1; have p2 := x.cell2; have p3 := x.cell3; have p4 := x.cell4; clear hb)
    | (go_at_call 75; refine (H.out.2 _).mono ?_; rintro e w3 ⟨rfl, hb⟩; have x := x.below hb x.lt; have B := B.trans (hb.mono B.size); have p0 := x.cell0; have p1 := x.cell1; have p2 := x.cell2; have p3 := x.cell3; have p4 := x.cell4; clear hb))
  all_goals
    go_wp2
    go_ret
    exact ⟨rfl, B⟩

theorem kR {n : Nat} {xs : List Int} (h : Rl n xs) (w : World) : Calls Try.prog 122 #[relOf xs] w fun e w' => e = .returned (.bool (kindR xs)) ∧ Below w.heap.size w w' := by
  have hs : Rl n (sameL xs.length) := by rw [h.len]; exact Rl.same h.one h.four
  exact isRefl_walk xs (sameL xs.length) (kindR xs) w (fun w => sameR h w) (fun w => belowR hs h w)
end Go.Proofs.Ytnmgoeklcmoalaa

namespace Go.Proofs.Ytnmgoeklcmoalaa
open Go.RowKit

set_option maxRecDepth 100000 in
set_option maxHeartbeats 4000000 in
theorem isIrr_walk (xs a : List Int) (s : Bool) (w : World)
    (h1 : ∀ w, Calls Try.prog 101 #[relOf xs] w fun e w' => e = .returned (relOf a) ∧ Below w.heap.size w w')
    (hn : (a.length : Int) = (xs.length : Int)) (hs : (rowAt a 0 == rowAt xs 0 && (rowAt a 1 == rowAt xs 1 && (rowAt a 2 == rowAt xs 2 && rowAt a 3 == rowAt xs 3))) = s) :
    Calls Try.prog 123 #[relOf xs] w fun e w' => e = .returned (.bool s) ∧ Below w.heap.size w w' := by
  have x0 := RelAt.new w xs
  have B0 := below_one w (.cells #[.int .i64 xs.length, .int .i64 (rowAt xs 0), .int .i64 (rowAt xs 1), .int .i64 (rowAt xs 2), .int .i64 (rowAt xs 3)] 47)
  have H := Lib.hid h1
  clear h1
  have hE : ∀ w, Sem.run Try.prog (Op.equalIn 9999 45 (.agg #[.int .i64 (rowAt a 0), .int .i64 (rowAt a 1), .int .i64 (rowAt a 2), .int .i64 (rowAt a 3)]) (.agg #[.int .i64 (rowAt xs 0), .int .i64 (rowAt xs 1), .int .i64 (rowAt xs 2), .int .i64 (rowAt xs 3)])) w = .ok s w :=
    fun w => (eqRowsD 9997 (rowAt a 0) (rowAt a 1) (rowAt a 2) (rowAt a 3) (rowAt xs 0) (rowAt xs 1) (rowAt xs 2) (rowAt xs 3) w).trans (by rw [hs])
  have en : ((a.length : Int) == (xs.length : Int)) = true := by rw [hn]; simp
  clear hs hn
  cases s with
  | false =>
    have p0 := x0.cell0
    have p1 := x0.cell1
    have p2 := x0.cell2
    have p3 := x0.cell3
    have p4 := x0.cell4
    go_enter Try.func123, Try.ntmps123
    go_wp2
    obtain ⟨W0, hW0⟩ : ∃ W0, (w.alloc (.cells #[.int .i64 xs.length, .int .i64 (rowAt xs 0), .int .i64 (rowAt xs 1), .int .i64 (rowAt xs 2), .int .i64 (rowAt xs 3)] 47)) = W0 := ⟨_, rfl⟩
    rw [hW0] at p0 p1 p2 p3 p4 x0 B0 ⊢
    clear hW0
    have x := x0.drew
    have B := B0.drew
    clear x0 B0
    go_region_held (fun w' => w'.cell? ⟨w.heap.size, 0, none⟩ = some (.int .i64 xs.length) ∧ w'.cell? ⟨w.heap.size, 1, none⟩ = some (.int .i64 (rowAt xs 0)) ∧ w'.cell? ⟨w.heap.size, 2, none⟩ = some (.int .i64 (rowAt xs 1)) ∧ w'.cell? ⟨w.heap.size, 3, none⟩ = some (.int .i64 (rowAt xs 2)) ∧ w'.cell? ⟨w.heap.size, 4, none⟩ = some (.int .i64 (rowAt xs 3))) (go_keep) (first
      | (go_at_call 101; refine (H.out _).mono ?_; rintro e w2 ⟨rfl, hb⟩; have x := x.below hb x.lt; have B := B.trans (hb.mono B.size); have p0 := x.cell0; have p1 := x.cell1; have p2 := x.cell2; have p3 := x.cell3; have p4 := x.cell4; clear hb))
    all_goals
      go_wp2
      go_ret
      exact ⟨rfl, B⟩
  | true =>
    have p0 := x0.cell0
    have p1 := x0.cell1
    have p2 := x0.cell2
    have p3 := x0.cell3
    have p4 := x0.cell4
    go_enter Try.func123, Try.ntmps123
    go_wp2
    obtain ⟨W0, hW0⟩ : ∃ W0, (w.alloc (.cells #[.int .i64 xs.length, .int .i64 (rowAt xs 0), .int .i64 (rowAt xs 1), .int .i64 (rowAt xs 2), .int .i64 (rowAt xs 3)] 47)) = W0 := ⟨_, rfl⟩
    rw [hW0] at p0 p1 p2 p3 p4 x0 B0 ⊢
    clear hW0
    have x := x0.drew
    have B := B0.drew
    clear x0 B0
    go_region_held (fun w' => w'.cell? ⟨w.heap.size, 0, none⟩ = some (.int .i64 xs.length) ∧ w'.cell? ⟨w.heap.size, 1, none⟩ = some (.int .i64 (rowAt xs 0)) ∧ w'.cell? ⟨w.heap.size, 2, none⟩ = some (.int .i64 (rowAt xs 1)) ∧ w'.cell? ⟨w.heap.size, 3, none⟩ = some (.int .i64 (rowAt xs 2)) ∧ w'.cell? ⟨w.heap.size, 4, none⟩ = some (.int .i64 (rowAt xs 3))) (go_keep) (first
      | (go_at_call 101; refine (H.out _).mono ?_; rintro e w2 ⟨rfl, hb⟩; have x := x.below hb x.lt; have B := B.trans (hb.mono B.size); have p0 := x.cell0; have p1 := x.cell1; have p2 := x.cell2; have p3 := x.cell3; have p4 := x.cell4; clear hb))
    all_goals
      go_wp2
      go_ret
      exact ⟨rfl, B⟩

theorem kI {n : Nat} {xs : List Int} (h : Rl n xs) (w : World) : Calls Try.prog 123 #[relOf xs] w fun e w' => e = .returned (.bool (kindI xs)) ∧ Below w.heap.size w w' :=
  isIrr_walk xs (offI xs) (kindI xs) w (fun w => offR h w) (by rw [h.off.len, h.len]) ((rows_eq h.off h).trans (isI h))

set_option maxRecDepth 100000 in
set_option maxHeartbeats 4000000 in
theorem isSym_walk (xs a : List Int) (s : Bool) (w : World)
    (h1 : ∀ w, Calls Try.prog 47 #[relOf xs] w fun e w' => e = .returned (relOf a) ∧ Below w.heap.size w w')
    (hn : (a.length : Int) = (xs.length : Int)) (hs : (rowAt a 0 == rowAt xs 0 && (rowAt a 1 == rowAt xs 1 && (rowAt a 2 == rowAt xs 2 && rowAt a 3 == rowAt xs 3))) = s) :
    Calls Try.prog 124 #[relOf xs] w fun e w' => e = .returned (.bool s) ∧ Below w.heap.size w w' := by
  have x0 := RelAt.new w xs
  have B0 := below_one w (.cells #[.int .i64 xs.length, .int .i64 (rowAt xs 0), .int .i64 (rowAt xs 1), .int .i64 (rowAt xs 2), .int .i64 (rowAt xs 3)] 47)
  have H := Lib.hid h1
  clear h1
  have hE : ∀ w, Sem.run Try.prog (Op.equalIn 9999 45 (.agg #[.int .i64 (rowAt a 0), .int .i64 (rowAt a 1), .int .i64 (rowAt a 2), .int .i64 (rowAt a 3)]) (.agg #[.int .i64 (rowAt xs 0), .int .i64 (rowAt xs 1), .int .i64 (rowAt xs 2), .int .i64 (rowAt xs 3)])) w = .ok s w :=
    fun w => (eqRowsD 9997 (rowAt a 0) (rowAt a 1) (rowAt a 2) (rowAt a 3) (rowAt xs 0) (rowAt xs 1) (rowAt xs 2) (rowAt xs 3) w).trans (by rw [hs])
  have en : ((a.length : Int) == (xs.length : Int)) = true := by rw [hn]; simp
  clear hs hn
  cases s with
  | false =>
    have p0 := x0.cell0
    have p1 := x0.cell1
    have p2 := x0.cell2
    have p3 := x0.cell3
    have p4 := x0.cell4
    go_enter Try.func124, Try.ntmps124
    go_wp2
    obtain ⟨W0, hW0⟩ : ∃ W0, (w.alloc (.cells #[.int .i64 xs.length, .int .i64 (rowAt xs 0), .int .i64 (rowAt xs 1), .int .i64 (rowAt xs 2), .int .i64 (rowAt xs 3)] 47)) = W0 := ⟨_, rfl⟩
    rw [hW0] at p0 p1 p2 p3 p4 x0 B0 ⊢
    clear hW0
    have x := x0.drew
    have B := B0.drew
    clear x0 B0
    go_region_held (fun w' => w'.cell? ⟨w.heap.size, 0, none⟩ = some (.int .i64 xs.length) ∧ w'.cell? ⟨w.heap.size, 1, none⟩ = some (.int .i64 (rowAt xs 0)) ∧ w'.cell? ⟨w.heap.size, 2, none⟩ = some (.int .i64 (rowAt xs 1)) ∧ w'.cell? ⟨w.heap.size, 3, none⟩ = some (.int .i64 (rowAt xs 2)) ∧ w'.cell? ⟨w.heap.size, 4, none⟩ = some (.int .i64 (rowAt xs 3))) (go_keep) (first
      | (go_at_call 47; refine (H.out _).mono ?_; rintro e w2 ⟨rfl, hb⟩; have x := x.below hb x.lt; have B := B.trans (hb.mono B.size); have p0 := x.cell0; have p1 := x.cell1; have p2 := x.cell2; have p3 := x.cell3; have p4 := x.cell4; clear hb))
    all_goals
      go_wp2
      go_ret
      exact ⟨rfl, B⟩
  | true =>
    have p0 := x0.cell0
    have p1 := x0.cell1
    have p2 := x0.cell2
    have p3 := x0.cell3
    have p4 := x0.cell4
    go_enter Try.func124, Try.ntmps124
    go_wp2
    obtain ⟨W0, hW0⟩ : ∃ W0, (w.alloc (.cells #[.int .i64 xs.length, .int .i64 (rowAt xs 0), .int .i64 (rowAt xs 1), .int .i64 (rowAt xs 2), .int .i64 (rowAt xs 3)] 47)) = W0 := ⟨_, rfl⟩
    rw [hW0] at p0 p1 p2 p3 p4 x0 B0 ⊢
    clear hW0
    have x := x0.drew
    have B := B0.drew
    clear x0 B0
    go_region_held (fun w' => w'.cell? ⟨w.heap.size, 0, none⟩ = some (.int .i64 xs.length) ∧ w'.cell? ⟨w.heap.size, 1, none⟩ = some (.int .i64 (rowAt xs 0)) ∧ w'.cell? ⟨w.heap.size, 2, none⟩ = some (.int .i64 (rowAt xs 1)) ∧ w'.cell? ⟨w.heap.size, 3, none⟩ = some (.int .i64 (rowAt xs 2)) ∧ w'.cell? ⟨w.heap.size, 4, none⟩ = some (.int .i64 (rowAt xs 3))) (go_keep) (first
      | (go_at_call 47; refine (H.out _).mono ?_; rintro e w2 ⟨rfl, hb⟩; have x := x.below hb x.lt; have B := B.trans (hb.mono B.size); have p0 := x.cell0; have p1 := x.cell1; have p2 := x.cell2; have p3 := x.cell3; have p4 := x.cell4; clear hb))
    all_goals
      go_wp2
      go_ret
      exact ⟨rfl, B⟩

theorem kS {n : Nat} {xs : List Int} (h : Rl n xs) (w : World) : Calls Try.prog 124 #[relOf xs] w fun e w' => e = .returned (.bool (kindS xs)) ∧ Below w.heap.size w w' :=
  isSym_walk xs (turnL xs) (kindS xs) w (fun w => turnedR h w) (by rw [h.turn.len, h.len]) ((rows_eq h.turn h).trans (isS xs))
end Go.Proofs.Ytnmgoeklcmoalaa

namespace Go.Proofs.Ytnmgoeklcmoalaa
open Go.RowKit

set_option maxRecDepth 100000 in
set_option maxHeartbeats 4000000 in
theorem isAnti_walk (xs a b : List Int) (s : Bool) (w : World)
    (h1 : ∀ w, Calls Try.prog 102 #[relOf xs] w fun e w' => e = .returned (relOf a) ∧ Below w.heap.size w w')
    (h2 : ∀ w, Calls Try.prog 109 #[.int .i64 xs.length] w fun e w' => e = .returned (relOf b) ∧ Below w.heap.size w w')
    (h3 : ∀ w, Calls Try.prog 75 #[relOf a, relOf b] w fun e w' => e = .returned (.bool s) ∧ Below w.heap.size w w') :
    Calls Try.prog 125 #[relOf xs] w fun e w' => e = .returned (.bool s) ∧ Below w.heap.size w w' := by
  have x0 := RelAt.new w xs
  have B0 := below_one w (.cells #[.int .i64 xs.length, .int .i64 (rowAt xs 0), .int .i64 (rowAt xs 1), .int .i64 (rowAt xs 2), .int .i64 (rowAt xs 3)] 47)
  have H := Lib.hid (And.intro h1 (And.intro h2 h3))
  clear h1 h2 h3
  have p0 := x0.cell0
  have p1 := x0.cell1
  have p2 := x0.cell2
  have p3 := x0.cell3
  have p4 := x0.cell4
  go_enter Try.func125, Try.ntmps125
  go_wp2
  obtain ⟨W0, hW0⟩ : ∃ W0, (w.alloc (.cells #[.int .i64 xs.length, .int .i64 (rowAt xs 0), .int .i64 (rowAt xs 1), .int .i64 (rowAt xs 2), .int .i64 (rowAt xs 3)] 47)) = W0 := ⟨_, rfl⟩
  rw [hW0] at p0 p1 p2 p3 p4 x0 B0 ⊢
  clear hW0
  have x := x0.drew
  have B := B0.drew
  clear x0 B0
  go_region_held (fun w' => w'.cell? ⟨w.heap.size, 0, none⟩ = some (.int .i64 xs.length) ∧ w'.cell? ⟨w.heap.size, 1, none⟩ = some (.int .i64 (rowAt xs 0)) ∧ w'.cell? ⟨w.heap.size, 2, none⟩ = some (.int .i64 (rowAt xs 1)) ∧ w'.cell? ⟨w.heap.size, 3, none⟩ = some (.int .i64 (rowAt xs 2)) ∧ w'.cell? ⟨w.heap.size, 4, none⟩ = some (.int .i64 (rowAt xs 3))) (go_keep) (first
    | (go_at_call 102; refine (H.out.1 _).mono ?_; rintro e w2 ⟨rfl, hb⟩; have x := x.below hb x.lt; have B := B.trans (hb.mono B.size); have p0 := x.cell0; have p1 := x.cell1; have p2 := x.cell2; have p3 := x.cell3; have p4 := x.cell4; clear hb)
    | (go_at_call 109; refine (H.out.2.1 _).mono ?_; rintro e w3 ⟨rfl, hb⟩; have x := x.below hb x.lt; have B := B.trans (hb.mono B.size); have p0 := x.cell0; have p1 := x.cell1; have p2 := x.cell2; have p3 := x.cell3; have p4 := x.cell4; clear hb)
    | (go_at_call 75; refine (H.out.2.2 _).mono ?_; rintro e w4 ⟨rfl, hb⟩; have x := x.below hb x.lt; have B := B.trans (hb.mono B.size); have p0 := x.cell0; have p1 := x.cell1; have p2 := x.cell2; have p3 := x.cell3; have p4 := x.cell4; clear hb))
  all_goals
    go_wp2
    go_ret
    exact ⟨rfl, B⟩

theorem kA {n : Nat} {xs : List Int} (h : Rl n xs) (w : World) : Calls Try.prog 125 #[relOf xs] w fun e w' => e = .returned (.bool (kindA xs)) ∧ Below w.heap.size w w' := by
  have hs : Rl n (sameL xs.length) := by rw [h.len]; exact Rl.same h.one h.four
  exact isAnti_walk xs (twoW xs) (sameL xs.length) (kindA xs) w (fun w => twoR h w) (fun w => sameR h w) (fun w => belowR h.twoW hs w)

set_option maxRecDepth 100000 in
set_option maxHeartbeats 4000000 in
theorem isTrans_walk (xs a : List Int) (s : Bool) (w : World)
    (h1 : ∀ w, Calls Try.prog 90 #[relOf xs, relOf xs] w fun e w' => e = .returned (relOf a) ∧ Below w.heap.size w w')
    (h2 : ∀ w, Calls Try.prog 75 #[relOf a, relOf xs] w fun e w' => e = .returned (.bool s) ∧ Below w.heap.size w w') :
    Calls Try.prog 126 #[relOf xs] w fun e w' => e = .returned (.bool s) ∧ Below w.heap.size w w' := by
  have x0 := RelAt.new w xs
  have B0 := below_one w (.cells #[.int .i64 xs.length, .int .i64 (rowAt xs 0), .int .i64 (rowAt xs 1), .int .i64 (rowAt xs 2), .int .i64 (rowAt xs 3)] 47)
  have H := Lib.hid (And.intro h1 h2)
  clear h1 h2
  have p0 := x0.cell0
  have p1 := x0.cell1
  have p2 := x0.cell2
  have p3 := x0.cell3
  have p4 := x0.cell4
  go_enter Try.func126, Try.ntmps126
  go_wp2
  obtain ⟨W0, hW0⟩ : ∃ W0, (w.alloc (.cells #[.int .i64 xs.length, .int .i64 (rowAt xs 0), .int .i64 (rowAt xs 1), .int .i64 (rowAt xs 2), .int .i64 (rowAt xs 3)] 47)) = W0 := ⟨_, rfl⟩
  rw [hW0] at p0 p1 p2 p3 p4 x0 B0 ⊢
  clear hW0
  have x := x0.drew
  have B := B0.drew
  clear x0 B0
  go_region_held (fun w' => w'.cell? ⟨w.heap.size, 0, none⟩ = some (.int .i64 xs.length) ∧ w'.cell? ⟨w.heap.size, 1, none⟩ = some (.int .i64 (rowAt xs 0)) ∧ w'.cell? ⟨w.heap.size, 2, none⟩ = some (.int .i64 (rowAt xs 1)) ∧ w'.cell? ⟨w.heap.size, 3, none⟩ = some (.int .i64 (rowAt xs 2)) ∧ w'.cell? ⟨w.heap.size, 4, none⟩ = some (.int .i64 (rowAt xs 3))) (go_keep) (first
    | (go_at_call 90; refine (H.out.1 _).mono ?_; rintro e w2 ⟨rfl, hb⟩; have x := x.below hb x.lt; have B := B.trans (hb.mono B.size); have p0 := x.cell0; have p1 := x.cell1; have p2 := x.cell2; have p3 := x.cell3; have p4 := x.cell4; clear hb)
    | (go_at_call 75; refine (H.out.2 _).mono ?_; rintro e w3 ⟨rfl, hb⟩; have x := x.below hb x.lt; have B := B.trans (hb.mono B.size); have p0 := x.cell0; have p1 := x.cell1; have p2 := x.cell2; have p3 := x.cell3; have p4 := x.cell4; clear hb))
  all_goals
    go_wp2
    go_ret
    exact ⟨rfl, B⟩

theorem kT {n : Nat} {xs : List Int} (h : Rl n xs) (w : World) : Calls Try.prog 126 #[relOf xs] w fun e w' => e = .returned (.bool (kindT xs)) ∧ Below w.heap.size w w' :=
  isTrans_walk xs (compL xs xs) (kindT xs) w (fun w => then_any h h w) (fun w => belowR (h.comp h) h w)
end Go.Proofs.Ytnmgoeklcmoalaa

namespace Go.Proofs.Ytnmgoeklcmoalaa
open Go.RowKit

/-! rows -/
theorem all_upto (p : Int → Bool) (xs : List Int) (k : Nat) (x : Int) (hx : xs[k]? = some x) : (xs.take (k + 1)).all p = ((xs.take k).all p && p x) := by
  rw [List.take_add_one, hx, List.all_append]
  simp
theorem all_fail (p : Int → Bool) (xs : List Int) (k : Nat) (x : Int) (hx : xs[k]? = some x) (hp : p x = false) : xs.all p = false := by
  rw [List.all_eq_false]
  exact ⟨x, List.mem_of_getElem? hx, by simp [hp]⟩
set_option maxHeartbeats 2000000 in
theorem oneMost_any (xs : List Int) (w : World) (hs : In16 xs) (h4 : xs.length ≤ 4) :
    Calls Try.prog 128 #[relOf xs] w fun e w' => e = .returned (.bool (oneMost xs)) ∧ Below w.heap.size w w' := by
  have x0 := RelAt.new w xs
  have B0 := below_one w (.cells #[.int .i64 xs.length, .int .i64 (rowAt xs 0), .int .i64 (rowAt xs 1), .int .i64 (rowAt xs 2), .int .i64 (rowAt xs 3)] 47)
  have p0 := x0.cell0
  have HS := Lib.hid hs
  clear hs
  go_enter Try.func128, Try.ntmps128
  go_wp2
  clear p0
  go_loopw [6, 3] (fun i _ wr => ∃ k : Nat, k ≤ xs.length ∧ i = .int .i64 k ∧ ((xs.take k).all fun x => decide (cnt x ≤ 1)) = true ∧ RelAt wr w.heap.size xs ∧ Below w.heap.size w wr)
    (fun i _ _ => xs.length - (intOf i).toNat)
  case atStart => exact ⟨0, Nat.zero_le _, rfl, rfl, x0, B0⟩
  case round =>
    clear x0 B0
    obtain ⟨k, hk, rfl, ha, hr, hB⟩ := hrel
    have HA := Lib.hid ha
    clear ha
    by_cases hlt : k < xs.length
    · obtain ⟨y, hy⟩ := HS.out k
      have hxk := rowAt_get hlt
      rw [hy] at hxk
      have HX := Lib.hid hxk
      have hc1 := hr.row k (by omega)
      rw [hy] at hc1
      have hq : (k : Int) < 4 := by omega
      clear hxk hy
      by_cases hc : cnt (y.val : Int) ≤ 1
      · have hc2 : decide (1 < cnt (y.val : Int)) = false := by simpa using hc
        have HC := Lib.hid hc
        clear hc
        go_wp2_with (go_at_call 61; refine (setSize_any y _).mono ?_; rintro e w2 ⟨rfl, rfl⟩)
        go_roundw
        case rel => exact ⟨k + 1, by omega, by go_num, by rw [all_upto _ _ _ _ HX.out, HA.out, decide_eq_true HC.out]; rfl, hr, hB⟩
        case measure => simp [intOf]; omega
      · have hc2 : decide (1 < cnt (y.val : Int)) = true := by simpa using hc
        have HC := Lib.hid hc
        clear hc
        go_wp2_with (go_at_call 61; refine (setSize_any y _).mono ?_; rintro e w2 ⟨rfl, rfl⟩)
        go_ret
        exact ⟨by rw [show oneMost xs = false from all_fail _ _ _ _ HX.out (decide_eq_false (Int.not_le.2 HC.out))]; rfl, hB⟩
    · obtain rfl : k = xs.length := by omega
      go_wp2
      go_ret
      have := HA.out
      rw [List.take_length] at this
      exact ⟨by rw [show oneMost xs = true from this]; rfl, hB⟩
set_option maxHeartbeats 2000000 in
theorem oneLeast_any (xs : List Int) (w : World) (hs : In16 xs) (h4 : xs.length ≤ 4) :
    Calls Try.prog 129 #[relOf xs] w fun e w' => e = .returned (.bool (oneLeast xs)) ∧ Below w.heap.size w w' := by
  have x0 := RelAt.new w xs
  have B0 := below_one w (.cells #[.int .i64 xs.length, .int .i64 (rowAt xs 0), .int .i64 (rowAt xs 1), .int .i64 (rowAt xs 2), .int .i64 (rowAt xs 3)] 47)
  have p0 := x0.cell0
  have HS := Lib.hid hs
  clear hs
  go_enter Try.func129, Try.ntmps129
  go_wp2
  clear p0
  go_loopw [6, 3] (fun i _ wr => ∃ k : Nat, k ≤ xs.length ∧ i = .int .i64 k ∧ ((xs.take k).all fun x => !decide (cnt x = 0)) = true ∧ RelAt wr w.heap.size xs ∧ Below w.heap.size w wr)
    (fun i _ _ => xs.length - (intOf i).toNat)
  case atStart => exact ⟨0, Nat.zero_le _, rfl, rfl, x0, B0⟩
  case round =>
    clear x0 B0
    obtain ⟨k, hk, rfl, ha, hr, hB⟩ := hrel
    have HA := Lib.hid ha
    clear ha
    by_cases hlt : k < xs.length
    · obtain ⟨y, hy⟩ := HS.out k
      have hxk := rowAt_get hlt
      rw [hy] at hxk
      have HX := Lib.hid hxk
      have hc1 := hr.row k (by omega)
      rw [hy] at hc1
      have hq : (k : Int) < 4 := by omega
      clear hxk hy
      by_cases hc : cnt (y.val : Int) = 0
      · have hc2 : (cnt (y.val : Int) == 0) = true := by simpa using hc
        have HC := Lib.hid hc
        clear hc
        go_wp2_with (go_at_call 61; refine (setSize_any y _).mono ?_; rintro e w2 ⟨rfl, rfl⟩)
        go_ret
        exact ⟨by rw [show oneLeast xs = false from all_fail _ _ _ _ HX.out (by rw [decide_eq_true HC.out]; rfl)]; rfl, hB⟩
      · have hc2 : (cnt (y.val : Int) == 0) = false := by simpa using hc
        have HC := Lib.hid hc
        clear hc
        go_wp2_with (go_at_call 61; refine (setSize_any y _).mono ?_; rintro e w2 ⟨rfl, rfl⟩)
        go_roundw
        case rel => exact ⟨k + 1, by omega, by go_num, by rw [all_upto _ _ _ _ HX.out, HA.out, decide_eq_false HC.out]; rfl, hr, hB⟩
        case measure => simp [intOf]; omega
    · obtain rfl : k = xs.length := by omega
      go_wp2
      go_ret
      have := HA.out
      rw [List.take_length] at this
      exact ⟨by rw [show oneLeast xs = true from this]; rfl, hB⟩
theorem kF {n : Nat} {xs : List Int} (h : Rl n xs) (w : World) : Calls Try.prog 128 #[relOf xs] w fun e w' => e = .returned (.bool (kindF xs)) ∧ Below w.heap.size w w' := by
  rw [← isF h]
  exact oneMost_any xs w h.in16 (h.len.symm ▸ h.four)
theorem kD {n : Nat} {xs : List Int} (h : Rl n xs) (w : World) : Calls Try.prog 129 #[relOf xs] w fun e w' => e = .returned (.bool (kindD xs)) ∧ Below w.heap.size w w' := by
  rw [← isD h]
  exact oneLeast_any xs w h.in16 (h.len.symm ▸ h.four)

/-! what is asked of the turned relation -/
set_option maxRecDepth 100000 in
set_option maxHeartbeats 4000000 in
theorem onTurned1_walk (xs a : List Int) (s : Bool) (g : FuncId) (hcf : ∀ args w, Sem.run Try.prog (callFunc g args) w = .ok (.enter g args) w) (b : Nat) (w : World) (hc : w.cell? ⟨b, 0, none⟩ = some (.func (.func g) #[] #[])) (hbl : b < w.heap.size)
    (h1 : ∀ w, Calls Try.prog 47 #[relOf xs] w fun e w' => e = .returned (relOf a) ∧ Below w.heap.size w w')
    (h2 : ∀ w, Calls Try.prog g #[relOf a] w fun e w' => e = .returned (.bool s) ∧ Below w.heap.size w w') :
    Calls Try.prog 136 #[relOf xs, .pointer (some ⟨b, 0, none⟩)] w fun e w' => e = .returned (.bool s) ∧ Below w.heap.size w w' := by
  have x0 := RelAt.new w xs
  have B0 := below_one w (.cells #[.int .i64 xs.length, .int .i64 (rowAt xs 0), .int .i64 (rowAt xs 1), .int .i64 (rowAt xs 2), .int .i64 (rowAt xs 3)] 47)
  have c0 : (w.alloc (.cells #[.int .i64 xs.length, .int .i64 (rowAt xs 0), .int .i64 (rowAt xs 1), .int .i64 (rowAt xs 2), .int .i64 (rowAt xs 3)] 47)).cell? ⟨b, 0, none⟩ = some (.func (.func g) #[] #[]) := (B0.cell (p := ⟨b, 0, none⟩) hbl).trans hc
  have H := Lib.hid (And.intro h1 h2)
  clear h1 h2 hc
  have p0 := x0.cell0
  have p1 := x0.cell1
  have p2 := x0.cell2
  have p3 := x0.cell3
  have p4 := x0.cell4
  go_enter Try.func136, Try.ntmps136
  go_wp2
  obtain ⟨W0, hW0⟩ : ∃ W0, (w.alloc (.cells #[.int .i64 xs.length, .int .i64 (rowAt xs 0), .int .i64 (rowAt xs 1), .int .i64 (rowAt xs 2), .int .i64 (rowAt xs 3)] 47)) = W0 := ⟨_, rfl⟩
  rw [hW0] at p0 p1 p2 p3 p4 x0 B0 c0 ⊢
  clear hW0
  have hbl0 : b < W0.heap.size := Nat.lt_of_lt_of_le hbl B0.size
  have B := B0.drew
  clear x0 B0
  go_region_with (first
    | (go_at_call 47; refine (H.out.1 _).mono ?_; rintro e w2 ⟨rfl, hb⟩; have c1 : w2.cell? ⟨b, 0, none⟩ = some (.func (.func g) #[] #[]) := (hb.cell (p := ⟨b, 0, none⟩) hbl0).trans c0; have B := B.trans (hb.mono B.size); clear hb)
    | (refine (H.out.2 _).mono ?_; rintro e w3 ⟨rfl, hb⟩; have B := B.trans (hb.mono B.size); clear hb))
  all_goals
    go_wp2
    go_ret
    exact ⟨rfl, B⟩
theorem onTurned_any (g : FuncId) (w : World) :
    Calls Try.prog 130 #[.func (.func g) #[] #[]] w fun e w' => e = .returned (.func (.func 136) #[] #[.pointer (some ⟨w.heap.size, 0, none⟩)]) ∧ w.alloc (.cells #[.func (.func g) #[] #[]] 111) = w' := by
  have hmf : ∀ (fn : Fn) (first cap : Array Value) (w : World), Sem.run Try.prog (Instr.makeFunc fn first cap) w = .ok (.func fn first cap) w := fun _ _ _ _ => rfl
  go_enter Try.func130, Try.ntmps130
  go_wp2
  go_ret
  exact ⟨rfl, rfl⟩
end Go.Proofs.Ytnmgoeklcmoalaa

namespace Go.Proofs.Ytnmgoeklcmoalaa
open Go.RowKit

theorem zero_rel5 (n : Nat) : relOf (List.replicate n 0) = rel5 n 0 0 0 0 := by
  unfold relOf rel5
  rw [zeros_at, zeros_at, zeros_at, zeros_at, List.length_replicate]
theorem allR {n : Nat} (h1 : 1 ≤ n) (h4 : n ≤ 4) (w : World) : Calls Try.prog 121 #[rel5 n 0 0 0 0] w fun e w' => e = .returned (relOf (allL n)) ∧ Below w.heap.size w w' := by
  rw [← zero_rel5]
  exact otherR (Rl.zeros h1 h4) w

set_option maxRecDepth 100000 in
set_option maxHeartbeats 4000000 in
theorem isConn_walk (xs a b c : List Int) (s : Bool) (w : World)
    (h0 : ∀ w, Calls Try.prog 121 #[rel5 xs.length 0 0 0 0] w fun e w' => e = .returned (relOf c) ∧ Below w.heap.size w w')
    (h1 : ∀ w, Calls Try.prog 47 #[relOf xs] w fun e w' => e = .returned (relOf a) ∧ Below w.heap.size w w')
    (h2 : ∀ w, Calls Try.prog 108 #[relOf xs, relOf a] w fun e w' => e = .returned (relOf b) ∧ Below w.heap.size w w')
    (hn : (b.length : Int) = (c.length : Int)) (hs : (rowAt b 0 == rowAt c 0 && (rowAt b 1 == rowAt c 1 && (rowAt b 2 == rowAt c 2 && rowAt b 3 == rowAt c 3))) = s) :
    Calls Try.prog 127 #[relOf xs] w fun e w' => e = .returned (.bool s) ∧ Below w.heap.size w w' := by
  have x0 := RelAt.new w xs
  have B0 := below_one w (.cells #[.int .i64 xs.length, .int .i64 (rowAt xs 0), .int .i64 (rowAt xs 1), .int .i64 (rowAt xs 2), .int .i64 (rowAt xs 3)] 47)
  have H := Lib.hid (And.intro h0 (And.intro h1 h2))
  clear h0 h1 h2
  have hE : ∀ w, Sem.run Try.prog (Op.equalIn 9999 45 (.agg #[.int .i64 (rowAt b 0), .int .i64 (rowAt b 1), .int .i64 (rowAt b 2), .int .i64 (rowAt b 3)]) (.agg #[.int .i64 (rowAt c 0), .int .i64 (rowAt c 1), .int .i64 (rowAt c 2), .int .i64 (rowAt c 3)])) w = .ok s w :=
    fun w => (eqRowsD 9997 (rowAt b 0) (rowAt b 1) (rowAt b 2) (rowAt b 3) (rowAt c 0) (rowAt c 1) (rowAt c 2) (rowAt c 3) w).trans (by rw [hs])
  have en : ((b.length : Int) == (c.length : Int)) = true := by rw [hn]; simp
  clear hs hn
  cases s with
  | false =>
    have p0 := x0.cell0
    go_enter Try.func127, Try.ntmps127
    go_wp2_with fail
    refine (H.out.1 _).mono ?_
    rintro e w1 ⟨rfl, hb⟩
    have x1 := (x0.below hb x0.lt).alloc (.cells #[.int .i64 c.length, .int .i64 (rowAt c 0), .int .i64 (rowAt c 1), .int .i64 (rowAt c 2), .int .i64 (rowAt c 3)] 47)
    have y1 := RelAt.new w1 c
    have B1 := (B0.trans (hb.mono B0.size)).alloc (Nat.le_trans B0.size hb.size) (.cells #[.int .i64 c.length, .int .i64 (rowAt c 0), .int .i64 (rowAt c 1), .int .i64 (rowAt c 2), .int .i64 (rowAt c 3)] 47)
    clear hb p0 x0 B0
    go_wp2
    obtain ⟨W0, hW0⟩ : ∃ W0, w1.alloc (.cells #[.int .i64 c.length, .int .i64 (rowAt c 0), .int .i64 (rowAt c 1), .int .i64 (rowAt c 2), .int .i64 (rowAt c 3)] 47) = W0 := ⟨_, rfl⟩
    rw [hW0] at x1 y1 B1 ⊢
    clear hW0
    have x := x1.drew
    have y := y1.drew
    have B := B1.drew
    have p0 := x1.cell0
    have p1 := x1.cell1
    have p2 := x1.cell2
    have p3 := x1.cell3
    have p4 := x1.cell4
    have q0 := y1.cell0
    have q1 := y1.cell1
    have q2 := y1.cell2
    have q3 := y1.cell3
    have q4 := y1.cell4
    clear x1 y1 B1
    go_region_held (fun w' => w'.cell? ⟨w.heap.size, 0, none⟩ = some (.int .i64 xs.length) ∧ w'.cell? ⟨w.heap.size, 1, none⟩ = some (.int .i64 (rowAt xs 0)) ∧ w'.cell? ⟨w.heap.size, 2, none⟩ = some (.int .i64 (rowAt xs 1)) ∧ w'.cell? ⟨w.heap.size, 3, none⟩ = some (.int .i64 (rowAt xs 2)) ∧ w'.cell? ⟨w.heap.size, 4, none⟩ = some (.int .i64 (rowAt xs 3)) ∧ w'.cell? ⟨w1.heap.size, 0, none⟩ = some (.int .i64 c.length) ∧ w'.cell? ⟨w1.heap.size, 1, none⟩ = some (.int .i64 (rowAt c 0)) ∧ w'.cell? ⟨w1.heap.size, 2, none⟩ = some (.int .i64 (rowAt c 1)) ∧ w'.cell? ⟨w1.heap.size, 3, none⟩ = some (.int .i64 (rowAt c 2)) ∧ w'.cell? ⟨w1.heap.size, 4, none⟩ = some (.int .i64 (rowAt c 3))) (go_keep) (first
      | (go_at_call 47; refine (H.out.2.1 _).mono ?_; rintro e w2 ⟨rfl, hb⟩; have x := x.below hb x.lt; have y := y.below hb y.lt; have B := B.trans (hb.mono B.size); have p0 := x.cell0; have p1 := x.cell1; have p2 := x.cell2; have p3 := x.cell3; have p4 := x.cell4; have q0 := y.cell0; have q1 := y.cell1; have q2 := y.cell2; have q3 := y.cell3; have q4 := y.cell4; clear hb)
      | (go_at_call 108; refine (H.out.2.2 _).mono ?_; rintro e w3 ⟨rfl, hb⟩; have x := x.below hb x.lt; have y := y.below hb y.lt; have p0 := x.cell0; have p1 := x.cell1; have p2 := x.cell2; have p3 := x.cell3; have p4 := x.cell4; have B := B.trans (hb.mono B.size); have q0 := y.cell0; have q1 := y.cell1; have q2 := y.cell2; have q3 := y.cell3; have q4 := y.cell4; clear hb))
    all_goals
      go_wp2
      go_ret
      exact ⟨rfl, B⟩
  | true =>
    have p0 := x0.cell0
    go_enter Try.func127, Try.ntmps127
    go_wp2_with fail
    refine (H.out.1 _).mono ?_
    rintro e w1 ⟨rfl, hb⟩
    have x1 := (x0.below hb x0.lt).alloc (.cells #[.int .i64 c.length, .int .i64 (rowAt c 0), .int .i64 (rowAt c 1), .int .i64 (rowAt c 2), .int .i64 (rowAt c 3)] 47)
    have y1 := RelAt.new w1 c
    have B1 := (B0.trans (hb.mono B0.size)).alloc (Nat.le_trans B0.size hb.size) (.cells #[.int .i64 c.length, .int .i64 (rowAt c 0), .int .i64 (rowAt c 1), .int .i64 (rowAt c 2), .int .i64 (rowAt c 3)] 47)
    clear hb p0 x0 B0
    go_wp2
    obtain ⟨W0, hW0⟩ : ∃ W0, w1.alloc (.cells #[.int .i64 c.length, .int .i64 (rowAt c 0), .int .i64 (rowAt c 1), .int .i64 (rowAt c 2), .int .i64 (rowAt c 3)] 47) = W0 := ⟨_, rfl⟩
    rw [hW0] at x1 y1 B1 ⊢
    clear hW0
    have x := x1.drew
    have y := y1.drew
    have B := B1.drew
    have p0 := x1.cell0
    have p1 := x1.cell1
    have p2 := x1.cell2
    have p3 := x1.cell3
    have p4 := x1.cell4
    have q0 := y1.cell0
    have q1 := y1.cell1
    have q2 := y1.cell2
    have q3 := y1.cell3
    have q4 := y1.cell4
    clear x1 y1 B1
    go_region_held (fun w' => w'.cell? ⟨w.heap.size, 0, none⟩ = some (.int .i64 xs.length) ∧ w'.cell? ⟨w.heap.size, 1, none⟩ = some (.int .i64 (rowAt xs 0)) ∧ w'.cell? ⟨w.heap.size, 2, none⟩ = some (.int .i64 (rowAt xs 1)) ∧ w'.cell? ⟨w.heap.size, 3, none⟩ = some (.int .i64 (rowAt xs 2)) ∧ w'.cell? ⟨w.heap.size, 4, none⟩ = some (.int .i64 (rowAt xs 3)) ∧ w'.cell? ⟨w1.heap.size, 0, none⟩ = some (.int .i64 c.length) ∧ w'.cell? ⟨w1.heap.size, 1, none⟩ = some (.int .i64 (rowAt c 0)) ∧ w'.cell? ⟨w1.heap.size, 2, none⟩ = some (.int .i64 (rowAt c 1)) ∧ w'.cell? ⟨w1.heap.size, 3, none⟩ = some (.int .i64 (rowAt c 2)) ∧ w'.cell? ⟨w1.heap.size, 4, none⟩ = some (.int .i64 (rowAt c 3))) (go_keep) (first
      | (go_at_call 47; refine (H.out.2.1 _).mono ?_; rintro e w2 ⟨rfl, hb⟩; have x := x.below hb x.lt; have y := y.below hb y.lt; have B := B.trans (hb.mono B.size); have p0 := x.cell0; have p1 := x.cell1; have p2 := x.cell2; have p3 := x.cell3; have p4 := x.cell4; have q0 := y.cell0; have q1 := y.cell1; have q2 := y.cell2; have q3 := y.cell3; have q4 := y.cell4; clear hb)
      | (go_at_call 108; refine (H.out.2.2 _).mono ?_; rintro e w3 ⟨rfl, hb⟩; have x := x.below hb x.lt; have y := y.below hb y.lt; have p0 := x.cell0; have p1 := x.cell1; have p2 := x.cell2; have p3 := x.cell3; have p4 := x.cell4; have B := B.trans (hb.mono B.size); have q0 := y.cell0; have q1 := y.cell1; have q2 := y.cell2; have q3 := y.cell3; have q4 := y.cell4; clear hb))
    all_goals
      go_wp2
      go_ret
      exact ⟨rfl, B⟩

theorem kC {n : Nat} {xs : List Int} (h : Rl n xs) (w : World) : Calls Try.prog 127 #[relOf xs] w fun e w' => e = .returned (.bool (kindC xs)) ∧ Below w.heap.size w w' :=
  isConn_walk xs (turnL xs) (eitherL xs (turnL xs)) (allL xs.length) (kindC xs) w (fun w => allR (h.len.symm ▸ h.one) (h.len.symm ▸ h.four) w) (fun w => turnedR h w) (fun w => eitherR' h h.turn w)
    (by rw [(h.either h.turn).len, h.len, (Rl.all h.one h.four).len]) (by rw [h.len]; exact (rows_eq (h.either h.turn) (Rl.all h.one h.four)).trans (isC h))
end Go.Proofs.Ytnmgoeklcmoalaa
