/-
  The tests of antisymmetric and transitive relations.
-/
import Derived.Test.YtonmjcfkanldcaaHB
namespace Go.Proofs.Ytonmjcfkanldcaa
open Go.RowKit

set_option maxRecDepth 100000 in
set_option maxHeartbeats 4000000 in
theorem isAnti_walk (xs a b : List Int) (s : Bool) (w : World)
    (h1 : ∀ w, Calls Try.prog 108 #[relOf xs] w fun e w' => e = .returned (relOf a) ∧ Below w.heap.size w w')
    (h2 : ∀ w, Calls Try.prog 104 #[.int .i64 xs.length] w fun e w' => e = .returned (relOf b) ∧ Below w.heap.size w w')
    (h3 : ∀ w, Calls Try.prog 105 #[relOf a, relOf b] w fun e w' => e = .returned (.bool s) ∧ Below w.heap.size w w') :
    Calls Try.prog 85 #[relOf xs] w fun e w' => e = .returned (.bool s) ∧ Below w.heap.size w w' := by
  have x0 := RelAt.new w xs
  have B0 := below_one w (.cells #[.int .i64 xs.length, .int .i64 (rowAt xs 0), .int .i64 (rowAt xs 1), .int .i64 (rowAt xs 2), .int .i64 (rowAt xs 3)] 58)
  have H := Lib.hid (And.intro h1 (And.intro h2 h3))
  clear h1 h2 h3
  have p0 := x0.cell0
  have p1 := x0.cell1
  have p2 := x0.cell2
  have p3 := x0.cell3
  have p4 := x0.cell4
  go_enter Try.func85, Try.ntmps85
  go_wp2
  obtain ⟨W0, hW0⟩ : ∃ W0, (w.alloc (.cells #[.int .i64 xs.length, .int .i64 (rowAt xs 0), .int .i64 (rowAt xs 1), .int .i64 (rowAt xs 2), .int .i64 (rowAt xs 3)] 58)) = W0 := ⟨_, rfl⟩
  rw [hW0] at p0 p1 p2 p3 p4 x0 B0 ⊢
  clear hW0
  have x := x0.drew
  have B := B0.drew
  clear x0 B0
  go_region_held (fun w' => w'.cell? ⟨w.heap.size, 0, none⟩ = some (.int .i64 xs.length) ∧ w'.cell? ⟨w.heap.size, 1, none⟩ = some (.int .i64 (rowAt xs 0)) ∧ w'.cell? ⟨w.heap.size, 2, none⟩ = some (.int .i64 (rowAt xs 1)) ∧ w'.cell? ⟨w.heap.size, 3, none⟩ = some (.int .i64 (rowAt xs 2)) ∧ w'.cell? ⟨w.heap.size, 4, none⟩ = some (.int .i64 (rowAt xs 3))) (go_keep) (first
    | (go_at_call 108; refine (H.out.1 _).mono ?_; rintro e w2 ⟨rfl, hb⟩; have x := x.below hb x.lt; have B := B.trans (hb.mono B.size); have p0 := x.cell0; have p1 := x.cell1; have p2 := x.cell2; have p3 := x.cell3; have p4 := x.cell4; clear hb)
    | (go_at_call 104; refine (H.out.2.1 _).mono ?_; rintro e w3 ⟨rfl, hb⟩; have x := x.below hb x.lt; have B := B.trans (hb.mono B.size); have p0 := x.cell0; have p1 := x.cell1; have p2 := x.cell2; have p3 := x.cell3; have p4 := x.cell4; clear hb)
    | (go_at_call 105; refine (H.out.2.2 _).mono ?_; rintro e w4 ⟨rfl, hb⟩; have x := x.below hb x.lt; have B := B.trans (hb.mono B.size); have p0 := x.cell0; have p1 := x.cell1; have p2 := x.cell2; have p3 := x.cell3; have p4 := x.cell4; clear hb))
  all_goals
    go_wp2
    go_ret
    exact ⟨rfl, B⟩

theorem kA {n : Nat} {xs : List Int} (h : Rl n xs) (w : World) : Calls Try.prog 85 #[relOf xs] w fun e w' => e = .returned (.bool (kindA xs)) ∧ Below w.heap.size w w' := by
  have hs : Rl n (sameL xs.length) := by rw [h.len]; exact Rl.same h.one h.four
  exact isAnti_walk xs (twoW xs) (sameL xs.length) (kindA xs) w (fun w => twoR h w) (fun w => sameR h w) (fun w => belowR h.twoW hs w)

set_option maxRecDepth 100000 in
set_option maxHeartbeats 4000000 in
theorem isTrans_walk (xs a : List Int) (s : Bool) (w : World)
    (h1 : ∀ w, Calls Try.prog 102 #[relOf xs, relOf xs] w fun e w' => e = .returned (relOf a) ∧ Below w.heap.size w w')
    (h2 : ∀ w, Calls Try.prog 105 #[relOf a, relOf xs] w fun e w' => e = .returned (.bool s) ∧ Below w.heap.size w w') :
    Calls Try.prog 86 #[relOf xs] w fun e w' => e = .returned (.bool s) ∧ Below w.heap.size w w' := by
  have x0 := RelAt.new w xs
  have B0 := below_one w (.cells #[.int .i64 xs.length, .int .i64 (rowAt xs 0), .int .i64 (rowAt xs 1), .int .i64 (rowAt xs 2), .int .i64 (rowAt xs 3)] 58)
  have H := Lib.hid (And.intro h1 h2)
  clear h1 h2
  have p0 := x0.cell0
  have p1 := x0.cell1
  have p2 := x0.cell2
  have p3 := x0.cell3
  have p4 := x0.cell4
  go_enter Try.func86, Try.ntmps86
  go_wp2
  obtain ⟨W0, hW0⟩ : ∃ W0, (w.alloc (.cells #[.int .i64 xs.length, .int .i64 (rowAt xs 0), .int .i64 (rowAt xs 1), .int .i64 (rowAt xs 2), .int .i64 (rowAt xs 3)] 58)) = W0 := ⟨_, rfl⟩
  rw [hW0] at p0 p1 p2 p3 p4 x0 B0 ⊢
  clear hW0
  have x := x0.drew
  have B := B0.drew
  clear x0 B0
  go_region_held (fun w' => w'.cell? ⟨w.heap.size, 0, none⟩ = some (.int .i64 xs.length) ∧ w'.cell? ⟨w.heap.size, 1, none⟩ = some (.int .i64 (rowAt xs 0)) ∧ w'.cell? ⟨w.heap.size, 2, none⟩ = some (.int .i64 (rowAt xs 1)) ∧ w'.cell? ⟨w.heap.size, 3, none⟩ = some (.int .i64 (rowAt xs 2)) ∧ w'.cell? ⟨w.heap.size, 4, none⟩ = some (.int .i64 (rowAt xs 3))) (go_keep) (first
    | (go_at_call 102; refine (H.out.1 _).mono ?_; rintro e w2 ⟨rfl, hb⟩; have x := x.below hb x.lt; have B := B.trans (hb.mono B.size); have p0 := x.cell0; have p1 := x.cell1; have p2 := x.cell2; have p3 := x.cell3; have p4 := x.cell4; clear hb)
    | (go_at_call 105; refine (H.out.2 _).mono ?_; rintro e w3 ⟨rfl, hb⟩; have x := x.below hb x.lt; have B := B.trans (hb.mono B.size); have p0 := x.cell0; have p1 := x.cell1; have p2 := x.cell2; have p3 := x.cell3; have p4 := x.cell4; clear hb))
  all_goals
    go_wp2
    go_ret
    exact ⟨rfl, B⟩

theorem kT {n : Nat} {xs : List Int} (h : Rl n xs) (w : World) : Calls Try.prog 86 #[relOf xs] w fun e w' => e = .returned (.bool (kindT xs)) ∧ Below w.heap.size w w' :=
  isTrans_walk xs (compL xs xs) (kindT xs) w (fun w => then_any h h w) (fun w => belowR (h.comp h) h w)
end Go.Proofs.Ytonmjcfkanldcaa
