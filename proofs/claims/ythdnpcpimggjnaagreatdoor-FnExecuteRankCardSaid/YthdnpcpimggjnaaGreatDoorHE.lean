/-
  The program's tables of tests and of steps: what stands in them at each letter.
-/
import Derived.Test.YthdnpcpimggjnaaGreatDoorHB
import Derived.Deep.RegionHeld3
import Derived.Test.YthdnpcpimggjnaaGreatDoorDD
import Derived.Maps.OwnSet
import Derived.Test.YthdnpcpimggjnaaGreatDoorGB
namespace Go.Proofs.YthdnpcpimggjnaaGreatDoor
open Go.RowKit

set_option maxRecDepth 100000 in
set_option maxHeartbeats 4000000 in
theorem least1_walk (xs a b : List Int) (w : World)
    (h1 : ∀ w, Calls Tryz.prog 107 #[.int .i64 xs.length] w fun e w' => e = .returned (relOf a) ∧ Below w.heap.size w w')
    (h2 : ∀ w, Calls Tryz.prog 114 #[relOf xs, relOf a] w fun e w' => e = .returned (relOf b) ∧ Below w.heap.size w w') :
    Calls Tryz.prog 262 #[relOf xs] w fun e w' => e = .returned (relOf b) ∧ Below w.heap.size w w' := by
  have x0 := (RelAt.new w xs).alloc (.cells #[.int .i64 0, .int .i64 0, .int .i64 0, .int .i64 0, .int .i64 0] 36)
  have z0 := rel_zero (w.alloc (.cells #[.int .i64 xs.length, .int .i64 (rowAt xs 0), .int .i64 (rowAt xs 1), .int .i64 (rowAt xs 2), .int .i64 (rowAt xs 3)] 36))
  have B0 := below_two w (.cells #[.int .i64 xs.length, .int .i64 (rowAt xs 0), .int .i64 (rowAt xs 1), .int .i64 (rowAt xs 2), .int .i64 (rowAt xs 3)] 36) (.cells #[.int .i64 0, .int .i64 0, .int .i64 0, .int .i64 0, .int .i64 0] 36)
  simp only [World.size_alloc] at z0
  have H := Lib.hid (And.intro h1 h2)
  clear h1 h2
  have p0 := x0.cell0
  have p1 := x0.cell1
  have p2 := x0.cell2
  have p3 := x0.cell3
  have p4 := x0.cell4
  go_enter Tryz.func262, Tryz.ntmps262
  go_wp2
  obtain ⟨W0, hW0⟩ : ∃ W0, (w.alloc (.cells #[.int .i64 xs.length, .int .i64 (rowAt xs 0), .int .i64 (rowAt xs 1), .int .i64 (rowAt xs 2), .int .i64 (rowAt xs 3)] 36)).alloc (.cells #[.int .i64 0, .int .i64 0, .int .i64 0, .int .i64 0, .int .i64 0] 36) = W0 := ⟨_, rfl⟩
  rw [hW0] at p0 p1 p2 p3 p4 x0 B0 ⊢
  rw [hW0] at z0
  clear hW0
  have x := x0.drew
  have B := B0.drew
  have z := z0.drew
  clear x0 B0 z0
  go_region_held (fun w' => w'.cell? ⟨w.heap.size, 0, none⟩ = some (.int .i64 xs.length) ∧ w'.cell? ⟨w.heap.size, 1, none⟩ = some (.int .i64 (rowAt xs 0)) ∧ w'.cell? ⟨w.heap.size, 2, none⟩ = some (.int .i64 (rowAt xs 1)) ∧ w'.cell? ⟨w.heap.size, 3, none⟩ = some (.int .i64 (rowAt xs 2)) ∧ w'.cell? ⟨w.heap.size, 4, none⟩ = some (.int .i64 (rowAt xs 3))) (go_keep) (first
    | (go_at_call 107; refine (H.out.1 _).mono ?_; rintro e w2 ⟨rfl, hb⟩; have x := x.below hb x.lt; have B := B.trans (hb.mono B.size); have p0 := x.cell0; have p1 := x.cell1; have p2 := x.cell2; have p3 := x.cell3; have p4 := x.cell4; have z := z.below hb z.lt; have f0 := z.free 0; have f1 := z.free 1; have f2 := z.free 2; have f3 := z.free 3; have f4 := z.free 4; have u0 := z.cell0; have u1 := z.cell1; have u2 := z.cell2; have u3 := z.cell3; have u4 := z.cell4; clear hb)
    | (go_at_call 114; refine (H.out.2 _).mono ?_; rintro e w3 ⟨rfl, hb⟩; have x := x.below hb x.lt; have B := B.trans (hb.mono B.size); have p0 := x.cell0; have p1 := x.cell1; have p2 := x.cell2; have p3 := x.cell3; have p4 := x.cell4; have z := z.below hb z.lt; have f0 := z.free 0; have f1 := z.free 1; have f2 := z.free 2; have f3 := z.free 3; have f4 := z.free 4; have u0 := z.cell0; have u1 := z.cell1; have u2 := z.cell2; have u3 := z.cell3; have u4 := z.cell4; clear hb))
  all_goals
    go_wp2
    refine bodyPost_ret (v := relOf b) (by simp [results, Tryz.results262, go_sem, u0, u1, u2, u3, u4]) rfl ⟨rfl, ?_⟩
    have bb := fun (W : World) (j : Nat) (v : Value) (h : Below w.heap.size w W) => h.setCell (p := ⟨w.heap.size + 1, j, none⟩) (by simp) v
    exact bb _ _ _ (bb _ _ _ (bb _ _ _ (bb _ _ _ (bb _ _ _ B))))

theorem least1R {n : Nat} {xs : List Int} (h : Rl n xs) (w : World) : Calls Tryz.prog 262 #[relOf xs] w fun e w' => e = .returned (relOf (eitherL xs (sameL xs.length))) ∧ Below w.heap.size w w' := by
  have hs : Rl n (sameL xs.length) := by rw [h.len]; exact Rl.same h.one h.four
  exact least1_walk xs (sameL xs.length) _ w (fun w => sameR h w) (fun w => eitherR' h hs w)

set_option maxRecDepth 100000 in
set_option maxHeartbeats 4000000 in
theorem least2_walk (xs a b : List Int) (w : World)
    (h1 : ∀ w, Calls Tryz.prog 110 #[relOf xs] w fun e w' => e = .returned (relOf a) ∧ Below w.heap.size w w')
    (h2 : ∀ w, Calls Tryz.prog 114 #[relOf xs, relOf a] w fun e w' => e = .returned (relOf b) ∧ Below w.heap.size w w') :
    Calls Tryz.prog 263 #[relOf xs] w fun e w' => e = .returned (relOf b) ∧ Below w.heap.size w w' := by
  have x0 := (RelAt.new w xs).alloc (.cells #[.int .i64 0, .int .i64 0, .int .i64 0, .int .i64 0, .int .i64 0] 36)
  have z0 := rel_zero (w.alloc (.cells #[.int .i64 xs.length, .int .i64 (rowAt xs 0), .int .i64 (rowAt xs 1), .int .i64 (rowAt xs 2), .int .i64 (rowAt xs 3)] 36))
  have B0 := below_two w (.cells #[.int .i64 xs.length, .int .i64 (rowAt xs 0), .int .i64 (rowAt xs 1), .int .i64 (rowAt xs 2), .int .i64 (rowAt xs 3)] 36) (.cells #[.int .i64 0, .int .i64 0, .int .i64 0, .int .i64 0, .int .i64 0] 36)
  simp only [World.size_alloc] at z0
  have H := Lib.hid (And.intro h1 h2)
  clear h1 h2
  have p0 := x0.cell0
  have p1 := x0.cell1
  have p2 := x0.cell2
  have p3 := x0.cell3
  have p4 := x0.cell4
  go_enter Tryz.func263, Tryz.ntmps263
  go_wp2
  obtain ⟨W0, hW0⟩ : ∃ W0, (w.alloc (.cells #[.int .i64 xs.length, .int .i64 (rowAt xs 0), .int .i64 (rowAt xs 1), .int .i64 (rowAt xs 2), .int .i64 (rowAt xs 3)] 36)).alloc (.cells #[.int .i64 0, .int .i64 0, .int .i64 0, .int .i64 0, .int .i64 0] 36) = W0 := ⟨_, rfl⟩
  rw [hW0] at p0 p1 p2 p3 p4 x0 B0 ⊢
  rw [hW0] at z0
  clear hW0
  have x := x0.drew
  have B := B0.drew
  have z := z0.drew
  clear x0 B0 z0
  go_region_held (fun w' => w'.cell? ⟨w.heap.size, 0, none⟩ = some (.int .i64 xs.length) ∧ w'.cell? ⟨w.heap.size, 1, none⟩ = some (.int .i64 (rowAt xs 0)) ∧ w'.cell? ⟨w.heap.size, 2, none⟩ = some (.int .i64 (rowAt xs 1)) ∧ w'.cell? ⟨w.heap.size, 3, none⟩ = some (.int .i64 (rowAt xs 2)) ∧ w'.cell? ⟨w.heap.size, 4, none⟩ = some (.int .i64 (rowAt xs 3))) (go_keep) (first
    | (go_at_call 110; refine (H.out.1 _).mono ?_; rintro e w2 ⟨rfl, hb⟩; have x := x.below hb x.lt; have B := B.trans (hb.mono B.size); have p0 := x.cell0; have p1 := x.cell1; have p2 := x.cell2; have p3 := x.cell3; have p4 := x.cell4; have z := z.below hb z.lt; have f0 := z.free 0; have f1 := z.free 1; have f2 := z.free 2; have f3 := z.free 3; have f4 := z.free 4; have u0 := z.cell0; have u1 := z.cell1; have u2 := z.cell2; have u3 := z.cell3; have u4 := z.cell4; clear hb)
    | (go_at_call 114; refine (H.out.2 _).mono ?_; rintro e w3 ⟨rfl, hb⟩; have x := x.below hb x.lt; have B := B.trans (hb.mono B.size); have p0 := x.cell0; have p1 := x.cell1; have p2 := x.cell2; have p3 := x.cell3; have p4 := x.cell4; have z := z.below hb z.lt; have f0 := z.free 0; have f1 := z.free 1; have f2 := z.free 2; have f3 := z.free 3; have f4 := z.free 4; have u0 := z.cell0; have u1 := z.cell1; have u2 := z.cell2; have u3 := z.cell3; have u4 := z.cell4; clear hb))
  all_goals
    go_wp2
    refine bodyPost_ret (v := relOf b) (by simp [results, Tryz.results263, go_sem, u0, u1, u2, u3, u4]) rfl ⟨rfl, ?_⟩
    have bb := fun (W : World) (j : Nat) (v : Value) (h : Below w.heap.size w W) => h.setCell (p := ⟨w.heap.size + 1, j, none⟩) (by simp) v
    exact bb _ _ _ (bb _ _ _ (bb _ _ _ (bb _ _ _ (bb _ _ _ B))))

theorem least2R {n : Nat} {xs : List Int} (h : Rl n xs) (w : World) : Calls Tryz.prog 263 #[relOf xs] w fun e w' => e = .returned (relOf (eitherL xs (turnL xs))) ∧ Below w.heap.size w w' :=
  least2_walk xs (turnL xs) _ w (fun w => turnedR h w) (fun w => eitherR' h h.turn w)

set_option maxRecDepth 100000 in
set_option maxHeartbeats 4000000 in
theorem isRefl_walk (xs a : List Int) (s : Bool) (w : World)
    (h1 : ∀ w, Calls Tryz.prog 107 #[.int .i64 xs.length] w fun e w' => e = .returned (relOf a) ∧ Below w.heap.size w w')
    (h2 : ∀ w, Calls Tryz.prog 108 #[relOf a, relOf xs] w fun e w' => e = .returned (.bool s) ∧ Below w.heap.size w w') :
    Calls Tryz.prog 38 #[relOf xs] w fun e w' => e = .returned (.bool s) ∧ Below w.heap.size w w' := by
  have x0 := RelAt.new w xs
  have B0 := below_one w (.cells #[.int .i64 xs.length, .int .i64 (rowAt xs 0), .int .i64 (rowAt xs 1), .int .i64 (rowAt xs 2), .int .i64 (rowAt xs 3)] 36)
  have H := Lib.hid (And.intro h1 h2)
  clear h1 h2
  have p0 := x0.cell0
  have p1 := x0.cell1
  have p2 := x0.cell2
  have p3 := x0.cell3
  have p4 := x0.cell4
  go_enter Tryz.func38, Tryz.ntmps38
  go_wp2
  obtain ⟨W0, hW0⟩ : ∃ W0, (w.alloc (.cells #[.int .i64 xs.length, .int .i64 (rowAt xs 0), .int .i64 (rowAt xs 1), .int .i64 (rowAt xs 2), .int .i64 (rowAt xs 3)] 36)) = W0 := ⟨_, rfl⟩
  rw [hW0] at p0 p1 p2 p3 p4 x0 B0 ⊢
  clear hW0
  have x := x0.drew
  have B := B0.drew
  clear x0 B0
  go_region_held (fun w' => w'.cell? ⟨w.heap.size, 0, none⟩ = some (.int .i64 xs.length) ∧ w'.cell? ⟨w.heap.size, 1, none⟩ = some (.int .i64 (rowAt xs 0)) ∧ w'.cell? ⟨w.heap.size, 2, none⟩ = some (.int .i64 (rowAt xs 1)) ∧ w'.cell? ⟨w.heap.size, 3, none⟩ = some (.int .i64 (rowAt xs 2)) ∧ w'.cell? ⟨w.heap.size, 4, none⟩ = some (.int .i64 (rowAt xs 3))) (go_keep) (first
    | (go_at_call 107; refine (H.out.1 _).mono ?_; rintro e w2 ⟨rfl, hb⟩; have x := x.below hb x.lt; have B := B.trans (hb.mono B.size); have p0 := x.cell0; have p1 := x.cell1; have p2 := x.cell2; have p3 := x.cell3; have p4 := x.cell4; clear hb)
    | (go_at_call 108; refine (H.out.2 _).mono ?_; rintro e w3 ⟨rfl, hb⟩; have x := x.below hb x.lt; have B := B.trans (hb.mono B.size); have p0 := x.cell0; have p1 := x.cell1; have p2 := x.cell2; have p3 := x.cell3; have p4 := x.cell4; clear hb))
  all_goals
    go_wp2
    go_ret
    exact ⟨rfl, B⟩

theorem kR {n : Nat} {xs : List Int} (h : Rl n xs) (w : World) : Calls Tryz.prog 38 #[relOf xs] w fun e w' => e = .returned (.bool (kindR xs)) ∧ Below w.heap.size w w' := by
  have hs : Rl n (sameL xs.length) := by rw [h.len]; exact Rl.same h.one h.four
  exact isRefl_walk xs (sameL xs.length) (kindR xs) w (fun w => sameR h w) (fun w => belowR hs h w)
end Go.Proofs.YthdnpcpimggjnaaGreatDoor

namespace Go.Proofs.YthdnpcpimggjnaaGreatDoor
open Go.RowKit

set_option maxRecDepth 100000 in
set_option maxHeartbeats 4000000 in
theorem isIrr_walk (xs a : List Int) (s : Bool) (w : World)
    (h1 : ∀ w, Calls Tryz.prog 109 #[relOf xs] w fun e w' => e = .returned (relOf a) ∧ Below w.heap.size w w')
    (hn : (a.length : Int) = (xs.length : Int)) (hs : (rowAt a 0 == rowAt xs 0 && (rowAt a 1 == rowAt xs 1 && (rowAt a 2 == rowAt xs 2 && rowAt a 3 == rowAt xs 3))) = s) :
    Calls Tryz.prog 39 #[relOf xs] w fun e w' => e = .returned (.bool s) ∧ Below w.heap.size w w' := by
  have x0 := RelAt.new w xs
  have B0 := below_one w (.cells #[.int .i64 xs.length, .int .i64 (rowAt xs 0), .int .i64 (rowAt xs 1), .int .i64 (rowAt xs 2), .int .i64 (rowAt xs 3)] 36)
  have H := Lib.hid h1
  clear h1
  have hE : ∀ w, Sem.run Tryz.prog (Op.equalIn 9999 34 (.agg #[.int .i64 (rowAt a 0), .int .i64 (rowAt a 1), .int .i64 (rowAt a 2), .int .i64 (rowAt a 3)]) (.agg #[.int .i64 (rowAt xs 0), .int .i64 (rowAt xs 1), .int .i64 (rowAt xs 2), .int .i64 (rowAt xs 3)])) w = .ok s w :=
    fun w => (eqRowsD 9997 (rowAt a 0) (rowAt a 1) (rowAt a 2) (rowAt a 3) (rowAt xs 0) (rowAt xs 1) (rowAt xs 2) (rowAt xs 3) w).trans (by rw [hs])
  have en : ((a.length : Int) == (xs.length : Int)) = true := by rw [hn]; simp
  clear hs hn
  cases s with
  | false =>
    have p0 := x0.cell0
    have p1 := x0.cell1
    have p2 := x0.cell2
    have p3 := x0.cell3
    have p4 := x0.cell4
    go_enter Tryz.func39, Tryz.ntmps39
    go_wp2
    obtain ⟨W0, hW0⟩ : ∃ W0, (w.alloc (.cells #[.int .i64 xs.length, .int .i64 (rowAt xs 0), .int .i64 (rowAt xs 1), .int .i64 (rowAt xs 2), .int .i64 (rowAt xs 3)] 36)) = W0 := ⟨_, rfl⟩
    rw [hW0] at p0 p1 p2 p3 p4 x0 B0 ⊢
    clear hW0
    have x := x0.drew
    have B := B0.drew
    clear x0 B0
    go_region_held (fun w' => w'.cell? ⟨w.heap.size, 0, none⟩ = some (.int .i64 xs.length) ∧ w'.cell? ⟨w.heap.size, 1, none⟩ = some (.int .i64 (rowAt xs 0)) ∧ w'.cell? ⟨w.heap.size, 2, none⟩ = some (.int .i64 (rowAt xs 1)) ∧ w'.cell? ⟨w.heap.size, 3, none⟩ = some (.int .i64 (rowAt xs 2)) ∧ w'.cell? ⟨w.heap.size, 4, none⟩ = some (.int .i64 (rowAt xs 3))) (go_keep) (first
      | (go_at_call 109; refine (H.out _).mono ?_; rintro e w2 ⟨rfl, hb⟩; have x := x.below hb x.lt; have B := B.trans (hb.mono B.size); have p0 := x.cell0; have p1 := x.cell1; have p2 := x.cell2; have p3 := x.cell3; have p4 := x.cell4; clear hb))
    all_goals
      go_wp2
      go_ret
      exact ⟨rfl, B⟩
  | true =>
    have p0 := x0.cell0
    have p1 := x0.cell1
    have p2 := x0.cell2
    have p3 := x0.cell3
    have p4 := x0.cell4
    go_enter Tryz.func39, Tryz.ntmps39
    go_wp2
    obtain ⟨W0, hW0⟩ : ∃ W0, (w.alloc (.cells #[.int .i64 xs.length, .int .i64 (rowAt xs 0), .int .i64 (rowAt xs 1), .int .i64 (rowAt xs 2), .int .i64 (rowAt xs 3)] 36)) = W0 := ⟨_, rfl⟩
    rw [hW0] at p0 p1 p2 p3 p4 x0 B0 ⊢
    clear hW0
    have x := x0.drew
    have B := B0.drew
    clear x0 B0
    go_region_held (fun w' => w'.cell? ⟨w.heap.size, 0, none⟩ = some (.int .i64 xs.length) ∧ w'.cell? ⟨w.heap.size, 1, none⟩ = some (.int .i64 (rowAt xs 0)) ∧ w'.cell? ⟨w.heap.size, 2, none⟩ = some (.int .i64 (rowAt xs 1)) ∧ w'.cell? ⟨w.heap.size, 3, none⟩ = some (.int .i64 (rowAt xs 2)) ∧ w'.cell? ⟨w.heap.size, 4, none⟩ = some (.int .i64 (rowAt xs 3))) (go_keep) (first
      | (go_at_call 109; refine (H.out _).mono ?_; rintro e w2 ⟨rfl, hb⟩; have x := x.below hb x.lt; have B := B.trans (hb.mono B.size); have p0 := x.cell0; have p1 := x.cell1; have p2 := x.cell2; have p3 := x.cell3; have p4 := x.cell4; clear hb))
    all_goals
      go_wp2
      go_ret
      exact ⟨rfl, B⟩

theorem kI {n : Nat} {xs : List Int} (h : Rl n xs) (w : World) : Calls Tryz.prog 39 #[relOf xs] w fun e w' => e = .returned (.bool (kindI xs)) ∧ Below w.heap.size w w' :=
  isIrr_walk xs (offI xs) (kindI xs) w (fun w => offR h w) (by rw [h.off.len, h.len]) ((rows_eq h.off h).trans (isI h))

set_option maxRecDepth 100000 in
set_option maxHeartbeats 4000000 in
theorem isSym_walk (xs a : List Int) (s : Bool) (w : World)
    (h1 : ∀ w, Calls Tryz.prog 110 #[relOf xs] w fun e w' => e = .returned (relOf a) ∧ Below w.heap.size w w')
    (hn : (a.length : Int) = (xs.length : Int)) (hs : (rowAt a 0 == rowAt xs 0 && (rowAt a 1 == rowAt xs 1 && (rowAt a 2 == rowAt xs 2 && rowAt a 3 == rowAt xs 3))) = s) :
    Calls Tryz.prog 40 #[relOf xs] w fun e w' => e = .returned (.bool s) ∧ Below w.heap.size w w' := by
  have x0 := RelAt.new w xs
  have B0 := below_one w (.cells #[.int .i64 xs.length, .int .i64 (rowAt xs 0), .int .i64 (rowAt xs 1), .int .i64 (rowAt xs 2), .int .i64 (rowAt xs 3)] 36)
  have H := Lib.hid h1
  clear h1
  have hE : ∀ w, Sem.run Tryz.prog (Op.equalIn 9999 34 (.agg #[.int .i64 (rowAt a 0), .int .i64 (rowAt a 1), .int .i64 (rowAt a 2), .int .i64 (rowAt a 3)]) (.agg #[.int .i64 (rowAt xs 0), .int .i64 (rowAt xs 1), .int .i64 (rowAt xs 2), .int .i64 (rowAt xs 3)])) w = .ok s w :=
    fun w => (eqRowsD 9997 (rowAt a 0) (rowAt a 1) (rowAt a 2) (rowAt a 3) (rowAt xs 0) (rowAt xs 1) (rowAt xs 2) (rowAt xs 3) w).trans (by rw [hs])
  have en : ((a.length : Int) == (xs.length : Int)) = true := by rw [hn]; simp
  clear hs hn
  cases s with
  | false =>
    have p0 := x0.cell0
    have p1 := x0.cell1
    have p2 := x0.cell2
    have p3 := x0.cell3
    have p4 := x0.cell4
    go_enter Tryz.func40, Tryz.ntmps40
    go_wp2
    obtain ⟨W0, hW0⟩ : ∃ W0, (w.alloc (.cells #[.int .i64 xs.length, .int .i64 (rowAt xs 0), .int .i64 (rowAt xs 1), .int .i64 (rowAt xs 2), .int .i64 (rowAt xs 3)] 36)) = W0 := ⟨_, rfl⟩
    rw [hW0] at p0 p1 p2 p3 p4 x0 B0 ⊢
    clear hW0
    have x := x0.drew
    have B := B0.drew
    clear x0 B0
    go_region_held (fun w' => w'.cell? ⟨w.heap.size, 0, none⟩ = some (.int .i64 xs.length) ∧ w'.cell? ⟨w.heap.size, 1, none⟩ = some (.int .i64 (rowAt xs 0)) ∧ w'.cell? ⟨w.heap.size, 2, none⟩ = some (.int .i64 (rowAt xs 1)) ∧ w'.cell? ⟨w.heap.size, 3, none⟩ = some (.int .i64 (rowAt xs 2)) ∧ w'.cell? ⟨w.heap.size, 4, none⟩ = some (.int .i64 (rowAt xs 3))) (go_keep) (first
      | (go_at_call 110; refine (H.out _).mono ?_; rintro e w2 ⟨rfl, hb⟩; have x := x.below hb x.lt; have B := B.trans (hb.mono B.size); have p0 := x.cell0; have p1 := x.cell1; have p2 := x.cell2; have p3 := x.cell3; have p4 := x.cell4; clear hb))
    all_goals
      go_wp2
      go_ret
      exact ⟨rfl, B⟩
  | true =>
    have p0 := x0.cell0
    have p1 := x0.cell1
    have p2 := x0.cell2
    have p3 := x0.cell3
    have p4 := x0.cell4
    go_enter Tryz.func40, Tryz.ntmps40
    go_wp2
    obtain ⟨W0, hW0⟩ : ∃ W0, (w.alloc (.cells #[.int .i64 xs.length, .int .i64 (rowAt xs 0), .int .i64 (rowAt xs 1), .int .i64 (rowAt xs 2), .int .i64 (rowAt xs 3)] 36)) = W0 := ⟨_, rfl⟩
    rw [hW0] at p0 p1 p2 p3 p4 x0 B0 ⊢
    clear hW0
    have x := x0.drew
    have B := B0.drew
    clear x0 B0
    go_region_held (fun w' => w'.cell? ⟨w.heap.size, 0, none⟩ = some (.int .i64 xs.length) ∧ w'.cell? ⟨w.heap.size, 1, none⟩ = some (.int .i64 (rowAt xs 0)) ∧ w'.cell? ⟨w.heap.size, 2, none⟩ = some (.int .i64 (rowAt xs 1)) ∧ w'.cell? ⟨w.heap.size, 3, none⟩ = some (.int .i64 (rowAt xs 2)) ∧ w'.cell? ⟨w.heap.size, 4, none⟩ = some (.int .i64 (rowAt xs 3))) (go_keep) (first
      | (go_at_call 110; refine (H.out _).mono ?_; rintro e w2 ⟨rfl, hb⟩; have x := x.below hb x.lt; have B := B.trans (hb.mono B.size); have p0 := x.cell0; have p1 := x.cell1; have p2 := x.cell2; have p3 := x.cell3; have p4 := x.cell4; clear hb))
    all_goals
      go_wp2
      go_ret
      exact ⟨rfl, B⟩

theorem kS {n : Nat} {xs : List Int} (h : Rl n xs) (w : World) : Calls Tryz.prog 40 #[relOf xs] w fun e w' => e = .returned (.bool (kindS xs)) ∧ Below w.heap.size w w' :=
  isSym_walk xs (turnL xs) (kindS xs) w (fun w => turnedR h w) (by rw [h.turn.len, h.len]) ((rows_eq h.turn h).trans (isS xs))
end Go.Proofs.YthdnpcpimggjnaaGreatDoor

namespace Go.Proofs.YthdnpcpimggjnaaGreatDoor
open Go.RowKit

set_option maxRecDepth 100000 in
set_option maxHeartbeats 4000000 in
theorem isAnti_walk (xs a b : List Int) (s : Bool) (w : World)
    (h1 : ∀ w, Calls Tryz.prog 111 #[relOf xs] w fun e w' => e = .returned (relOf a) ∧ Below w.heap.size w w')
    (h2 : ∀ w, Calls Tryz.prog 107 #[.int .i64 xs.length] w fun e w' => e = .returned (relOf b) ∧ Below w.heap.size w w')
    (h3 : ∀ w, Calls Tryz.prog 108 #[relOf a, relOf b] w fun e w' => e = .returned (.bool s) ∧ Below w.heap.size w w') :
    Calls Tryz.prog 41 #[relOf xs] w fun e w' => e = .returned (.bool s) ∧ Below w.heap.size w w' := by
  have x0 := RelAt.new w xs
  have B0 := below_one w (.cells #[.int .i64 xs.length, .int .i64 (rowAt xs 0), .int .i64 (rowAt xs 1), .int .i64 (rowAt xs 2), .int .i64 (rowAt xs 3)] 36)
  have H := Lib.hid (And.intro h1 (And.intro h2 h3))
  clear h1 h2 h3
  have p0 := x0.cell0
  have p1 := x0.cell1
  have p2 := x0.cell2
  have p3 := x0.cell3
  have p4 := x0.cell4
  go_enter Tryz.func41, Tryz.ntmps41
  go_wp2
  obtain ⟨W0, hW0⟩ : ∃ W0, (w.alloc (.cells #[.int .i64 xs.length, .int .i64 (rowAt xs 0), .int .i64 (rowAt xs 1), .int .i64 (rowAt xs 2), .int .i64 (rowAt xs 3)] 36)) = W0 := ⟨_, rfl⟩
  rw [hW0] at p0 p1 p2 p3 p4 x0 B0 ⊢
  clear hW0
  have x := x0.drew
  have B := B0.drew
  clear x0 B0
  go_region_held (fun w' => w'.cell? ⟨w.heap.size, 0, none⟩ = some (.int .i64 xs.length) ∧ w'.cell? ⟨w.heap.size, 1, none⟩ = some (.int .i64 (rowAt xs 0)) ∧ w'.cell? ⟨w.heap.size, 2, none⟩ = some (.int .i64 (rowAt xs 1)) ∧ w'.cell? ⟨w.heap.size, 3, none⟩ = some (.int .i64 (rowAt xs 2)) ∧ w'.cell? ⟨w.heap.size, 4, none⟩ = some (.int .i64 (rowAt xs 3))) (go_keep) (first
    | (go_at_call 111; refine (H.out.1 _).mono ?_; rintro e w2 ⟨rfl, hb⟩; have x := x.below hb x.lt; have B := B.trans (hb.mono B.size); have p0 := x.cell0; have p1 := x.cell1; have p2 := x.cell2; have p3 := x.cell3; have p4 := x.cell4; clear hb)
    | (go_at_call 107; refine (H.out.2.1 _).mono ?_; rintro e w3 ⟨rfl, hb⟩; have x := x.below hb x.lt; have B := B.trans (hb.mono B.size); have p0 := x.cell0; have p1 := x.cell1; have p2 := x.cell2; have p3 := x.cell3; have p4 := x.cell4; clear hb)
    | (go_at_call 108; refine (H.out.2.2 _).mono ?_; rintro e w4 ⟨rfl, hb⟩; have x := x.below hb x.lt; have B := B.trans (hb.mono B.size); have p0 := x.cell0; have p1 := x.cell1; have p2 := x.cell2; have p3 := x.cell3; have p4 := x.cell4; clear hb))
  all_goals
    go_wp2
    go_ret
    exact ⟨rfl, B⟩

theorem kA {n : Nat} {xs : List Int} (h : Rl n xs) (w : World) : Calls Tryz.prog 41 #[relOf xs] w fun e w' => e = .returned (.bool (kindA xs)) ∧ Below w.heap.size w w' := by
  have hs : Rl n (sameL xs.length) := by rw [h.len]; exact Rl.same h.one h.four
  exact isAnti_walk xs (twoW xs) (sameL xs.length) (kindA xs) w (fun w => twoR h w) (fun w => sameR h w) (fun w => belowR h.twoW hs w)

set_option maxRecDepth 100000 in
set_option maxHeartbeats 4000000 in
theorem isTrans_walk (xs a : List Int) (s : Bool) (w : World)
    (h1 : ∀ w, Calls Tryz.prog 112 #[relOf xs, relOf xs] w fun e w' => e = .returned (relOf a) ∧ Below w.heap.size w w')
    (h2 : ∀ w, Calls Tryz.prog 108 #[relOf a, relOf xs] w fun e w' => e = .returned (.bool s) ∧ Below w.heap.size w w') :
    Calls Tryz.prog 42 #[relOf xs] w fun e w' => e = .returned (.bool s) ∧ Below w.heap.size w w' := by
  have x0 := RelAt.new w xs
  have B0 := below_one w (.cells #[.int .i64 xs.length, .int .i64 (rowAt xs 0), .int .i64 (rowAt xs 1), .int .i64 (rowAt xs 2), .int .i64 (rowAt xs 3)] 36)
  have H := Lib.hid (And.intro h1 h2)
  clear h1 h2
  have p0 := x0.cell0
  have p1 := x0.cell1
  have p2 := x0.cell2
  have p3 := x0.cell3
  have p4 := x0.cell4
  go_enter Tryz.func42, Tryz.ntmps42
  go_wp2
  obtain ⟨W0, hW0⟩ : ∃ W0, (w.alloc (.cells #[.int .i64 xs.length, .int .i64 (rowAt xs 0), .int .i64 (rowAt xs 1), .int .i64 (rowAt xs 2), .int .i64 (rowAt xs 3)] 36)) = W0 := ⟨_, rfl⟩
  rw [hW0] at p0 p1 p2 p3 p4 x0 B0 ⊢
  clear hW0
  have x := x0.drew
  have B := B0.drew
  clear x0 B0
  go_region_held (fun w' => w'.cell? ⟨w.heap.size, 0, none⟩ = some (.int .i64 xs.length) ∧ w'.cell? ⟨w.heap.size, 1, none⟩ = some (.int .i64 (rowAt xs 0)) ∧ w'.cell? ⟨w.heap.size, 2, none⟩ = some (.int .i64 (rowAt xs 1)) ∧ w'.cell? ⟨w.heap.size, 3, none⟩ = some (.int .i64 (rowAt xs 2)) ∧ w'.cell? ⟨w.heap.size, 4, none⟩ = some (.int .i64 (rowAt xs 3))) (go_keep) (first
    | (go_at_call 112; refine (H.out.1 _).mono ?_; rintro e w2 ⟨rfl, hb⟩; have x := x.below hb x.lt; have B := B.trans (hb.mono B.size); have p0 := x.cell0; have p1 := x.cell1; have p2 := x.cell2; have p3 := x.cell3; have p4 := x.cell4; clear hb)
    | (go_at_call 108; refine (H.out.2 _).mono ?_; rintro e w3 ⟨rfl, hb⟩; have x := x.below hb x.lt; have B := B.trans (hb.mono B.size); have p0 := x.cell0; have p1 := x.cell1; have p2 := x.cell2; have p3 := x.cell3; have p4 := x.cell4; clear hb))
  all_goals
    go_wp2
    go_ret
    exact ⟨rfl, B⟩

theorem kT {n : Nat} {xs : List Int} (h : Rl n xs) (w : World) : Calls Tryz.prog 42 #[relOf xs] w fun e w' => e = .returned (.bool (kindT xs)) ∧ Below w.heap.size w w' :=
  isTrans_walk xs (compL xs xs) (kindT xs) w (fun w => then_any h h w) (fun w => belowR (h.comp h) h w)
end Go.Proofs.YthdnpcpimggjnaaGreatDoor

namespace Go.Proofs.YthdnpcpimggjnaaGreatDoor
open Go.RowKit

/-! rows -/
theorem all_upto (p : Int → Bool) (xs : List Int) (k : Nat) (x : Int) (hx : xs[k]? = some x) : (xs.take (k + 1)).all p = ((xs.take k).all p && p x) := by
  rw [List.take_add_one, hx, List.all_append]
  simp
theorem all_fail (p : Int → Bool) (xs : List Int) (k : Nat) (x : Int) (hx : xs[k]? = some x) (hp : p x = false) : xs.all p = false := by
  rw [List.all_eq_false]
  exact ⟨x, List.mem_of_getElem? hx, by simp [hp]⟩
set_option maxHeartbeats 2000000 in
theorem oneMost_any (xs : List Int) (w : World) (hs : In16 xs) (h4 : xs.length ≤ 4) :
    Calls Tryz.prog 44 #[relOf xs] w fun e w' => e = .returned (.bool (oneMost xs)) ∧ Below w.heap.size w w' := by
  have x0 := RelAt.new w xs
  have B0 := below_one w (.cells #[.int .i64 xs.length, .int .i64 (rowAt xs 0), .int .i64 (rowAt xs 1), .int .i64 (rowAt xs 2), .int .i64 (rowAt xs 3)] 36)
  have p0 := x0.cell0
  have HS := Lib.hid hs
  clear hs
  go_enter Tryz.func44, Tryz.ntmps44
  go_wp2
  clear p0
  go_loopw [6, 3] (fun i _ wr => ∃ k : Nat, k ≤ xs.length ∧ i = .int .i64 k ∧ ((xs.take k).all fun x => decide (cnt x ≤ 1)) = true ∧ RelAt wr w.heap.size xs ∧ Below w.heap.size w wr)
    (fun i _ _ => xs.length - (intOf i).toNat)
  case atStart => exact ⟨0, Nat.zero_le _, rfl, rfl, x0, B0⟩
  case round =>
    clear x0 B0
    obtain ⟨k, hk, rfl, ha, hr, hB⟩ := hrel
    have HA := Lib.hid ha
    clear ha
    by_cases hlt : k < xs.length
    · obtain ⟨y, hy⟩ := HS.out k
      have hxk := rowAt_get hlt
      rw [hy] at hxk
      have HX := Lib.hid hxk
      have hc1 := hr.row k (by omega)
      rw [hy] at hc1
      have hq : (k : Int) < 4 := by omega
      clear hxk hy
      by_cases hc : cnt (y.val : Int) ≤ 1
      · have hc2 : decide (1 < cnt (y.val : Int)) = false := by simpa using hc
        have HC := Lib.hid hc
        clear hc
        go_wp2_with (go_at_call 21; refine (setSize_any y _).mono ?_; rintro e w2 ⟨rfl, rfl⟩)
        go_roundw
        case rel => exact ⟨k + 1, by omega, by go_num, by rw [all_upto _ _ _ _ HX.out, HA.out, decide_eq_true HC.out]; rfl, hr, hB⟩
        case measure => simp [intOf]; omega
      · have hc2 : decide (1 < cnt (y.val : Int)) = true := by simpa using hc
        have HC := Lib.hid hc
        clear hc
        go_wp2_with (go_at_call 21; refine (setSize_any y _).mono ?_; rintro e w2 ⟨rfl, rfl⟩)
        go_ret
        exact ⟨by rw [show oneMost xs = false from all_fail _ _ _ _ HX.out (decide_eq_false (Int.not_le.2 HC.out))]; rfl, hB⟩
    · obtain rfl : k = xs.length := by omega
      go_wp2
      go_ret
      have := HA.out
      rw [List.take_length] at this
      exact ⟨by rw [show oneMost xs = true from this]; rfl, hB⟩
set_option maxHeartbeats 2000000 in
theorem oneLeast_any (xs : List Int) (w : World) (hs : In16 xs) (h4 : xs.length ≤ 4) :
    Calls Tryz.prog 45 #[relOf xs] w fun e w' => e = .returned (.bool (oneLeast xs)) ∧ Below w.heap.size w w' := by
  have x0 := RelAt.new w xs
  have B0 := below_one w (.cells #[.int .i64 xs.length, .int .i64 (rowAt xs 0), .int .i64 (rowAt xs 1), .int .i64 (rowAt xs 2), .int .i64 (rowAt xs 3)] 36)
  have p0 := x0.cell0
  have HS := Lib.hid hs
  clear hs
  go_enter Tryz.func45, Tryz.ntmps45
  go_wp2
  clear p0
  go_loopw [6, 3] (fun i _ wr => ∃ k : Nat, k ≤ xs.length ∧ i = .int .i64 k ∧ ((xs.take k).all fun x => !decide (cnt x = 0)) = true ∧ RelAt wr w.heap.size xs ∧ Below w.heap.size w wr)
    (fun i _ _ => xs.length - (intOf i).toNat)
  case atStart => exact ⟨0, Nat.zero_le _, rfl, rfl, x0, B0⟩
  case round =>
    clear x0 B0
    obtain ⟨k, hk, rfl, ha, hr, hB⟩ := hrel
    have HA := Lib.hid ha
    clear ha
    by_cases hlt : k < xs.length
    · obtain ⟨y, hy⟩ := HS.out k
      have hxk := rowAt_get hlt
      rw [hy] at hxk
      have HX := Lib.hid hxk
      have hc1 := hr.row k (by omega)
      rw [hy] at hc1
      have hq : (k : Int) < 4 := by omega
      clear hxk hy
      by_cases hc : cnt (y.val : Int) = 0
      · have hc2 : (cnt (y.val : Int) == 0) = true := by simpa using hc
        have HC := Lib.hid hc
        clear hc
        go_wp2_with (go_at_call 21; refine (setSize_any y _).mono ?_; rintro e w2 ⟨rfl, rfl⟩)
        go_ret
        exact ⟨by rw [show oneLeast xs = false from all_fail _ _ _ _ HX.out (by rw [decide_eq_true HC.out]; rfl)]; rfl, hB⟩
      · have hc2 : (cnt (y.val : Int) == 0) = false := by simpa using hc
        have HC := Lib.hid hc
        clear hc
        go_wp2_with (go_at_call 21; refine (setSize_any y _).mono ?_; rintro e w2 ⟨rfl, rfl⟩)
        go_roundw
        case rel => exact ⟨k + 1, by omega, by go_num, by rw [all_upto _ _ _ _ HX.out, HA.out, decide_eq_false HC.out]; rfl, hr, hB⟩
        case measure => simp [intOf]; omega
    · obtain rfl : k = xs.length := by omega
      go_wp2
      go_ret
      have := HA.out
      rw [List.take_length] at this
      exact ⟨by rw [show oneLeast xs = true from this]; rfl, hB⟩
theorem kF {n : Nat} {xs : List Int} (h : Rl n xs) (w : World) : Calls Tryz.prog 44 #[relOf xs] w fun e w' => e = .returned (.bool (kindF xs)) ∧ Below w.heap.size w w' := by
  rw [← isF h]
  exact oneMost_any xs w h.in16 (h.len.symm ▸ h.four)
theorem kD {n : Nat} {xs : List Int} (h : Rl n xs) (w : World) : Calls Tryz.prog 45 #[relOf xs] w fun e w' => e = .returned (.bool (kindD xs)) ∧ Below w.heap.size w w' := by
  rw [← isD h]
  exact oneLeast_any xs w h.in16 (h.len.symm ▸ h.four)

/-! what is asked of the turned relation -/
set_option maxRecDepth 100000 in
set_option maxHeartbeats 4000000 in
theorem onTurned1_walk (xs a : List Int) (s : Bool) (g : FuncId) (hcf : ∀ args w, Sem.run Tryz.prog (callFunc g args) w = .ok (.enter g args) w) (b : Nat) (w : World) (hc : w.cell? ⟨b, 0, none⟩ = some (.func (.func g) #[] #[])) (hbl : b < w.heap.size)
    (h1 : ∀ w, Calls Tryz.prog 110 #[relOf xs] w fun e w' => e = .returned (relOf a) ∧ Below w.heap.size w w')
    (h2 : ∀ w, Calls Tryz.prog g #[relOf a] w fun e w' => e = .returned (.bool s) ∧ Below w.heap.size w w') :
    Calls Tryz.prog 115 #[relOf xs, .pointer (some ⟨b, 0, none⟩)] w fun e w' => e = .returned (.bool s) ∧ Below w.heap.size w w' := by
  have x0 := RelAt.new w xs
  have B0 := below_one w (.cells #[.int .i64 xs.length, .int .i64 (rowAt xs 0), .int .i64 (rowAt xs 1), .int .i64 (rowAt xs 2), .int .i64 (rowAt xs 3)] 36)
  have c0 : (w.alloc (.cells #[.int .i64 xs.length, .int .i64 (rowAt xs 0), .int .i64 (rowAt xs 1), .int .i64 (rowAt xs 2), .int .i64 (rowAt xs 3)] 36)).cell? ⟨b, 0, none⟩ = some (.func (.func g) #[] #[]) := (B0.cell (p := ⟨b, 0, none⟩) hbl).trans hc
  have H := Lib.hid (And.intro h1 h2)
  clear h1 h2 hc
  have p0 := x0.cell0
  have p1 := x0.cell1
  have p2 := x0.cell2
  have p3 := x0.cell3
  have p4 := x0.cell4
  go_enter Tryz.func115, Tryz.ntmps115
  go_wp2
  obtain ⟨W0, hW0⟩ : ∃ W0, (w.alloc (.cells #[.int .i64 xs.length, .int .i64 (rowAt xs 0), .int .i64 (rowAt xs 1), .int .i64 (rowAt xs 2), .int .i64 (rowAt xs 3)] 36)) = W0 := ⟨_, rfl⟩
  rw [hW0] at p0 p1 p2 p3 p4 x0 B0 c0 ⊢
  clear hW0
  have hbl0 : b < W0.heap.size := Nat.lt_of_lt_of_le hbl B0.size
  have B := B0.drew
  clear x0 B0
  go_region_with (first
    | (go_at_call 110; refine (H.out.1 _).mono ?_; rintro e w2 ⟨rfl, hb⟩; have c1 : w2.cell? ⟨b, 0, none⟩ = some (.func (.func g) #[] #[]) := (hb.cell (p := ⟨b, 0, none⟩) hbl0).trans c0; have B := B.trans (hb.mono B.size); clear hb)
    | (refine (H.out.2 _).mono ?_; rintro e w3 ⟨rfl, hb⟩; have B := B.trans (hb.mono B.size); clear hb))
  all_goals
    go_wp2
    go_ret
    exact ⟨rfl, B⟩
theorem onTurned_any (g : FuncId) (w : World) :
    Calls Tryz.prog 46 #[.func (.func g) #[] #[]] w fun e w' => e = .returned (.func (.func 115) #[] #[.pointer (some ⟨w.heap.size, 0, none⟩)]) ∧ w.alloc (.cells #[.func (.func g) #[] #[]] 42) = w' := by
  have hmf : ∀ (fn : Fn) (first cap : Array Value) (w : World), Sem.run Tryz.prog (Instr.makeFunc fn first cap) w = .ok (.func fn first cap) w := fun _ _ _ _ => rfl
  go_enter Tryz.func46, Tryz.ntmps46
  go_wp2
  go_ret
  exact ⟨rfl, rfl⟩
end Go.Proofs.YthdnpcpimggjnaaGreatDoor

namespace Go.Proofs.YthdnpcpimggjnaaGreatDoor
open Go.RowKit

theorem zero_rel5 (n : Nat) : relOf (List.replicate n 0) = rel5 n 0 0 0 0 := by
  unfold relOf rel5
  rw [zeros_at, zeros_at, zeros_at, zeros_at, List.length_replicate]
theorem allR {n : Nat} (h1 : 1 ≤ n) (h4 : n ≤ 4) (w : World) : Calls Tryz.prog 113 #[rel5 n 0 0 0 0] w fun e w' => e = .returned (relOf (allL n)) ∧ Below w.heap.size w w' := by
  rw [← zero_rel5]
  exact otherR (Rl.zeros h1 h4) w

set_option maxRecDepth 100000 in
set_option maxHeartbeats 4000000 in
theorem isConn_walk (xs a b c : List Int) (s : Bool) (w : World)
    (h0 : ∀ w, Calls Tryz.prog 113 #[rel5 xs.length 0 0 0 0] w fun e w' => e = .returned (relOf c) ∧ Below w.heap.size w w')
    (h1 : ∀ w, Calls Tryz.prog 110 #[relOf xs] w fun e w' => e = .returned (relOf a) ∧ Below w.heap.size w w')
    (h2 : ∀ w, Calls Tryz.prog 114 #[relOf xs, relOf a] w fun e w' => e = .returned (relOf b) ∧ Below w.heap.size w w')
    (hn : (b.length : Int) = (c.length : Int)) (hs : (rowAt b 0 == rowAt c 0 && (rowAt b 1 == rowAt c 1 && (rowAt b 2 == rowAt c 2 && rowAt b 3 == rowAt c 3))) = s) :
    Calls Tryz.prog 43 #[relOf xs] w fun e w' => e = .returned (.bool s) ∧ Below w.heap.size w w' := by
  have x0 := RelAt.new w xs
  have B0 := below_one w (.cells #[.int .i64 xs.length, .int .i64 (rowAt xs 0), .int .i64 (rowAt xs 1), .int .i64 (rowAt xs 2), .int .i64 (rowAt xs 3)] 36)
  have H := Lib.hid (And.intro h0 (And.intro h1 h2))
  clear h0 h1 h2
  have hE : ∀ w, Sem.run Tryz.prog (Op.equalIn 9999 34 (.agg #[.int .i64 (rowAt b 0), .int .i64 (rowAt b 1), .int .i64 (rowAt b 2), .int .i64 (rowAt b 3)]) (.agg #[.int .i64 (rowAt c 0), .int .i64 (rowAt c 1), .int .i64 (rowAt c 2), .int .i64 (rowAt c 3)])) w = .ok s w :=
    fun w => (eqRowsD 9997 (rowAt b 0) (rowAt b 1) (rowAt b 2) (rowAt b 3) (rowAt c 0) (rowAt c 1) (rowAt c 2) (rowAt c 3) w).trans (by rw [hs])
  have en : ((b.length : Int) == (c.length : Int)) = true := by rw [hn]; simp
  clear hs hn
  cases s with
  | false =>
    have p0 := x0.cell0
    go_enter Tryz.func43, Tryz.ntmps43
    go_wp2_with fail
    refine (H.out.1 _).mono ?_
    rintro e w1 ⟨rfl, hb⟩
    have x1 := (x0.below hb x0.lt).alloc (.cells #[.int .i64 c.length, .int .i64 (rowAt c 0), .int .i64 (rowAt c 1), .int .i64 (rowAt c 2), .int .i64 (rowAt c 3)] 36)
    have y1 := RelAt.new w1 c
    have B1 := (B0.trans (hb.mono B0.size)).alloc (Nat.le_trans B0.size hb.size) (.cells #[.int .i64 c.length, .int .i64 (rowAt c 0), .int .i64 (rowAt c 1), .int .i64 (rowAt c 2), .int .i64 (rowAt c 3)] 36)
    clear hb p0 x0 B0
    go_wp2
    obtain ⟨W0, hW0⟩ : ∃ W0, w1.alloc (.cells #[.int .i64 c.length, .int .i64 (rowAt c 0), .int .i64 (rowAt c 1), .int .i64 (rowAt c 2), .int .i64 (rowAt c 3)] 36) = W0 := ⟨_, rfl⟩
    rw [hW0] at x1 y1 B1 ⊢
    clear hW0
    have x := x1.drew
    have y := y1.drew
    have B := B1.drew
    have p0 := x1.cell0
    have p1 := x1.cell1
    have p2 := x1.cell2
    have p3 := x1.cell3
    have p4 := x1.cell4
    have q0 := y1.cell0
    have q1 := y1.cell1
    have q2 := y1.cell2
    have q3 := y1.cell3
    have q4 := y1.cell4
    clear x1 y1 B1
    go_region_held (fun w' => w'.cell? ⟨w.heap.size, 0, none⟩ = some (.int .i64 xs.length) ∧ w'.cell? ⟨w.heap.size, 1, none⟩ = some (.int .i64 (rowAt xs 0)) ∧ w'.cell? ⟨w.heap.size, 2, none⟩ = some (.int .i64 (rowAt xs 1)) ∧ w'.cell? ⟨w.heap.size, 3, none⟩ = some (.int .i64 (rowAt xs 2)) ∧ w'.cell? ⟨w.heap.size, 4, none⟩ = some (.int .i64 (rowAt xs 3)) ∧ w'.cell? ⟨w1.heap.size, 0, none⟩ = some (.int .i64 c.length) ∧ w'.cell? ⟨w1.heap.size, 1, none⟩ = some (.int .i64 (rowAt c 0)) ∧ w'.cell? ⟨w1.heap.size, 2, none⟩ = some (.int .i64 (rowAt c 1)) ∧ w'.cell? ⟨w1.heap.size, 3, none⟩ = some (.int .i64 (rowAt c 2)) ∧ w'.cell? ⟨w1.heap.size, 4, none⟩ = some (.int .i64 (rowAt c 3))) (go_keep) (first
      | (go_at_call 110; refine (H.out.2.1 _).mono ?_; rintro e w2 ⟨rfl, hb⟩; have x := x.below hb x.lt; have y := y.below hb y.lt; have B := B.trans (hb.mono B.size); have p0 := x.cell0; have p1 := x.cell1; have p2 := x.cell2; have p3 := x.cell3; have p4 := x.cell4; have q0 := y.cell0; have q1 := y.cell1; have q2 := y.cell2; have q3 := y.cell3; have q4 := y.cell4; clear hb)
      | (go_at_call 114; refine (H.out.2.2 _).mono ?_; rintro e w3 ⟨rfl, hb⟩; have x := x.below hb x.lt; have y := y.below hb y.lt; have p0 := x.cell0; have p1 := x.cell1; have p2 := x.cell2; have p3 := x.cell3; have p4 := x.cell4; have B := B.trans (hb.mono B.size); have q0 := y.cell0; have q1 := y.cell1; have q2 := y.cell2; have q3 := y.cell3; have q4 := y.cell4; clear hb))
    all_goals
      go_wp2
      go_ret
      exact ⟨rfl, B⟩
  | true =>
    have p0 := x0.cell0
    go_enter Tryz.func43, Tryz.ntmps43
    go_wp2_with fail
    refine (H.out.1 _).mono ?_
    rintro e w1 ⟨rfl, hb⟩
    have x1 := (x0.below hb x0.lt).alloc (.cells #[.int .i64 c.length, .int .i64 (rowAt c 0), .int .i64 (rowAt c 1), .int .i64 (rowAt c 2), .int .i64 (rowAt c 3)] 36)
    have y1 := RelAt.new w1 c
    have B1 := (B0.trans (hb.mono B0.size)).alloc (Nat.le_trans B0.size hb.size) (.cells #[.int .i64 c.length, .int .i64 (rowAt c 0), .int .i64 (rowAt c 1), .int .i64 (rowAt c 2), .int .i64 (rowAt c 3)] 36)
    clear hb p0 x0 B0
    go_wp2
    obtain ⟨W0, hW0⟩ : ∃ W0, w1.alloc (.cells #[.int .i64 c.length, .int .i64 (rowAt c 0), .int .i64 (rowAt c 1), .int .i64 (rowAt c 2), .int .i64 (rowAt c 3)] 36) = W0 := ⟨_, rfl⟩
    rw [hW0] at x1 y1 B1 ⊢
    clear hW0
    have x := x1.drew
    have y := y1.drew
    have B := B1.drew
    have p0 := x1.cell0
    have p1 := x1.cell1
    have p2 := x1.cell2
    have p3 := x1.cell3
    have p4 := x1.cell4
    have q0 := y1.cell0
    have q1 := y1.cell1
    have q2 := y1.cell2
    have q3 := y1.cell3
    have q4 := y1.cell4
    clear x1 y1 B1
    go_region_held (fun w' => w'.cell? ⟨w.heap.size, 0, none⟩ = some (.int .i64 xs.length) ∧ w'.cell? ⟨w.heap.size, 1, none⟩ = some (.int .i64 (rowAt xs 0)) ∧ w'.cell? ⟨w.heap.size, 2, none⟩ = some (.int .i64 (rowAt xs 1)) ∧ w'.cell? ⟨w.heap.size, 3, none⟩ = some (.int .i64 (rowAt xs 2)) ∧ w'.cell? ⟨w.heap.size, 4, none⟩ = some (.int .i64 (rowAt xs 3)) ∧ w'.cell? ⟨w1.heap.size, 0, none⟩ = some (.int .i64 c.length) ∧ w'.cell? ⟨w1.heap.size, 1, none⟩ = some (.int .i64 (rowAt c 0)) ∧ w'.cell? ⟨w1.heap.size, 2, none⟩ = some (.int .i64 (rowAt c 1)) ∧ w'.cell? ⟨w1.heap.size, 3, none⟩ = some (.int .i64 (rowAt c 2)) ∧ w'.cell? ⟨w1.heap.size, 4, none⟩ = some (.int .i64 (rowAt c 3))) (go_keep) (first
      | (go_at_call 110; refine (H.out.2.1 _).mono ?_; rintro e w2 ⟨rfl, hb⟩; have x := x.below hb x.lt; have y := y.below hb y.lt; have B := B.trans (hb.mono B.size); have p0 := x.cell0; have p1 := x.cell1; have p2 := x.cell2; have p3 := x.cell3; have p4 := x.cell4; have q0 := y.cell0; have q1 := y.cell1; have q2 := y.cell2; have q3 := y.cell3; have q4 := y.cell4; clear hb)
      | (go_at_call 114; refine (H.out.2.2 _).mono ?_; rintro e w3 ⟨rfl, hb⟩; have x := x.below hb x.lt; have y := y.below hb y.lt; have p0 := x.cell0; have p1 := x.cell1; have p2 := x.cell2; have p3 := x.cell3; have p4 := x.cell4; have B := B.trans (hb.mono B.size); have q0 := y.cell0; have q1 := y.cell1; have q2 := y.cell2; have q3 := y.cell3; have q4 := y.cell4; clear hb))
    all_goals
      go_wp2
      go_ret
      exact ⟨rfl, B⟩

theorem kC {n : Nat} {xs : List Int} (h : Rl n xs) (w : World) : Calls Tryz.prog 43 #[relOf xs] w fun e w' => e = .returned (.bool (kindC xs)) ∧ Below w.heap.size w w' :=
  isConn_walk xs (turnL xs) (eitherL xs (turnL xs)) (allL xs.length) (kindC xs) w (fun w => allR (h.len.symm ▸ h.one) (h.len.symm ▸ h.four) w) (fun w => turnedR h w) (fun w => eitherR' h h.turn w)
    (by rw [(h.either h.turn).len, h.len, (Rl.all h.one h.four).len]) (by rw [h.len]; exact (rows_eq (h.either h.turn) (Rl.all h.one h.four)).trans (isC h))
end Go.Proofs.YthdnpcpimggjnaaGreatDoor

namespace Go.Proofs.YthdnpcpimggjnaaGreatDoor
open Go.RowKit Go.Maps

/-- how an element that is a function value reads: as itself -/
def heldR (v : Value) : Option (DataW Value × List MemPlace) := some (.held v, [])
theorem u8_keyed : Keyed Tryz.prog 5 := int_keyed Tryz.underlying5
theorem u8_key (c : Int) (h0 : 0 ≤ c) (h1 : c < 256) : keyOf Tryz.prog 5 (.int .u8 c) = some (.int .u8 c) :=
  keyOf_int_mk Tryz.underlying5 (WalkArith.wf_u8 (by omega))

/-- the map of block b reads as D; what else was made meanwhile -/
structure MapW (w0 w : World) (b n : Nat) (D : DataW Value) (C : List (Nat × Value)) : Prop where
  own : w.ownsMap Tryz.prog 5 heldR b n D
  below : Below w0.heap.size w0 w
  base : w0.heap.size ≤ b
  held : ∀ q v, (q, v) ∈ C → q ≠ b ∧ w0.heap.size ≤ q ∧ q < w.heap.size ∧ w.cell? ⟨q, 0, none⟩ = some v

theorem ownsMap_below {H : Type} {P : Program} {k : TypeId} {R : Value → Option (DataW H × List MemPlace)} {w w' : World} {B b n : Nat} {D : DataW H} (h : w.ownsMap P k R b n D) (hb : Below B w w') (hlt : b < B) : w'.ownsMap P k R b n D := by
  obtain ⟨es, clock, he, r⟩ := h
  exact ⟨es, clock, (hb.block b hlt).trans he, r⟩
theorem MapW.made (w : World) : MapW w (w.alloc (.map #[] 0)) w.heap.size 0 (.map []) [] :=
  ⟨World.ownsMap_made _ _ _ _, below_one w _, Nat.le_refl _, fun _ _ h => absurd h (by simp)⟩
theorem MapW.below_step {w0 w w' : World} {b n : Nat} {D : DataW Value} {C : List (Nat × Value)} (h : MapW w0 w b n D C) (hb : Below w.heap.size w w') : MapW w0 w' b n D C :=
  ⟨ownsMap_below h.own hb h.own.lt, h.below.trans (hb.mono h.below.size), h.base, fun q v hq => by
    obtain ⟨a1, a2, a3, a4⟩ := h.held q v hq
    exact ⟨a1, a2, Nat.lt_of_lt_of_le a3 hb.size, (hb.cell (p := ⟨q, 0, none⟩) a3).trans a4⟩⟩
theorem MapW.more {w0 w : World} {b n : Nat} {D : DataW Value} {C : List (Nat × Value)} (h : MapW w0 w b n D C) (q : Nat) (v : Value) (h1 : q ≠ b) (h2 : w0.heap.size ≤ q) (h3 : q < w.heap.size) (h4 : w.cell? ⟨q, 0, none⟩ = some v) : MapW w0 w b n D ((q, v) :: C) :=
  ⟨h.own, h.below, h.base, fun r u hr => by
    rcases List.mem_cons.1 hr with e | hr
    · cases e; exact ⟨h1, h2, h3, h4⟩
    · exact h.held r u hr⟩
theorem cell_of_block {w w' : World} {b : Nat} (h : w'.heap[b]? = w.heap[b]?) (o : Nat) : w'.cell? ⟨b, o, none⟩ = w.cell? ⟨b, o, none⟩ := by
  unfold World.cell?
  rw [h]
theorem MapW.grown {w0 w w' : World} {b n n' : Nat} {D D' : DataW Value} {C : List (Nat × Value)} (h : MapW w0 w b n D C) (hg : w.grownBy w' (some b)) (ho : w'.ownsMap Tryz.prog 5 heldR b n' D') : MapW w0 w' b n' D' C :=
  ⟨ho, h.below.grown hg h.below.size (fun k hk => by cases hk; exact h.base), h.base, fun q v hq => by
    obtain ⟨a1, a2, a3, a4⟩ := h.held q v hq
    exact ⟨a1, a2, Nat.lt_of_lt_of_le a3 hg.size, (cell_of_block (hg.block q a3 (fun e => a1 (Option.some.inj e))) 0).trans a4⟩⟩

/-- an entry of a map literal, at the operation -/
theorem wpList_insert {w0 : World} (w : World) {ops : Array Oper} {rest : List Oper} {o : Oper} {a : Act} {Q : Exit → Act → World → Prop}
    (hg : o.guard = none) (m x v : Operand) (t e : TypeId) (hop : o.op = Op.insert t m x v) (ht : Tryz.prog.underlying t = some (.map 5 e))
    (b n : Nat) (D : DataW Value) (C : List (Nat × Value)) (hm : a.eval m = .map (some b)) (h : MapW w0 w b n D C) (hn : n < 100) (c : Int) (hx : a.eval x = .int .u8 c) (h0 : 0 ≤ c) (h1 : c < 256) (u : Value) (hv : a.eval v = u)
    (hK : ∀ w', MapW w0 w' b (n + 1) (D.put (.int .u8 c) (.held u)) C → wpList Tryz.prog ops Q rest (a.put o.dst undef) w') :
    wpList Tryz.prog ops Q (o :: rest) a w := by
  refine wpList_plain hg fun K' hK' => ?_
  obtain ⟨w', hrun, r1, r2⟩ := h.own.update u8_keyed ht (by unfold maxLen; omega) (u8_key c h0 h1) (show heldR u = some (.held u, []) from rfl)
  unfold Oper.wp
  simp [execOp, hop, hm, hx, hv, hrun, Result.andThen]
  exact hK' _ _ (hK w' (h.grown r2 r1))

/-- a map of letters: what stands at each one, and which ones it has -/
def FMap (T : TypeId) (w : World) (b : Nat) (lt : ByteArray) (F : Nat → Value) : Prop :=
  b < w.heap.size ∧ ∀ w', w'.heap[b]? = w.heap[b]? → ∀ c : Nat, c < 256 →
    Sem.run Tryz.prog (Instr.lookup T (.map (some b)) (.int .u8 (c : Int)) true) w' = .ok (.tuple #[F c, .bool (hasTo lt c lt.size)]) w' ∧
    Sem.run Tryz.prog (Instr.lookup T (.map (some b)) (.int .u8 (c : Int)) false) w' = .ok (F c) w'
theorem FMap.below {T : TypeId} {w w' : World} {B b : Nat} {lt : ByteArray} {F : Nat → Value} (h : FMap T w b lt F) (hb : Below B w w') (hlt : b < B) : FMap T w' b lt F :=
  ⟨Nat.lt_of_lt_of_le h.1 hb.size, fun w2 h2 => h.2 w2 (h2.trans (hb.block b hlt))⟩
def valOf (D : DataW Value) (c : Nat) : Value := match D.atKey (.int .u8 (c : Int)) (.held .nilFunc) with | .held v => v | _ => undef
theorem fmap_of {T e : TypeId} (ht : Tryz.prog.underlying T = some (.map 5 e)) (hz : ∀ w, (zeroValue e).run Tryz.prog w = .ok .nilFunc w) {w0 w : World} {b n : Nat} {D : DataW Value} {C : List (Nat × Value)} {lt : ByteArray} (h : MapW w0 w b n D C)
    (hl : ∀ c : Nat, c < 256 → Maps.has D (.int .u8 (c : Int)) = hasTo lt c lt.size) : FMap T w b lt (valOf D) := by
  refine ⟨h.own.lt, fun w' hw c hc => ?_⟩
  have ho : w'.ownsMap Tryz.prog 5 heldR b n D := by
    obtain ⟨es, clock, he, r⟩ := h.own
    exact ⟨es, clock, hw.trans he, r⟩
  have hk := u8_key (c : Int) (by omega) (by omega)
  constructor
  · obtain ⟨v, ps, hrun, hv⟩ := ho.look_ok u8_keyed ht (hz w') (show heldR .nilFunc = some (.held .nilFunc, []) from rfl) hk
    rw [hrun, hl c hc]
    have e1 : DataW.held v = D.atKey (.int .u8 (c : Int)) (.held .nilFunc) := congrArg Prod.fst (Option.some.inj hv)
    unfold valOf
    rw [← e1]
  · obtain ⟨v, ps, hrun, hv⟩ := ho.lookup u8_keyed ht (hz w') (show heldR .nilFunc = some (.held .nilFunc, []) from rfl) hk
    rw [hrun]
    have e1 : DataW.held v = D.atKey (.int .u8 (c : Int)) (.held .nilFunc) := congrArg Prod.fst (Option.some.inj hv)
    unfold valOf
    rw [← e1]
theorem isMap_put {D : DataW Value} (h : IsMap D) (a : Int) (d : DataW Value) : IsMap (D.put (.int .u8 a) d) := h.put _ _
theorem has_put {D : DataW Value} (h : IsMap D) (a c : Int) (d : DataW Value) : Maps.has (D.put (.int .u8 a) d) (.int .u8 c) = (decide (c = a) || Maps.has D (.int .u8 c)) := by
  by_cases e : c = a
  · subst e
    rw [has_put_same h (show WideAt.IsKeyLit (.int .u8 c) from trivial)]
    simp
  · rw [has_put_other (by intro h2; cases h2; exact e rfl)]
    simp [e]
theorem at_put {D : DataW Value} (h : IsMap D) (a c : Nat) (v : Value) : valOf (D.put (.int .u8 (a : Int)) (.held v)) c = if c = a then v else valOf D c := by
  unfold valOf
  by_cases e : c = a
  · subst e
    rw [atKey_put_same h (show WideAt.IsKeyLit (.int .u8 (c : Int)) from trivial), if_pos rfl]
  · rw [atKey_put_other (by intro h2; cases h2; exact e (by omega)), if_neg e]

/-! function values that ask something of a relation, and such that change one -/
def AsksV (w : World) (v : Value) (f : List Int → Bool) : Prop :=
  ∃ g caps, v = .func (.func g) #[] caps ∧ (∀ args w, Sem.run Tryz.prog (callFunc g args) w = .ok (.enter g args) w) ∧
    ∀ xs w', Rl xs.length xs → Below w.heap.size w w' → Calls Tryz.prog g (#[relOf xs] ++ caps) w' fun e w'' => e = .returned (.bool (f xs)) ∧ Below w'.heap.size w' w''
def TurnsV (w : World) (v : Value) (f : List Int → List Int) : Prop :=
  ∃ g caps, v = .func (.func g) #[] caps ∧ (∀ args w, Sem.run Tryz.prog (callFunc g args) w = .ok (.enter g args) w) ∧
    ∀ xs w', Rl xs.length xs → Below w.heap.size w w' → Calls Tryz.prog g (#[relOf xs] ++ caps) w' fun e w'' => e = .returned (relOf (f xs)) ∧ Below w'.heap.size w' w''
theorem AsksV.below {w w' : World} {v : Value} {f : List Int → Bool} (h : AsksV w v f) (hb : Below w.heap.size w w') : AsksV w' v f := by
  obtain ⟨g, caps, e, hc, hA⟩ := h
  exact ⟨g, caps, e, hc, fun xs w2 r hb2 => hA xs w2 r (hb.trans (hb2.mono hb.size))⟩
theorem TurnsV.below {w w' : World} {v : Value} {f : List Int → List Int} (h : TurnsV w v f) (hb : Below w.heap.size w w') : TurnsV w' v f := by
  obtain ⟨g, caps, e, hc, hA⟩ := h
  exact ⟨g, caps, e, hc, fun xs w2 r hb2 => hA xs w2 r (hb.trans (hb2.mono hb.size))⟩
end Go.Proofs.YthdnpcpimggjnaaGreatDoor

namespace Go.Proofs.YthdnpcpimggjnaaGreatDoor
open Go.RowKit Go.Maps

/-- a map of letters, the last entry first -/
def putR : List (Nat × Value) → DataW Value
  | [] => .map []
  | (a, v) :: r => (putR r).put (.int .u8 (a : Int)) (.held v)
def findV : List (Nat × Value) → Nat → Value
  | [], _ => .nilFunc
  | (a, v) :: r, c => if c = a then v else findV r c
theorem putR_map : ∀ l, IsMap (putR l)
  | [] => isMap_empty
  | (_, _) :: r => isMap_put (putR_map r) _ _
theorem putR_at : ∀ l c, valOf (putR l) c = findV l c
  | [], _ => rfl
  | (a, v) :: r, c => by
    show valOf ((putR r).put (.int .u8 (a : Int)) (.held v)) c = if c = a then v else findV r c
    rw [at_put (putR_map r), putR_at r c]
theorem putR_has : ∀ (l : List (Nat × Value)) (c : Nat), Maps.has (putR l) (.int .u8 (c : Int)) = (l.map Prod.fst).any fun a => decide (c = a)
  | [], _ => rfl
  | (a, v) :: r, c => by
    show Maps.has ((putR r).put (.int .u8 (a : Int)) (.held v)) (.int .u8 (c : Int)) = (decide (c = a) || (r.map Prod.fst).any fun a => decide (c = a))
    rw [has_put (putR_map r), putR_has r c]
    congr 1
    by_cases e : c = a
    · subst e; simp
    · have : ¬ (c : Int) = (a : Int) := by omega
      simp [e, this]

/-! what the values ask -/
theorem asks_plain {w : World} (g : FuncId) (f : List Int → Bool) (hcf : ∀ args w, Sem.run Tryz.prog (callFunc g args) w = .ok (.enter g args) w)
    (h : ∀ xs, Rl xs.length xs → ∀ w, Calls Tryz.prog g #[relOf xs] w fun e w' => e = .returned (.bool (f xs)) ∧ Below w.heap.size w w') : AsksV w (.func (.func g) #[] #[]) f :=
  ⟨g, #[], rfl, hcf, fun xs w' r _ => h xs r w'⟩
theorem turns_plain {w : World} (g : FuncId) (f : List Int → List Int) (hcf : ∀ args w, Sem.run Tryz.prog (callFunc g args) w = .ok (.enter g args) w)
    (h : ∀ xs, Rl xs.length xs → ∀ w, Calls Tryz.prog g #[relOf xs] w fun e w' => e = .returned (relOf (f xs)) ∧ Below w.heap.size w w') : TurnsV w (.func (.func g) #[] #[]) f :=
  ⟨g, #[], rfl, hcf, fun xs w' r _ => h xs r w'⟩
theorem asks_like {w : World} {v : Value} {f f' : List Int → Bool} (h : AsksV w v f) (e : ∀ xs, Rl xs.length xs → f xs = f' xs) : AsksV w v f' := by
  obtain ⟨g, caps, hv, hc, hA⟩ := h
  exact ⟨g, caps, hv, hc, fun xs w' r hb => by rw [← e xs r]; exact hA xs w' r hb⟩
theorem Rl.self {n : Nat} {xs : List Int} (h : Rl n xs) : Rl xs.length xs := by rw [h.len]; exact h
theorem cf_onTurned1 (args : Array Value) (w : World) : Sem.run Tryz.prog (callFunc 115 args) w = .ok (.enter 115 args) w := by kernel_rfl
theorem asks_turned {w : World} (q : Nat) (g : FuncId) (f : List Int → Bool) (hcf : ∀ args w, Sem.run Tryz.prog (callFunc g args) w = .ok (.enter g args) w)
    (h : ∀ xs, Rl xs.length xs → ∀ w, Calls Tryz.prog g #[relOf xs] w fun e w' => e = .returned (.bool (f xs)) ∧ Below w.heap.size w w') (hq : q < w.heap.size) (hc : w.cell? ⟨q, 0, none⟩ = some (.func (.func g) #[] #[])) :
    AsksV w (.func (.func 115) #[] #[.pointer (some ⟨q, 0, none⟩)]) (fun xs => f (turnL xs)) :=
  ⟨_, _, rfl, cf_onTurned1, fun xs w' r hb => onTurned1_walk xs (turnL xs) (f (turnL xs)) g hcf q w' ((hb.cell (p := ⟨q, 0, none⟩) hq).trans hc) (Nat.lt_of_lt_of_le hq hb.size) (fun w => turnedR r w) (fun w => h (turnL xs) r.turn.self w)⟩
theorem cf_isReflexive (args : Array Value) (w : World) : Sem.run Tryz.prog (callFunc 38 args) w = .ok (.enter 38 args) w := by kernel_rfl
theorem cf_isIrreflexive (args : Array Value) (w : World) : Sem.run Tryz.prog (callFunc 39 args) w = .ok (.enter 39 args) w := by kernel_rfl
theorem cf_isSymmetric (args : Array Value) (w : World) : Sem.run Tryz.prog (callFunc 40 args) w = .ok (.enter 40 args) w := by kernel_rfl
theorem cf_isAntisymmetric (args : Array Value) (w : World) : Sem.run Tryz.prog (callFunc 41 args) w = .ok (.enter 41 args) w := by kernel_rfl
theorem cf_isTransitive (args : Array Value) (w : World) : Sem.run Tryz.prog (callFunc 42 args) w = .ok (.enter 42 args) w := by kernel_rfl
theorem cf_isConnected (args : Array Value) (w : World) : Sem.run Tryz.prog (callFunc 43 args) w = .ok (.enter 43 args) w := by kernel_rfl
theorem cf_hasOneAtMost (args : Array Value) (w : World) : Sem.run Tryz.prog (callFunc 44 args) w = .ok (.enter 44 args) w := by kernel_rfl
theorem cf_hasOneAtLeast (args : Array Value) (w : World) : Sem.run Tryz.prog (callFunc 45 args) w = .ok (.enter 45 args) w := by kernel_rfl

/-! the table of tests -/
def risat : ByteArray := ⟨#[114, 105, 115, 97, 116, 99, 102, 100, 106, 111]⟩
def fn0 (g : FuncId) : Value := .func (.func g) #[] #[]
def testL (q1 q2 : Nat) : List (Nat × Value) :=
  [(111, .func (.func 115) #[] #[.pointer (some ⟨q2, 0, none⟩)]), (106, .func (.func 115) #[] #[.pointer (some ⟨q1, 0, none⟩)]), (100, fn0 45), (102, fn0 44), (99, fn0 43), (116, fn0 42), (97, fn0 41), (115, fn0 40), (105, fn0 39), (114, fn0 38)]
theorem risat_has : ∀ c : Fin 256, ([111, 106, 100, 102, 99, 116, 97, 115, 105, 114].any fun a => decide (c.val = a)) = hasTo risat c.val risat.size := by decide +kernel
theorem risat_in {c : Nat} (h : hasTo risat c risat.size = true) : c = 114 ∨ c = 105 ∨ c = 115 ∨ c = 97 ∨ c = 116 ∨ c = 99 ∨ c = 102 ∨ c = 100 ∨ c = 106 ∨ c = 111 := by
  unfold hasTo at h
  rw [List.any_eq_true] at h
  obtain ⟨i, hi, e⟩ := h
  have hi : i < 10 := List.mem_range.1 hi
  have e : byt risat i = c := of_decide_eq_true e
  rcases (by omega : i = 0 ∨ i = 1 ∨ i = 2 ∨ i = 3 ∨ i = 4 ∨ i = 5 ∨ i = 6 ∨ i = 7 ∨ i = 8 ∨ i = 9) with rfl | rfl | rfl | rfl | rfl | rfl | rfl | rfl | rfl | rfl
  · exact .inl e.symm
  · exact .inr (.inl e.symm)
  · exact .inr (.inr (.inl e.symm))
  · exact .inr (.inr (.inr (.inl e.symm)))
  · exact .inr (.inr (.inr (.inr (.inl e.symm))))
  · exact .inr (.inr (.inr (.inr (.inr (.inl e.symm)))))
  · exact .inr (.inr (.inr (.inr (.inr (.inr (.inl e.symm))))))
  · exact .inr (.inr (.inr (.inr (.inr (.inr (.inr (.inl e.symm)))))))
  · exact .inr (.inr (.inr (.inr (.inr (.inr (.inr (.inr (.inl e.symm))))))))
  · exact .inr (.inr (.inr (.inr (.inr (.inr (.inr (.inr (.inr e.symm))))))))
/-- what the call of kindTests has made -/
def GaveTests (w : World) (e : Ending) (w' : World) : Prop :=
  ∃ b F, e = .returned (.map (some b)) ∧ w.heap.size ≤ b ∧ FMap 39 w' b risat F ∧ (∀ c, hasTo risat c risat.size = true → AsksV w' (F c) (kindB c)) ∧ Below w.heap.size w w'
theorem zero_test (w : World) : Sem.run Tryz.prog (zeroValue 42) w = .ok .nilFunc w := by kernel_rfl
theorem tests_fin {w w' : World} {b q1 q2 : Nat} {C : List (Nat × Value)} (h : MapW w w' b 10 (putR (testL q1 q2)) C) (h1 : (q1, fn0 44) ∈ C) (h2 : (q2, fn0 45) ∈ C) : GaveTests w (.returned (.map (some b))) w' := by
  refine ⟨b, _, rfl, h.base, fmap_of Tryz.underlying39 zero_test h (fun c hc => ?_), fun c hc => ?_, h.below⟩
  · rw [putR_has]
    exact risat_has ⟨c, hc⟩
  · rw [putR_at]
    obtain ⟨_, _, l1, c1⟩ := h.held _ _ h1
    obtain ⟨_, _, l2, c2⟩ := h.held _ _ h2
    rcases risat_in hc with rfl | rfl | rfl | rfl | rfl | rfl | rfl | rfl | rfl | rfl
    · exact asks_plain 38 kindR cf_isReflexive (fun xs r w => kR r w)
    · exact asks_plain 39 kindI cf_isIrreflexive (fun xs r w => kI r w)
    · exact asks_plain 40 kindS cf_isSymmetric (fun xs r w => kS r w)
    · exact asks_plain 41 kindA cf_isAntisymmetric (fun xs r w => kA r w)
    · exact asks_plain 42 kindT cf_isTransitive (fun xs r w => kT r w)
    · exact asks_plain 43 kindC cf_isConnected (fun xs r w => kC r w)
    · exact asks_plain 44 kindF cf_hasOneAtMost (fun xs r w => kF r w)
    · exact asks_plain 45 kindD cf_hasOneAtLeast (fun xs r w => kD r w)
    · exact asks_like (asks_turned q1 44 kindF cf_hasOneAtMost (fun xs r w => kF r w) l1 c1) (fun xs r => by rw [← isF r.turn]; exact isJ r)
    · exact asks_like (asks_turned q2 45 kindD cf_hasOneAtLeast (fun xs r w => kD r w) l2 c2) (fun xs r => by rw [← isD r.turn]; exact isO r)
theorem onTurned_map {w0 w : World} {b n : Nat} {D : DataW Value} {C : List (Nat × Value)} (g : FuncId) (h : MapW w0 w b n D C) :
    Calls Tryz.prog 46 #[.func (.func g) #[] #[]] w fun e w' => e = .returned (.func (.func 115) #[] #[.pointer (some ⟨w.heap.size, 0, none⟩)]) ∧ MapW w0 w' b n D ((w.heap.size, fn0 g) :: C) :=
  (onTurned_any g w).mono fun e w' ⟨he, hw⟩ => ⟨he, by
    subst hw
    have hb := below_one w (.cells #[.func (.func g) #[] #[]] 42)
    exact (h.below_step hb).more _ _ (by have := h.own.lt; omega) h.below.size (by simp) (by simp [fn0])⟩
set_option maxHeartbeats 4000000 in
theorem kindTests_any (w : World) : Calls Tryz.prog 17 #[] w (GaveTests w) := by
  have hmm := @run_makeMap Tryz.prog
  have h0 := MapW.made w
  go_enter Tryz.func17, Tryz.ntmps17
  go_wp2_with (first
    | (refine wpList_insert (w0 := w) _ rfl _ _ _ _ 42 rfl Tryz.underlying39 _ _ _ _ rfl (by assumption) (by omega) _ rfl (by omega) (by omega) _ rfl ?_; intro w1 hm1)
    | (go_at_call 46; refine (onTurned_map (w0 := w) _ (by assumption)).mono ?_; rintro e w2 ⟨rfl, hm2⟩))
  go_ret
  exact tests_fin (by assumption) (by simp) (by simp)
end Go.Proofs.YthdnpcpimggjnaaGreatDoor
