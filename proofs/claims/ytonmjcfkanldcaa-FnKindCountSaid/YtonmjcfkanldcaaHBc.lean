/-
  The tests of irreflexive and symmetric relations.
-/
import Derived.Test.YtonmjcfkanldcaaHB
namespace Go.Proofs.Ytonmjcfkanldcaa
open Go.RowKit

set_option maxRecDepth 100000 in
set_option maxHeartbeats 4000000 in
theorem isIrr_walk (xs a : List Int) (s : Bool) (w : World)
    (h1 : ∀ w, Calls Try.prog 106 #[relOf xs] w fun e w' => e = .returned (relOf a) ∧ Below w.heap.size w w')
    (hn : (a.length : Int) = (xs.length : Int)) (hs : (rowAt a 0 == rowAt xs 0 && (rowAt a 1 == rowAt xs 1 && (rowAt a 2 == rowAt xs 2 && rowAt a 3 == rowAt xs 3))) = s) :
    Calls Try.prog 83 #[relOf xs] w fun e w' => e = .returned (.bool s) ∧ Below w.heap.size w w' := by
  have x0 := RelAt.new w xs
  have B0 := below_one w (.cells #[.int .i64 xs.length, .int .i64 (rowAt xs 0), .int .i64 (rowAt xs 1), .int .i64 (rowAt xs 2), .int .i64 (rowAt xs 3)] 58)
  have H := Lib.hid h1
  clear h1
  have hE : ∀ w, Sem.run Try.prog (Op.equalIn 9999 56 (.agg #[.int .i64 (rowAt a 0), .int .i64 (rowAt a 1), .int .i64 (rowAt a 2), .int .i64 (rowAt a 3)]) (.agg #[.int .i64 (rowAt xs 0), .int .i64 (rowAt xs 1), .int .i64 (rowAt xs 2), .int .i64 (rowAt xs 3)])) w = .ok s w :=
    fun w => (eqRowsD 9997 (rowAt a 0) (rowAt a 1) (rowAt a 2) (rowAt a 3) (rowAt xs 0) (rowAt xs 1) (rowAt xs 2) (rowAt xs 3) w).trans (by rw [hs])
  have en : ((a.length : Int) == (xs.length : Int)) = true := by rw [hn]; simp
  clear hs hn
  cases s with
  | false =>
    have p0 := x0.cell0
    have p1 := x0.cell1
    have p2 := x0.cell2
    have p3 := x0.cell3
    have p4 := x0.cell4
    go_enter Try.func83, Try.ntmps83
    go_wp2
    obtain ⟨W0, hW0⟩ : ∃ W0, (w.alloc (.cells #[.int .i64 xs.length, .int .i64 (rowAt xs 0), .int .i64 (rowAt xs 1), .int .i64 (rowAt xs 2), .int .i64 (rowAt xs 3)] 58)) = W0 := ⟨_, rfl⟩
    rw [hW0] at p0 p1 p2 p3 p4 x0 B0 ⊢
    clear hW0
    have x := x0.drew
    have B := B0.drew
    clear x0 B0
    go_region_held (fun w' => w'.cell? ⟨w.heap.size, 0, none⟩ = some (.int .i64 xs.length) ∧ w'.cell? ⟨w.heap.size, 1, none⟩ = some (.int .i64 (rowAt xs 0)) ∧ w'.cell? ⟨w.heap.size, 2, none⟩ = some (.int .i64 (rowAt xs 1)) ∧ w'.cell? ⟨w.heap.size, 3, none⟩ = some (.int .i64 (rowAt xs 2)) ∧ w'.cell? ⟨w.heap.size, 4, none⟩ = some (.int .i64 (rowAt xs 3))) (go_keep) (first
      | (go_at_call 106; refine (H.out _).mono ?_; rintro e w2 ⟨rfl, hb⟩; have x := x.below hb x.lt; have B := B.trans (hb.mono B.size); have p0 := x.cell0; have p1 := x.cell1; have p2 := x.cell2; have p3 := x.cell3; have p4 := x.cell4; clear hb))
    all_goals
      go_wp2
      go_ret
      exact ⟨rfl, B⟩
  | true =>
    have p0 := x0.cell0
    have p1 := x0.cell1
    have p2 := x0.cell2
    have p3 := x0.cell3
    have p4 := x0.cell4
    go_enter Try.func83, Try.ntmps83
    go_wp2
    obtain ⟨W0, hW0⟩ : ∃ W0, (w.alloc (.cells #[.int .i64 xs.length, .int .i64 (rowAt xs 0), .int .i64 (rowAt xs 1), .int .i64 (rowAt xs 2), .int .i64 (rowAt xs 3)] 58)) = W0 := ⟨_, rfl⟩
    rw [hW0] at p0 p1 p2 p3 p4 x0 B0 ⊢
    clear hW0
    have x := x0.drew
    have B := B0.drew
    clear x0 B0
    go_region_held (fun w' => w'.cell? ⟨w.heap.size, 0, none⟩ = some (.int .i64 xs.length) ∧ w'.cell? ⟨w.heap.size, 1, none⟩ = some (.int .i64 (rowAt xs 0)) ∧ w'.cell? ⟨w.heap.size, 2, none⟩ = some (.int .i64 (rowAt xs 1)) ∧ w'.cell? ⟨w.heap.size, 3, none⟩ = some (.int .i64 (rowAt xs 2)) ∧ w'.cell? ⟨w.heap.size, 4, none⟩ = some (.int .i64 (rowAt xs 3))) (go_keep) (first
      | (go_at_call 106; refine (H.out _).mono ?_; rintro e w2 ⟨rfl, hb⟩; have x := x.below hb x.lt; have B := B.trans (hb.mono B.size); have p0 := x.cell0; have p1 := x.cell1; have p2 := x.cell2; have p3 := x.cell3; have p4 := x.cell4; clear hb))
    all_goals
      go_wp2
      go_ret
      exact ⟨rfl, B⟩

theorem kI {n : Nat} {xs : List Int} (h : Rl n xs) (w : World) : Calls Try.prog 83 #[relOf xs] w fun e w' => e = .returned (.bool (kindI xs)) ∧ Below w.heap.size w w' :=
  isIrr_walk xs (offI xs) (kindI xs) w (fun w => offR h w) (by rw [h.off.len, h.len]) ((rows_eq h.off h).trans (isI h))

set_option maxRecDepth 100000 in
set_option maxHeartbeats 4000000 in
theorem isSym_walk (xs a : List Int) (s : Bool) (w : World)
    (h1 : ∀ w, Calls Try.prog 107 #[relOf xs] w fun e w' => e = .returned (relOf a) ∧ Below w.heap.size w w')
    (hn : (a.length : Int) = (xs.length : Int)) (hs : (rowAt a 0 == rowAt xs 0 && (rowAt a 1 == rowAt xs 1 && (rowAt a 2 == rowAt xs 2 && rowAt a 3 == rowAt xs 3))) = s) :
    Calls Try.prog 84 #[relOf xs] w fun e w' => e = .returned (.bool s) ∧ Below w.heap.size w w' := by
  have x0 := RelAt.new w xs
  have B0 := below_one w (.cells #[.int .i64 xs.length, .int .i64 (rowAt xs 0), .int .i64 (rowAt xs 1), .int .i64 (rowAt xs 2), .int .i64 (rowAt xs 3)] 58)
  have H := Lib.hid h1
  clear h1
  have hE : ∀ w, Sem.run Try.prog (Op.equalIn 9999 56 (.agg #[.int .i64 (rowAt a 0), .int .i64 (rowAt a 1), .int .i64 (rowAt a 2), .int .i64 (rowAt a 3)]) (.agg #[.int .i64 (rowAt xs 0), .int .i64 (rowAt xs 1), .int .i64 (rowAt xs 2), .int .i64 (rowAt xs 3)])) w = .ok s w :=
    fun w => (eqRowsD 9997 (rowAt a 0) (rowAt a 1) (rowAt a 2) (rowAt a 3) (rowAt xs 0) (rowAt xs 1) (rowAt xs 2) (rowAt xs 3) w).trans (by rw [hs])
  have en : ((a.length : Int) == (xs.length : Int)) = true := by rw [hn]; simp
  clear hs hn
  cases s with
  | false =>
    have p0 := x0.cell0
    have p1 := x0.cell1
    have p2 := x0.cell2
    have p3 := x0.cell3
    have p4 := x0.cell4
    go_enter Try.func84, Try.ntmps84
    go_wp2
    obtain ⟨W0, hW0⟩ : ∃ W0, (w.alloc (.cells #[.int .i64 xs.length, .int .i64 (rowAt xs 0), .int .i64 (rowAt xs 1), .int .i64 (rowAt xs 2), .int .i64 (rowAt xs 3)] 58)) = W0 := ⟨_, rfl⟩
    rw [hW0] at p0 p1 p2 p3 p4 x0 B0 ⊢
    clear hW0
    have x := x0.drew
    have B := B0.drew
    clear x0 B0
    go_region_held (fun w' => w'.cell? ⟨w.heap.size, 0, none⟩ = some (.int .i64 xs.length) ∧ w'.cell? ⟨w.heap.size, 1, none⟩ = some (.int .i64 (rowAt xs 0)) ∧ w'.cell? ⟨w.heap.size, 2, none⟩ = some (.int .i64 (rowAt xs 1)) ∧ w'.cell? ⟨w.heap.size, 3, none⟩ = some (.int .i64 (rowAt xs 2)) ∧ w'.cell? ⟨w.heap.size, 4, none⟩ = some (.int .i64 (rowAt xs 3))) (go_keep) (first
      | (go_at_call 107; refine (H.out _).mono ?_; rintro e w2 ⟨rfl, hb⟩; have x := x.below hb x.lt; have B := B.trans (hb.mono B.size); have p0 := x.cell0; have p1 := x.cell1; have p2 := x.cell2; have p3 := x.cell3; have p4 := x.cell4; clear hb))
    all_goals
      go_wp2
      go_ret
      exact ⟨rfl, B⟩
  | true =>
    have p0 := x0.cell0
    have p1 := x0.cell1
    have p2 := x0.cell2
    have p3 := x0.cell3
    have p4 := x0.cell4
    go_enter Try.func84, Try.ntmps84
    go_wp2
    obtain ⟨W0, hW0⟩ : ∃ W0, (w.alloc (.cells #[.int .i64 xs.length, .int .i64 (rowAt xs 0), .int .i64 (rowAt xs 1), .int .i64 (rowAt xs 2), .int .i64 (rowAt xs 3)] 58)) = W0 := ⟨_, rfl⟩
    rw [hW0] at p0 p1 p2 p3 p4 x0 B0 ⊢
    clear hW0
    have x := x0.drew
    have B := B0.drew
    clear x0 B0
    go_region_held (fun w' => w'.cell? ⟨w.heap.size, 0, none⟩ = some (.int .i64 xs.length) ∧ w'.cell? ⟨w.heap.size, 1, none⟩ = some (.int .i64 (rowAt xs 0)) ∧ w'.cell? ⟨w.heap.size, 2, none⟩ = some (.int .i64 (rowAt xs 1)) ∧ w'.cell? ⟨w.heap.size, 3, none⟩ = some (.int .i64 (rowAt xs 2)) ∧ w'.cell? ⟨w.heap.size, 4, none⟩ = some (.int .i64 (rowAt xs 3))) (go_keep) (first
      | (go_at_call 107; refine (H.out _).mono ?_; rintro e w2 ⟨rfl, hb⟩; have x := x.below hb x.lt; have B := B.trans (hb.mono B.size); have p0 := x.cell0; have p1 := x.cell1; have p2 := x.cell2; have p3 := x.cell3; have p4 := x.cell4; clear hb))
    all_goals
      go_wp2
      go_ret
      exact ⟨rfl, B⟩

theorem kS {n : Nat} {xs : List Int} (h : Rl n xs) (w : World) : Calls Try.prog 84 #[relOf xs] w fun e w' => e = .returned (.bool (kindS xs)) ∧ Below w.heap.size w w' :=
  isSym_walk xs (turnL xs) (kindS xs) w (fun w => turnedR h w) (by rw [h.turn.len, h.len]) ((rows_eq h.turn h).trans (isS xs))
end Go.Proofs.Ytonmjcfkanldcaa
