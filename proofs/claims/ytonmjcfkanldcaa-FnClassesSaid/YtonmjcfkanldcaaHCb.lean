/-
  The test of connected relations.
-/
import Derived.Test.YtonmjcfkanldcaaHB
import Derived.Deep.RegionHeld3
namespace Go.Proofs.Ytonmjcfkanldcaa
open Go.RowKit

theorem zero_rel5 (n : Nat) : relOf (List.replicate n 0) = rel5 n 0 0 0 0 := by
  unfold relOf rel5
  rw [zeros_at, zeros_at, zeros_at, zeros_at, List.length_replicate]
theorem allR {n : Nat} (h1 : 1 ≤ n) (h4 : n ≤ 4) (w : World) : Calls Try.prog 109 #[rel5 n 0 0 0 0] w fun e w' => e = .returned (relOf (allL n)) ∧ Below w.heap.size w w' := by
  rw [← zero_rel5]
  exact otherR (Rl.zeros h1 h4) w

set_option maxRecDepth 100000 in
set_option maxHeartbeats 4000000 in
theorem isConn_walk (xs a b c : List Int) (s : Bool) (w : World)
    (h0 : ∀ w, Calls Try.prog 109 #[rel5 xs.length 0 0 0 0] w fun e w' => e = .returned (relOf c) ∧ Below w.heap.size w w')
    (h1 : ∀ w, Calls Try.prog 107 #[relOf xs] w fun e w' => e = .returned (relOf a) ∧ Below w.heap.size w w')
    (h2 : ∀ w, Calls Try.prog 68 #[relOf xs, relOf a] w fun e w' => e = .returned (relOf b) ∧ Below w.heap.size w w')
    (hn : (b.length : Int) = (c.length : Int)) (hs : (rowAt b 0 == rowAt c 0 && (rowAt b 1 == rowAt c 1 && (rowAt b 2 == rowAt c 2 && rowAt b 3 == rowAt c 3))) = s) :
    Calls Try.prog 87 #[relOf xs] w fun e w' => e = .returned (.bool s) ∧ Below w.heap.size w w' := by
  have x0 := RelAt.new w xs
  have B0 := below_one w (.cells #[.int .i64 xs.length, .int .i64 (rowAt xs 0), .int .i64 (rowAt xs 1), .int .i64 (rowAt xs 2), .int .i64 (rowAt xs 3)] 58)
  have H := Lib.hid (And.intro h0 (And.intro h1 h2))
  clear h0 h1 h2
  have hE : ∀ w, Sem.run Try.prog (Op.equalIn 9999 56 (.agg #[.int .i64 (rowAt b 0), .int .i64 (rowAt b 1), .int .i64 (rowAt b 2), .int .i64 (rowAt b 3)]) (.agg #[.int .i64 (rowAt c 0), .int .i64 (rowAt c 1), .int .i64 (rowAt c 2), .int .i64 (rowAt c 3)])) w = .ok s w :=
    fun w => (eqRowsD 9997 (rowAt b 0) (rowAt b 1) (rowAt b 2) (rowAt b 3) (rowAt c 0) (rowAt c 1) (rowAt c 2) (rowAt c 3) w).trans (by rw [hs])
  have en : ((b.length : Int) == (c.length : Int)) = true := by rw [hn]; simp
  clear hs hn
  cases s with
  | false =>
    have p0 := x0.cell0
    go_enter Try.func87, Try.ntmps87
    go_wp2_with fail
    refine (H.out.1 _).mono ?_
    rintro e w1 ⟨rfl, hb⟩
    have x1 := (x0.below hb x0.lt).alloc (.cells #[.int .i64 c.length, .int .i64 (rowAt c 0), .int .i64 (rowAt c 1), .int .i64 (rowAt c 2), .int .i64 (rowAt c 3)] 58)
    have y1 := RelAt.new w1 c
    have B1 := (B0.trans (hb.mono B0.size)).alloc (Nat.le_trans B0.size hb.size) (.cells #[.int .i64 c.length, .int .i64 (rowAt c 0), .int .i64 (rowAt c 1), .int .i64 (rowAt c 2), .int .i64 (rowAt c 3)] 58)
    clear hb p0 x0 B0
    go_wp2
    obtain ⟨W0, hW0⟩ : ∃ W0, w1.alloc (.cells #[.int .i64 c.length, .int .i64 (rowAt c 0), .int .i64 (rowAt c 1), .int .i64 (rowAt c 2), .int .i64 (rowAt c 3)] 58) = W0 := ⟨_, rfl⟩
    rw [hW0] at x1 y1 B1 ⊢
    clear hW0
    have x := x1.drew
    have y := y1.drew
    have B := B1.drew
    have p0 := x1.cell0
    have p1 := x1.cell1
    have p2 := x1.cell2
    have p3 := x1.cell3
    have p4 := x1.cell4
    have q0 := y1.cell0
    have q1 := y1.cell1
    have q2 := y1.cell2
    have q3 := y1.cell3
    have q4 := y1.cell4
    clear x1 y1 B1
    go_region_held (fun w' => w'.cell? ⟨w.heap.size, 0, none⟩ = some (.int .i64 xs.length) ∧ w'.cell? ⟨w.heap.size, 1, none⟩ = some (.int .i64 (rowAt xs 0)) ∧ w'.cell? ⟨w.heap.size, 2, none⟩ = some (.int .i64 (rowAt xs 1)) ∧ w'.cell? ⟨w.heap.size, 3, none⟩ = some (.int .i64 (rowAt xs 2)) ∧ w'.cell? ⟨w.heap.size, 4, none⟩ = some (.int .i64 (rowAt xs 3)) ∧ w'.cell? ⟨w1.heap.size, 0, none⟩ = some (.int .i64 c.length) ∧ w'.cell? ⟨w1.heap.size, 1, none⟩ = some (.int .i64 (rowAt c 0)) ∧ w'.cell? ⟨w1.heap.size, 2, none⟩ = some (.int .i64 (rowAt c 1)) ∧ w'.cell? ⟨w1.heap.size, 3, none⟩ = some (.int .i64 (rowAt c 2)) ∧ w'.cell? ⟨w1.heap.size, 4, none⟩ = some (.int .i64 (rowAt c 3))) (go_keep) (first
      | (go_at_call 107; refine (H.out.2.1 _).mono ?_; rintro e w2 ⟨rfl, hb⟩; have x := x.below hb x.lt; have y := y.below hb y.lt; have B := B.trans (hb.mono B.size); have p0 := x.cell0; have p1 := x.cell1; have p2 := x.cell2; have p3 := x.cell3; have p4 := x.cell4; have q0 := y.cell0; have q1 := y.cell1; have q2 := y.cell2; have q3 := y.cell3; have q4 := y.cell4; clear hb)
      | (go_at_call 68; refine (H.out.2.2 _).mono ?_; rintro e w3 ⟨rfl, hb⟩; have x := x.below hb x.lt; have y := y.below hb y.lt; have p0 := x.cell0; have p1 := x.cell1; have p2 := x.cell2; have p3 := x.cell3; have p4 := x.cell4; have B := B.trans (hb.mono B.size); have q0 := y.cell0; have q1 := y.cell1; have q2 := y.cell2; have q3 := y.cell3; have q4 := y.cell4; clear hb))
    all_goals
      go_wp2
      go_ret
      exact ⟨rfl, B⟩
  | true =>
    have p0 := x0.cell0
    go_enter Try.func87, Try.ntmps87
    go_wp2_with fail
    refine (H.out.1 _).mono ?_
    rintro e w1 ⟨rfl, hb⟩
    have x1 := (x0.below hb x0.lt).alloc (.cells #[.int .i64 c.length, .int .i64 (rowAt c 0), .int .i64 (rowAt c 1), .int .i64 (rowAt c 2), .int .i64 (rowAt c 3)] 58)
    have y1 := RelAt.new w1 c
    have B1 := (B0.trans (hb.mono B0.size)).alloc (Nat.le_trans B0.size hb.size) (.cells #[.int .i64 c.length, .int .i64 (rowAt c 0), .int .i64 (rowAt c 1), .int .i64 (rowAt c 2), .int .i64 (rowAt c 3)] 58)
    clear hb p0 x0 B0
    go_wp2
    obtain ⟨W0, hW0⟩ : ∃ W0, w1.alloc (.cells #[.int .i64 c.length, .int .i64 (rowAt c 0), .int .i64 (rowAt c 1), .int .i64 (rowAt c 2), .int .i64 (rowAt c 3)] 58) = W0 := ⟨_, rfl⟩
    rw [hW0] at x1 y1 B1 ⊢
    clear hW0
    have x := x1.drew
    have y := y1.drew
    have B := B1.drew
    have p0 := x1.cell0
    have p1 := x1.cell1
    have p2 := x1.cell2
    have p3 := x1.cell3
    have p4 := x1.cell4
    have q0 := y1.cell0
    have q1 := y1.cell1
    have q2 := y1.cell2
    have q3 := y1.cell3
    have q4 := y1.cell4
    clear x1 y1 B1
    go_region_held (fun w' => w'.cell? ⟨w.heap.size, 0, none⟩ = some (.int .i64 xs.length) ∧ w'.cell? ⟨w.heap.size, 1, none⟩ = some (.int .i64 (rowAt xs 0)) ∧ w'.cell? ⟨w.heap.size, 2, none⟩ = some (.int .i64 (rowAt xs 1)) ∧ w'.cell? ⟨w.heap.size, 3, none⟩ = some (.int .i64 (rowAt xs 2)) ∧ w'.cell? ⟨w.heap.size, 4, none⟩ = some (.int .i64 (rowAt xs 3)) ∧ w'.cell? ⟨w1.heap.size, 0, none⟩ = some (.int .i64 c.length) ∧ w'.cell? ⟨w1.heap.size, 1, none⟩ = some (.int .i64 (rowAt c 0)) ∧ w'.cell? ⟨w1.heap.size, 2, none⟩ = some (.int .i64 (rowAt c 1)) ∧ w'.cell? ⟨w1.heap.size, 3, none⟩ = some (.int .i64 (rowAt c 2)) ∧ w'.cell? ⟨w1.heap.size, 4, none⟩ = some (.int .i64 (rowAt c 3))) (go_keep) (first
      | (go_at_call 107; refine (H.out.2.1 _).mono ?_; rintro e w2 ⟨rfl, hb⟩; have x := x.below hb x.lt; have y := y.below hb y.lt; have B := B.trans (hb.mono B.size); have p0 := x.cell0; have p1 := x.cell1; have p2 := x.cell2; have p3 := x.cell3; have p4 := x.cell4; have q0 := y.cell0; have q1 := y.cell1; have q2 := y.cell2; have q3 := y.cell3; have q4 := y.cell4; clear hb)
      | (go_at_call 68; refine (H.out.2.2 _).mono ?_; rintro e w3 ⟨rfl, hb⟩; have x := x.below hb x.lt; have y := y.below hb y.lt; have p0 := x.cell0; have p1 := x.cell1; have p2 := x.cell2; have p3 := x.cell3; have p4 := x.cell4; have B := B.trans (hb.mono B.size); have q0 := y.cell0; have q1 := y.cell1; have q2 := y.cell2; have q3 := y.cell3; have q4 := y.cell4; clear hb))
    all_goals
      go_wp2
      go_ret
      exact ⟨rfl, B⟩

theorem kC {n : Nat} {xs : List Int} (h : Rl n xs) (w : World) : Calls Try.prog 87 #[relOf xs] w fun e w' => e = .returned (.bool (kindC xs)) ∧ Below w.heap.size w w' :=
  isConn_walk xs (turnL xs) (eitherL xs (turnL xs)) (allL xs.length) (kindC xs) w (fun w => allR (h.len.symm ▸ h.one) (h.len.symm ▸ h.four) w) (fun w => turnedR h w) (fun w => eitherR' h h.turn w)
    (by rw [(h.either h.turn).len, h.len, (Rl.all h.one h.four).len]) (by rw [h.len]; exact (rows_eq (h.either h.turn) (Rl.all h.one h.four)).trans (isC h))
end Go.Proofs.Ytonmjcfkanldcaa
