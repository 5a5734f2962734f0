/-
  The least point outside of a set: math/bits' TrailingZeros through its table.
-/
import Derived.Test.YtfmcmicneaolkaaDoorJS
namespace Go.Proofs.YtfmcmicneaolkaaDoor
open Go.RowKit

/-- the table's cells that are read -/
structure TabW (w : World) : Prop where
  c0 : w.cell? ⟨2, 0, none⟩ = some (.int .u8 0)
  c1 : w.cell? ⟨2, 1, none⟩ = some (.int .u8 1)
  c3 : w.cell? ⟨2, 3, none⟩ = some (.int .u8 2)
  c7 : w.cell? ⟨2, 7, none⟩ = some (.int .u8 3)
  c15 : w.cell? ⟨2, 15, none⟩ = some (.int .u8 4)
theorem TabW.keep {w w' : World} (h : TabW w) (hk : w'.heap[2]? = w.heap[2]?) : TabW w' :=
  ⟨(World.cell?_of_block hk).trans h.c0, (World.cell?_of_block hk).trans h.c1, (World.cell?_of_block hk).trans h.c3, (World.cell?_of_block hk).trans h.c7, (World.cell?_of_block hk).trans h.c15⟩

theorem lo_of : ∀ t : Fin 16, lo (t.val : Int) = ([0, 1, 0, 2, 0, 1, 0, 3, 0, 1, 0, 2, 0, 1, 0, 4] : List Nat).getD t.val 0 := by decide +kernel
set_option maxRecDepth 20000 in
set_option maxHeartbeats 8000000 in
theorem tz64_any (t : Fin 16) (w : World) (T : TabW w) : Calls Tryd.prog 37 #[.int .u64 (18446744073709551615 - (t.val : Int))] w fun e w' => e = .returned (.int .i64 (lo (t.val : Int) : Nat)) ∧ w = w' := by
  rw [lo_of t]
  obtain ⟨c0, c1, c3, c7, c15⟩ := T
  obtain ⟨t, ht⟩ := t
  rcases (by omega : t = 0 ∨ t = 1 ∨ t = 2 ∨ t = 3 ∨ t = 4 ∨ t = 5 ∨ t = 6 ∨ t = 7 ∨ t = 8 ∨ t = 9 ∨ t = 10 ∨ t = 11 ∨ t = 12 ∨ t = 13 ∨ t = 14 ∨ t = 15) with rfl | rfl | rfl | rfl | rfl | rfl | rfl | rfl | rfl | rfl | rfl | rfl | rfl | rfl | rfl | rfl
  · have hx : IntKind.u64.wrap (bits BinOp.and IntKind.u64 18446744073709551615 (IntKind.u64.wrap (-18446744073709551615)) * 285870213051353865) / 288230376151711744 = 0 := by decide +kernel
    go_enter Tryd.func37, Tryd.ntmps37
    go_wp2
    go_ret
    exact ⟨rfl, rfl⟩
  · have hx : IntKind.u64.wrap (bits BinOp.and IntKind.u64 18446744073709551614 (IntKind.u64.wrap (-18446744073709551614)) * 285870213051353865) / 288230376151711744 = 1 := by decide +kernel
    go_enter Tryd.func37, Tryd.ntmps37
    go_wp2
    go_ret
    exact ⟨rfl, rfl⟩
  · have hx : IntKind.u64.wrap (bits BinOp.and IntKind.u64 18446744073709551613 (IntKind.u64.wrap (-18446744073709551613)) * 285870213051353865) / 288230376151711744 = 0 := by decide +kernel
    go_enter Tryd.func37, Tryd.ntmps37
    go_wp2
    go_ret
    exact ⟨rfl, rfl⟩
  · have hx : IntKind.u64.wrap (bits BinOp.and IntKind.u64 18446744073709551612 (IntKind.u64.wrap (-18446744073709551612)) * 285870213051353865) / 288230376151711744 = 3 := by decide +kernel
    go_enter Tryd.func37, Tryd.ntmps37
    go_wp2
    go_ret
    exact ⟨rfl, rfl⟩
  · have hx : IntKind.u64.wrap (bits BinOp.and IntKind.u64 18446744073709551611 (IntKind.u64.wrap (-18446744073709551611)) * 285870213051353865) / 288230376151711744 = 0 := by decide +kernel
    go_enter Tryd.func37, Tryd.ntmps37
    go_wp2
    go_ret
    exact ⟨rfl, rfl⟩
  · have hx : IntKind.u64.wrap (bits BinOp.and IntKind.u64 18446744073709551610 (IntKind.u64.wrap (-18446744073709551610)) * 285870213051353865) / 288230376151711744 = 1 := by decide +kernel
    go_enter Tryd.func37, Tryd.ntmps37
    go_wp2
    go_ret
    exact ⟨rfl, rfl⟩
  · have hx : IntKind.u64.wrap (bits BinOp.and IntKind.u64 18446744073709551609 (IntKind.u64.wrap (-18446744073709551609)) * 285870213051353865) / 288230376151711744 = 0 := by decide +kernel
    go_enter Tryd.func37, Tryd.ntmps37
    go_wp2
    go_ret
    exact ⟨rfl, rfl⟩
  · have hx : IntKind.u64.wrap (bits BinOp.and IntKind.u64 18446744073709551608 (IntKind.u64.wrap (-18446744073709551608)) * 285870213051353865) / 288230376151711744 = 7 := by decide +kernel
    go_enter Tryd.func37, Tryd.ntmps37
    go_wp2
    go_ret
    exact ⟨rfl, rfl⟩
  · have hx : IntKind.u64.wrap (bits BinOp.and IntKind.u64 18446744073709551607 (IntKind.u64.wrap (-18446744073709551607)) * 285870213051353865) / 288230376151711744 = 0 := by decide +kernel
    go_enter Tryd.func37, Tryd.ntmps37
    go_wp2
    go_ret
    exact ⟨rfl, rfl⟩
  · have hx : IntKind.u64.wrap (bits BinOp.and IntKind.u64 18446744073709551606 (IntKind.u64.wrap (-18446744073709551606)) * 285870213051353865) / 288230376151711744 = 1 := by decide +kernel
    go_enter Tryd.func37, Tryd.ntmps37
    go_wp2
    go_ret
    exact ⟨rfl, rfl⟩
  · have hx : IntKind.u64.wrap (bits BinOp.and IntKind.u64 18446744073709551605 (IntKind.u64.wrap (-18446744073709551605)) * 285870213051353865) / 288230376151711744 = 0 := by decide +kernel
    go_enter Tryd.func37, Tryd.ntmps37
    go_wp2
    go_ret
    exact ⟨rfl, rfl⟩
  · have hx : IntKind.u64.wrap (bits BinOp.and IntKind.u64 18446744073709551604 (IntKind.u64.wrap (-18446744073709551604)) * 285870213051353865) / 288230376151711744 = 3 := by decide +kernel
    go_enter Tryd.func37, Tryd.ntmps37
    go_wp2
    go_ret
    exact ⟨rfl, rfl⟩
  · have hx : IntKind.u64.wrap (bits BinOp.and IntKind.u64 18446744073709551603 (IntKind.u64.wrap (-18446744073709551603)) * 285870213051353865) / 288230376151711744 = 0 := by decide +kernel
    go_enter Tryd.func37, Tryd.ntmps37
    go_wp2
    go_ret
    exact ⟨rfl, rfl⟩
  · have hx : IntKind.u64.wrap (bits BinOp.and IntKind.u64 18446744073709551602 (IntKind.u64.wrap (-18446744073709551602)) * 285870213051353865) / 288230376151711744 = 1 := by decide +kernel
    go_enter Tryd.func37, Tryd.ntmps37
    go_wp2
    go_ret
    exact ⟨rfl, rfl⟩
  · have hx : IntKind.u64.wrap (bits BinOp.and IntKind.u64 18446744073709551601 (IntKind.u64.wrap (-18446744073709551601)) * 285870213051353865) / 288230376151711744 = 0 := by decide +kernel
    go_enter Tryd.func37, Tryd.ntmps37
    go_wp2
    go_ret
    exact ⟨rfl, rfl⟩
  · have hx : IntKind.u64.wrap (bits BinOp.and IntKind.u64 18446744073709551600 (IntKind.u64.wrap (-18446744073709551600)) * 285870213051353865) / 288230376151711744 = 15 := by decide +kernel
    go_enter Tryd.func37, Tryd.ntmps37
    go_wp2
    go_ret
    exact ⟨rfl, rfl⟩

theorem trailing_any (t : Fin 16) (w : World) (T : TabW w) : Calls Tryd.prog 30 #[.int .u64 (18446744073709551615 - (t.val : Int))] w fun e w' => e = .returned (.int .i64 (lo (t.val : Int) : Nat)) ∧ w = w' := by
  have HC := Lib.hid (tz64_any t w T)
  have ht := t.isLt
  clear T
  go_enter Tryd.func30, Tryd.ntmps30
  go_wp2_with fail
  refine HC.out.mono ?_
  rintro e w' ⟨rfl, rfl⟩
  go_wp2
  go_ret
  exact ⟨rfl, rfl⟩
theorem leastOutside_any (t : Fin 16) (w : World) (T : TabW w) : Calls Tryd.prog 19 #[.int .i64 (t.val : Int)] w fun e w' => e = .returned (.int .i64 (lo (t.val : Int) : Nat)) ∧ w = w' := by
  have HC := Lib.hid (trailing_any t w T)
  have ht := t.isLt
  obtain ⟨l, hl⟩ : ∃ l, lo (t.val : Int) = l := ⟨_, rfl⟩
  rw [hl] at HC ⊢
  clear T hl
  obtain ⟨t, ht2⟩ := t
  rcases (by omega : t = 0 ∨ t = 1 ∨ t = 2 ∨ t = 3 ∨ t = 4 ∨ t = 5 ∨ t = 6 ∨ t = 7 ∨ t = 8 ∨ t = 9 ∨ t = 10 ∨ t = 11 ∨ t = 12 ∨ t = 13 ∨ t = 14 ∨ t = 15) with rfl | rfl | rfl | rfl | rfl | rfl | rfl | rfl | rfl | rfl | rfl | rfl | rfl | rfl | rfl | rfl
  all_goals
    go_enter Tryd.func19, Tryd.ntmps19
    go_wp2_with fail
    refine HC.out.mono ?_
    rintro e w' ⟨rfl, rfl⟩
    go_wp2
    go_ret
    exact ⟨rfl, rfl⟩
end Go.Proofs.YtfmcmicneaolkaaDoor
