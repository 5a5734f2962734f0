/-
  The walk of FnExactKindCount, out of the contracts of the model's and of the program's KindCount; for whatever the arguments read as.
-/
import Derived.Test.YtfcpfhffkfbgdaaHX
namespace Go.Proofs.Ytfcpfhffkfbgdaa
open Go.RowKit

theorem exactKindCount_long1 (x0 : Int) (st1 : ByteArray) (w : World) (hm1 : st1.size ≤ maxLen) (hl1 : ¬ st1.size ≤ 1048576) :
    Calls Try.prog 8 #[.int .i64 x0, .string st1] w fun e w' => e = .returned (.bool true) ∧ Below w.heap.size w w' := by
  unfold maxLen at hm1
  go_enter Try.func8, Try.ntmps8
  go_wp2
  go_ret
  exact ⟨rfl, Below.refl _ _⟩

set_option maxHeartbeats 4000000 in
theorem exactKindCount_walk (x0 : Int) (st1 : ByteArray) (n0 : Int) (ok : Bool) (w : World) (hl1 : st1.size ≤ 1048576)
    (hS : ∀  (w : World), Calls Try.prog 28 #[.int .i64 x0, .string st1] w (fun e w' => e = .returned (.tuple #[.int .i64 n0, .bool ok]) ∧ Below w.heap.size w w'))
    (hI : ∀  (w : World), Calls Try.prog 29 #[.int .i64 x0, .string st1] w (fun e w' => e = .returned (.tuple #[.int .i64 n0, .bool ok]) ∧ Below w.heap.size w w')) :
    Calls Try.prog 8 #[.int .i64 x0, .string st1] w fun e w' => e = .returned (.bool true) ∧ Below w.heap.size w w' := by
  have HS := Lib.hid hS
  have HI := Lib.hid hI
  clear hS hI
  have eok : (ok != ok) = false := by simp
  have B0 := Below.refl w.heap.size w
  go_enter Try.func8, Try.ntmps8
  go_wp2_with fail
  refine (HS.out  _ ).mono fun e w1 h1 => ?_
  obtain ⟨rfl, b1⟩ := h1
  have B1 := B0.trans (b1.mono B0.size)
  have s1 := b1.size
  clear b1 B0
  go_wp2_with fail
  refine (HI.out  _ ).mono fun e w2 h2 => ?_
  obtain ⟨rfl, b2⟩ := h2
  have B2 := B1.trans (b2.mono B1.size)
  have s2 := b2.size
  clear b2 B1
  go_wp2
  go_ret
  exact ⟨rfl, B2⟩
end Go.Proofs.Ytfcpfhffkfbgdaa
