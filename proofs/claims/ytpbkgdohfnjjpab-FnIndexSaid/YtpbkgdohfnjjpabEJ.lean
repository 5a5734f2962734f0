/-
  The program's CompIndex; for lists of at most 2^20 numbers.
-/
import Derived.Test.YtpbkgdohfnjjpabEH
namespace Go.Proofs.Ytpbkgdohfnjjpab
open Go.RowKit

theorem implCompIndex_any (ao : Option Addr) (ca : Nat) (xs : List Int) (w : World) (hl : xs.length ≤ 1048576) (hx : Rd w ao xs) :
    Calls Try.prog 16 #[.slice ao xs.length ca] w fun e w' => e = .returned (.tuple #[.int .i64 (ifN (relIn xs) (roundA xs)), .int .i64 (ifN (relIn xs) ((roundM xs - roundA xs : Nat) : Int)), .bool (relIn xs)]) ∧ Below w.heap.size w w' := by
  cases hp : relIn xs with
  | false =>
    have HP := Lib.hid hp
    clear hp
    go_enter Try.func16, Try.ntmps16
    go_wp2_with (go_at_call 40; refine (relationFrom_no _ _ _ _ hl HP.out hx).mono ?_; rintro e w1 ⟨rfl, hb⟩)
    go_ret3
    exact ⟨rfl, hb.alloc hb.size _⟩
  | true =>
    have R := Lib.hid (Rl.of hp)
    have HP := Lib.hid hp
    clear hp
    go_enter Try.func16, Try.ntmps16
    go_wp2_with fail
    refine (relationFrom_yes _ _ _ _ HP.out hx).mono ?_
    rintro e w1 ⟨rfl, hb⟩
    have B1 := hb.alloc hb.size (.cells #[.int .i64 xs.length, .int .i64 (rowAt xs 0), .int .i64 (rowAt xs 1), .int .i64 (rowAt xs 2), .int .i64 (rowAt xs 3)] 50)
    clear hb hx
    go_wp2_with fail
    refine (powersOf_any R.out _).mono ?_
    rintro e w2 ⟨v, m, a, hr, rfl, ho, hb2⟩
    obtain ⟨g, cap, rfl, _, _⟩ := pow_form ho (by omega)
    obtain ⟨e1, e2⟩ := round_eq R.out hr
    have hm := new_le R.out m hr.new
    have hper := fun w => period_any g cap m a hr.lt hm w
    have B2 := (B1.trans (hb2.mono B1.size)).alloc (Nat.le_trans B1.size hb2.size) (.cells #[.slice (some ⟨g, 0, none⟩) (m + 1) cap, .int .i64 a] 55)
    have pb := PbAt.new w2 (.slice (some ⟨g, 0, none⟩) (m + 1) cap) a
    have q0 := pb.cell0
    have q1 := pb.cell1
    have E := Lib.hid (And.intro e1 e2)
    have HPER := Lib.hid hper
    clear hb2 B1 hper e1 e2
    go_wp2
    go_region_with (go_at_call 50; refine (HPER.out _).mono ?_; rintro e w3 ⟨rfl, hb3⟩; have pb3 := pb.drew.below hb3 (by simp); have r0 := pb3.cell0; have r1 := pb3.cell1; have B3 := B2.drew.trans (hb3.mono B2.drew.size))
    all_goals
      go_wp2
      go_ret3
      exact ⟨by rw [E.out.1, E.out.2]; rfl, B3⟩
end Go.Proofs.Ytpbkgdohfnjjpab
