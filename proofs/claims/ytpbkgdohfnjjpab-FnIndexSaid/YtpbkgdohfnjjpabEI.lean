/-
  The program's CompPower; for lists of at most 2^20 numbers.
-/
import Derived.Test.YtpbkgdohfnjjpabEK
import Derived.Test.YtpbkgdohfnjjpabEN
namespace Go.Proofs.Ytpbkgdohfnjjpab
open Go.RowKit

theorem implCompPower_any (ao : Option Addr) (ca : Nat) (xs : List Int) (k : Int) (w : World) (hl : xs.length ≤ 1048576) (hx : Rd w ao xs) :
    Calls Try.prog 11 #[.slice ao xs.length ca, .int .i64 k] w (Gave w (ifR (relIn xs && inB k 0 100) (powL xs k.toNat)) (relIn xs && inB k 0 100)) := by
  cases hp : relIn xs with
  | false =>
    have HP := Lib.hid hp
    clear hp
    go_enter Try.func11, Try.ntmps11
    go_wp2_with (go_at_call 40; refine (relationFrom_no _ _ _ _ hl HP.out hx).mono ?_; rintro e w1 ⟨rfl, hb⟩)
    go_ret2
    exact ⟨.slice none 0 0, rfl, World.ownsRow_nil _ _ _ _, hb.alloc hb.size _⟩
  | true =>
    have R := Lib.hid (Rl.of hp)
    have HP := Lib.hid hp
    clear hp
    rw [Bool.true_and]
    by_cases h1 : k < 0
    · have hB : inB k 0 100 = false := inB_no (by omega)
      have HB := Lib.hid hB
      clear hB
      rw [HB.out]
      go_enter Try.func11, Try.ntmps11
      go_wp2_with (go_at_call 40; refine (relationFrom_yes _ _ _ _ HP.out hx).mono ?_; rintro e w1 ⟨rfl, hb⟩)
      go_ret2
      exact ⟨.slice none 0 0, rfl, World.ownsRow_nil _ _ _ _, hb.alloc hb.size _⟩
    · by_cases h2 : 100 < k
      · have hB : inB k 0 100 = false := inB_no (by omega)
        have HB := Lib.hid hB
        clear hB
        rw [HB.out]
        go_enter Try.func11, Try.ntmps11
        go_wp2_with (go_at_call 40; refine (relationFrom_yes _ _ _ _ HP.out hx).mono ?_; rintro e w1 ⟨rfl, hb⟩)
        go_ret2
        exact ⟨.slice none 0 0, rfl, World.ownsRow_nil _ _ _ _, hb.alloc hb.size _⟩
      · obtain ⟨n, rfl⟩ : ∃ n : Nat, k = (n : Int) := ⟨k.toNat, by omega⟩
        have hB : inB (n : Int) 0 100 = true := inB_yes (by omega) (by omega)
        have HB := Lib.hid hB
        clear hB
        rw [HB.out, Int.toNat_natCast]
        go_enter Try.func11, Try.ntmps11
        go_wp2_with fail
        refine (relationFrom_yes _ _ _ _ HP.out hx).mono ?_
        rintro e w1 ⟨rfl, hb⟩
        have B1 := hb.alloc hb.size (.cells #[.int .i64 xs.length, .int .i64 (rowAt xs 0), .int .i64 (rowAt xs 1), .int .i64 (rowAt xs 2), .int .i64 (rowAt xs 3)] 50)
        clear hb hx
        go_wp2_with fail
        refine (powersOf_any R.out _).mono ?_
        rintro e w2 ⟨v, m, a, hr, rfl, ho, hb2⟩
        obtain ⟨g, cap, rfl, _, _⟩ := pow_form ho (by omega)
        have B2 := B1.trans (hb2.mono B1.size)
        clear hb2 B1
        go_wp2_with fail
        refine (at_any R.out hr g cap n (by omega) _ (own_mono ho (Nat.zero_le _))).mono ?_
        rintro e w3 ⟨rfl, hb3⟩
        have B3 := B2.trans (hb3.mono B2.size)
        clear hb3 B2 ho
        go_wp2_with fail
        refine (list_any (powL xs n) w3 (by rw [(R.out.pow n).len]; exact R.out.four)).mono ?_
        rintro e w4 ⟨v, rfl, ho, hb4⟩
        go_wp2
        go_ret2
        exact ⟨v, rfl, own_mono ho B3.size, B3.trans (hb4.mono B3.size)⟩
end Go.Proofs.Ytpbkgdohfnjjpab
