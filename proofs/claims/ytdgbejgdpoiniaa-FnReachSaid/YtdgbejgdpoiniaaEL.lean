/-
  The model's CompReach, CompPower, l2Star, CompStar; for lists of at most 2^20 numbers.
-/
import Derived.Test.YtdgbejgdpoiniaaEB
import Derived.Test.YtdgbejgdpoiniaaEF
namespace Go.Proofs.Ytdgbejgdpoiniaa
open Go.RowKit

theorem specCompReach_any (ao : Option Addr) (ca : Nat) (xs : List Int) (w : World) (hl : xs.length ≤ 1048576) (hx : Rd w ao xs) :
    Calls Try.prog 9 #[.slice ao xs.length ca] w (Gave w (ifR (relIn xs) (reachL xs)) (relIn xs)) := by
  have h1 := specRelIn_any ao ca xs w hl hx
  cases hp : relIn xs with
  | false =>
    rw [hp] at h1
    have H1 := Lib.hid h1
    clear h1 hp
    go_enter Try.func9, Try.ntmps9
    go_wp2_with (go_at_call 28; refine H1.out.mono ?_; rintro e w1 ⟨rfl, hd⟩)
    go_ret2
    have hh : w.heap.size = w1.heap.size := by rw [hd.heap]
    exact ⟨_, rfl, by rw [hh]; exact row_lit0 w1, (hd.below _).alloc (by omega) _⟩
  | true =>
    rw [hp] at h1
    have R := Lib.hid (Rl.of hp)
    have H1 := Lib.hid h1
    clear h1 hp
    go_enter Try.func9, Try.ntmps9
    go_wp2_with fail
    refine H1.out.mono ?_
    rintro e w1 ⟨rfl, hd⟩
    go_wp2_with fail
    refine (l2Reach_any ao ca xs w1 R.out.one R.out.four R.out.in16 (hd.rd hx)).mono ?_
    rintro e w2 ⟨v, rfl, ho, hb⟩
    go_wp2
    go_ret2
    have hh : w1.heap.size = w.heap.size := by rw [hd.heap]
    rw [hh] at ho hb
    exact ⟨v, rfl, by rw [show (ifR true (reachL xs)).length = xs.length from reachTo_len xs _]; exact ho, (hd.below _).trans hb⟩

end Go.Proofs.Ytdgbejgdpoiniaa
