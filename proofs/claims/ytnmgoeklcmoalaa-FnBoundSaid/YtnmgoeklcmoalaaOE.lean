/-
  Least orders: OrderOf of the program and of the model; for lists of at most 2^20 numbers.
-/
import Derived.Test.YtnmgoeklcmoalaaOA
import Derived.Test.YtnmgoeklcmoalaaEN
namespace Go.Proofs.Ytnmgoeklcmoalaa
open Go.RowKit

def ofB (xs : List Int) : Bool := relIn xs && ordB (starL xs)
theorem specOrderOf_any (ao : Option Addr) (ca : Nat) (xs : List Int) (w : World) (hl : xs.length ≤ 1048576) (hx : Rd w ao xs) :
    Calls Try.prog 116 #[.slice ao xs.length ca] w (Gave w (ifR (ofB xs) (starL xs)) (ofB xs)) := by
  have h1 := specRelIn_any ao ca xs w hl hx
  unfold ofB
  cases hp : relIn xs with
  | false =>
    rw [Bool.false_and]
    rw [hp] at h1
    have H1 := Lib.hid h1
    clear h1 hp
    go_enter Try.func116, Try.ntmps116
    go_wp2_with (go_at_call 28; refine H1.out.mono ?_; rintro e w1 ⟨rfl, hd⟩)
    go_ret2
    have hh : w.heap.size = w1.heap.size := by rw [hd.heap]
    exact ⟨_, rfl, by rw [hh]; exact row_lit0 w1, (hd.below _).alloc (by omega) _⟩
  | true =>
    rw [Bool.true_and]
    rw [hp] at h1
    have R := Lib.hid (Rl.of hp)
    have H1 := Lib.hid h1
    have hsl := (Rl.of hp).star.len
    have h4 := (Rl.of hp).four
    clear h1 hp
    go_enter Try.func116, Try.ntmps116
    go_wp2_with fail
    refine H1.out.mono ?_
    rintro e w1 ⟨rfl, hd⟩
    have B1 := hd.below w.heap.size
    have hh : w1.heap.size = w.heap.size := by rw [hd.heap]
    have hx1 := hd.rd hx
    have HH := Lib.hid hh
    have HSL := Lib.hid hsl
    clear hd hx hh hsl
    go_wp2_with fail
    refine (l2Star_any ao ca xs w1 R.out hx1).mono ?_
    rintro e w2 ⟨v, rfl, ho, hb⟩
    rw [HH.out] at ho hb
    have B2 := B1.trans hb
    rw [← HSL.out] at ho
    have hse : (starL xs).length ≤ 1048576 := by rw [HSL.out]; omega
    obtain ⟨so, cs, rfl, hrs⟩ := row_rd ho
    have hq := specOrderIn_any so cs (starL xs) w2 hse hrs
    have HQ := Lib.hid hq
    clear hb B1 hq hse
    clear hrs HSL
    cases hb : ordB (starL xs) with
    | false =>
      have hq := HQ.out
      rw [hb] at hq
      have HQ := Lib.hid hq
      have HB := Lib.hid hb
      clear hq hb
      go_wp2_with fail
      refine HQ.out.mono ?_
      rintro e w3 ⟨rfl, hb3⟩
      have B3 := B2.trans (hb3.mono B2.size)
      have hr := own_mono (row_lit0 w3) B3.size
      go_wp2
      go_ret2
      exact ⟨_, by rw [HB.out]; rfl, by rw [HB.out]; exact hr, B3.alloc B3.size _⟩
    | true =>
      have hq := HQ.out
      rw [hb] at hq
      have HQ := Lib.hid hq
      have HB := Lib.hid hb
      clear hq hb
      go_wp2_with fail
      refine HQ.out.mono ?_
      rintro e w3 ⟨rfl, hb3⟩
      have B3 := B2.trans (hb3.mono B2.size)
      have ho3 := own_keep ho hb3 (fun q hq => (ho.lt q hq).2)
      clear ho hb3
      go_wp2
      go_ret2
      exact ⟨_, by rw [HB.out]; rfl, by rw [HB.out]; exact ho3, B3⟩
end Go.Proofs.Ytnmgoeklcmoalaa
