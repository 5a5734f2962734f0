/-
  The model's CompReach, CompPower, l2Star, CompStar; for lists of at most 2^20 numbers.
-/
import Derived.Test.YtdibnmbppbgjfaaEB
import Derived.Test.YtdibnmbppbgjfaaEF
namespace Go.Proofs.Ytdibnmbppbgjfaa
open Go.RowKit

theorem specCompReach_any (ao : Option Addr) (ca : Nat) (xs : List Int) (w : World) (hl : xs.length ≤ 1048576) (hx : Rd w ao xs) :
    Calls Try.prog 26 #[.slice ao xs.length ca] w (Gave w (ifR (relIn xs) (reachL xs)) (relIn xs)) := by
  have h1 := specRelIn_any ao ca xs w hl hx
  cases hp : relIn xs with
  | false =>
    rw [hp] at h1
    have H1 := Lib.hid h1
    clear h1 hp
    go_enter Try.func26, Try.ntmps26
    go_wp2_with (go_at_call 38; refine H1.out.mono ?_; rintro e w1 ⟨rfl, hd⟩)
    go_ret2
    have hh : w.heap.size = w1.heap.size := by rw [hd.heap]
    exact ⟨_, rfl, by rw [hh]; exact row_lit0 w1, (hd.below _).alloc (by omega) _⟩
  | true =>
    rw [hp] at h1
    have R := Lib.hid (Rl.of hp)
    have H1 := Lib.hid h1
    clear h1 hp
    go_enter Try.func26, Try.ntmps26
    go_wp2_with fail
    refine H1.out.mono ?_
    rintro e w1 ⟨rfl, hd⟩
    go_wp2_with fail
    refine (l2Reach_any ao ca xs w1 R.out.one R.out.four R.out.in16 (hd.rd hx)).mono ?_
    rintro e w2 ⟨v, rfl, ho, hb⟩
    go_wp2
    go_ret2
    have hh : w1.heap.size = w.heap.size := by rw [hd.heap]
    rw [hh] at ho hb
    exact ⟨v, rfl, by rw [show (ifR true (reachL xs)).length = xs.length from reachTo_len xs _]; exact ho, (hd.below _).trans hb⟩

set_option maxHeartbeats 4000000 in
theorem specCompPower_yes (ao : Option Addr) (ca : Nat) (xs : List Int) (n : Nat) (w : World) (hn : n ≤ 100) (hp : relIn xs = true) (hl : xs.length ≤ 1048576) (hx : Rd w ao xs) :
    Calls Try.prog 18 #[.slice ao xs.length ca, .int .i64 n] w (Gave w (powL xs n) true) := by
  have h1 := specRelIn_any ao ca xs w hl hx
  rw [hp] at h1
  have R := Lib.hid (Rl.of hp)
  have H1 := Lib.hid h1
  have hinB : inB (n : Int) 0 100 = true := inB_yes (by omega) (by omega)
  clear h1 hp
  go_enter Try.func18, Try.ntmps18
  go_wp2_with fail
  refine H1.out.mono ?_
  rintro e w1 ⟨rfl, hd⟩
  have hx1 := hd.rd hx
  have B1 := hd.below w.heap.size
  have hh : w.heap.size = w1.heap.size := by rw [hd.heap]
  have HH := Lib.hid hh
  clear hd hh hx
  go_wp2_with (go_at_call 39; refine (l6In_any _ _ _ _).mono ?_; rintro e w' ⟨rfl, rfl⟩)
  refine (l1Same_any xs.length w1 R.out.one R.out.four).mono ?_
  rintro e w2 ⟨v, rfl, ho, hb⟩
  have hB2 : Below w.heap.size w w2 := B1.trans (by rw [HH.out]; exact hb)
  have ho2 := own_mono ho (Nat.le_of_eq HH.out)
  have hx2 := hx1.below hb
  clear ho hb B1 hx1
  go_wp2
  go_loopw [6, 7] (fun v i wr => ∃ k : Nat, k ≤ n ∧ i = .int .i64 k ∧ wr.ownsRow w.heap.size 3 1 v xs.length ((powL xs k).map (Value.int .i64)) ∧ Rd wr ao xs ∧ Below w.heap.size w wr)
    (fun _ i _ => n - (intOf i).toNat)
  case atStart => exact ⟨0, Nat.zero_le _, rfl, ho2, hx2, hB2⟩
  case round =>
    clear ho2 hx2 hB2
    obtain ⟨k, hk, rfl, ho, hx, hB7⟩ := hrel
    by_cases hlt : k < n
    · obtain ⟨g, cap, rfl, hg1, hg2⟩ := own_form ho R.out.one
      have hlen := (R.out.pow k).len
      have hc := sComp (R.out.pow k) R.out (some ⟨g, 0, none⟩) ao cap ca wr (rd_own ho hlen) hx
      rw [hlen] at hc
      have HC := Lib.hid hc
      clear hc ho hlen
      go_wp2_with fail
      refine HC.out.mono ?_
      rintro e w3 ⟨v3, rfl, ho3, hb3⟩
      have hl3 : (compL (powL xs k) xs).length = xs.length := (R.out.pow (k + 1)).len
      rw [hl3] at ho3
      have ho4 := own_mono ho3 hB7.size
      have hx3 := hx.below hb3
      have hB3 := hB7.trans (hb3.mono hB7.size)
      clear ho3 hb3 hB7 hx hl3
      go_wp2
      go_roundw
      case rel => exact ⟨k + 1, by omega, by go_num, ho4, hx3, hB3⟩
      case measure => simp [intOf]; omega
    · obtain rfl : k = n := by omega
      go_wp2
      go_ret2
      exact ⟨_, rfl, by rw [(R.out.pow k).len]; exact ho, hB7⟩

theorem specCompPower_any (ao : Option Addr) (ca : Nat) (xs : List Int) (k : Int) (w : World) (hl : xs.length ≤ 1048576) (hx : Rd w ao xs) :
    Calls Try.prog 18 #[.slice ao xs.length ca, .int .i64 k] w (Gave w (ifR (relIn xs && inB k 0 100) (powL xs k.toNat)) (relIn xs && inB k 0 100)) := by
  have h1 := specRelIn_any ao ca xs w hl hx
  cases hp : relIn xs with
  | false =>
    rw [hp] at h1
    have H1 := Lib.hid h1
    clear h1 hp
    go_enter Try.func18, Try.ntmps18
    go_wp2_with (go_at_call 38; refine H1.out.mono ?_; rintro e w1 ⟨rfl, hd⟩)
    go_ret2
    have hh : w.heap.size = w1.heap.size := by rw [hd.heap]
    exact ⟨_, rfl, by rw [hh]; exact row_lit0 w1, (hd.below _).alloc (by omega) _⟩
  | true =>
    rw [Bool.true_and]
    cases hB : inB k 0 100 with
    | false =>
      rw [hp] at h1
      have H1 := Lib.hid h1
      clear h1 hp
      go_enter Try.func18, Try.ntmps18
      go_wp2_with fail
      refine H1.out.mono ?_
      rintro e w1 ⟨rfl, hd⟩
      go_wp2_with (go_at_call 39; refine (l6In_any _ _ _ _).mono ?_; rintro e w' ⟨rfl, rfl⟩)
      go_ret2
      have hh : w.heap.size = w1.heap.size := by rw [hd.heap]
      exact ⟨_, rfl, by rw [hh]; exact row_lit0 w1, (hd.below _).alloc (by omega) _⟩
    | true =>
      have hk : 0 ≤ k ∧ k ≤ 100 := of_decide_eq_true hB
      obtain ⟨n, rfl⟩ : ∃ n : Nat, k = (n : Int) := ⟨k.toNat, by omega⟩
      rw [Int.toNat_natCast]
      exact specCompPower_yes ao ca xs n w (by omega) hp hl hx
end Go.Proofs.Ytdibnmbppbgjfaa
