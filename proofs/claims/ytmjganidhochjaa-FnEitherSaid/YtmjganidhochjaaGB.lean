/-
  Contracts of the program's functions on relations, as laws on drawn relations ask them.
-/
import Derived.Test.YtmjganidhochjaaDI
import Derived.Test.YtmjganidhochjaaEN
import Derived.Test.YtmjganidhochjaaGA
import Derived.Test.YtmjganidhochjaaER
namespace Go.Proofs.Ytmjganidhochjaa
open Go.RowKit

set_option maxHeartbeats 1000000 in
theorem sameInts_any (ao bo : Option Addr) (ca cb : Nat) (xs ys : List Int) (w : World) (hl : xs.length ≤ 1048576) (hl2 : ys.length ≤ 1048576) (hx : Rd w ao xs) (hy : Rd w bo ys) :
    Calls Try.prog 8 #[.slice ao xs.length ca, .slice bo ys.length cb] w fun e w' => e = .returned (.bool (decide (xs = ys))) ∧ Dn w w' := by
  go_enter Try.func8, Try.ntmps8
  by_cases hne : xs.length = ys.length
  · have h1 : ((xs.length : Int) != (ys.length : Int)) = false := by simp [hne]
    have hlen := Lib.hid hne
    clear hne
    go_wp2
    go_loopw [5] (fun i wr => ∃ k : Nat, k ≤ xs.length ∧ i = .int .i64 k ∧ xs.take k = ys.take k ∧ Dn w wr)
      (fun i _ => xs.length - (intOf i).toNat)
    case atStart => exact ⟨0, Nat.zero_le _, rfl, rfl, Dn.refl _⟩
    case round =>
      obtain ⟨k, hk, rfl, ht, hd⟩ := hrel
      have HT := Lib.hid ht
      clear ht
      by_cases hlt : k < xs.length
      · have hlt2 : k < ys.length := by rw [← hlen.out]; exact hlt
        obtain ⟨b, off, x, hxk, rfl, hbl, hc1⟩ := (hd.rd hx).get k hlt
        obtain ⟨b2, off2, y, hyk, rfl, hbl2, hc2⟩ := (hd.rd hy).get k hlt2
        have hi1 : ((k : Nat) : Int) < (xs.length : Int) := by omega
        have hi2 : ((k : Nat) : Int) < (ys.length : Int) := by omega
        have HX := Lib.hid hxk
        have HY := Lib.hid hyk
        clear hx hy hxk hyk
        go_wp2
        go_quiet (fail)
        by_cases heq : x = y
        · have h2 : (x != y) = false := by simp [heq]
          have HE := Lib.hid heq
          clear heq
          go_wp2
          go_roundw
          case rel =>
            refine ⟨k + 1, by omega, by go_num, ?_, hd.trans (Dn.drewN _ _)⟩
            rw [List.take_add_one, List.take_add_one, HT.out, HX.out, HY.out, HE.out]
          case measure => simp [intOf]; omega
        · go_wp2
          go_ret
          have hd' : ¬ xs = ys := by
            rintro rfl
            have := HX.out.symm.trans HY.out
            exact heq (by simpa using this)
          exact ⟨by simp [hd'], hd.trans (Dn.drewN _ _)⟩
      · go_wp2
        go_ret
        obtain rfl : k = xs.length := by omega
        have := HT.out
        rw [List.take_length, hlen.out, List.take_length] at this
        exact ⟨by simp [this], hd⟩
  · have h1 : ((xs.length : Int) != (ys.length : Int)) = true := by simp; omega
    go_wp2
    go_ret
    refine ⟨?_, Dn.refl _⟩
    have : ¬ xs = ys := fun h => hne (by rw [h])
    simp [this]

theorem sameInts_refl (ao bo : Option Addr) (ca cb : Nat) (xs : List Int) (w : World) (hl : xs.length ≤ 1048576) (hx : Rd w ao xs) (hy : Rd w bo xs) :
    Calls Try.prog 8 #[.slice ao xs.length ca, .slice bo xs.length cb] w fun e w' => e = .returned (.bool true) ∧ Dn w w' := by
  refine (sameInts_any ao bo ca cb xs xs w hl hl hx hy).mono ?_
  rintro e w' ⟨rfl, hd⟩
  exact ⟨by simp, hd⟩

theorem rl_short {n : Nat} {xs : List Int} (h : Rl n xs) : xs.length ≤ 1048576 := by have := h.len; have := h.four; omega
theorem two_ok {n : Nat} {xs ys : List Int} (h : Rl n xs) (k : Rl n ys) : twoIn xs ys = true := by
  unfold twoIn
  rw [h.ok, k.ok, h.len, k.len]
  simp
theorem cOther {n : Nat} {xs : List Int} (h : Rl n xs) (ao : Option Addr) (ca : Nat) (w : World) (hx : Rd w ao xs) : Calls Try.prog 6 #[.slice ao xs.length ca] w (Gave w (otherL xs) true) := by
  have := implRelOther_any ao ca xs w (rl_short h) hx
  rw [h.ok] at this
  exact this
theorem cBelow {n : Nat} {xs ys : List Int} (h : Rl n xs) (k : Rl n ys) (hb : belowB xs ys = true) (ao bo : Option Addr) (ca cb : Nat) (w : World) (hx : Rd w ao xs) (hy : Rd w bo ys) : Calls Try.prog 14 #[.slice ao xs.length ca, .slice bo ys.length cb] w fun e w' => e = .returned (.bool true) ∧ Below w.heap.size w w' := by
  have := implRelBelow_any ao bo ca cb xs ys w (rl_short h) (rl_short k) hx hy
  rw [two_ok h k, hb] at this
  exact this
theorem sameInts_eq (ao bo : Option Addr) (ca cb : Nat) (xs ys : List Int) (w : World) (he : xs = ys) (hl : xs.length ≤ 1048576) (hx : Rd w ao xs) (hy : Rd w bo ys) :
    Calls Try.prog 8 #[.slice ao xs.length ca, .slice bo ys.length cb] w fun e w' => e = .returned (.bool true) ∧ Dn w w' := by
  subst he
  exact sameInts_refl ao bo ca cb xs w hl hx hy
end Go.Proofs.Ytmjganidhochjaa
