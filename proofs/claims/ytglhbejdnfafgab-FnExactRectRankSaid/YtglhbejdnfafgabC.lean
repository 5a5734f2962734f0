/-
  Contracts of l6In, isCount, allPoints, isSet and of the model's RelIn: it tells whether a list is a relation; for lists of at most 2^20 numbers.
-/
import Derived.Test.YtglhbejdnfafgabB
namespace Go.Proofs.Ytglhbejdnfafgab
open Go.RowKit

/-- a row of n points -/
def rowIn (n : Nat) (x : Int) : Bool := decide (0 ≤ x) && decide (x < 2 ^ n)
/-- a relation's list -/
def relIn (xs : List Int) : Bool := decide (1 ≤ xs.length ∧ xs.length ≤ 4) && xs.all (rowIn xs.length)

/-- a number in a range -/
def inB (n low high : Int) : Bool := decide (low ≤ n ∧ n ≤ high)

theorem row_top (n : Nat) (x : Int) (h1 : 1 ≤ n) (h2 : n ≤ 4) : inB x 0 (wrap64 (wrap64 (2 ^ n) - 1)) = rowIn n x := by
  have e : wrap64 (wrap64 (2 ^ n) - 1) = 2 ^ n - 1 := by
    rcases (by omega : n = 1 ∨ n = 2 ∨ n = 3 ∨ n = 4) with rfl | rfl | rfl | rfl <;> decide +kernel
  rw [e]
  unfold rowIn inB
  rcases (by omega : n = 1 ∨ n = 2 ∨ n = 3 ∨ n = 4) with rfl | rfl | rfl | rfl <;> by_cases h : 0 ≤ x <;> simp [h] <;> omega

theorem l6In_any (n low high : Int) (w : World) :
    Calls Try.prog 18 #[.int .i64 n, .int .i64 low, .int .i64 high] w fun e w' => e = .returned (.bool (inB n low high)) ∧ w = w' := by
  unfold inB
  go_enter Try.func18, Try.ntmps18
  by_cases h : low ≤ n
  · by_cases h2 : n ≤ high
    · go_wp2
      go_ret
      exact ⟨by simp [h, h2], rfl⟩
    · go_wp2
      go_ret
      exact ⟨by simp [h2], rfl⟩
  · go_wp2
    go_ret
    exact ⟨by simp; omega, rfl⟩

theorem relIn_bad (xs : List Int) (k : Nat) (x : Int) (h : xs[k]? = some x) (hb : rowIn xs.length x = false) : relIn xs = false := by
  unfold relIn
  rw [Bool.and_eq_false_iff]
  right
  rw [List.all_eq_false]
  exact ⟨x, List.mem_of_getElem? h, by simp [hb]⟩

theorem isCount_any (n : Int) (w : World) :
    Calls Try.prog 19 #[.int .i64 n] w fun e w' => e = .returned (.bool (inB n 1 4)) ∧ w = w' := by
  unfold inB
  go_enter Try.func19, Try.ntmps19
  by_cases h : 1 ≤ n
  · by_cases h2 : n ≤ 4
    · go_wp2
      go_ret
      exact ⟨by simp [h, h2], rfl⟩
    · go_wp2
      go_ret
      exact ⟨by simp [h2], rfl⟩
  · go_wp2
    go_ret
    exact ⟨by simp; omega, rfl⟩

theorem inB_yes {n low high : Int} (h : low ≤ n) (h2 : n ≤ high) : inB n low high = true := decide_eq_true ⟨h, h2⟩
theorem inB_no {n low high : Int} (h : ¬ (low ≤ n ∧ n ≤ high)) : inB n low high = false := decide_eq_false h

theorem relIn_len {xs : List Int} (h : relIn xs = true) : 1 ≤ xs.length ∧ xs.length ≤ 4 := by
  unfold relIn at h
  rw [Bool.and_eq_true] at h
  exact of_decide_eq_true h.1
theorem relIn_row {xs : List Int} (h : relIn xs = true) {k : Nat} {x : Int} (hx : xs[k]? = some x) : rowIn xs.length x = true := by
  unfold relIn at h
  rw [Bool.and_eq_true, List.all_eq_true] at h
  exact h.2 x (List.mem_of_getElem? hx)

theorem allPoints_any (n : Nat) (h1 : 1 ≤ n) (h2 : n ≤ 4) (w : World) :
    Calls Try.prog 34 #[.int .i64 n] w fun e w' => e = .returned (.int .i64 ((2 ^ n - 1 : Nat) : Int)) ∧ w = w' := by
  rcases (by omega : n = 1 ∨ n = 2 ∨ n = 3 ∨ n = 4) with rfl | rfl | rfl | rfl
  all_goals
    go_enter Try.func34, Try.ntmps34
    go_wp2
    go_ret
    exact ⟨rfl, rfl⟩

theorem isSet_any (x : Int) (n : Nat) (h1 : 1 ≤ n) (h2 : n ≤ 4) (w : World) :
    Calls Try.prog 28 #[.int .i64 x, .int .i64 n] w fun e w' => e = .returned (.bool (rowIn n x)) ∧ w = w' := by
  go_enter Try.func28, Try.ntmps28
  by_cases h : 0 ≤ x
  · go_wp2_with (go_at_call 34; refine (allPoints_any n h1 h2 _).mono ?_; rintro e w' ⟨rfl, rfl⟩)
    go_ret
    refine ⟨?_, rfl⟩
    unfold rowIn
    rcases (by omega : n = 1 ∨ n = 2 ∨ n = 3 ∨ n = 4) with rfl | rfl | rfl | rfl <;> simp [h] <;> omega
  · go_wp2
    go_ret
    unfold rowIn
    exact ⟨by simp; omega, rfl⟩

set_option maxHeartbeats 1000000 in
theorem specRelIn_yes (ao : Option Addr) (cap : Nat) (xs : List Int) (w : World) (h1 : 1 ≤ xs.length) (h2 : xs.length ≤ 4) (hr : Rd w ao xs) :
    Calls Try.prog 23 #[.slice ao xs.length cap] w fun e w' => e = .returned (.bool (relIn xs)) ∧ Dn w w' := by
  obtain ⟨n, hn⟩ : ∃ n, n = xs.length := ⟨_, rfl⟩
  rw [← hn] at h1 h2
  go_enter Try.func23, Try.ntmps23
  rw [← hn]
  go_wp2
  go_loopw [3] (fun i wr => ∃ k : Nat, k ≤ n ∧ i = .int .i64 k ∧ (xs.take k).all (rowIn n) = true ∧ Dn w wr)
    (fun i _ => n - (intOf i).toNat)
  case atStart => exact ⟨0, Nat.zero_le _, rfl, rfl, Dn.refl _⟩
  case round =>
    obtain ⟨k, hk, rfl, ht, hd⟩ := hrel
    have HT := Lib.hid ht
    have HN := Lib.hid hn
    clear ht hn
    by_cases hlt : k < n
    · obtain ⟨b, off, x, hxk, rfl, hbl, hc1⟩ := (hd.rd hr).get k (by rw [← HN.out]; exact hlt)
      have HX := Lib.hid hxk
      have hi1 : ((k : Nat) : Int) < (n : Int) := by omega
      clear hr hxk
      go_wp2
      go_quiet ((go_at_call 18; exact quiet_eq (l6In_any _ _ _ _)))
      go_wp2
      · go_ret
        have hb : (!inB x 0 (wrap64 (wrap64 (2 ^ n) - 1))) = true := by assumption
        rw [row_top n x h1 h2, HN.out, Bool.not_eq_true'] at hb
        exact ⟨by rw [relIn_bad xs k x HX.out hb]; rfl, hd.trans (Dn.drewN _ _)⟩
      · have hb : (!inB x 0 (wrap64 (wrap64 (2 ^ n) - 1))) = false := by assumption
        rw [row_top n x h1 h2, Bool.not_eq_false'] at hb
        go_roundw
        case rel => exact ⟨k + 1, by omega, by go_num, by rw [List.take_add_one, HX.out]; simp [HT.out, hb], hd.trans (Dn.drewN _ _)⟩
        case measure => simp [intOf]; omega
    · go_wp2_with (go_at_call 18; refine (l6In_any _ _ _ _).mono ?_; rintro e w' ⟨rfl, rfl⟩)
      go_ret
      refine ⟨?_, hd⟩
      obtain rfl : k = n := by omega
      have ht := HT.out
      rw [HN.out, List.take_length] at ht
      unfold relIn
      rw [ht, ← HN.out, decide_eq_true (by omega : 1 ≤ k ∧ k ≤ 4)]
      have hq : inB (k : Int) 1 4 = true := by unfold inB; exact decide_eq_true (by omega)
      simp [hq]

/-- a longer or an empty list is none -/
theorem specRelIn_no (ao : Option Addr) (cap : Nat) (xs : List Int) (w : World) (h1 : xs.length = 0 ∨ 4 < xs.length) (hl : xs.length ≤ 1048576) (hr : Rd w ao xs) :
    Calls Try.prog 23 #[.slice ao xs.length cap] w fun e w' => e = .returned (.bool false) ∧ Dn w w' := by
  obtain ⟨n, hn⟩ : ∃ n, n = xs.length := ⟨_, rfl⟩
  rw [← hn] at h1 hl
  go_enter Try.func23, Try.ntmps23
  rw [← hn]
  go_wp2
  go_loopw [3] (fun i wr => ∃ k : Nat, k ≤ n ∧ i = .int .i64 k ∧ Dn w wr)
    (fun i _ => n - (intOf i).toNat)
  case atStart => exact ⟨0, Nat.zero_le _, rfl, Dn.refl _⟩
  case round =>
    obtain ⟨k, hk, rfl, hd⟩ := hrel
    have HN := Lib.hid hn
    clear hn
    by_cases hlt : k < n
    · obtain ⟨b, off, x, hxk, rfl, hbl, hc1⟩ := (hd.rd hr).get k (by rw [← HN.out]; exact hlt)
      have HX := Lib.hid hxk
      have hi1 : ((k : Nat) : Int) < (n : Int) := by omega
      clear hr hxk h1
      go_wp2
      go_quiet ((go_at_call 18; exact quiet_eq (l6In_any _ _ _ _)))
      go_wp2
      · go_ret
        exact ⟨rfl, hd.trans (Dn.drewN _ _)⟩
      · go_roundw
        case rel => exact ⟨k + 1, by omega, by go_num, hd.trans (Dn.drewN _ _)⟩
        case measure => simp [intOf]; omega
    · go_wp2_with (go_at_call 18; refine (l6In_any _ _ _ _).mono ?_; rintro e w' ⟨rfl, rfl⟩)
      go_ret
      obtain rfl : k = n := by omega
      have hq : inB (k : Int) 1 4 = false := by unfold inB; exact decide_eq_false (by omega)
      exact ⟨by simp [hq], hd⟩

theorem specRelIn_any (ao : Option Addr) (cap : Nat) (xs : List Int) (w : World) (hl : xs.length ≤ 1048576) (hr : Rd w ao xs) :
    Calls Try.prog 23 #[.slice ao xs.length cap] w fun e w' => e = .returned (.bool (relIn xs)) ∧ Dn w w' := by
  by_cases h : 1 ≤ xs.length ∧ xs.length ≤ 4
  · exact specRelIn_yes ao cap xs w h.1 h.2 hr
  · refine (specRelIn_no ao cap xs w (by omega) hl hr).mono ?_
    rintro e w' ⟨rfl, hd⟩
    exact ⟨by simp [relIn, h], hd⟩
end Go.Proofs.Ytglhbejdnfafgab
