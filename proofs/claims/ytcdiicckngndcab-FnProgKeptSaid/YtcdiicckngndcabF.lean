/-
  What the reading of a slice of ints gives; no conditions.
-/
import Derived.Test.YtcdiicckngndcabB
namespace Go.Proofs.Ytcdiicckngndcab
open Go.RowKit

/-- a row of n points -/
def rowIn (n : Nat) (x : Int) : Bool := decide (0 ≤ x) && decide (x < 2 ^ n)
/-- a relation's list -/
def relIn (xs : List Int) : Bool := decide (1 ≤ xs.length ∧ xs.length ≤ 4) && xs.all (rowIn xs.length)

/-- a number in a range -/
def inB (n low high : Int) : Bool := decide (low ≤ n ∧ n ≤ high)

theorem row_top (n : Nat) (x : Int) (h1 : 1 ≤ n) (h2 : n ≤ 4) : inB x 0 (wrap64 (wrap64 (2 ^ n) - 1)) = rowIn n x := by
  have e : wrap64 (wrap64 (2 ^ n) - 1) = 2 ^ n - 1 := by
    rcases (by omega : n = 1 ∨ n = 2 ∨ n = 3 ∨ n = 4) with rfl | rfl | rfl | rfl <;> decide +kernel
  rw [e]
  unfold rowIn inB
  rcases (by omega : n = 1 ∨ n = 2 ∨ n = 3 ∨ n = 4) with rfl | rfl | rfl | rfl <;> by_cases h : 0 ≤ x <;> simp [h] <;> omega

theorem l6In_any (n low high : Int) (w : World) :
    Calls Try.prog 62 #[.int .i64 n, .int .i64 low, .int .i64 high] w fun e w' => e = .returned (.bool (inB n low high)) ∧ w = w' := by
  unfold inB
  go_enter Try.func62, Try.ntmps62
  by_cases h : low ≤ n
  · by_cases h2 : n ≤ high
    · go_wp2
      go_ret
      exact ⟨by simp [h, h2], rfl⟩
    · go_wp2
      go_ret
      exact ⟨by simp [h2], rfl⟩
  · go_wp2
    go_ret
    exact ⟨by simp; omega, rfl⟩

theorem relIn_bad (xs : List Int) (k : Nat) (x : Int) (h : xs[k]? = some x) (hb : rowIn xs.length x = false) : relIn xs = false := by
  unfold relIn
  rw [Bool.and_eq_false_iff]
  right
  rw [List.all_eq_false]
  exact ⟨x, List.mem_of_getElem? h, by simp [hb]⟩

theorem isCount_any (n : Int) (w : World) :
    Calls Try.prog 77 #[.int .i64 n] w fun e w' => e = .returned (.bool (inB n 1 4)) ∧ w = w' := by
  unfold inB
  go_enter Try.func77, Try.ntmps77
  by_cases h : 1 ≤ n
  · by_cases h2 : n ≤ 4
    · go_wp2
      go_ret
      exact ⟨by simp [h, h2], rfl⟩
    · go_wp2
      go_ret
      exact ⟨by simp [h2], rfl⟩
  · go_wp2
    go_ret
    exact ⟨by simp; omega, rfl⟩

theorem inB_yes {n low high : Int} (h : low ≤ n) (h2 : n ≤ high) : inB n low high = true := decide_eq_true ⟨h, h2⟩
theorem inB_no {n low high : Int} (h : ¬ (low ≤ n ∧ n ≤ high)) : inB n low high = false := decide_eq_false h

theorem relIn_len {xs : List Int} (h : relIn xs = true) : 1 ≤ xs.length ∧ xs.length ≤ 4 := by
  unfold relIn at h
  rw [Bool.and_eq_true] at h
  exact of_decide_eq_true h.1
theorem relIn_row {xs : List Int} (h : relIn xs = true) {k : Nat} {x : Int} (hx : xs[k]? = some x) : rowIn xs.length x = true := by
  unfold relIn at h
  rw [Bool.and_eq_true, List.all_eq_true] at h
  exact h.2 x (List.mem_of_getElem? hx)

theorem allPoints_any (n : Nat) (h1 : 1 ≤ n) (h2 : n ≤ 4) (w : World) :
    Calls Try.prog 88 #[.int .i64 n] w fun e w' => e = .returned (.int .i64 ((2 ^ n - 1 : Nat) : Int)) ∧ w = w' := by
  rcases (by omega : n = 1 ∨ n = 2 ∨ n = 3 ∨ n = 4) with rfl | rfl | rfl | rfl
  all_goals
    go_enter Try.func88, Try.ntmps88
    go_wp2
    go_ret
    exact ⟨rfl, rfl⟩

theorem isSet_any (x : Int) (n : Nat) (h1 : 1 ≤ n) (h2 : n ≤ 4) (w : World) :
    Calls Try.prog 54 #[.int .i64 x, .int .i64 n] w fun e w' => e = .returned (.bool (rowIn n x)) ∧ w = w' := by
  go_enter Try.func54, Try.ntmps54
  by_cases h : 0 ≤ x
  · go_wp2_with (go_at_call 88; refine (allPoints_any n h1 h2 _).mono ?_; rintro e w' ⟨rfl, rfl⟩)
    go_ret
    refine ⟨?_, rfl⟩
    unfold rowIn
    rcases (by omega : n = 1 ∨ n = 2 ∨ n = 3 ∨ n = 4) with rfl | rfl | rfl | rfl <;> simp [h] <;> omega
  · go_wp2
    go_ret
    unfold rowIn
    exact ⟨by simp; omega, rfl⟩

set_option maxHeartbeats 1000000 in
theorem specRelIn_yes (ao : Option Addr) (cap : Nat) (xs : List Int) (w : World) (h1 : 1 ≤ xs.length) (h2 : xs.length ≤ 4) (hr : Rd w ao xs) :
    Calls Try.prog 61 #[.slice ao xs.length cap] w fun e w' => e = .returned (.bool (relIn xs)) ∧ Dn w w' := by
  obtain ⟨n, hn⟩ : ∃ n, n = xs.length := ⟨_, rfl⟩
  rw [← hn] at h1 h2
  go_enter Try.func61, Try.ntmps61
  rw [← hn]
  go_wp2
  go_loopw [3] (fun i wr => ∃ k : Nat, k ≤ n ∧ i = .int .i64 k ∧ (xs.take k).all (rowIn n) = true ∧ Dn w wr)
    (fun i _ => n - (intOf i).toNat)
  case atStart => exact ⟨0, Nat.zero_le _, rfl, rfl, Dn.refl _⟩
  case round =>
    obtain ⟨k, hk, rfl, ht, hd⟩ := hrel
    have HT := Lib.hid ht
    have HN := Lib.hid hn
    clear ht hn
    by_cases hlt : k < n
    · obtain ⟨b, off, x, hxk, rfl, hbl, hc1⟩ := (hd.rd hr).get k (by rw [← HN.out]; exact hlt)
      have HX := Lib.hid hxk
      have hi1 : ((k : Nat) : Int) < (n : Int) := by omega
      clear hr hxk
      go_wp2
      go_quiet ((go_at_call 62; exact quiet_eq (l6In_any _ _ _ _)))
      go_wp2
      · go_ret
        have hb : (!inB x 0 (wrap64 (wrap64 (2 ^ n) - 1))) = true := by assumption
        rw [row_top n x h1 h2, HN.out, Bool.not_eq_true'] at hb
        exact ⟨by rw [relIn_bad xs k x HX.out hb]; rfl, hd.trans (Dn.drewN _ _)⟩
      · have hb : (!inB x 0 (wrap64 (wrap64 (2 ^ n) - 1))) = false := by assumption
        rw [row_top n x h1 h2, Bool.not_eq_false'] at hb
        go_roundw
        case rel => exact ⟨k + 1, by omega, by go_num, by rw [List.take_add_one, HX.out]; simp [HT.out, hb], hd.trans (Dn.drewN _ _)⟩
        case measure => simp [intOf]; omega
    · go_wp2_with (go_at_call 62; refine (l6In_any _ _ _ _).mono ?_; rintro e w' ⟨rfl, rfl⟩)
      go_ret
      refine ⟨?_, hd⟩
      obtain rfl : k = n := by omega
      have ht := HT.out
      rw [HN.out, List.take_length] at ht
      unfold relIn
      rw [ht, ← HN.out, decide_eq_true (by omega : 1 ≤ k ∧ k ≤ 4)]
      have hq : inB (k : Int) 1 4 = true := by unfold inB; exact decide_eq_true (by omega)
      simp [hq]

/-- a longer or an empty list is none -/
theorem specRelIn_no (ao : Option Addr) (cap : Nat) (xs : List Int) (w : World) (h1 : xs.length = 0 ∨ 4 < xs.length) (hl : xs.length ≤ 1048576) (hr : Rd w ao xs) :
    Calls Try.prog 61 #[.slice ao xs.length cap] w fun e w' => e = .returned (.bool false) ∧ Dn w w' := by
  obtain ⟨n, hn⟩ : ∃ n, n = xs.length := ⟨_, rfl⟩
  rw [← hn] at h1 hl
  go_enter Try.func61, Try.ntmps61
  rw [← hn]
  go_wp2
  go_loopw [3] (fun i wr => ∃ k : Nat, k ≤ n ∧ i = .int .i64 k ∧ Dn w wr)
    (fun i _ => n - (intOf i).toNat)
  case atStart => exact ⟨0, Nat.zero_le _, rfl, Dn.refl _⟩
  case round =>
    obtain ⟨k, hk, rfl, hd⟩ := hrel
    have HN := Lib.hid hn
    clear hn
    by_cases hlt : k < n
    · obtain ⟨b, off, x, hxk, rfl, hbl, hc1⟩ := (hd.rd hr).get k (by rw [← HN.out]; exact hlt)
      have HX := Lib.hid hxk
      have hi1 : ((k : Nat) : Int) < (n : Int) := by omega
      clear hr hxk h1
      go_wp2
      go_quiet ((go_at_call 62; exact quiet_eq (l6In_any _ _ _ _)))
      go_wp2
      · go_ret
        exact ⟨rfl, hd.trans (Dn.drewN _ _)⟩
      · go_roundw
        case rel => exact ⟨k + 1, by omega, by go_num, hd.trans (Dn.drewN _ _)⟩
        case measure => simp [intOf]; omega
    · go_wp2_with (go_at_call 62; refine (l6In_any _ _ _ _).mono ?_; rintro e w' ⟨rfl, rfl⟩)
      go_ret
      obtain rfl : k = n := by omega
      have hq : inB (k : Int) 1 4 = false := by unfold inB; exact decide_eq_false (by omega)
      exact ⟨by simp [hq], hd⟩

theorem specRelIn_any (ao : Option Addr) (cap : Nat) (xs : List Int) (w : World) (hl : xs.length ≤ 1048576) (hr : Rd w ao xs) :
    Calls Try.prog 61 #[.slice ao xs.length cap] w fun e w' => e = .returned (.bool (relIn xs)) ∧ Dn w w' := by
  by_cases h : 1 ≤ xs.length ∧ xs.length ≤ 4
  · exact specRelIn_yes ao cap xs w h.1 h.2 hr
  · refine (specRelIn_no ao cap xs w (by omega) hl hr).mono ?_
    rintro e w' ⟨rfl, hd⟩
    exact ⟨by simp [relIn, h], hd⟩
end Go.Proofs.Ytcdiicckngndcab

namespace Go.Proofs.Ytcdiicckngndcab
open Go.RowKit

/-- a row of a list -/
def rowAt (xs : List Int) (i : Nat) : Int := xs.getD i 0
/-- five numbers, as a relation's cells -/
abbrev rel5 (n a b c d : Int) : Value := .agg #[.int .i64 n, .int .i64 a, .int .i64 b, .int .i64 c, .int .i64 d]
/-- the relation made of a list of rows -/
abbrev relOf (xs : List Int) : Value := .agg #[.int .i64 xs.length, .int .i64 (rowAt xs 0), .int .i64 (rowAt xs 1), .int .i64 (rowAt xs 2), .int .i64 (rowAt xs 3)]
/-- the first k rows -/
def firstK (xs : List Int) (k i : Nat) : Int := if i < k then xs.getD i 0 else 0

theorem below_one (w : World) (o : Obj) : Below w.heap.size w (w.alloc o) := (Below.refl _ w).alloc (Nat.le_refl _) _
theorem below_two (w : World) (o p : Obj) : Below w.heap.size w ((w.alloc o).alloc p) := (below_one w o).alloc (by simp) _
theorem below_three (w : World) (o p q : Obj) : Below w.heap.size w (((w.alloc o).alloc p).alloc q) := (below_two w o p).alloc (by simp; omega) _

theorem firstK_all (xs : List Int) (i : Nat) : firstK xs xs.length i = xs.getD i 0 := by
  unfold firstK
  by_cases h : i < xs.length
  · rw [if_pos h]
  · rw [if_neg h, List.getD_eq_getElem?_getD, List.getElem?_eq_none (by omega)]
    rfl
theorem relOf_eq {xs : List Int} {k : Nat} (h : k = xs.length) :
    (k : Int) = (xs.length : Int) ∧ firstK xs k 0 = rowAt xs 0 ∧ firstK xs k 1 = rowAt xs 1 ∧ firstK xs k 2 = rowAt xs 2 ∧ firstK xs k 3 = rowAt xs 3 := by
  subst h
  exact ⟨rfl, firstK_all _ _, firstK_all _ _, firstK_all _ _, firstK_all _ _⟩

set_option maxHeartbeats 2000000 in
theorem relationFrom_yes (ao : Option Addr) (cap : Nat) (xs : List Int) (w : World) (hx : relIn xs = true) (hr : Rd w ao xs) :
    Calls Try.prog 53 #[.slice ao xs.length cap] w fun e w' => e = .returned (.tuple #[relOf xs, .bool true]) ∧ Below w.heap.size w w' := by
  obtain ⟨n, hn⟩ : ∃ n, n = xs.length := ⟨_, rfl⟩
  obtain ⟨h1, h2⟩ := relIn_len hx
  rw [← hn] at h1 h2
  have HX := Lib.hid hx
  clear hx
  have hd1 : inB (n : Int) 1 4 = true := inB_yes (by omega) (by omega)
  go_enter Try.func53, Try.ntmps53
  rw [← hn]
  have HN := Lib.hid hn
  clear hn
  go_wp2_with (go_at_call 77; refine (isCount_any _ _).mono ?_; rintro e w' ⟨rfl, rfl⟩)
  go_loopw [18, 6, 7] (fun i _ _ wr => ∃ k : Nat, k ≤ n ∧ i = .int .i64 k ∧
      wr = (w.alloc (.cells #[.int .i64 0, .int .i64 0, .int .i64 0, .int .i64 0, .int .i64 0] 47)).alloc (.cells #[.int .i64 n, .int .i64 (firstK xs k 0), .int .i64 (firstK xs k 1), .int .i64 (firstK xs k 2), .int .i64 (firstK xs k 3)] 47))
    (fun i _ _ _ => n - (intOf i).toNat)
  case atStart => exact ⟨0, Nat.zero_le _, rfl, by simp [firstK]⟩
  case round =>
    obtain ⟨k, hk, rfl, rfl⟩ := hrel
    have hB : Below w.heap.size w ((w.alloc (.cells #[.int .i64 0, .int .i64 0, .int .i64 0, .int .i64 0, .int .i64 0] 47)).alloc (.cells #[.int .i64 n, .int .i64 (firstK xs k 0), .int .i64 (firstK xs k 1), .int .i64 (firstK xs k 2), .int .i64 (firstK xs k 3)] 47)) :=
      ((Below.refl _ w).alloc (Nat.le_refl _) _).alloc (by simp) _
    by_cases hlt : k < n
    · obtain ⟨b, off, x, hxk, rfl, hbl, hc1⟩ := (hr.below hB).get k (by rw [← HN.out]; exact hlt)
      have hrow : rowIn n x = true := by rw [HN.out]; exact relIn_row HX.out hxk
      have HK := Lib.hid hxk
      have HBL := Lib.hid hB
      clear hr hxk hB
      have HG : xs.getD k 0 = x := by rw [List.getD_eq_getElem?_getD, HK.out]; rfl
      have HG' := Lib.hid HG
      clear HG
      rcases (by omega : k = 0 ∨ k = 1 ∨ k = 2 ∨ k = 3) with rfl | rfl | rfl | rfl
      · simp only [Nat.add_zero] at hc1
        go_wp2_with (go_at_call 54; refine (isSet_any _ _ h1 h2 _).mono ?_; rintro e w' ⟨rfl, rfl⟩)
        go_roundw
        case rel => exact ⟨1, by omega, by go_num, by rw [← HG'.out]; simp [firstK]⟩
        case measure => simp [intOf]; omega
      · go_wp2_with (go_at_call 54; refine (isSet_any _ _ h1 h2 _).mono ?_; rintro e w' ⟨rfl, rfl⟩)
        go_roundw
        case rel => exact ⟨2, by omega, by go_num, by rw [← HG'.out]; simp [firstK]⟩
        case measure => simp [intOf]; omega
      · go_wp2_with (go_at_call 54; refine (isSet_any _ _ h1 h2 _).mono ?_; rintro e w' ⟨rfl, rfl⟩)
        go_roundw
        case rel => exact ⟨3, by omega, by go_num, by rw [← HG'.out]; simp [firstK]⟩
        case measure => simp [intOf]; omega
      · go_wp2_with (go_at_call 54; refine (isSet_any _ _ h1 h2 _).mono ?_; rintro e w' ⟨rfl, rfl⟩)
        go_roundw
        case rel => exact ⟨4, by omega, by go_num, by rw [← HG'.out]; simp [firstK]⟩
        case measure => simp [intOf]; omega
    · go_wp2
      obtain rfl : k = n := by omega
      exact bodyPost_ret (v := .tuple #[relOf xs, .bool true]) (by simp [results, Try.results53, go_sem]; exact relOf_eq HN.out) rfl ⟨rfl, below_two _ _ _⟩

theorem relationFrom_long (ao : Option Addr) (cap n : Nat) (w : World) (hn : n = 0 ∨ 4 < n) (hl : n ≤ 1048576) :
    Calls Try.prog 53 #[.slice ao n cap] w fun e w' => e = .returned (.tuple #[rel5 0 0 0 0 0, .bool false]) ∧ Below w.heap.size w w' := by
  have hd1 : inB (n : Int) 1 4 = false := inB_no (by omega)
  clear hn
  go_enter Try.func53, Try.ntmps53
  go_wp2_with (go_at_call 77; refine (isCount_any _ _).mono ?_; rintro e w' ⟨rfl, rfl⟩)
  exact bodyPost_ret (v := .tuple #[rel5 0 0 0 0 0, .bool false]) (by simp [results, Try.results53, go_sem]) rfl ⟨rfl, below_one _ _⟩

set_option maxHeartbeats 2000000 in
theorem relationFrom_bad (ao : Option Addr) (cap : Nat) (xs : List Int) (w : World) (h1 : 1 ≤ xs.length) (h2 : xs.length ≤ 4) (hx : relIn xs = false) (hr : Rd w ao xs) :
    Calls Try.prog 53 #[.slice ao xs.length cap] w fun e w' => e = .returned (.tuple #[rel5 0 0 0 0 0, .bool false]) ∧ Below w.heap.size w w' := by
  obtain ⟨n, hn⟩ : ∃ n, n = xs.length := ⟨_, rfl⟩
  rw [← hn] at h1 h2
  have HX := Lib.hid hx
  clear hx
  have hd1 : inB (n : Int) 1 4 = true := inB_yes (by omega) (by omega)
  go_enter Try.func53, Try.ntmps53
  rw [← hn]
  have HN := Lib.hid hn
  clear hn
  go_wp2_with (go_at_call 77; refine (isCount_any _ _).mono ?_; rintro e w' ⟨rfl, rfl⟩)
  go_loopw [18, 6, 7] (fun i _ _ wr => ∃ (k : Nat) (a b c d : Int), k ≤ n ∧ i = .int .i64 k ∧ (xs.take k).all (rowIn n) = true ∧
      wr = (w.alloc (.cells #[.int .i64 0, .int .i64 0, .int .i64 0, .int .i64 0, .int .i64 0] 47)).alloc (.cells #[.int .i64 n, .int .i64 a, .int .i64 b, .int .i64 c, .int .i64 d] 47))
    (fun i _ _ _ => n - (intOf i).toNat)
  case atStart => exact ⟨0, 0, 0, 0, 0, Nat.zero_le _, rfl, rfl, rfl⟩
  case round =>
    obtain ⟨k, a, b, c, d, hk, rfl, ht, rfl⟩ := hrel
    have HT := Lib.hid ht
    clear ht
    by_cases hlt : k < n
    · obtain ⟨bl, off, x, hxk, rfl, hbl, hc1⟩ := (hr.below (below_two w (.cells #[.int .i64 0, .int .i64 0, .int .i64 0, .int .i64 0, .int .i64 0] 47) (.cells #[.int .i64 n, .int .i64 a, .int .i64 b, .int .i64 c, .int .i64 d] 47))).get k (by rw [← HN.out]; exact hlt)
      have HK := Lib.hid hxk
      clear hr hxk
      cases hrow : rowIn n x with
      | false =>
        go_wp2_with (go_at_call 54; refine (isSet_any _ _ h1 h2 _).mono ?_; rintro e w' ⟨rfl, rfl⟩)
        exact bodyPost_ret (v := .tuple #[rel5 0 0 0 0 0, .bool false]) (by simp [results, Try.results53, go_sem]) rfl ⟨rfl, below_two _ _ _⟩
      | true =>
        have HR := Lib.hid hrow
        have hT : (xs.take (k + 1)).all (rowIn n) = true := by rw [List.take_add_one, HK.out]; simp [HT.out, HR.out]
        have HT' := Lib.hid hT
        clear hT
        rcases (by omega : k = 0 ∨ k = 1 ∨ k = 2 ∨ k = 3) with rfl | rfl | rfl | rfl
        · simp only [Nat.add_zero] at hc1
          go_wp2_with (go_at_call 54; refine (isSet_any _ _ h1 h2 _).mono ?_; rintro e w' ⟨rfl, rfl⟩)
          go_roundw
          case rel => exact ⟨1, _, _, _, _, by omega, by go_num, HT'.out, rfl⟩
          case measure => simp [intOf]; omega
        · go_wp2_with (go_at_call 54; refine (isSet_any _ _ h1 h2 _).mono ?_; rintro e w' ⟨rfl, rfl⟩)
          go_roundw
          case rel => exact ⟨2, _, _, _, _, by omega, by go_num, HT'.out, rfl⟩
          case measure => simp [intOf]; omega
        · go_wp2_with (go_at_call 54; refine (isSet_any _ _ h1 h2 _).mono ?_; rintro e w' ⟨rfl, rfl⟩)
          go_roundw
          case rel => exact ⟨3, _, _, _, _, by omega, by go_num, HT'.out, rfl⟩
          case measure => simp [intOf]; omega
        · go_wp2_with (go_at_call 54; refine (isSet_any _ _ h1 h2 _).mono ?_; rintro e w' ⟨rfl, rfl⟩)
          go_roundw
          case rel => exact ⟨4, _, _, _, _, by omega, by go_num, HT'.out, rfl⟩
          case measure => simp [intOf]; omega
    · obtain rfl : k = n := by omega
      have ht := HT.out
      have hf : relIn xs = true := by
        unfold relIn
        rw [← HN.out, decide_eq_true (by omega : 1 ≤ k ∧ k ≤ 4)]
        rw [HN.out, List.take_length] at ht
        rw [HN.out]
        simpa using ht
      rw [HX.out] at hf
      exact absurd hf (by simp)

theorem relationFrom_no (ao : Option Addr) (cap : Nat) (xs : List Int) (w : World) (hl : xs.length ≤ 1048576) (hx : relIn xs = false) (hr : Rd w ao xs) :
    Calls Try.prog 53 #[.slice ao xs.length cap] w fun e w' => e = .returned (.tuple #[rel5 0 0 0 0 0, .bool false]) ∧ Below w.heap.size w w' := by
  by_cases h : 1 ≤ xs.length ∧ xs.length ≤ 4
  · exact relationFrom_bad ao cap xs w h.1 h.2 hx hr
  · exact relationFrom_long ao cap xs.length w (by omega) hl

end Go.Proofs.Ytcdiicckngndcab

namespace Go.Proofs.Ytcdiicckngndcab
open Go.RowKit

theorem row_rd {w : World} {base : Nat} {e : TypeId} {v : Value} {xs : List Int} (h : w.ownsRow base e 1 v xs.length (xs.map (Value.int .i64))) :
    ∃ ao cap, v = .slice ao xs.length cap ∧ Rd w ao xs := by
  rcases h.2 with ⟨rfl, hn⟩ | ⟨g, cap, cur, rfl, hb, hg, hnc, hcm, hcs, htake⟩
  · refine ⟨none, 0, by rw [hn], ?_⟩
    intro k x hx
    rw [List.eq_nil_of_length_eq_zero hn] at hx
    simp at hx
  · refine ⟨_, cap, rfl, ?_⟩
    intro k x hx
    refine ⟨g, 0, rfl, (Array.getElem?_eq_some_iff.1 hg).1, ?_⟩
    have hk : k < xs.length := (List.getElem?_eq_some_iff.1 hx).1
    have := h.cellAt k (by omega)
    rw [Nat.zero_add, this]
    simp [hx]

end Go.Proofs.Ytcdiicckngndcab

namespace Go.Proofs.Ytcdiicckngndcab
open Go.RowKit

/-- what the reading of a slice of ints gives -/
theorem rd_of_row {w : World} {a : Option Addr} {len cap : Nat} {zs : List Int}
    (h : (a = none ∧ len = 0 ∧ cap = 0 ∧ zs = []) ∨
      ∃ x, a = some x ∧ len ≤ cap ∧ cap ≤ maxLen ∧ zs.length = cap ∧ (∀ i, i < zs.length → w.cell? (x.add i) = some (.int .i64 (zs.getD i 0))) ∧ ∀ n ∈ zs, (Lit.int .i64 n).wf = true) :
    ∃ xs : List Int, xs.length = len ∧ len ≤ maxLen ∧ Rd w a xs ∧ ∀ n ∈ xs, (Lit.int .i64 n).wf = true := by
  rcases h with ⟨rfl, rfl, rfl, rfl⟩ | ⟨x, rfl, hlc, hcm, hz, hc, hwf⟩
  · exact ⟨[], rfl, Nat.zero_le _, fun k x hx => by simp at hx, by simp⟩
  · refine ⟨zs.take len, by simp; omega, by omega, ?_, fun n hn => hwf n (List.mem_of_mem_take hn)⟩
    intro k y hy
    have hk : k < len := by
      have := (List.getElem?_eq_some_iff.1 hy).1
      simp at this
      omega
    rw [List.getElem?_take, if_pos hk] at hy
    have h1 := hc k (by omega)
    have hg : zs.getD k 0 = y := by rw [List.getD_eq_getElem?_getD, hy]; rfl
    rw [hg] at h1
    obtain ⟨b, off, sp⟩ := x
    cases sp with
    | none =>
      have hadd : (⟨b, off, none⟩ : Addr).add k = ⟨b, off + k, none⟩ := by unfold Addr.add; split <;> simp_all
      rw [hadd] at h1
      refine ⟨b, off, rfl, ?_, h1⟩
      unfold World.cell? at h1
      cases hh : w.heap[b]? with
      | none => rw [hh] at h1; simp at h1
      | some o => exact (Array.getElem?_eq_some_iff.1 hh).1
    | some s =>
      exfalso
      have h0 := hc 0 (by omega)
      unfold World.cell? Addr.add at h0
      simp at h0
      split at h0 <;> simp_all
end Go.Proofs.Ytcdiicckngndcab
