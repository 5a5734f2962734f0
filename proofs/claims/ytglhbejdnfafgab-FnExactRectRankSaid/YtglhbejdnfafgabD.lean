/-
  Contracts of relationFrom and RelIn: the program tells whether a list is a relation, and makes it one; for lists of at most 2^20 numbers.
-/
import Derived.Test.YtglhbejdnfafgabC
namespace Go.Proofs.Ytglhbejdnfafgab
open Go.RowKit

/-- a row of a list -/
def rowAt (xs : List Int) (i : Nat) : Int := xs.getD i 0
/-- five numbers, as a relation's cells -/
abbrev rel5 (n a b c d : Int) : Value := .agg #[.int .i64 n, .int .i64 a, .int .i64 b, .int .i64 c, .int .i64 d]
/-- the relation made of a list of rows -/
abbrev relOf (xs : List Int) : Value := .agg #[.int .i64 xs.length, .int .i64 (rowAt xs 0), .int .i64 (rowAt xs 1), .int .i64 (rowAt xs 2), .int .i64 (rowAt xs 3)]
/-- the first k rows -/
def firstK (xs : List Int) (k i : Nat) : Int := if i < k then xs.getD i 0 else 0

theorem below_one (w : World) (o : Obj) : Below w.heap.size w (w.alloc o) := (Below.refl _ w).alloc (Nat.le_refl _) _
theorem below_two (w : World) (o p : Obj) : Below w.heap.size w ((w.alloc o).alloc p) := (below_one w o).alloc (by simp) _
theorem below_three (w : World) (o p q : Obj) : Below w.heap.size w (((w.alloc o).alloc p).alloc q) := (below_two w o p).alloc (by simp; omega) _

theorem firstK_all (xs : List Int) (i : Nat) : firstK xs xs.length i = xs.getD i 0 := by
  unfold firstK
  by_cases h : i < xs.length
  · rw [if_pos h]
  · rw [if_neg h, List.getD_eq_getElem?_getD, List.getElem?_eq_none (by omega)]
    rfl
theorem relOf_eq {xs : List Int} {k : Nat} (h : k = xs.length) :
    (k : Int) = (xs.length : Int) ∧ firstK xs k 0 = rowAt xs 0 ∧ firstK xs k 1 = rowAt xs 1 ∧ firstK xs k 2 = rowAt xs 2 ∧ firstK xs k 3 = rowAt xs 3 := by
  subst h
  exact ⟨rfl, firstK_all _ _, firstK_all _ _, firstK_all _ _, firstK_all _ _⟩

set_option maxHeartbeats 2000000 in
theorem relationFrom_yes (ao : Option Addr) (cap : Nat) (xs : List Int) (w : World) (hx : relIn xs = true) (hr : Rd w ao xs) :
    Calls Try.prog 26 #[.slice ao xs.length cap] w fun e w' => e = .returned (.tuple #[relOf xs, .bool true]) ∧ Below w.heap.size w w' := by
  obtain ⟨n, hn⟩ : ∃ n, n = xs.length := ⟨_, rfl⟩
  obtain ⟨h1, h2⟩ := relIn_len hx
  rw [← hn] at h1 h2
  have HX := Lib.hid hx
  clear hx
  have hd1 : inB (n : Int) 1 4 = true := inB_yes (by omega) (by omega)
  go_enter Try.func26, Try.ntmps26
  rw [← hn]
  have HN := Lib.hid hn
  clear hn
  go_wp2_with (go_at_call 19; refine (isCount_any _ _).mono ?_; rintro e w' ⟨rfl, rfl⟩)
  go_loopw [18, 6, 7] (fun i _ _ wr => ∃ k : Nat, k ≤ n ∧ i = .int .i64 k ∧
      wr = (w.alloc (.cells #[.int .i64 0, .int .i64 0, .int .i64 0, .int .i64 0, .int .i64 0] 41)).alloc (.cells #[.int .i64 n, .int .i64 (firstK xs k 0), .int .i64 (firstK xs k 1), .int .i64 (firstK xs k 2), .int .i64 (firstK xs k 3)] 41))
    (fun i _ _ _ => n - (intOf i).toNat)
  case atStart => exact ⟨0, Nat.zero_le _, rfl, by simp [firstK]⟩
  case round =>
    obtain ⟨k, hk, rfl, rfl⟩ := hrel
    have hB : Below w.heap.size w ((w.alloc (.cells #[.int .i64 0, .int .i64 0, .int .i64 0, .int .i64 0, .int .i64 0] 41)).alloc (.cells #[.int .i64 n, .int .i64 (firstK xs k 0), .int .i64 (firstK xs k 1), .int .i64 (firstK xs k 2), .int .i64 (firstK xs k 3)] 41)) :=
      ((Below.refl _ w).alloc (Nat.le_refl _) _).alloc (by simp) _
    by_cases hlt : k < n
    · obtain ⟨b, off, x, hxk, rfl, hbl, hc1⟩ := (hr.below hB).get k (by rw [← HN.out]; exact hlt)
      have hrow : rowIn n x = true := by rw [HN.out]; exact relIn_row HX.out hxk
      have HK := Lib.hid hxk
      have HBL := Lib.hid hB
      clear hr hxk hB
      have HG : xs.getD k 0 = x := by rw [List.getD_eq_getElem?_getD, HK.out]; rfl
      have HG' := Lib.hid HG
      clear HG
      rcases (by omega : k = 0 ∨ k = 1 ∨ k = 2 ∨ k = 3) with rfl | rfl | rfl | rfl
      · simp only [Nat.add_zero] at hc1
        go_wp2_with (go_at_call 28; refine (isSet_any _ _ h1 h2 _).mono ?_; rintro e w' ⟨rfl, rfl⟩)
        go_roundw
        case rel => exact ⟨1, by omega, by go_num, by rw [← HG'.out]; simp [firstK]⟩
        case measure => simp [intOf]; omega
      · go_wp2_with (go_at_call 28; refine (isSet_any _ _ h1 h2 _).mono ?_; rintro e w' ⟨rfl, rfl⟩)
        go_roundw
        case rel => exact ⟨2, by omega, by go_num, by rw [← HG'.out]; simp [firstK]⟩
        case measure => simp [intOf]; omega
      · go_wp2_with (go_at_call 28; refine (isSet_any _ _ h1 h2 _).mono ?_; rintro e w' ⟨rfl, rfl⟩)
        go_roundw
        case rel => exact ⟨3, by omega, by go_num, by rw [← HG'.out]; simp [firstK]⟩
        case measure => simp [intOf]; omega
      · go_wp2_with (go_at_call 28; refine (isSet_any _ _ h1 h2 _).mono ?_; rintro e w' ⟨rfl, rfl⟩)
        go_roundw
        case rel => exact ⟨4, by omega, by go_num, by rw [← HG'.out]; simp [firstK]⟩
        case measure => simp [intOf]; omega
    · go_wp2
      obtain rfl : k = n := by omega
      exact bodyPost_ret (v := .tuple #[relOf xs, .bool true]) (by simp [results, Try.results26, go_sem]; exact relOf_eq HN.out) rfl ⟨rfl, below_two _ _ _⟩

theorem relationFrom_long (ao : Option Addr) (cap n : Nat) (w : World) (hn : n = 0 ∨ 4 < n) (hl : n ≤ 1048576) :
    Calls Try.prog 26 #[.slice ao n cap] w fun e w' => e = .returned (.tuple #[rel5 0 0 0 0 0, .bool false]) ∧ Below w.heap.size w w' := by
  have hd1 : inB (n : Int) 1 4 = false := inB_no (by omega)
  clear hn
  go_enter Try.func26, Try.ntmps26
  go_wp2_with (go_at_call 19; refine (isCount_any _ _).mono ?_; rintro e w' ⟨rfl, rfl⟩)
  exact bodyPost_ret (v := .tuple #[rel5 0 0 0 0 0, .bool false]) (by simp [results, Try.results26, go_sem]) rfl ⟨rfl, below_one _ _⟩

set_option maxHeartbeats 2000000 in
theorem relationFrom_bad (ao : Option Addr) (cap : Nat) (xs : List Int) (w : World) (h1 : 1 ≤ xs.length) (h2 : xs.length ≤ 4) (hx : relIn xs = false) (hr : Rd w ao xs) :
    Calls Try.prog 26 #[.slice ao xs.length cap] w fun e w' => e = .returned (.tuple #[rel5 0 0 0 0 0, .bool false]) ∧ Below w.heap.size w w' := by
  obtain ⟨n, hn⟩ : ∃ n, n = xs.length := ⟨_, rfl⟩
  rw [← hn] at h1 h2
  have HX := Lib.hid hx
  clear hx
  have hd1 : inB (n : Int) 1 4 = true := inB_yes (by omega) (by omega)
  go_enter Try.func26, Try.ntmps26
  rw [← hn]
  have HN := Lib.hid hn
  clear hn
  go_wp2_with (go_at_call 19; refine (isCount_any _ _).mono ?_; rintro e w' ⟨rfl, rfl⟩)
  go_loopw [18, 6, 7] (fun i _ _ wr => ∃ (k : Nat) (a b c d : Int), k ≤ n ∧ i = .int .i64 k ∧ (xs.take k).all (rowIn n) = true ∧
      wr = (w.alloc (.cells #[.int .i64 0, .int .i64 0, .int .i64 0, .int .i64 0, .int .i64 0] 41)).alloc (.cells #[.int .i64 n, .int .i64 a, .int .i64 b, .int .i64 c, .int .i64 d] 41))
    (fun i _ _ _ => n - (intOf i).toNat)
  case atStart => exact ⟨0, 0, 0, 0, 0, Nat.zero_le _, rfl, rfl, rfl⟩
  case round =>
    obtain ⟨k, a, b, c, d, hk, rfl, ht, rfl⟩ := hrel
    have HT := Lib.hid ht
    clear ht
    by_cases hlt : k < n
    · obtain ⟨bl, off, x, hxk, rfl, hbl, hc1⟩ := (hr.below (below_two w (.cells #[.int .i64 0, .int .i64 0, .int .i64 0, .int .i64 0, .int .i64 0] 41) (.cells #[.int .i64 n, .int .i64 a, .int .i64 b, .int .i64 c, .int .i64 d] 41))).get k (by rw [← HN.out]; exact hlt)
      have HK := Lib.hid hxk
      clear hr hxk
      cases hrow : rowIn n x with
      | false =>
        go_wp2_with (go_at_call 28; refine (isSet_any _ _ h1 h2 _).mono ?_; rintro e w' ⟨rfl, rfl⟩)
        exact bodyPost_ret (v := .tuple #[rel5 0 0 0 0 0, .bool false]) (by simp [results, Try.results26, go_sem]) rfl ⟨rfl, below_two _ _ _⟩
      | true =>
        have HR := Lib.hid hrow
        have hT : (xs.take (k + 1)).all (rowIn n) = true := by rw [List.take_add_one, HK.out]; simp [HT.out, HR.out]
        have HT' := Lib.hid hT
        clear hT
        rcases (by omega : k = 0 ∨ k = 1 ∨ k = 2 ∨ k = 3) with rfl | rfl | rfl | rfl
        · simp only [Nat.add_zero] at hc1
          go_wp2_with (go_at_call 28; refine (isSet_any _ _ h1 h2 _).mono ?_; rintro e w' ⟨rfl, rfl⟩)
          go_roundw
          case rel => exact ⟨1, _, _, _, _, by omega, by go_num, HT'.out, rfl⟩
          case measure => simp [intOf]; omega
        · go_wp2_with (go_at_call 28; refine (isSet_any _ _ h1 h2 _).mono ?_; rintro e w' ⟨rfl, rfl⟩)
          go_roundw
          case rel => exact ⟨2, _, _, _, _, by omega, by go_num, HT'.out, rfl⟩
          case measure => simp [intOf]; omega
        · go_wp2_with (go_at_call 28; refine (isSet_any _ _ h1 h2 _).mono ?_; rintro e w' ⟨rfl, rfl⟩)
          go_roundw
          case rel => exact ⟨3, _, _, _, _, by omega, by go_num, HT'.out, rfl⟩
          case measure => simp [intOf]; omega
        · go_wp2_with (go_at_call 28; refine (isSet_any _ _ h1 h2 _).mono ?_; rintro e w' ⟨rfl, rfl⟩)
          go_roundw
          case rel => exact ⟨4, _, _, _, _, by omega, by go_num, HT'.out, rfl⟩
          case measure => simp [intOf]; omega
    · obtain rfl : k = n := by omega
      have ht := HT.out
      have hf : relIn xs = true := by
        unfold relIn
        rw [← HN.out, decide_eq_true (by omega : 1 ≤ k ∧ k ≤ 4)]
        rw [HN.out, List.take_length] at ht
        rw [HN.out]
        simpa using ht
      rw [HX.out] at hf
      exact absurd hf (by simp)

theorem relationFrom_no (ao : Option Addr) (cap : Nat) (xs : List Int) (w : World) (hl : xs.length ≤ 1048576) (hx : relIn xs = false) (hr : Rd w ao xs) :
    Calls Try.prog 26 #[.slice ao xs.length cap] w fun e w' => e = .returned (.tuple #[rel5 0 0 0 0 0, .bool false]) ∧ Below w.heap.size w w' := by
  by_cases h : 1 ≤ xs.length ∧ xs.length ≤ 4
  · exact relationFrom_bad ao cap xs w h.1 h.2 hx hr
  · exact relationFrom_long ao cap xs.length w (by omega) hl

end Go.Proofs.Ytglhbejdnfafgab
