/-
  Contracts of the program's sameOn and RelSame, and of the model's l1Same and RelSame; for any number.
-/
import Derived.Test.YtgmjdkhegbdbjaaRows
import Derived.WalkKit
import Derived.WalkLawsBesides
import Derived.WalkSpells
import Derived.Lib.Hide
import Derived.Deep.QuietTactic
import Derived.BigQuiet
import Derived.Deep.RegionLaw
import Derived.Maps.AppendAt
import Derived.Laws.BitsAllLaws
namespace Go.Proofs.Ytgmjdkhegbdbjaa
open Go.RowKit

theorem Try.info3 : (Try.prog.info? 3).map (fun i => (i.zero, i.size, i.bytes)) = some (some (.int .i64 0), 1, 8) := by kernel_rfl

/-- the slice at this address reads as these numbers -/
def Rd (w : World) (ao : Option Addr) (xs : List Int) : Prop :=
  ∀ k x, xs[k]? = some x → ∃ b off, ao = some ⟨b, off, none⟩ ∧ b < w.heap.size ∧ w.cell? ⟨b, off + k, none⟩ = some (.int .i64 x)

theorem Rd.get {w : World} {ao : Option Addr} {xs : List Int} (h : Rd w ao xs) (k : Nat) (hk : k < xs.length) :
    ∃ b off x, xs[k]? = some x ∧ ao = some ⟨b, off, none⟩ ∧ b < w.heap.size ∧ w.cell? ⟨b, off + k, none⟩ = some (.int .i64 x) := by
  obtain ⟨b, off, h1, h2, h3⟩ := h k xs[k] (List.getElem?_eq_getElem hk)
  exact ⟨b, off, _, List.getElem?_eq_getElem hk, h1, h2, h3⟩

theorem Rd.below {w w' : World} {ao : Option Addr} {xs : List Int} (h : Rd w ao xs) (hb : Below w.heap.size w w') : Rd w' ao xs := by
  intro k x hx
  obtain ⟨b, off, h1, h2, h3⟩ := h k x hx
  exact ⟨b, off, h1, Nat.lt_of_lt_of_le h2 hb.size, (hb.cell (p := ⟨b, off + k, none⟩) h2).trans h3⟩

/-- the same world but for draws -/
def Dn (w w' : World) : Prop := ∃ q, w' = w.drewN q
theorem Dn.refl (w : World) : Dn w w := ⟨0, rfl⟩
theorem Dn.drewN (w : World) (n : Nat) : Dn w (w.drewN n) := ⟨n, rfl⟩
theorem Dn.drew (w : World) : Dn w w.drew := ⟨1, rfl⟩
theorem Dn.trans {a b c : World} (h : Dn a b) (k : Dn b c) : Dn a c := by
  obtain ⟨q, rfl⟩ := h
  obtain ⟨r, rfl⟩ := k
  exact ⟨q + r, World.drewN_drewN _ _ _⟩
theorem Dn.heap {w w' : World} (h : Dn w w') : w'.heap = w.heap := by
  obtain ⟨q, rfl⟩ := h
  rfl
theorem Dn.below {w w' : World} (h : Dn w w') (B : Nat) : Below B w w' := by
  obtain ⟨q, rfl⟩ := h
  exact below_drewN (Below.refl _ _) q
theorem Dn.cell {w w' : World} (h : Dn w w') (p : Addr) : w'.cell? p = w.cell? p := by
  obtain ⟨q, rfl⟩ := h
  rfl
theorem Dn.rd {w w' : World} {ao : Option Addr} {xs : List Int} (h : Dn w w') (hr : Rd w ao xs) : Rd w' ao xs := by
  obtain ⟨q, rfl⟩ := h
  exact hr
theorem Dn.row {w w' : World} {base : Nat} {e : TypeId} {size : Nat} {v : Value} {n : Nat} {xs : List Value} (h : Dn w w') (hr : w.ownsRow base e size v n xs) : w'.ownsRow base e size v n xs := by
  obtain ⟨q, rfl⟩ := h
  exact hr
theorem quiet_eq {P : Program} {f : FuncId} {args : Array Value} {w : World} {n : Nat} {v : Value}
    (h : Calls P f args (w.drewN n) fun e w' => e = .returned v ∧ w.drewN n = w') : Calls P f args (w.drewN n) fun e w'' => e = .returned v ∧ ∃ m, w'' = w.drewN m :=
  h.mono fun _ _ ⟨he, hm⟩ => ⟨he, n, hm.symm⟩

end Go.Proofs.Ytgmjdkhegbdbjaa

namespace Go.Proofs.Ytgmjdkhegbdbjaa
open Go.RowKit

end Go.Proofs.Ytgmjdkhegbdbjaa

namespace Go.Proofs.Ytgmjdkhegbdbjaa
open Go.RowKit

/-- a row of n points -/
def rowIn (n : Nat) (x : Int) : Bool := decide (0 ≤ x) && decide (x < 2 ^ n)
/-- a relation's list -/
def relIn (xs : List Int) : Bool := decide (1 ≤ xs.length ∧ xs.length ≤ 4) && xs.all (rowIn xs.length)

/-- a number in a range -/
def inB (n low high : Int) : Bool := decide (low ≤ n ∧ n ≤ high)

theorem row_top (n : Nat) (x : Int) (h1 : 1 ≤ n) (h2 : n ≤ 4) : inB x 0 (wrap64 (wrap64 (2 ^ n) - 1)) = rowIn n x := by
  have e : wrap64 (wrap64 (2 ^ n) - 1) = 2 ^ n - 1 := by
    rcases (by omega : n = 1 ∨ n = 2 ∨ n = 3 ∨ n = 4) with rfl | rfl | rfl | rfl <;> decide +kernel
  rw [e]
  unfold rowIn inB
  rcases (by omega : n = 1 ∨ n = 2 ∨ n = 3 ∨ n = 4) with rfl | rfl | rfl | rfl <;> by_cases h : 0 ≤ x <;> simp [h] <;> omega

theorem l6In_any (n low high : Int) (w : World) :
    Calls Try.prog 39 #[.int .i64 n, .int .i64 low, .int .i64 high] w fun e w' => e = .returned (.bool (inB n low high)) ∧ w = w' := by
  unfold inB
  go_enter Try.func39, Try.ntmps39
  by_cases h : low ≤ n
  · by_cases h2 : n ≤ high
    · go_wp2
      go_ret
      exact ⟨by simp [h, h2], rfl⟩
    · go_wp2
      go_ret
      exact ⟨by simp [h2], rfl⟩
  · go_wp2
    go_ret
    exact ⟨by simp; omega, rfl⟩

theorem relIn_bad (xs : List Int) (k : Nat) (x : Int) (h : xs[k]? = some x) (hb : rowIn xs.length x = false) : relIn xs = false := by
  unfold relIn
  rw [Bool.and_eq_false_iff]
  right
  rw [List.all_eq_false]
  exact ⟨x, List.mem_of_getElem? h, by simp [hb]⟩

theorem isCount_any (n : Int) (w : World) :
    Calls Try.prog 59 #[.int .i64 n] w fun e w' => e = .returned (.bool (inB n 1 4)) ∧ w = w' := by
  unfold inB
  go_enter Try.func59, Try.ntmps59
  by_cases h : 1 ≤ n
  · by_cases h2 : n ≤ 4
    · go_wp2
      go_ret
      exact ⟨by simp [h, h2], rfl⟩
    · go_wp2
      go_ret
      exact ⟨by simp [h2], rfl⟩
  · go_wp2
    go_ret
    exact ⟨by simp; omega, rfl⟩

theorem inB_yes {n low high : Int} (h : low ≤ n) (h2 : n ≤ high) : inB n low high = true := decide_eq_true ⟨h, h2⟩
theorem inB_no {n low high : Int} (h : ¬ (low ≤ n ∧ n ≤ high)) : inB n low high = false := decide_eq_false h

theorem relIn_len {xs : List Int} (h : relIn xs = true) : 1 ≤ xs.length ∧ xs.length ≤ 4 := by
  unfold relIn at h
  rw [Bool.and_eq_true] at h
  exact of_decide_eq_true h.1
theorem relIn_row {xs : List Int} (h : relIn xs = true) {k : Nat} {x : Int} (hx : xs[k]? = some x) : rowIn xs.length x = true := by
  unfold relIn at h
  rw [Bool.and_eq_true, List.all_eq_true] at h
  exact h.2 x (List.mem_of_getElem? hx)

theorem allPoints_any (n : Nat) (h1 : 1 ≤ n) (h2 : n ≤ 4) (w : World) :
    Calls Try.prog 77 #[.int .i64 n] w fun e w' => e = .returned (.int .i64 ((2 ^ n - 1 : Nat) : Int)) ∧ w = w' := by
  rcases (by omega : n = 1 ∨ n = 2 ∨ n = 3 ∨ n = 4) with rfl | rfl | rfl | rfl
  all_goals
    go_enter Try.func77, Try.ntmps77
    go_wp2
    go_ret
    exact ⟨rfl, rfl⟩

theorem isSet_any (x : Int) (n : Nat) (h1 : 1 ≤ n) (h2 : n ≤ 4) (w : World) :
    Calls Try.prog 60 #[.int .i64 x, .int .i64 n] w fun e w' => e = .returned (.bool (rowIn n x)) ∧ w = w' := by
  go_enter Try.func60, Try.ntmps60
  by_cases h : 0 ≤ x
  · go_wp2_with (go_at_call 77; refine (allPoints_any n h1 h2 _).mono ?_; rintro e w' ⟨rfl, rfl⟩)
    go_ret
    refine ⟨?_, rfl⟩
    unfold rowIn
    rcases (by omega : n = 1 ∨ n = 2 ∨ n = 3 ∨ n = 4) with rfl | rfl | rfl | rfl <;> simp [h] <;> omega
  · go_wp2
    go_ret
    unfold rowIn
    exact ⟨by simp; omega, rfl⟩

set_option maxHeartbeats 1000000 in
theorem specRelIn_yes (ao : Option Addr) (cap : Nat) (xs : List Int) (w : World) (h1 : 1 ≤ xs.length) (h2 : xs.length ≤ 4) (hr : Rd w ao xs) :
    Calls Try.prog 34 #[.slice ao xs.length cap] w fun e w' => e = .returned (.bool (relIn xs)) ∧ Dn w w' := by
  obtain ⟨n, hn⟩ : ∃ n, n = xs.length := ⟨_, rfl⟩
  rw [← hn] at h1 h2
  go_enter Try.func34, Try.ntmps34
  rw [← hn]
  go_wp2
  go_loopw [3] (fun i wr => ∃ k : Nat, k ≤ n ∧ i = .int .i64 k ∧ (xs.take k).all (rowIn n) = true ∧ Dn w wr)
    (fun i _ => n - (intOf i).toNat)
  case atStart => exact ⟨0, Nat.zero_le _, rfl, rfl, Dn.refl _⟩
  case round =>
    obtain ⟨k, hk, rfl, ht, hd⟩ := hrel
    have HT := Lib.hid ht
    have HN := Lib.hid hn
    clear ht hn
    by_cases hlt : k < n
    · obtain ⟨b, off, x, hxk, rfl, hbl, hc1⟩ := (hd.rd hr).get k (by rw [← HN.out]; exact hlt)
      have HX := Lib.hid hxk
      have hi1 : ((k : Nat) : Int) < (n : Int) := by omega
      clear hr hxk
      go_wp2
      go_quiet ((go_at_call 39; exact quiet_eq (l6In_any _ _ _ _)))
      go_wp2
      · go_ret
        have hb : (!inB x 0 (wrap64 (wrap64 (2 ^ n) - 1))) = true := by assumption
        rw [row_top n x h1 h2, HN.out, Bool.not_eq_true'] at hb
        exact ⟨by rw [relIn_bad xs k x HX.out hb]; rfl, hd.trans (Dn.drewN _ _)⟩
      · have hb : (!inB x 0 (wrap64 (wrap64 (2 ^ n) - 1))) = false := by assumption
        rw [row_top n x h1 h2, Bool.not_eq_false'] at hb
        go_roundw
        case rel => exact ⟨k + 1, by omega, by go_num, by rw [List.take_add_one, HX.out]; simp [HT.out, hb], hd.trans (Dn.drewN _ _)⟩
        case measure => simp [intOf]; omega
    · go_wp2_with (go_at_call 39; refine (l6In_any _ _ _ _).mono ?_; rintro e w' ⟨rfl, rfl⟩)
      go_ret
      refine ⟨?_, hd⟩
      obtain rfl : k = n := by omega
      have ht := HT.out
      rw [HN.out, List.take_length] at ht
      unfold relIn
      rw [ht, ← HN.out, decide_eq_true (by omega : 1 ≤ k ∧ k ≤ 4)]
      have hq : inB (k : Int) 1 4 = true := by unfold inB; exact decide_eq_true (by omega)
      simp [hq]

/-- a longer or an empty list is none -/
theorem specRelIn_no (ao : Option Addr) (cap : Nat) (xs : List Int) (w : World) (h1 : xs.length = 0 ∨ 4 < xs.length) (hl : xs.length ≤ 1048576) (hr : Rd w ao xs) :
    Calls Try.prog 34 #[.slice ao xs.length cap] w fun e w' => e = .returned (.bool false) ∧ Dn w w' := by
  obtain ⟨n, hn⟩ : ∃ n, n = xs.length := ⟨_, rfl⟩
  rw [← hn] at h1 hl
  go_enter Try.func34, Try.ntmps34
  rw [← hn]
  go_wp2
  go_loopw [3] (fun i wr => ∃ k : Nat, k ≤ n ∧ i = .int .i64 k ∧ Dn w wr)
    (fun i _ => n - (intOf i).toNat)
  case atStart => exact ⟨0, Nat.zero_le _, rfl, Dn.refl _⟩
  case round =>
    obtain ⟨k, hk, rfl, hd⟩ := hrel
    have HN := Lib.hid hn
    clear hn
    by_cases hlt : k < n
    · obtain ⟨b, off, x, hxk, rfl, hbl, hc1⟩ := (hd.rd hr).get k (by rw [← HN.out]; exact hlt)
      have HX := Lib.hid hxk
      have hi1 : ((k : Nat) : Int) < (n : Int) := by omega
      clear hr hxk h1
      go_wp2
      go_quiet ((go_at_call 39; exact quiet_eq (l6In_any _ _ _ _)))
      go_wp2
      · go_ret
        exact ⟨rfl, hd.trans (Dn.drewN _ _)⟩
      · go_roundw
        case rel => exact ⟨k + 1, by omega, by go_num, hd.trans (Dn.drewN _ _)⟩
        case measure => simp [intOf]; omega
    · go_wp2_with (go_at_call 39; refine (l6In_any _ _ _ _).mono ?_; rintro e w' ⟨rfl, rfl⟩)
      go_ret
      obtain rfl : k = n := by omega
      have hq : inB (k : Int) 1 4 = false := by unfold inB; exact decide_eq_false (by omega)
      exact ⟨by simp [hq], hd⟩

theorem specRelIn_any (ao : Option Addr) (cap : Nat) (xs : List Int) (w : World) (hl : xs.length ≤ 1048576) (hr : Rd w ao xs) :
    Calls Try.prog 34 #[.slice ao xs.length cap] w fun e w' => e = .returned (.bool (relIn xs)) ∧ Dn w w' := by
  by_cases h : 1 ≤ xs.length ∧ xs.length ≤ 4
  · exact specRelIn_yes ao cap xs w h.1 h.2 hr
  · refine (specRelIn_no ao cap xs w (by omega) hl hr).mono ?_
    rintro e w' ⟨rfl, hd⟩
    exact ⟨by simp [relIn, h], hd⟩
end Go.Proofs.Ytgmjdkhegbdbjaa

namespace Go.Proofs.Ytgmjdkhegbdbjaa
open Go.RowKit

/-- a row of a list -/
def rowAt (xs : List Int) (i : Nat) : Int := xs.getD i 0
/-- five numbers, as a relation's cells -/
abbrev rel5 (n a b c d : Int) : Value := .agg #[.int .i64 n, .int .i64 a, .int .i64 b, .int .i64 c, .int .i64 d]
/-- the relation made of a list of rows -/
abbrev relOf (xs : List Int) : Value := .agg #[.int .i64 xs.length, .int .i64 (rowAt xs 0), .int .i64 (rowAt xs 1), .int .i64 (rowAt xs 2), .int .i64 (rowAt xs 3)]
/-- the first k rows -/
def firstK (xs : List Int) (k i : Nat) : Int := if i < k then xs.getD i 0 else 0

theorem below_one (w : World) (o : Obj) : Below w.heap.size w (w.alloc o) := (Below.refl _ w).alloc (Nat.le_refl _) _
theorem below_two (w : World) (o p : Obj) : Below w.heap.size w ((w.alloc o).alloc p) := (below_one w o).alloc (by simp) _
theorem firstK_all (xs : List Int) (i : Nat) : firstK xs xs.length i = xs.getD i 0 := by
  unfold firstK
  by_cases h : i < xs.length
  · rw [if_pos h]
  · rw [if_neg h, List.getD_eq_getElem?_getD, List.getElem?_eq_none (by omega)]
    rfl
theorem relOf_eq {xs : List Int} {k : Nat} (h : k = xs.length) :
    (k : Int) = (xs.length : Int) ∧ firstK xs k 0 = rowAt xs 0 ∧ firstK xs k 1 = rowAt xs 1 ∧ firstK xs k 2 = rowAt xs 2 ∧ firstK xs k 3 = rowAt xs 3 := by
  subst h
  exact ⟨rfl, firstK_all _ _, firstK_all _ _, firstK_all _ _, firstK_all _ _⟩

set_option maxHeartbeats 2000000 in
theorem relationFrom_yes (ao : Option Addr) (cap : Nat) (xs : List Int) (w : World) (hx : relIn xs = true) (hr : Rd w ao xs) :
    Calls Try.prog 36 #[.slice ao xs.length cap] w fun e w' => e = .returned (.tuple #[relOf xs, .bool true]) ∧ Below w.heap.size w w' := by
  obtain ⟨n, hn⟩ : ∃ n, n = xs.length := ⟨_, rfl⟩
  obtain ⟨h1, h2⟩ := relIn_len hx
  rw [← hn] at h1 h2
  have HX := Lib.hid hx
  clear hx
  have hd1 : inB (n : Int) 1 4 = true := inB_yes (by omega) (by omega)
  go_enter Try.func36, Try.ntmps36
  rw [← hn]
  have HN := Lib.hid hn
  clear hn
  go_wp2_with (go_at_call 59; refine (isCount_any _ _).mono ?_; rintro e w' ⟨rfl, rfl⟩)
  go_loopw [18, 6, 7] (fun i _ _ wr => ∃ k : Nat, k ≤ n ∧ i = .int .i64 k ∧
      wr = (w.alloc (.cells #[.int .i64 0, .int .i64 0, .int .i64 0, .int .i64 0, .int .i64 0] 45)).alloc (.cells #[.int .i64 n, .int .i64 (firstK xs k 0), .int .i64 (firstK xs k 1), .int .i64 (firstK xs k 2), .int .i64 (firstK xs k 3)] 45))
    (fun i _ _ _ => n - (intOf i).toNat)
  case atStart => exact ⟨0, Nat.zero_le _, rfl, by simp [firstK]⟩
  case round =>
    obtain ⟨k, hk, rfl, rfl⟩ := hrel
    have hB : Below w.heap.size w ((w.alloc (.cells #[.int .i64 0, .int .i64 0, .int .i64 0, .int .i64 0, .int .i64 0] 45)).alloc (.cells #[.int .i64 n, .int .i64 (firstK xs k 0), .int .i64 (firstK xs k 1), .int .i64 (firstK xs k 2), .int .i64 (firstK xs k 3)] 45)) :=
      ((Below.refl _ w).alloc (Nat.le_refl _) _).alloc (by simp) _
    by_cases hlt : k < n
    · obtain ⟨b, off, x, hxk, rfl, hbl, hc1⟩ := (hr.below hB).get k (by rw [← HN.out]; exact hlt)
      have hrow : rowIn n x = true := by rw [HN.out]; exact relIn_row HX.out hxk
      have HK := Lib.hid hxk
      have HBL := Lib.hid hB
      clear hr hxk hB
      have HG : xs.getD k 0 = x := by rw [List.getD_eq_getElem?_getD, HK.out]; rfl
      have HG' := Lib.hid HG
      clear HG
      rcases (by omega : k = 0 ∨ k = 1 ∨ k = 2 ∨ k = 3) with rfl | rfl | rfl | rfl
      · simp only [Nat.add_zero] at hc1
        go_wp2_with (go_at_call 60; refine (isSet_any _ _ h1 h2 _).mono ?_; rintro e w' ⟨rfl, rfl⟩)
        go_roundw
        case rel => exact ⟨1, by omega, by go_num, by rw [← HG'.out]; simp [firstK]⟩
        case measure => simp [intOf]; omega
      · go_wp2_with (go_at_call 60; refine (isSet_any _ _ h1 h2 _).mono ?_; rintro e w' ⟨rfl, rfl⟩)
        go_roundw
        case rel => exact ⟨2, by omega, by go_num, by rw [← HG'.out]; simp [firstK]⟩
        case measure => simp [intOf]; omega
      · go_wp2_with (go_at_call 60; refine (isSet_any _ _ h1 h2 _).mono ?_; rintro e w' ⟨rfl, rfl⟩)
        go_roundw
        case rel => exact ⟨3, by omega, by go_num, by rw [← HG'.out]; simp [firstK]⟩
        case measure => simp [intOf]; omega
      · go_wp2_with (go_at_call 60; refine (isSet_any _ _ h1 h2 _).mono ?_; rintro e w' ⟨rfl, rfl⟩)
        go_roundw
        case rel => exact ⟨4, by omega, by go_num, by rw [← HG'.out]; simp [firstK]⟩
        case measure => simp [intOf]; omega
    · go_wp2
      obtain rfl : k = n := by omega
      exact bodyPost_ret (v := .tuple #[relOf xs, .bool true]) (by simp [results, Try.results36, go_sem]; exact relOf_eq HN.out) rfl ⟨rfl, below_two _ _ _⟩

theorem relationFrom_long (ao : Option Addr) (cap n : Nat) (w : World) (hn : n = 0 ∨ 4 < n) (hl : n ≤ 1048576) :
    Calls Try.prog 36 #[.slice ao n cap] w fun e w' => e = .returned (.tuple #[rel5 0 0 0 0 0, .bool false]) ∧ Below w.heap.size w w' := by
  have hd1 : inB (n : Int) 1 4 = false := inB_no (by omega)
  clear hn
  go_enter Try.func36, Try.ntmps36
  go_wp2_with (go_at_call 59; refine (isCount_any _ _).mono ?_; rintro e w' ⟨rfl, rfl⟩)
  exact bodyPost_ret (v := .tuple #[rel5 0 0 0 0 0, .bool false]) (by simp [results, Try.results36, go_sem]) rfl ⟨rfl, below_one _ _⟩

set_option maxHeartbeats 2000000 in
theorem relationFrom_bad (ao : Option Addr) (cap : Nat) (xs : List Int) (w : World) (h1 : 1 ≤ xs.length) (h2 : xs.length ≤ 4) (hx : relIn xs = false) (hr : Rd w ao xs) :
    Calls Try.prog 36 #[.slice ao xs.length cap] w fun e w' => e = .returned (.tuple #[rel5 0 0 0 0 0, .bool false]) ∧ Below w.heap.size w w' := by
  obtain ⟨n, hn⟩ : ∃ n, n = xs.length := ⟨_, rfl⟩
  rw [← hn] at h1 h2
  have HX := Lib.hid hx
  clear hx
  have hd1 : inB (n : Int) 1 4 = true := inB_yes (by omega) (by omega)
  go_enter Try.func36, Try.ntmps36
  rw [← hn]
  have HN := Lib.hid hn
  clear hn
  go_wp2_with (go_at_call 59; refine (isCount_any _ _).mono ?_; rintro e w' ⟨rfl, rfl⟩)
  go_loopw [18, 6, 7] (fun i _ _ wr => ∃ (k : Nat) (a b c d : Int), k ≤ n ∧ i = .int .i64 k ∧ (xs.take k).all (rowIn n) = true ∧
      wr = (w.alloc (.cells #[.int .i64 0, .int .i64 0, .int .i64 0, .int .i64 0, .int .i64 0] 45)).alloc (.cells #[.int .i64 n, .int .i64 a, .int .i64 b, .int .i64 c, .int .i64 d] 45))
    (fun i _ _ _ => n - (intOf i).toNat)
  case atStart => exact ⟨0, 0, 0, 0, 0, Nat.zero_le _, rfl, rfl, rfl⟩
  case round =>
    obtain ⟨k, a, b, c, d, hk, rfl, ht, rfl⟩ := hrel
    have HT := Lib.hid ht
    clear ht
    by_cases hlt : k < n
    · obtain ⟨bl, off, x, hxk, rfl, hbl, hc1⟩ := (hr.below (below_two w (.cells #[.int .i64 0, .int .i64 0, .int .i64 0, .int .i64 0, .int .i64 0] 45) (.cells #[.int .i64 n, .int .i64 a, .int .i64 b, .int .i64 c, .int .i64 d] 45))).get k (by rw [← HN.out]; exact hlt)
      have HK := Lib.hid hxk
      clear hr hxk
      cases hrow : rowIn n x with
      | false =>
        go_wp2_with (go_at_call 60; refine (isSet_any _ _ h1 h2 _).mono ?_; rintro e w' ⟨rfl, rfl⟩)
        exact bodyPost_ret (v := .tuple #[rel5 0 0 0 0 0, .bool false]) (by simp [results, Try.results36, go_sem]) rfl ⟨rfl, below_two _ _ _⟩
      | true =>
        have HR := Lib.hid hrow
        have hT : (xs.take (k + 1)).all (rowIn n) = true := by rw [List.take_add_one, HK.out]; simp [HT.out, HR.out]
        have HT' := Lib.hid hT
        clear hT
        rcases (by omega : k = 0 ∨ k = 1 ∨ k = 2 ∨ k = 3) with rfl | rfl | rfl | rfl
        · simp only [Nat.add_zero] at hc1
          go_wp2_with (go_at_call 60; refine (isSet_any _ _ h1 h2 _).mono ?_; rintro e w' ⟨rfl, rfl⟩)
          go_roundw
          case rel => exact ⟨1, _, _, _, _, by omega, by go_num, HT'.out, rfl⟩
          case measure => simp [intOf]; omega
        · go_wp2_with (go_at_call 60; refine (isSet_any _ _ h1 h2 _).mono ?_; rintro e w' ⟨rfl, rfl⟩)
          go_roundw
          case rel => exact ⟨2, _, _, _, _, by omega, by go_num, HT'.out, rfl⟩
          case measure => simp [intOf]; omega
        · go_wp2_with (go_at_call 60; refine (isSet_any _ _ h1 h2 _).mono ?_; rintro e w' ⟨rfl, rfl⟩)
          go_roundw
          case rel => exact ⟨3, _, _, _, _, by omega, by go_num, HT'.out, rfl⟩
          case measure => simp [intOf]; omega
        · go_wp2_with (go_at_call 60; refine (isSet_any _ _ h1 h2 _).mono ?_; rintro e w' ⟨rfl, rfl⟩)
          go_roundw
          case rel => exact ⟨4, _, _, _, _, by omega, by go_num, HT'.out, rfl⟩
          case measure => simp [intOf]; omega
    · obtain rfl : k = n := by omega
      have ht := HT.out
      have hf : relIn xs = true := by
        unfold relIn
        rw [← HN.out, decide_eq_true (by omega : 1 ≤ k ∧ k ≤ 4)]
        rw [HN.out, List.take_length] at ht
        rw [HN.out]
        simpa using ht
      rw [HX.out] at hf
      exact absurd hf (by simp)

theorem relationFrom_no (ao : Option Addr) (cap : Nat) (xs : List Int) (w : World) (hl : xs.length ≤ 1048576) (hx : relIn xs = false) (hr : Rd w ao xs) :
    Calls Try.prog 36 #[.slice ao xs.length cap] w fun e w' => e = .returned (.tuple #[rel5 0 0 0 0 0, .bool false]) ∧ Below w.heap.size w w' := by
  by_cases h : 1 ≤ xs.length ∧ xs.length ≤ 4
  · exact relationFrom_bad ao cap xs w h.1 h.2 hx hr
  · exact relationFrom_long ao cap xs.length w (by omega) hl

end Go.Proofs.Ytgmjdkhegbdbjaa

namespace Go.Proofs.Ytgmjdkhegbdbjaa
open Go.RowKit

theorem row_rd {w : World} {base : Nat} {e : TypeId} {v : Value} {xs : List Int} (h : w.ownsRow base e 1 v xs.length (xs.map (Value.int .i64))) :
    ∃ ao cap, v = .slice ao xs.length cap ∧ Rd w ao xs := by
  rcases h.2 with ⟨rfl, hn⟩ | ⟨g, cap, cur, rfl, hb, hg, hnc, hcm, hcs, htake⟩
  · refine ⟨none, 0, by rw [hn], ?_⟩
    intro k x hx
    rw [List.eq_nil_of_length_eq_zero hn] at hx
    simp at hx
  · refine ⟨_, cap, rfl, ?_⟩
    intro k x hx
    refine ⟨g, 0, rfl, (Array.getElem?_eq_some_iff.1 hg).1, ?_⟩
    have hk : k < xs.length := (List.getElem?_eq_some_iff.1 hx).1
    have := h.cellAt k (by omega)
    rw [Nat.zero_add, this]
    simp [hx]

end Go.Proofs.Ytgmjdkhegbdbjaa

namespace Go.Proofs.Ytgmjdkhegbdbjaa
open Go.RowKit

end Go.Proofs.Ytgmjdkhegbdbjaa

namespace Go.Proofs.Ytgmjdkhegbdbjaa
open Go.RowKit

theorem own_step' {w wr w1 : World} {base : Nat} {e : TypeId} {size : Nat} {v : Value} {n : Nat} {xs : List Value} (ho : wr.ownsRow base e size v n xs) (hb : Below base w wr) (hs : base ≤ wr.heap.size) (o : Obj)
    (hg : (wr.alloc o).grownBy w1 v.ownBlock) : Below base w w1 :=
  (hb.alloc hs o).grown hg (by simp; omega) (fun k hk => (ho.lt k hk).1)

theorem row_lit0 (w : World) : (w.alloc (.cells #[] 3)).ownsRow w.heap.size 3 1 (.slice (some ⟨w.heap.size, 0, none⟩) 0 0) 0 [] :=
  World.ownsRow_lit w #[] 0 (Nat.le_refl _) (by unfold maxLen; omega) rfl

/-- rows met -/
def zipI (f : Int → Int → Int) (xs ys : List Int) : List Int := List.zipWith f xs ys

end Go.Proofs.Ytgmjdkhegbdbjaa

namespace Go.Proofs.Ytgmjdkhegbdbjaa
open Go.RowKit

def eitherL (xs ys : List Int) : List Int := zipI (bits .or .i64) xs ys
def bothL (xs ys : List Int) : List Int := zipI (bits .and .i64) xs ys

/-- a list, or none -/
def ifR (b : Bool) (r : List Int) : List Int := if b then r else []

/-- what a call gives that answers a list of its own and a bool -/
def Gave (w : World) (r : List Int) (ok : Bool) (e : Ending) (w' : World) : Prop :=
  ∃ v, e = .returned (.tuple #[v, .bool ok]) ∧ w'.ownsRow w.heap.size 3 1 v r.length (r.map (Value.int .i64)) ∧ Below w.heap.size w w'

/-- all points but those of a row -/
def otherL (xs : List Int) : List Int := xs.map fun x => bits .andNot .i64 (2 ^ xs.length - 1) x

end Go.Proofs.Ytgmjdkhegbdbjaa

namespace Go.Proofs.Ytgmjdkhegbdbjaa
open Go.RowKit

/-- block b holds the relation made of these rows -/
def RelAt (w : World) (b : Nat) (xs : List Int) : Prop :=
  w.heap[b]? = some (.cells #[.int .i64 xs.length, .int .i64 (rowAt xs 0), .int .i64 (rowAt xs 1), .int .i64 (rowAt xs 2), .int .i64 (rowAt xs 3)] 45 (0, 0))

theorem RelAt.cell0 {w : World} {b : Nat} {xs : List Int} (h : RelAt w b xs) : w.cell? ⟨b, 0, none⟩ = some (.int .i64 xs.length) := by
  unfold RelAt at h
  simp [World.cell?, h]
theorem RelAt.cell1 {w : World} {b : Nat} {xs : List Int} (h : RelAt w b xs) : w.cell? ⟨b, 1, none⟩ = some (.int .i64 (rowAt xs 0)) := by
  unfold RelAt at h
  simp [World.cell?, h]
theorem RelAt.cell2 {w : World} {b : Nat} {xs : List Int} (h : RelAt w b xs) : w.cell? ⟨b, 2, none⟩ = some (.int .i64 (rowAt xs 1)) := by
  unfold RelAt at h
  simp [World.cell?, h]
theorem RelAt.cell3 {w : World} {b : Nat} {xs : List Int} (h : RelAt w b xs) : w.cell? ⟨b, 3, none⟩ = some (.int .i64 (rowAt xs 2)) := by
  unfold RelAt at h
  simp [World.cell?, h]
theorem RelAt.cell4 {w : World} {b : Nat} {xs : List Int} (h : RelAt w b xs) : w.cell? ⟨b, 4, none⟩ = some (.int .i64 (rowAt xs 3)) := by
  unfold RelAt at h
  simp [World.cell?, h]
theorem RelAt.row {w : World} {b : Nat} {xs : List Int} (h : RelAt w b xs) (k : Nat) (hk : k < 4) : w.cell? ⟨b, 1 + k, none⟩ = some (.int .i64 (rowAt xs k)) := by
  rcases (by omega : k = 0 ∨ k = 1 ∨ k = 2 ∨ k = 3) with rfl | rfl | rfl | rfl
  · exact h.cell1
  · exact h.cell2
  · exact h.cell3
  · exact h.cell4
theorem RelAt.free {w : World} {b : Nat} {xs : List Int} (h : RelAt w b xs) (j : Nat) : w.frozen? ⟨b, j, none⟩ = false := by
  unfold RelAt at h
  simp [World.frozen?, h]
theorem RelAt.lt {w : World} {b : Nat} {xs : List Int} (h : RelAt w b xs) : b < w.heap.size := (Array.getElem?_eq_some_iff.1 h).1
theorem RelAt.new (w : World) (xs : List Int) :
    RelAt (w.alloc (.cells #[.int .i64 xs.length, .int .i64 (rowAt xs 0), .int .i64 (rowAt xs 1), .int .i64 (rowAt xs 2), .int .i64 (rowAt xs 3)] 45)) w.heap.size xs :=
  heap_alloc_new w _
theorem RelAt.alloc {w : World} {b : Nat} {xs : List Int} (h : RelAt w b xs) (o : Obj) : RelAt (w.alloc o) b xs :=
  (Below.heap_alloc w o b h.lt).trans h
theorem RelAt.below {w w' : World} {B b : Nat} {xs : List Int} (h : RelAt w b xs) (hb : Below B w w') (hlt : b < B) : RelAt w' b xs :=
  (hb.block b hlt).trans h
theorem RelAt.other {w : World} {b : Nat} {xs : List Int} (h : RelAt w b xs) {p : Addr} (hp : b ≠ p.block) (v : Value) : RelAt (w.setCell p v) b xs :=
  (Below.heap_setCell w p v b hp).trans h
theorem RelAt.drew {w : World} {b : Nat} {xs : List Int} (h : RelAt w b xs) : RelAt w.drew b xs := h
theorem RelAt.drewN {w : World} {b : Nat} {xs : List Int} (h : RelAt w b xs) (n : Nat) : RelAt (w.drewN n) b xs := h
theorem RelAt.dn {w w' : World} {b : Nat} {xs : List Int} (h : RelAt w b xs) (hd : Dn w w') : RelAt w' b xs := by
  obtain ⟨q, rfl⟩ := hd
  exact h

theorem rowAt_set (xs : List Int) (k i : Nat) (v : Int) (hk : k < xs.length) : rowAt (xs.set k v) i = if i = k then v else rowAt xs i := by
  unfold rowAt
  rw [List.getD_eq_getElem?_getD, List.getD_eq_getElem?_getD, List.getElem?_set]
  by_cases h : i = k
  · subst h
    simp [hk]
  · rw [if_neg (fun e => h e.symm), if_neg h]

theorem RelAt.set {w : World} {b : Nat} {xs : List Int} (h : RelAt w b xs) (k : Nat) (hk : k < xs.length) (h4 : k < 4) (v : Int) :
    RelAt (w.setCell ⟨b, 1 + k, none⟩ (.int .i64 v)) b (xs.set k v) := by
  unfold RelAt
  rw [heap_setCell_same w b (1 + k) _ _ _ h, List.length_set, rowAt_set _ _ _ _ hk, rowAt_set _ _ _ _ hk, rowAt_set _ _ _ _ hk, rowAt_set _ _ _ _ hk]
  rcases (by omega : k = 0 ∨ k = 1 ∨ k = 2 ∨ k = 3) with rfl | rfl | rfl | rfl <;> simp

theorem rowAt_get {xs : List Int} {k : Nat} (h : k < xs.length) : xs[k]? = some (rowAt xs k) := by
  unfold rowAt
  rw [List.getD_eq_getElem?_getD, List.getElem?_eq_getElem h]
  rfl

/-- the first k rows are those of ys, the others those of xs -/
def Mix (xs ys : List Int) (k : Nat) (zs : List Int) : Prop := zs.length = xs.length ∧ ∀ j, zs[j]? = if j < k then ys[j]? else xs[j]?
theorem Mix.zero (xs ys : List Int) : Mix xs ys 0 xs := ⟨rfl, fun j => by rw [if_neg (by omega)]⟩
theorem Mix.step {xs ys zs : List Int} {k : Nat} {v : Int} (h : Mix xs ys k zs) (hk : k < xs.length) (hv : ys[k]? = some v) : Mix xs ys (k + 1) (zs.set k v) := by
  refine ⟨by rw [List.length_set, h.1], fun j => ?_⟩
  rw [List.getElem?_set, h.2]
  by_cases e : k = j
  · subst e
    rw [if_pos rfl, if_pos (by rw [h.1]; exact hk), if_pos (by omega), hv]
  · rw [if_neg e]
    by_cases h2 : j < k
    · rw [if_pos h2, if_pos (by omega)]
    · rw [if_neg h2, if_neg (by omega)]
theorem Mix.full {xs ys zs : List Int} (h : Mix xs ys xs.length zs) (hy : ys.length = xs.length) : zs = ys := by
  apply List.ext_getElem?
  intro j
  rw [h.2]
  by_cases e : j < xs.length
  · rw [if_pos e]
  · rw [if_neg e, List.getElem?_eq_none (by omega), List.getElem?_eq_none (by omega)]
theorem Mix.at {xs ys zs : List Int} {k : Nat} (h : Mix xs ys k zs) : rowAt zs k = rowAt xs k := by
  unfold rowAt
  rw [List.getD_eq_getElem?_getD, List.getD_eq_getElem?_getD, h.2, if_neg (by omega)]

end Go.Proofs.Ytgmjdkhegbdbjaa

namespace Go.Proofs.Ytgmjdkhegbdbjaa
open Go.RowKit

end Go.Proofs.Ytgmjdkhegbdbjaa

namespace Go.Proofs.Ytgmjdkhegbdbjaa
open Go.RowKit

theorem own_mono {w : World} {B B' : Nat} {e : TypeId} {size : Nat} {v : Value} {n : Nat} {xs : List Value} (h : w.ownsRow B e size v n xs) (hB : B' ≤ B) : w.ownsRow B' e size v n xs := by
  refine ⟨h.1, ?_⟩
  rcases h.2 with h2 | ⟨g, cap, cur, h1, h2, h3⟩
  · exact .inl h2
  · exact .inr ⟨g, cap, cur, h1, Nat.le_trans hB h2, h3⟩

end Go.Proofs.Ytgmjdkhegbdbjaa

namespace Go.Proofs.Ytgmjdkhegbdbjaa
open Go.RowKit

/-- v is a list of the call's own, in a block from lo on and below hi -/
structure OwnR (w : World) (lo hi : Nat) (v : Value) (xs : List Int) : Prop where
  row : w.ownsRow lo 3 1 v xs.length (xs.map (Value.int .i64))
  top : ∀ k, v.ownBlock = some k → k < hi
  size : hi ≤ w.heap.size

theorem OwnR.made {w' : World} {lo : Nat} {v : Value} {xs : List Int} (h : w'.ownsRow lo 3 1 v xs.length (xs.map (Value.int .i64))) : OwnR w' lo w'.heap.size v xs :=
  ⟨h, fun k hk => (h.lt k hk).2, Nat.le_refl _⟩
theorem OwnR.base {w : World} {lo hi : Nat} {v : Value} {xs : List Int} (h : OwnR w lo hi v xs) {k : Nat} (hk : v.ownBlock = some k) : lo ≤ k := (h.row.lt k hk).1
theorem OwnR.below {w w' : World} {lo hi B : Nat} {v : Value} {xs : List Int} (h : OwnR w lo hi v xs) (hb : Below B w w') (hB : hi ≤ B) : OwnR w' lo hi v xs := by
  refine ⟨⟨h.row.1, ?_⟩, h.top, Nat.le_trans h.size hb.size⟩
  rcases h.row.2 with h2 | ⟨g, cap, cur, rfl, h2, h3, h4⟩
  · exact .inl h2
  · exact .inr ⟨g, cap, cur, rfl, h2, (hb.block g (Nat.lt_of_lt_of_le (h.top g rfl) hB)).trans h3, h4⟩
theorem OwnR.dn {w w' : World} {lo hi : Nat} {v : Value} {xs : List Int} (h : OwnR w lo hi v xs) (hd : Dn w w') : OwnR w' lo hi v xs :=
  ⟨hd.row h.row, h.top, by rw [hd.heap]; exact h.size⟩
theorem OwnR.grown {w w' : World} {lo hi : Nat} {v : Value} {xs : List Int} {row : Option Nat} (h : OwnR w lo hi v xs) (hg : w.grownBy w' row) (hr : ∀ k, row = some k → hi ≤ k ∨ k < lo) : OwnR w' lo hi v xs := by
  refine ⟨h.row.kept hg ?_, h.top, Nat.le_trans h.size hg.size⟩
  cases hv : v.ownBlock with
  | none => exact .inl rfl
  | some k =>
    right
    intro e
    have h1 := h.top k hv
    have h2 := h.base hv
    rcases hr k e.symm with h3 | h3 <;> omega
theorem OwnR.rd {w : World} {lo hi : Nat} {v : Value} {xs : List Int} (h : OwnR w lo hi v xs) : ∃ ao cap, v = .slice ao xs.length cap ∧ Rd w ao xs := row_rd h.row

end Go.Proofs.Ytgmjdkhegbdbjaa

namespace Go.Proofs.Ytgmjdkhegbdbjaa
open Go.RowKit

end Go.Proofs.Ytgmjdkhegbdbjaa

namespace Go.Proofs.Ytgmjdkhegbdbjaa
open Go.RowKit

end Go.Proofs.Ytgmjdkhegbdbjaa

namespace Go.Proofs.Ytgmjdkhegbdbjaa
open Go.RowKit

theorem row16 {xs : List Int} (h : relIn xs = true) (k : Nat) : ∃ x : Fin 16, rowAt xs k = (x.val : Int) := by
  by_cases hk : k < xs.length
  · have hr := relIn_row h (rowAt_get hk)
    have h4 := relIn_len h
    unfold rowIn at hr
    rw [Bool.and_eq_true] at hr
    have h0 := of_decide_eq_true hr.1
    have h1 := of_decide_eq_true hr.2
    have h2 : (2 : Int) ^ xs.length ≤ 16 := by
      rcases (by omega : xs.length = 1 ∨ xs.length = 2 ∨ xs.length = 3 ∨ xs.length = 4) with e | e | e | e <;> rw [e] <;> decide
    exact ⟨⟨(rowAt xs k).toNat, by omega⟩, by simp; omega⟩
  · exact ⟨0, by unfold rowAt; rw [List.getD_eq_getElem?_getD, List.getElem?_eq_none (by omega)]; rfl⟩

end Go.Proofs.Ytgmjdkhegbdbjaa

namespace Go.Proofs.Ytgmjdkhegbdbjaa
open Go.RowKit

/-- how many of four points -/
def cnt (x : Int) : Int := x % 2 + x / 2 % 2 + x / 4 % 2 + x / 8 % 2

end Go.Proofs.Ytgmjdkhegbdbjaa

namespace Go.Proofs.Ytgmjdkhegbdbjaa
open Go.RowKit

/-- the set of one point -/
def pt (i : Nat) : Int := 2 ^ i

/-- with a pair more -/
def addPair (xs : List Int) (x y : Nat) : List Int := xs.set x (bits .or .i64 (rowAt xs x) (pt y))

theorem addPair_at (xs : List Int) (x y i : Nat) (h : x < xs.length) : rowAt (addPair xs x y) i = if i = x then bits .or .i64 (rowAt xs x) (pt y) else rowAt xs i := rowAt_set _ _ _ _ h
theorem addPair_len (xs : List Int) (x y : Nat) : (addPair xs x y).length = xs.length := by unfold addPair; rw [List.length_set]

end Go.Proofs.Ytgmjdkhegbdbjaa

namespace Go.Proofs.Ytgmjdkhegbdbjaa
open Go.RowKit

theorem RelAt.put {w : World} {b : Nat} {xs : List Int} (h : RelAt w b xs) (ys : List Int) :
    RelAt (((((w.setCell ⟨b, 0, none⟩ (.int .i64 ys.length)).setCell ⟨b, 1, none⟩ (.int .i64 (rowAt ys 0))).setCell ⟨b, 2, none⟩ (.int .i64 (rowAt ys 1))).setCell ⟨b, 3, none⟩ (.int .i64 (rowAt ys 2))).setCell ⟨b, 4, none⟩ (.int .i64 (rowAt ys 3))) b ys := by
  unfold RelAt
  have h1 := heap_setCell_same w b 0 _ _ (.int .i64 ys.length) h
  have h2 := heap_setCell_same _ b 1 _ _ (.int .i64 (rowAt ys 0)) h1
  have h3 := heap_setCell_same _ b 2 _ _ (.int .i64 (rowAt ys 1)) h2
  have h4 := heap_setCell_same _ b 3 _ _ (.int .i64 (rowAt ys 2)) h3
  have h5 := heap_setCell_same _ b 4 _ _ (.int .i64 (rowAt ys 3)) h4
  rw [h5]
  rfl

/-- each point related to itself -/
def sameL (n : Nat) : List Int := (List.range n).map pt
theorem sameL_len (n : Nat) : (sameL n).length = n := by unfold sameL; simp
end Go.Proofs.Ytgmjdkhegbdbjaa
