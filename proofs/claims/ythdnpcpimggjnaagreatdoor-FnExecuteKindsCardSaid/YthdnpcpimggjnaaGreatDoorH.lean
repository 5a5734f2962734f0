/-
  Contracts of the model's l1Two, RelEither, RelBoth, l1Other, RelOther, l1Below, RelBelow; for lists of at most 2^20 numbers.
-/
import Derived.Test.YthdnpcpimggjnaaGreatDoorRows
import Derived.WalkKit
import Derived.WalkLawsBesides
import Derived.WalkSpells
import Derived.Lib.Hide
import Derived.Deep.QuietTactic
import Derived.BigQuiet
import Derived.Deep.RegionLaw
import Derived.Maps.AppendAt
namespace Go.Proofs.YthdnpcpimggjnaaGreatDoor
open Go.RowKit

theorem Tryz.info3 : (Tryz.prog.info? 3).map (fun i => (i.zero, i.size, i.bytes)) = some (some (.int .i64 0), 1, 8) := by kernel_rfl

/-- the slice at this address reads as these numbers -/
def Rd (w : World) (ao : Option Addr) (xs : List Int) : Prop :=
  ∀ k x, xs[k]? = some x → ∃ b off, ao = some ⟨b, off, none⟩ ∧ b < w.heap.size ∧ w.cell? ⟨b, off + k, none⟩ = some (.int .i64 x)

theorem Rd.get {w : World} {ao : Option Addr} {xs : List Int} (h : Rd w ao xs) (k : Nat) (hk : k < xs.length) :
    ∃ b off x, xs[k]? = some x ∧ ao = some ⟨b, off, none⟩ ∧ b < w.heap.size ∧ w.cell? ⟨b, off + k, none⟩ = some (.int .i64 x) := by
  obtain ⟨b, off, h1, h2, h3⟩ := h k xs[k] (List.getElem?_eq_getElem hk)
  exact ⟨b, off, _, List.getElem?_eq_getElem hk, h1, h2, h3⟩

theorem Rd.below {w w' : World} {ao : Option Addr} {xs : List Int} (h : Rd w ao xs) (hb : Below w.heap.size w w') : Rd w' ao xs := by
  intro k x hx
  obtain ⟨b, off, h1, h2, h3⟩ := h k x hx
  exact ⟨b, off, h1, Nat.lt_of_lt_of_le h2 hb.size, (hb.cell (p := ⟨b, off + k, none⟩) h2).trans h3⟩

/-- the same world but for draws -/
def Dn (w w' : World) : Prop := ∃ q, w' = w.drewN q
theorem Dn.refl (w : World) : Dn w w := ⟨0, rfl⟩
theorem Dn.drewN (w : World) (n : Nat) : Dn w (w.drewN n) := ⟨n, rfl⟩
theorem Dn.drew (w : World) : Dn w w.drew := ⟨1, rfl⟩
theorem Dn.trans {a b c : World} (h : Dn a b) (k : Dn b c) : Dn a c := by
  obtain ⟨q, rfl⟩ := h
  obtain ⟨r, rfl⟩ := k
  exact ⟨q + r, World.drewN_drewN _ _ _⟩
theorem Dn.heap {w w' : World} (h : Dn w w') : w'.heap = w.heap := by
  obtain ⟨q, rfl⟩ := h
  rfl
theorem Dn.below {w w' : World} (h : Dn w w') (B : Nat) : Below B w w' := by
  obtain ⟨q, rfl⟩ := h
  exact below_drewN (Below.refl _ _) q
theorem Dn.cell {w w' : World} (h : Dn w w') (p : Addr) : w'.cell? p = w.cell? p := by
  obtain ⟨q, rfl⟩ := h
  rfl
theorem Dn.rd {w w' : World} {ao : Option Addr} {xs : List Int} (h : Dn w w') (hr : Rd w ao xs) : Rd w' ao xs := by
  obtain ⟨q, rfl⟩ := h
  exact hr
theorem Dn.row {w w' : World} {base : Nat} {e : TypeId} {size : Nat} {v : Value} {n : Nat} {xs : List Value} (h : Dn w w') (hr : w.ownsRow base e size v n xs) : w'.ownsRow base e size v n xs := by
  obtain ⟨q, rfl⟩ := h
  exact hr
/-- a quiet callee, in a region that draws -/
theorem quiet_dn {P : Program} {f : FuncId} {args : Array Value} {w : World} {n : Nat} {v : Value}
    (h : Calls P f args (w.drewN n) fun e w' => e = .returned v ∧ Dn (w.drewN n) w') : Calls P f args (w.drewN n) fun e w'' => e = .returned v ∧ ∃ m, w'' = w.drewN m :=
  h.mono fun _ _ ⟨he, m, hm⟩ => ⟨he, n + m, by rw [hm, World.drewN_drewN]⟩
theorem quiet_eq {P : Program} {f : FuncId} {args : Array Value} {w : World} {n : Nat} {v : Value}
    (h : Calls P f args (w.drewN n) fun e w' => e = .returned v ∧ w.drewN n = w') : Calls P f args (w.drewN n) fun e w'' => e = .returned v ∧ ∃ m, w'' = w.drewN m :=
  h.mono fun _ _ ⟨he, hm⟩ => ⟨he, n, hm.symm⟩

theorem toInts_step (xs : List Int) (k : Nat) (x : Int) (h : xs[k]? = some x) :
    ((xs.take k).map (Value.int .i64) ++ List.replicate (xs.length - k) (Value.int .i64 0)).set k (Value.int .i64 x) =
      (xs.take (k + 1)).map (Value.int .i64) ++ List.replicate (xs.length - (k + 1)) (Value.int .i64 0) := by
  obtain ⟨hk, hx⟩ := List.getElem?_eq_some_iff.1 h
  obtain ⟨m, hm⟩ : ∃ m, xs.length - k = m + 1 := ⟨xs.length - k - 1, by omega⟩
  have hm2 : xs.length - (k + 1) = m := by omega
  have h0 : k - (List.map (Value.int IntKind.i64) (List.take k xs)).length = 0 := by simp; omega
  rw [hm, hm2, List.set_append_right _ _ (by simp; omega), h0, List.replicate_succ, List.take_succ_eq_append_getElem hk, List.set_cons_zero, hx]
  simp only [List.map_append, List.map_cons, List.map_nil, List.append_assoc, List.cons_append, List.nil_append]

end Go.Proofs.YthdnpcpimggjnaaGreatDoor

namespace Go.Proofs.YthdnpcpimggjnaaGreatDoor
open Go.RowKit

/-- the marks from k on -/
def marks (k n : Nat) : List Int := (List.range n).map fun i => ((k + i : Nat) : Int)

theorem marks_get (k n i : Nat) (h : i < n) : (marks k n)[i]? = some (((k + i : Nat) : Int)) := by simp [marks, h]
theorem marks_len (k n : Nat) : (marks k n).length = n := by simp [marks]

theorem grown_setCell (w : World) (g j : Nat) (u : Value) : w.grownBy (w.setCell ⟨g, j, none⟩ u) (some g) :=
  ⟨rfl, rfl, rfl, by simp, fun k _ hk => heap_setCell_other w ⟨g, j, none⟩ k u (fun e => hk (by simp [e]))⟩

theorem marks_step (xs : List Value) (k n i : Nat) (h : i < n) (hx : xs.length = n) :
    ((marks k i).map (Value.int .i64) ++ xs.drop i).set i (Value.int .i64 ((k + i : Nat) : Int)) = (marks k (i + 1)).map (Value.int .i64) ++ xs.drop (i + 1) := by
  have hd : xs.drop i = xs[i] :: xs.drop (i + 1) := List.drop_eq_getElem_cons (by omega)
  rw [hd, List.set_append_right _ _ (by simp [marks])]
  have : i - (List.map (Value.int .i64) (marks k i)).length = 0 := by simp [marks]
  rw [this, List.set_cons_zero]
  simp [marks, List.range_succ]

end Go.Proofs.YthdnpcpimggjnaaGreatDoor

namespace Go.Proofs.YthdnpcpimggjnaaGreatDoor
open Go.RowKit

/-- a row of n points -/
def rowIn (n : Nat) (x : Int) : Bool := decide (0 ≤ x) && decide (x < 2 ^ n)
/-- a relation's list -/
def relIn (xs : List Int) : Bool := decide (1 ≤ xs.length ∧ xs.length ≤ 4) && xs.all (rowIn xs.length)

/-- a number in a range -/
def inB (n low high : Int) : Bool := decide (low ≤ n ∧ n ≤ high)

theorem row_top (n : Nat) (x : Int) (h1 : 1 ≤ n) (h2 : n ≤ 4) : inB x 0 (wrap64 (wrap64 (2 ^ n) - 1)) = rowIn n x := by
  have e : wrap64 (wrap64 (2 ^ n) - 1) = 2 ^ n - 1 := by
    rcases (by omega : n = 1 ∨ n = 2 ∨ n = 3 ∨ n = 4) with rfl | rfl | rfl | rfl <;> decide +kernel
  rw [e]
  unfold rowIn inB
  rcases (by omega : n = 1 ∨ n = 2 ∨ n = 3 ∨ n = 4) with rfl | rfl | rfl | rfl <;> by_cases h : 0 ≤ x <;> simp [h] <;> omega

theorem l6In_any (n low high : Int) (w : World) :
    Calls Tryz.prog 47 #[.int .i64 n, .int .i64 low, .int .i64 high] w fun e w' => e = .returned (.bool (inB n low high)) ∧ w = w' := by
  unfold inB
  go_enter Tryz.func47, Tryz.ntmps47
  by_cases h : low ≤ n
  · by_cases h2 : n ≤ high
    · go_wp2
      go_ret
      exact ⟨by simp [h, h2], rfl⟩
    · go_wp2
      go_ret
      exact ⟨by simp [h2], rfl⟩
  · go_wp2
    go_ret
    exact ⟨by simp; omega, rfl⟩

theorem relIn_bad (xs : List Int) (k : Nat) (x : Int) (h : xs[k]? = some x) (hb : rowIn xs.length x = false) : relIn xs = false := by
  unfold relIn
  rw [Bool.and_eq_false_iff]
  right
  rw [List.all_eq_false]
  exact ⟨x, List.mem_of_getElem? h, by simp [hb]⟩

theorem isCount_any (n : Int) (w : World) :
    Calls Tryz.prog 36 #[.int .i64 n] w fun e w' => e = .returned (.bool (inB n 1 4)) ∧ w = w' := by
  unfold inB
  go_enter Tryz.func36, Tryz.ntmps36
  by_cases h : 1 ≤ n
  · by_cases h2 : n ≤ 4
    · go_wp2
      go_ret
      exact ⟨by simp [h, h2], rfl⟩
    · go_wp2
      go_ret
      exact ⟨by simp [h2], rfl⟩
  · go_wp2
    go_ret
    exact ⟨by simp; omega, rfl⟩

theorem inB_yes {n low high : Int} (h : low ≤ n) (h2 : n ≤ high) : inB n low high = true := decide_eq_true ⟨h, h2⟩
theorem inB_no {n low high : Int} (h : ¬ (low ≤ n ∧ n ≤ high)) : inB n low high = false := decide_eq_false h

theorem relIn_len {xs : List Int} (h : relIn xs = true) : 1 ≤ xs.length ∧ xs.length ≤ 4 := by
  unfold relIn at h
  rw [Bool.and_eq_true] at h
  exact of_decide_eq_true h.1
theorem relIn_row {xs : List Int} (h : relIn xs = true) {k : Nat} {x : Int} (hx : xs[k]? = some x) : rowIn xs.length x = true := by
  unfold relIn at h
  rw [Bool.and_eq_true, List.all_eq_true] at h
  exact h.2 x (List.mem_of_getElem? hx)

theorem allPoints_any (n : Nat) (h1 : 1 ≤ n) (h2 : n ≤ 4) (w : World) :
    Calls Tryz.prog 106 #[.int .i64 n] w fun e w' => e = .returned (.int .i64 ((2 ^ n - 1 : Nat) : Int)) ∧ w = w' := by
  rcases (by omega : n = 1 ∨ n = 2 ∨ n = 3 ∨ n = 4) with rfl | rfl | rfl | rfl
  all_goals
    go_enter Tryz.func106, Tryz.ntmps106
    go_wp2
    go_ret
    exact ⟨rfl, rfl⟩

theorem isSet_any (x : Int) (n : Nat) (h1 : 1 ≤ n) (h2 : n ≤ 4) (w : World) :
    Calls Tryz.prog 37 #[.int .i64 x, .int .i64 n] w fun e w' => e = .returned (.bool (rowIn n x)) ∧ w = w' := by
  go_enter Tryz.func37, Tryz.ntmps37
  by_cases h : 0 ≤ x
  · go_wp2_with (go_at_call 106; refine (allPoints_any n h1 h2 _).mono ?_; rintro e w' ⟨rfl, rfl⟩)
    go_ret
    refine ⟨?_, rfl⟩
    unfold rowIn
    rcases (by omega : n = 1 ∨ n = 2 ∨ n = 3 ∨ n = 4) with rfl | rfl | rfl | rfl <;> simp [h] <;> omega
  · go_wp2
    go_ret
    unfold rowIn
    exact ⟨by simp; omega, rfl⟩

set_option maxHeartbeats 1000000 in
theorem specRelIn_yes (ao : Option Addr) (cap : Nat) (xs : List Int) (w : World) (h1 : 1 ≤ xs.length) (h2 : xs.length ≤ 4) (hr : Rd w ao xs) :
    Calls Tryz.prog 18 #[.slice ao xs.length cap] w fun e w' => e = .returned (.bool (relIn xs)) ∧ Dn w w' := by
  obtain ⟨n, hn⟩ : ∃ n, n = xs.length := ⟨_, rfl⟩
  rw [← hn] at h1 h2
  go_enter Tryz.func18, Tryz.ntmps18
  rw [← hn]
  go_wp2
  go_loopw [3] (fun i wr => ∃ k : Nat, k ≤ n ∧ i = .int .i64 k ∧ (xs.take k).all (rowIn n) = true ∧ Dn w wr)
    (fun i _ => n - (intOf i).toNat)
  case atStart => exact ⟨0, Nat.zero_le _, rfl, rfl, Dn.refl _⟩
  case round =>
    obtain ⟨k, hk, rfl, ht, hd⟩ := hrel
    have HT := Lib.hid ht
    have HN := Lib.hid hn
    clear ht hn
    by_cases hlt : k < n
    · obtain ⟨b, off, x, hxk, rfl, hbl, hc1⟩ := (hd.rd hr).get k (by rw [← HN.out]; exact hlt)
      have HX := Lib.hid hxk
      have hi1 : ((k : Nat) : Int) < (n : Int) := by omega
      clear hr hxk
      go_wp2
      go_quiet ((go_at_call 47; exact quiet_eq (l6In_any _ _ _ _)))
      go_wp2
      · go_ret
        have hb : (!inB x 0 (wrap64 (wrap64 (2 ^ n) - 1))) = true := by assumption
        rw [row_top n x h1 h2, HN.out, Bool.not_eq_true'] at hb
        exact ⟨by rw [relIn_bad xs k x HX.out hb]; rfl, hd.trans (Dn.drewN _ _)⟩
      · have hb : (!inB x 0 (wrap64 (wrap64 (2 ^ n) - 1))) = false := by assumption
        rw [row_top n x h1 h2, Bool.not_eq_false'] at hb
        go_roundw
        case rel => exact ⟨k + 1, by omega, by go_num, by rw [List.take_add_one, HX.out]; simp [HT.out, hb], hd.trans (Dn.drewN _ _)⟩
        case measure => simp [intOf]; omega
    · go_wp2_with (go_at_call 47; refine (l6In_any _ _ _ _).mono ?_; rintro e w' ⟨rfl, rfl⟩)
      go_ret
      refine ⟨?_, hd⟩
      obtain rfl : k = n := by omega
      have ht := HT.out
      rw [HN.out, List.take_length] at ht
      unfold relIn
      rw [ht, ← HN.out, decide_eq_true (by omega : 1 ≤ k ∧ k ≤ 4)]
      have hq : inB (k : Int) 1 4 = true := by unfold inB; exact decide_eq_true (by omega)
      simp [hq]

/-- a longer or an empty list is none -/
theorem specRelIn_no (ao : Option Addr) (cap : Nat) (xs : List Int) (w : World) (h1 : xs.length = 0 ∨ 4 < xs.length) (hl : xs.length ≤ 1048576) (hr : Rd w ao xs) :
    Calls Tryz.prog 18 #[.slice ao xs.length cap] w fun e w' => e = .returned (.bool false) ∧ Dn w w' := by
  obtain ⟨n, hn⟩ : ∃ n, n = xs.length := ⟨_, rfl⟩
  rw [← hn] at h1 hl
  go_enter Tryz.func18, Tryz.ntmps18
  rw [← hn]
  go_wp2
  go_loopw [3] (fun i wr => ∃ k : Nat, k ≤ n ∧ i = .int .i64 k ∧ Dn w wr)
    (fun i _ => n - (intOf i).toNat)
  case atStart => exact ⟨0, Nat.zero_le _, rfl, Dn.refl _⟩
  case round =>
    obtain ⟨k, hk, rfl, hd⟩ := hrel
    have HN := Lib.hid hn
    clear hn
    by_cases hlt : k < n
    · obtain ⟨b, off, x, hxk, rfl, hbl, hc1⟩ := (hd.rd hr).get k (by rw [← HN.out]; exact hlt)
      have HX := Lib.hid hxk
      have hi1 : ((k : Nat) : Int) < (n : Int) := by omega
      clear hr hxk h1
      go_wp2
      go_quiet ((go_at_call 47; exact quiet_eq (l6In_any _ _ _ _)))
      go_wp2
      · go_ret
        exact ⟨rfl, hd.trans (Dn.drewN _ _)⟩
      · go_roundw
        case rel => exact ⟨k + 1, by omega, by go_num, hd.trans (Dn.drewN _ _)⟩
        case measure => simp [intOf]; omega
    · go_wp2_with (go_at_call 47; refine (l6In_any _ _ _ _).mono ?_; rintro e w' ⟨rfl, rfl⟩)
      go_ret
      obtain rfl : k = n := by omega
      have hq : inB (k : Int) 1 4 = false := by unfold inB; exact decide_eq_false (by omega)
      exact ⟨by simp [hq], hd⟩

theorem specRelIn_any (ao : Option Addr) (cap : Nat) (xs : List Int) (w : World) (hl : xs.length ≤ 1048576) (hr : Rd w ao xs) :
    Calls Tryz.prog 18 #[.slice ao xs.length cap] w fun e w' => e = .returned (.bool (relIn xs)) ∧ Dn w w' := by
  by_cases h : 1 ≤ xs.length ∧ xs.length ≤ 4
  · exact specRelIn_yes ao cap xs w h.1 h.2 hr
  · refine (specRelIn_no ao cap xs w (by omega) hl hr).mono ?_
    rintro e w' ⟨rfl, hd⟩
    exact ⟨by simp [relIn, h], hd⟩
end Go.Proofs.YthdnpcpimggjnaaGreatDoor

namespace Go.Proofs.YthdnpcpimggjnaaGreatDoor
open Go.RowKit

/-- a row of a list -/
def rowAt (xs : List Int) (i : Nat) : Int := xs.getD i 0
/-- five numbers, as a relation's cells -/
abbrev rel5 (n a b c d : Int) : Value := .agg #[.int .i64 n, .int .i64 a, .int .i64 b, .int .i64 c, .int .i64 d]
/-- the relation made of a list of rows -/
abbrev relOf (xs : List Int) : Value := .agg #[.int .i64 xs.length, .int .i64 (rowAt xs 0), .int .i64 (rowAt xs 1), .int .i64 (rowAt xs 2), .int .i64 (rowAt xs 3)]
/-- the first k rows -/
def firstK (xs : List Int) (k i : Nat) : Int := if i < k then xs.getD i 0 else 0

theorem below_one (w : World) (o : Obj) : Below w.heap.size w (w.alloc o) := (Below.refl _ w).alloc (Nat.le_refl _) _
theorem below_two (w : World) (o p : Obj) : Below w.heap.size w ((w.alloc o).alloc p) := (below_one w o).alloc (by simp) _
theorem below_three (w : World) (o p q : Obj) : Below w.heap.size w (((w.alloc o).alloc p).alloc q) := (below_two w o p).alloc (by simp; omega) _

theorem firstK_all (xs : List Int) (i : Nat) : firstK xs xs.length i = xs.getD i 0 := by
  unfold firstK
  by_cases h : i < xs.length
  · rw [if_pos h]
  · rw [if_neg h, List.getD_eq_getElem?_getD, List.getElem?_eq_none (by omega)]
    rfl
theorem relOf_eq {xs : List Int} {k : Nat} (h : k = xs.length) :
    (k : Int) = (xs.length : Int) ∧ firstK xs k 0 = rowAt xs 0 ∧ firstK xs k 1 = rowAt xs 1 ∧ firstK xs k 2 = rowAt xs 2 ∧ firstK xs k 3 = rowAt xs 3 := by
  subst h
  exact ⟨rfl, firstK_all _ _, firstK_all _ _, firstK_all _ _, firstK_all _ _⟩

set_option maxHeartbeats 2000000 in
theorem relationFrom_yes (ao : Option Addr) (cap : Nat) (xs : List Int) (w : World) (hx : relIn xs = true) (hr : Rd w ao xs) :
    Calls Tryz.prog 16 #[.slice ao xs.length cap] w fun e w' => e = .returned (.tuple #[relOf xs, .bool true]) ∧ Below w.heap.size w w' := by
  obtain ⟨n, hn⟩ : ∃ n, n = xs.length := ⟨_, rfl⟩
  obtain ⟨h1, h2⟩ := relIn_len hx
  rw [← hn] at h1 h2
  have HX := Lib.hid hx
  clear hx
  have hd1 : inB (n : Int) 1 4 = true := inB_yes (by omega) (by omega)
  go_enter Tryz.func16, Tryz.ntmps16
  rw [← hn]
  have HN := Lib.hid hn
  clear hn
  go_wp2_with (go_at_call 36; refine (isCount_any _ _).mono ?_; rintro e w' ⟨rfl, rfl⟩)
  go_loopw [18, 6, 7] (fun i _ _ wr => ∃ k : Nat, k ≤ n ∧ i = .int .i64 k ∧
      wr = (w.alloc (.cells #[.int .i64 0, .int .i64 0, .int .i64 0, .int .i64 0, .int .i64 0] 36)).alloc (.cells #[.int .i64 n, .int .i64 (firstK xs k 0), .int .i64 (firstK xs k 1), .int .i64 (firstK xs k 2), .int .i64 (firstK xs k 3)] 36))
    (fun i _ _ _ => n - (intOf i).toNat)
  case atStart => exact ⟨0, Nat.zero_le _, rfl, by simp [firstK]⟩
  case round =>
    obtain ⟨k, hk, rfl, rfl⟩ := hrel
    have hB : Below w.heap.size w ((w.alloc (.cells #[.int .i64 0, .int .i64 0, .int .i64 0, .int .i64 0, .int .i64 0] 36)).alloc (.cells #[.int .i64 n, .int .i64 (firstK xs k 0), .int .i64 (firstK xs k 1), .int .i64 (firstK xs k 2), .int .i64 (firstK xs k 3)] 36)) :=
      ((Below.refl _ w).alloc (Nat.le_refl _) _).alloc (by simp) _
    by_cases hlt : k < n
    · obtain ⟨b, off, x, hxk, rfl, hbl, hc1⟩ := (hr.below hB).get k (by rw [← HN.out]; exact hlt)
      have hrow : rowIn n x = true := by rw [HN.out]; exact relIn_row HX.out hxk
      have HK := Lib.hid hxk
      have HBL := Lib.hid hB
      clear hr hxk hB
      have HG : xs.getD k 0 = x := by rw [List.getD_eq_getElem?_getD, HK.out]; rfl
      have HG' := Lib.hid HG
      clear HG
      rcases (by omega : k = 0 ∨ k = 1 ∨ k = 2 ∨ k = 3) with rfl | rfl | rfl | rfl
      · simp only [Nat.add_zero] at hc1
        go_wp2_with (go_at_call 37; refine (isSet_any _ _ h1 h2 _).mono ?_; rintro e w' ⟨rfl, rfl⟩)
        go_roundw
        case rel => exact ⟨1, by omega, by go_num, by rw [← HG'.out]; simp [firstK]⟩
        case measure => simp [intOf]; omega
      · go_wp2_with (go_at_call 37; refine (isSet_any _ _ h1 h2 _).mono ?_; rintro e w' ⟨rfl, rfl⟩)
        go_roundw
        case rel => exact ⟨2, by omega, by go_num, by rw [← HG'.out]; simp [firstK]⟩
        case measure => simp [intOf]; omega
      · go_wp2_with (go_at_call 37; refine (isSet_any _ _ h1 h2 _).mono ?_; rintro e w' ⟨rfl, rfl⟩)
        go_roundw
        case rel => exact ⟨3, by omega, by go_num, by rw [← HG'.out]; simp [firstK]⟩
        case measure => simp [intOf]; omega
      · go_wp2_with (go_at_call 37; refine (isSet_any _ _ h1 h2 _).mono ?_; rintro e w' ⟨rfl, rfl⟩)
        go_roundw
        case rel => exact ⟨4, by omega, by go_num, by rw [← HG'.out]; simp [firstK]⟩
        case measure => simp [intOf]; omega
    · go_wp2
      obtain rfl : k = n := by omega
      exact bodyPost_ret (v := .tuple #[relOf xs, .bool true]) (by simp [results, Tryz.results16, go_sem]; exact relOf_eq HN.out) rfl ⟨rfl, below_two _ _ _⟩

theorem relationFrom_long (ao : Option Addr) (cap n : Nat) (w : World) (hn : n = 0 ∨ 4 < n) (hl : n ≤ 1048576) :
    Calls Tryz.prog 16 #[.slice ao n cap] w fun e w' => e = .returned (.tuple #[rel5 0 0 0 0 0, .bool false]) ∧ Below w.heap.size w w' := by
  have hd1 : inB (n : Int) 1 4 = false := inB_no (by omega)
  clear hn
  go_enter Tryz.func16, Tryz.ntmps16
  go_wp2_with (go_at_call 36; refine (isCount_any _ _).mono ?_; rintro e w' ⟨rfl, rfl⟩)
  exact bodyPost_ret (v := .tuple #[rel5 0 0 0 0 0, .bool false]) (by simp [results, Tryz.results16, go_sem]) rfl ⟨rfl, below_one _ _⟩

set_option maxHeartbeats 2000000 in
theorem relationFrom_bad (ao : Option Addr) (cap : Nat) (xs : List Int) (w : World) (h1 : 1 ≤ xs.length) (h2 : xs.length ≤ 4) (hx : relIn xs = false) (hr : Rd w ao xs) :
    Calls Tryz.prog 16 #[.slice ao xs.length cap] w fun e w' => e = .returned (.tuple #[rel5 0 0 0 0 0, .bool false]) ∧ Below w.heap.size w w' := by
  obtain ⟨n, hn⟩ : ∃ n, n = xs.length := ⟨_, rfl⟩
  rw [← hn] at h1 h2
  have HX := Lib.hid hx
  clear hx
  have hd1 : inB (n : Int) 1 4 = true := inB_yes (by omega) (by omega)
  go_enter Tryz.func16, Tryz.ntmps16
  rw [← hn]
  have HN := Lib.hid hn
  clear hn
  go_wp2_with (go_at_call 36; refine (isCount_any _ _).mono ?_; rintro e w' ⟨rfl, rfl⟩)
  go_loopw [18, 6, 7] (fun i _ _ wr => ∃ (k : Nat) (a b c d : Int), k ≤ n ∧ i = .int .i64 k ∧ (xs.take k).all (rowIn n) = true ∧
      wr = (w.alloc (.cells #[.int .i64 0, .int .i64 0, .int .i64 0, .int .i64 0, .int .i64 0] 36)).alloc (.cells #[.int .i64 n, .int .i64 a, .int .i64 b, .int .i64 c, .int .i64 d] 36))
    (fun i _ _ _ => n - (intOf i).toNat)
  case atStart => exact ⟨0, 0, 0, 0, 0, Nat.zero_le _, rfl, rfl, rfl⟩
  case round =>
    obtain ⟨k, a, b, c, d, hk, rfl, ht, rfl⟩ := hrel
    have HT := Lib.hid ht
    clear ht
    by_cases hlt : k < n
    · obtain ⟨bl, off, x, hxk, rfl, hbl, hc1⟩ := (hr.below (below_two w (.cells #[.int .i64 0, .int .i64 0, .int .i64 0, .int .i64 0, .int .i64 0] 36) (.cells #[.int .i64 n, .int .i64 a, .int .i64 b, .int .i64 c, .int .i64 d] 36))).get k (by rw [← HN.out]; exact hlt)
      have HK := Lib.hid hxk
      clear hr hxk
      cases hrow : rowIn n x with
      | false =>
        go_wp2_with (go_at_call 37; refine (isSet_any _ _ h1 h2 _).mono ?_; rintro e w' ⟨rfl, rfl⟩)
        exact bodyPost_ret (v := .tuple #[rel5 0 0 0 0 0, .bool false]) (by simp [results, Tryz.results16, go_sem]) rfl ⟨rfl, below_two _ _ _⟩
      | true =>
        have HR := Lib.hid hrow
        have hT : (xs.take (k + 1)).all (rowIn n) = true := by rw [List.take_add_one, HK.out]; simp [HT.out, HR.out]
        have HT' := Lib.hid hT
        clear hT
        rcases (by omega : k = 0 ∨ k = 1 ∨ k = 2 ∨ k = 3) with rfl | rfl | rfl | rfl
        · simp only [Nat.add_zero] at hc1
          go_wp2_with (go_at_call 37; refine (isSet_any _ _ h1 h2 _).mono ?_; rintro e w' ⟨rfl, rfl⟩)
          go_roundw
          case rel => exact ⟨1, _, _, _, _, by omega, by go_num, HT'.out, rfl⟩
          case measure => simp [intOf]; omega
        · go_wp2_with (go_at_call 37; refine (isSet_any _ _ h1 h2 _).mono ?_; rintro e w' ⟨rfl, rfl⟩)
          go_roundw
          case rel => exact ⟨2, _, _, _, _, by omega, by go_num, HT'.out, rfl⟩
          case measure => simp [intOf]; omega
        · go_wp2_with (go_at_call 37; refine (isSet_any _ _ h1 h2 _).mono ?_; rintro e w' ⟨rfl, rfl⟩)
          go_roundw
          case rel => exact ⟨3, _, _, _, _, by omega, by go_num, HT'.out, rfl⟩
          case measure => simp [intOf]; omega
        · go_wp2_with (go_at_call 37; refine (isSet_any _ _ h1 h2 _).mono ?_; rintro e w' ⟨rfl, rfl⟩)
          go_roundw
          case rel => exact ⟨4, _, _, _, _, by omega, by go_num, HT'.out, rfl⟩
          case measure => simp [intOf]; omega
    · obtain rfl : k = n := by omega
      have ht := HT.out
      have hf : relIn xs = true := by
        unfold relIn
        rw [← HN.out, decide_eq_true (by omega : 1 ≤ k ∧ k ≤ 4)]
        rw [HN.out, List.take_length] at ht
        rw [HN.out]
        simpa using ht
      rw [HX.out] at hf
      exact absurd hf (by simp)

theorem relationFrom_no (ao : Option Addr) (cap : Nat) (xs : List Int) (w : World) (hl : xs.length ≤ 1048576) (hx : relIn xs = false) (hr : Rd w ao xs) :
    Calls Tryz.prog 16 #[.slice ao xs.length cap] w fun e w' => e = .returned (.tuple #[rel5 0 0 0 0 0, .bool false]) ∧ Below w.heap.size w w' := by
  by_cases h : 1 ≤ xs.length ∧ xs.length ≤ 4
  · exact relationFrom_bad ao cap xs w h.1 h.2 hx hr
  · exact relationFrom_long ao cap xs.length w (by omega) hl

theorem implRelIn_any (ao : Option Addr) (cap : Nat) (xs : List Int) (w : World) (hl : xs.length ≤ 1048576) (hr : Rd w ao xs) :
    Calls Tryz.prog 147 #[.slice ao xs.length cap] w fun e w' => e = .returned (.bool (relIn xs)) ∧ Below w.heap.size w w' := by
  cases hx : relIn xs with
  | true =>
    have HX := Lib.hid hx
    clear hx
    go_enter Tryz.func147, Tryz.ntmps147
    go_wp2_with (go_at_call 16; refine (relationFrom_yes _ _ _ _ HX.out hr).mono ?_; rintro e w1 ⟨rfl, hb⟩)
    go_ret
    exact ⟨rfl, hb.alloc hb.size _⟩
  | false =>
    have HX := Lib.hid hx
    clear hx
    go_enter Tryz.func147, Tryz.ntmps147
    go_wp2_with (go_at_call 16; refine (relationFrom_no _ _ _ _ hl HX.out hr).mono ?_; rintro e w1 ⟨rfl, hb⟩)
    go_ret
    exact ⟨rfl, hb.alloc hb.size _⟩
end Go.Proofs.YthdnpcpimggjnaaGreatDoor

namespace Go.Proofs.YthdnpcpimggjnaaGreatDoor
open Go.RowKit

theorem row_rd {w : World} {base : Nat} {e : TypeId} {v : Value} {xs : List Int} (h : w.ownsRow base e 1 v xs.length (xs.map (Value.int .i64))) :
    ∃ ao cap, v = .slice ao xs.length cap ∧ Rd w ao xs := by
  rcases h.2 with ⟨rfl, hn⟩ | ⟨g, cap, cur, rfl, hb, hg, hnc, hcm, hcs, htake⟩
  · refine ⟨none, 0, by rw [hn], ?_⟩
    intro k x hx
    rw [List.eq_nil_of_length_eq_zero hn] at hx
    simp at hx
  · refine ⟨_, cap, rfl, ?_⟩
    intro k x hx
    refine ⟨g, 0, rfl, (Array.getElem?_eq_some_iff.1 hg).1, ?_⟩
    have hk : k < xs.length := (List.getElem?_eq_some_iff.1 hx).1
    have := h.cellAt k (by omega)
    rw [Nat.zero_add, this]
    simp [hx]

end Go.Proofs.YthdnpcpimggjnaaGreatDoor

namespace Go.Proofs.YthdnpcpimggjnaaGreatDoor
open Go.RowKit

/-- what the reading of a slice of ints gives -/
theorem rd_of_row {w : World} {a : Option Addr} {len cap : Nat} {zs : List Int}
    (h : (a = none ∧ len = 0 ∧ cap = 0 ∧ zs = []) ∨
      ∃ x, a = some x ∧ len ≤ cap ∧ cap ≤ maxLen ∧ zs.length = cap ∧ (∀ i, i < zs.length → w.cell? (x.add i) = some (.int .i64 (zs.getD i 0))) ∧ ∀ n ∈ zs, (Lit.int .i64 n).wf = true) :
    ∃ xs : List Int, xs.length = len ∧ len ≤ maxLen ∧ Rd w a xs ∧ ∀ n ∈ xs, (Lit.int .i64 n).wf = true := by
  rcases h with ⟨rfl, rfl, rfl, rfl⟩ | ⟨x, rfl, hlc, hcm, hz, hc, hwf⟩
  · exact ⟨[], rfl, Nat.zero_le _, fun k x hx => by simp at hx, by simp⟩
  · refine ⟨zs.take len, by simp; omega, by omega, ?_, fun n hn => hwf n (List.mem_of_mem_take hn)⟩
    intro k y hy
    have hk : k < len := by
      have := (List.getElem?_eq_some_iff.1 hy).1
      simp at this
      omega
    rw [List.getElem?_take, if_pos hk] at hy
    have h1 := hc k (by omega)
    have hg : zs.getD k 0 = y := by rw [List.getD_eq_getElem?_getD, hy]; rfl
    rw [hg] at h1
    obtain ⟨b, off, sp⟩ := x
    cases sp with
    | none =>
      have hadd : (⟨b, off, none⟩ : Addr).add k = ⟨b, off + k, none⟩ := by unfold Addr.add; split <;> simp_all
      rw [hadd] at h1
      refine ⟨b, off, rfl, ?_, h1⟩
      unfold World.cell? at h1
      cases hh : w.heap[b]? with
      | none => rw [hh] at h1; simp at h1
      | some o => exact (Array.getElem?_eq_some_iff.1 hh).1
    | some s =>
      exfalso
      have h0 := hc 0 (by omega)
      unfold World.cell? Addr.add at h0
      simp at h0
      split at h0 <;> simp_all
end Go.Proofs.YthdnpcpimggjnaaGreatDoor

namespace Go.Proofs.YthdnpcpimggjnaaGreatDoor
open Go.RowKit

/-- append onto a row of the call's own, as one step of a region that draws -/
theorem step_append_own {P : Program} {ops : Array Oper} {o : Oper} {a : Act} {w : World} {K : Act → World → Prop} {Q : Exit → Act → World → Prop} {E : Prop}
    (hg : o.guard = none) (s x : Operand) (t : TypeId) (ho : o.op = Op.call { callee := Callee.builtin Builtin.append, args := #[s, x], argTypes := #[t, t] })
    (base : Nat) (e : TypeId) (i : TypeInfo) (z : Value) (size bytes : Nat) (ht : P.underlying t = some (.slice e)) (hi : P.info? e = some i) (hz : i.zero = some z)
    (hsize : i.size = size) (hby : i.bytes = bytes) (hzs : z.cells.size = size) (hsz : 0 < size)
    (v : Value) (n : Nat) (xs : List Value) (hs : a.eval s = v) (hown : w.ownsRow base e size v n xs)
    (ad : Addr) (m c : Nat) (news : List Value) (hx : a.eval x = .slice (some ad) m c) (hl : news.length = m * size) (hnews : ∀ j u, news[j]? = some u → w.cell? (ad.add j) = some u) (h1 : ∀ u ∈ news, u.oneCell' = true)
    (h63 : n + m ≤ maxLen) (hbytes : (n + m) * bytes ≤ 140737488355328) (hbase : base ≤ w.heap.size)
    (h : ∀ v' w', w'.ownsRow base e size v' (n + m) (xs ++ news) → w.grownBy w' v.ownBlock → K (a.put o.dst v') w') :
    if Region.wanted o (yielded ops a.tmps) = true then Oper.wp P o a w K Q else E := by
  have hw : Region.wanted o (yielded ops a.tmps) = true := by simp [Region.wanted, hg]
  rw [if_pos hw]
  exact wp_append_own w s x t ho base e i z size bytes ht hi hz hsize hby hzs hsz v n xs hs hown ad m c news hx hl hnews h1 h63 hbytes hbase fun v' w' h2 h3 _ => h v' w' h2 h3

theorem own_step {w wr w1 : World} {base : Nat} {e : TypeId} {size : Nat} {v : Value} {n : Nat} {xs : List Value} (ho : wr.ownsRow base e size v n xs) (hb : Below base w wr) (hs : base ≤ wr.heap.size) (o : Obj)
    (hg : ((wr.alloc o).drew).grownBy w1 v.ownBlock) : Below base w w1 :=
  ((hb.alloc hs o).drew).grown hg (by simp; omega) (fun k hk => (ho.lt k hk).1)
theorem own_step' {w wr w1 : World} {base : Nat} {e : TypeId} {size : Nat} {v : Value} {n : Nat} {xs : List Value} (ho : wr.ownsRow base e size v n xs) (hb : Below base w wr) (hs : base ≤ wr.heap.size) (o : Obj)
    (hg : (wr.alloc o).grownBy w1 v.ownBlock) : Below base w w1 :=
  (hb.alloc hs o).grown hg (by simp; omega) (fun k hk => (ho.lt k hk).1)

theorem row_lit0 (w : World) : (w.alloc (.cells #[] 3)).ownsRow w.heap.size 3 1 (.slice (some ⟨w.heap.size, 0, none⟩) 0 0) 0 [] :=
  World.ownsRow_lit w #[] 0 (Nat.le_refl _) (by unfold maxLen; omega) rfl

/-- rows met -/
def zipI (f : Int → Int → Int) (xs ys : List Int) : List Int := List.zipWith f xs ys

theorem zip_take (f : Int → Int → Int) (xs ys : List Int) (k : Nat) (x y : Int) (hx : xs[k]? = some x) (hy : ys[k]? = some y) :
    (zipI f xs ys).take (k + 1) = (zipI f xs ys).take k ++ [f x y] := by
  have h : (zipI f xs ys)[k]? = some (f x y) := by unfold zipI; rw [List.getElem?_zipWith, hx, hy]
  rw [List.take_add_one, h]
  rfl

set_option maxHeartbeats 1000000 in
theorem l1Both_any (ao bo : Option Addr) (ca cb : Nat) (xs ys : List Int) (w : World) (h4 : xs.length ≤ 4) (hn : xs.length = ys.length) (hx : Rd w ao xs) (hy : Rd w bo ys) :
    Calls Tryz.prog 53 #[.slice ao xs.length ca, .slice bo ys.length cb] w fun e w' => ∃ v, e = .returned v ∧
      w'.ownsRow w.heap.size 3 1 v xs.length ((zipI (bits .and .i64) xs ys).map (Value.int .i64)) ∧ Below w.heap.size w w' := by
  obtain ⟨i0, hi, hz0, hz1, hz2⟩ := info_parts Tryz.info3
  have HN := Lib.hid hn
  clear hn
  go_enter Tryz.func53, Tryz.ntmps53
  go_wp2
  go_loopw [5, 6] (fun v i wr => ∃ k : Nat, k ≤ xs.length ∧ i = .int .i64 k ∧ wr.ownsRow w.heap.size 3 1 v k (((zipI (bits .and .i64) xs ys).take k).map (Value.int .i64)) ∧ Below w.heap.size w wr)
    (fun _ i _ => xs.length - (intOf i).toNat)
  case atStart => exact ⟨0, Nat.zero_le _, rfl, row_lit0 w, below_one _ _⟩
  case round =>
    obtain ⟨k, hk, rfl, ho, hb⟩ := hrel
    by_cases hlt : k < xs.length
    · have hlt2 : k < ys.length := by rw [← HN.out]; exact hlt
      obtain ⟨b, off, x, hxk, rfl, hbl, hc1⟩ := (hx.below hb).get k hlt
      obtain ⟨b2, off2, y, hyk, rfl, hbl2, hc2⟩ := (hy.below hb).get k hlt2
      have hi1 : ((k : Nat) : Int) < (xs.length : Int) := by omega
      have hi2 : ((k : Nat) : Int) < (ys.length : Int) := by omega
      have HX := Lib.hid hxk
      have HY := Lib.hid hyk
      clear hx hy hxk hyk
      go_wp2
      go_region_law (refine step_append_own rfl (.tmp 14) (.tmp 24) 23 rfl w.heap.size 3 i0 (.int .i64 0) 1 8 Tryz.underlying23 hi hz0 hz1 hz2 rfl (by decide) _ _ _ rfl (ho.alloc _).drew ⟨wr.heap.size, 0, none⟩ 1 1 [.int .i64 (bits .and .i64 x y)] rfl rfl (cell_one_new _ _ _) (by simp [Value.oneCell']) (by unfold maxLen; omega) (by omega) (by have := hb.size; simp; omega) ?_; intro v' w1 hown' hgrow)
      all_goals
        have hb' := own_step ho hb hb.size _ hgrow
        rw [← List.map_singleton (f := Value.int .i64), ← List.map_append, ← zip_take _ _ _ _ _ _ HX.out HY.out] at hown'
        clear ho hb hgrow hc1 hc2
        go_wp2
        go_roundw
        case rel => exact ⟨k + 1, by omega, by go_num, hown', hb'⟩
        case measure => simp [intOf]; omega
    · go_wp2
      go_ret
      obtain rfl : k = xs.length := by omega
      rw [List.take_of_length_le (by unfold zipI; simp; omega)] at ho
      exact ⟨_, rfl, ho, hb⟩
end Go.Proofs.YthdnpcpimggjnaaGreatDoor

namespace Go.Proofs.YthdnpcpimggjnaaGreatDoor
open Go.RowKit

/-- two relations on as many points -/
def twoIn (xs ys : List Int) : Bool := relIn xs && relIn ys && decide (xs.length = ys.length)
def eitherL (xs ys : List Int) : List Int := zipI (bits .or .i64) xs ys
def bothL (xs ys : List Int) : List Int := zipI (bits .and .i64) xs ys

theorem twoIn_yes {xs ys : List Int} (h : twoIn xs ys = true) : relIn xs = true ∧ relIn ys = true ∧ xs.length = ys.length := by
  unfold twoIn at h
  rw [Bool.and_eq_true, Bool.and_eq_true] at h
  exact ⟨h.1.1, h.1.2, of_decide_eq_true h.2⟩

/-- a list, or none -/
def ifR (b : Bool) (r : List Int) : List Int := if b then r else []

/-- what a call gives that answers a list of its own and a bool -/
def Gave (w : World) (r : List Int) (ok : Bool) (e : Ending) (w' : World) : Prop :=
  ∃ v, e = .returned (.tuple #[v, .bool ok]) ∧ w'.ownsRow w.heap.size 3 1 v r.length (r.map (Value.int .i64)) ∧ Below w.heap.size w w'

/-- all points but those of a row -/
def otherL (xs : List Int) : List Int := xs.map fun x => bits .andNot .i64 (2 ^ xs.length - 1) x

theorem other_take (xs : List Int) (k : Nat) (x : Int) (h : xs[k]? = some x) : (otherL xs).take (k + 1) = (otherL xs).take k ++ [bits .andNot .i64 (2 ^ xs.length - 1) x] := by
  have h2 : (otherL xs)[k]? = some (bits .andNot .i64 (2 ^ xs.length - 1) x) := by unfold otherL; rw [List.getElem?_map, h]; rfl
  rw [List.take_add_one, h2]
  rfl

theorem wrap_top (n : Nat) (h1 : 1 ≤ n) (h2 : n ≤ 4) : IntKind.i64.wrap (IntKind.i64.wrap (2 ^ n) - 1) = 2 ^ n - 1 := by
  rcases (by omega : n = 1 ∨ n = 2 ∨ n = 3 ∨ n = 4) with rfl | rfl | rfl | rfl <;> decide +kernel

set_option maxHeartbeats 1000000 in
theorem l1Other_any (ao : Option Addr) (ca : Nat) (xs : List Int) (w : World) (h1 : 1 ≤ xs.length) (h4 : xs.length ≤ 4) (hx : Rd w ao xs) :
    Calls Tryz.prog 51 #[.slice ao xs.length ca] w fun e w' => ∃ v, e = .returned v ∧
      w'.ownsRow w.heap.size 3 1 v xs.length ((otherL xs).map (Value.int .i64)) ∧ Below w.heap.size w w' := by
  obtain ⟨i0, hi, hz0, hz1, hz2⟩ := info_parts Tryz.info3
  go_enter Tryz.func51, Tryz.ntmps51
  go_wp2
  go_loopw [3, 4] (fun v i wr => ∃ k : Nat, k ≤ xs.length ∧ i = .int .i64 k ∧ wr.ownsRow w.heap.size 3 1 v k (((otherL xs).take k).map (Value.int .i64)) ∧ Below w.heap.size w wr)
    (fun _ i _ => xs.length - (intOf i).toNat)
  case atStart => exact ⟨0, Nat.zero_le _, rfl, row_lit0 w, below_one _ _⟩
  case round =>
    obtain ⟨k, hk, rfl, ho, hb⟩ := hrel
    by_cases hlt : k < xs.length
    · obtain ⟨b, off, x, hxk, rfl, hbl, hc1⟩ := (hx.below hb).get k hlt
      have hi1 : ((k : Nat) : Int) < (xs.length : Int) := by omega
      have HX := Lib.hid hxk
      clear hx hxk
      go_wp2
      go_region_law (refine step_append_own rfl (.tmp 12) (.tmp 22) 23 rfl w.heap.size 3 i0 (.int .i64 0) 1 8 Tryz.underlying23 hi hz0 hz1 hz2 rfl (by decide) _ _ _ rfl (ho.alloc _).drew ⟨wr.heap.size, 0, none⟩ 1 1 [_] rfl rfl (cell_one_new _ _ _) (by simp [Value.oneCell']) (by unfold maxLen; omega) (by omega) (by have := hb.size; simp; omega) ?_; intro v' w1 hown' hgrow)
      all_goals
        have hb' := own_step ho hb hb.size _ hgrow
        rw [← List.map_singleton (f := Value.int .i64), ← List.map_append, wrap_top _ h1 h4, ← other_take _ _ _ HX.out] at hown'
        clear ho hb hgrow hc1
        go_wp2
        go_roundw
        case rel => exact ⟨k + 1, by omega, by go_num, hown', hb'⟩
        case measure => simp [intOf]; omega
    · go_wp2
      go_ret
      obtain rfl : k = xs.length := by omega
      rw [List.take_of_length_le (by unfold otherL; simp)] at ho
      exact ⟨_, rfl, ho, hb⟩

end Go.Proofs.YthdnpcpimggjnaaGreatDoor
