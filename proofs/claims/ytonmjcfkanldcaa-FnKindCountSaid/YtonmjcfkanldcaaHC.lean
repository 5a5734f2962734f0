/-
  The tests of rows with one point at most or at least, and of turned relations.
-/
import Derived.Test.YtonmjcfkanldcaaHB
namespace Go.Proofs.Ytonmjcfkanldcaa
open Go.RowKit

/-! rows -/
theorem all_upto (p : Int → Bool) (xs : List Int) (k : Nat) (x : Int) (hx : xs[k]? = some x) : (xs.take (k + 1)).all p = ((xs.take k).all p && p x) := by
  rw [List.take_add_one, hx, List.all_append]
  simp
theorem all_fail (p : Int → Bool) (xs : List Int) (k : Nat) (x : Int) (hx : xs[k]? = some x) (hp : p x = false) : xs.all p = false := by
  rw [List.all_eq_false]
  exact ⟨x, List.mem_of_getElem? hx, by simp [hp]⟩
set_option maxHeartbeats 2000000 in
theorem oneMost_any (xs : List Int) (w : World) (hs : In16 xs) (h4 : xs.length ≤ 4) :
    Calls Try.prog 88 #[relOf xs] w fun e w' => e = .returned (.bool (oneMost xs)) ∧ Below w.heap.size w w' := by
  have x0 := RelAt.new w xs
  have B0 := below_one w (.cells #[.int .i64 xs.length, .int .i64 (rowAt xs 0), .int .i64 (rowAt xs 1), .int .i64 (rowAt xs 2), .int .i64 (rowAt xs 3)] 58)
  have p0 := x0.cell0
  have HS := Lib.hid hs
  clear hs
  go_enter Try.func88, Try.ntmps88
  go_wp2
  clear p0
  go_loopw [6, 3] (fun i _ wr => ∃ k : Nat, k ≤ xs.length ∧ i = .int .i64 k ∧ ((xs.take k).all fun x => decide (cnt x ≤ 1)) = true ∧ RelAt wr w.heap.size xs ∧ Below w.heap.size w wr)
    (fun i _ _ => xs.length - (intOf i).toNat)
  case atStart => exact ⟨0, Nat.zero_le _, rfl, rfl, x0, B0⟩
  case round =>
    clear x0 B0
    obtain ⟨k, hk, rfl, ha, hr, hB⟩ := hrel
    have HA := Lib.hid ha
    clear ha
    by_cases hlt : k < xs.length
    · obtain ⟨y, hy⟩ := HS.out k
      have hxk := rowAt_get hlt
      rw [hy] at hxk
      have HX := Lib.hid hxk
      have hc1 := hr.row k (by omega)
      rw [hy] at hc1
      have hq : (k : Int) < 4 := by omega
      clear hxk hy
      by_cases hc : cnt (y.val : Int) ≤ 1
      · have hc2 : decide (1 < cnt (y.val : Int)) = false := by simpa using hc
        have HC := Lib.hid hc
        clear hc
        go_wp2_with (go_at_call 110; refine (setSize_any y _).mono ?_; rintro e w2 ⟨rfl, rfl⟩)
        go_roundw
        case rel => exact ⟨k + 1, by omega, by go_num, by rw [all_upto _ _ _ _ HX.out, HA.out, decide_eq_true HC.out]; rfl, hr, hB⟩
        case measure => simp [intOf]; omega
      · have hc2 : decide (1 < cnt (y.val : Int)) = true := by simpa using hc
        have HC := Lib.hid hc
        clear hc
        go_wp2_with (go_at_call 110; refine (setSize_any y _).mono ?_; rintro e w2 ⟨rfl, rfl⟩)
        go_ret
        exact ⟨by rw [show oneMost xs = false from all_fail _ _ _ _ HX.out (decide_eq_false (Int.not_le.2 HC.out))]; rfl, hB⟩
    · obtain rfl : k = xs.length := by omega
      go_wp2
      go_ret
      have := HA.out
      rw [List.take_length] at this
      exact ⟨by rw [show oneMost xs = true from this]; rfl, hB⟩
set_option maxHeartbeats 2000000 in
theorem oneLeast_any (xs : List Int) (w : World) (hs : In16 xs) (h4 : xs.length ≤ 4) :
    Calls Try.prog 89 #[relOf xs] w fun e w' => e = .returned (.bool (oneLeast xs)) ∧ Below w.heap.size w w' := by
  have x0 := RelAt.new w xs
  have B0 := below_one w (.cells #[.int .i64 xs.length, .int .i64 (rowAt xs 0), .int .i64 (rowAt xs 1), .int .i64 (rowAt xs 2), .int .i64 (rowAt xs 3)] 58)
  have p0 := x0.cell0
  have HS := Lib.hid hs
  clear hs
  go_enter Try.func89, Try.ntmps89
  go_wp2
  clear p0
  go_loopw [6, 3] (fun i _ wr => ∃ k : Nat, k ≤ xs.length ∧ i = .int .i64 k ∧ ((xs.take k).all fun x => !decide (cnt x = 0)) = true ∧ RelAt wr w.heap.size xs ∧ Below w.heap.size w wr)
    (fun i _ _ => xs.length - (intOf i).toNat)
  case atStart => exact ⟨0, Nat.zero_le _, rfl, rfl, x0, B0⟩
  case round =>
    clear x0 B0
    obtain ⟨k, hk, rfl, ha, hr, hB⟩ := hrel
    have HA := Lib.hid ha
    clear ha
    by_cases hlt : k < xs.length
    · obtain ⟨y, hy⟩ := HS.out k
      have hxk := rowAt_get hlt
      rw [hy] at hxk
      have HX := Lib.hid hxk
      have hc1 := hr.row k (by omega)
      rw [hy] at hc1
      have hq : (k : Int) < 4 := by omega
      clear hxk hy
      by_cases hc : cnt (y.val : Int) = 0
      · have hc2 : (cnt (y.val : Int) == 0) = true := by simpa using hc
        have HC := Lib.hid hc
        clear hc
        go_wp2_with (go_at_call 110; refine (setSize_any y _).mono ?_; rintro e w2 ⟨rfl, rfl⟩)
        go_ret
        exact ⟨by rw [show oneLeast xs = false from all_fail _ _ _ _ HX.out (by rw [decide_eq_true HC.out]; rfl)]; rfl, hB⟩
      · have hc2 : (cnt (y.val : Int) == 0) = false := by simpa using hc
        have HC := Lib.hid hc
        clear hc
        go_wp2_with (go_at_call 110; refine (setSize_any y _).mono ?_; rintro e w2 ⟨rfl, rfl⟩)
        go_roundw
        case rel => exact ⟨k + 1, by omega, by go_num, by rw [all_upto _ _ _ _ HX.out, HA.out, decide_eq_false HC.out]; rfl, hr, hB⟩
        case measure => simp [intOf]; omega
    · obtain rfl : k = xs.length := by omega
      go_wp2
      go_ret
      have := HA.out
      rw [List.take_length] at this
      exact ⟨by rw [show oneLeast xs = true from this]; rfl, hB⟩
theorem kF {n : Nat} {xs : List Int} (h : Rl n xs) (w : World) : Calls Try.prog 88 #[relOf xs] w fun e w' => e = .returned (.bool (kindF xs)) ∧ Below w.heap.size w w' := by
  rw [← isF h]
  exact oneMost_any xs w h.in16 (h.len.symm ▸ h.four)
theorem kD {n : Nat} {xs : List Int} (h : Rl n xs) (w : World) : Calls Try.prog 89 #[relOf xs] w fun e w' => e = .returned (.bool (kindD xs)) ∧ Below w.heap.size w w' := by
  rw [← isD h]
  exact oneLeast_any xs w h.in16 (h.len.symm ▸ h.four)

/-! what is asked of the turned relation -/
set_option maxRecDepth 100000 in
set_option maxHeartbeats 4000000 in
theorem onTurned1_walk (xs a : List Int) (s : Bool) (g : FuncId) (hcf : ∀ args w, Sem.run Try.prog (callFunc g args) w = .ok (.enter g args) w) (b : Nat) (w : World) (hc : w.cell? ⟨b, 0, none⟩ = some (.func (.func g) #[] #[])) (hbl : b < w.heap.size)
    (h1 : ∀ w, Calls Try.prog 107 #[relOf xs] w fun e w' => e = .returned (relOf a) ∧ Below w.heap.size w w')
    (h2 : ∀ w, Calls Try.prog g #[relOf a] w fun e w' => e = .returned (.bool s) ∧ Below w.heap.size w w') :
    Calls Try.prog 111 #[relOf xs, .pointer (some ⟨b, 0, none⟩)] w fun e w' => e = .returned (.bool s) ∧ Below w.heap.size w w' := by
  have x0 := RelAt.new w xs
  have B0 := below_one w (.cells #[.int .i64 xs.length, .int .i64 (rowAt xs 0), .int .i64 (rowAt xs 1), .int .i64 (rowAt xs 2), .int .i64 (rowAt xs 3)] 58)
  have c0 : (w.alloc (.cells #[.int .i64 xs.length, .int .i64 (rowAt xs 0), .int .i64 (rowAt xs 1), .int .i64 (rowAt xs 2), .int .i64 (rowAt xs 3)] 58)).cell? ⟨b, 0, none⟩ = some (.func (.func g) #[] #[]) := (B0.cell (p := ⟨b, 0, none⟩) hbl).trans hc
  have H := Lib.hid (And.intro h1 h2)
  clear h1 h2 hc
  have p0 := x0.cell0
  have p1 := x0.cell1
  have p2 := x0.cell2
  have p3 := x0.cell3
  have p4 := x0.cell4
  go_enter Try.func111, Try.ntmps111
  go_wp2
  obtain ⟨W0, hW0⟩ : ∃ W0, (w.alloc (.cells #[.int .i64 xs.length, .int .i64 (rowAt xs 0), .int .i64 (rowAt xs 1), .int .i64 (rowAt xs 2), .int .i64 (rowAt xs 3)] 58)) = W0 := ⟨_, rfl⟩
  rw [hW0] at p0 p1 p2 p3 p4 x0 B0 c0 ⊢
  clear hW0
  have hbl0 : b < W0.heap.size := Nat.lt_of_lt_of_le hbl B0.size
  have B := B0.drew
  clear x0 B0
  go_region_with (first
    | (go_at_call 107; refine (H.out.1 _).mono ?_; rintro e w2 ⟨rfl, hb⟩; have c1 : w2.cell? ⟨b, 0, none⟩ = some (.func (.func g) #[] #[]) := (hb.cell (p := ⟨b, 0, none⟩) hbl0).trans c0; have B := B.trans (hb.mono B.size); clear hb)
    | (refine (H.out.2 _).mono ?_; rintro e w3 ⟨rfl, hb⟩; have B := B.trans (hb.mono B.size); clear hb))
  all_goals
    go_wp2
    go_ret
    exact ⟨rfl, B⟩
theorem onTurned_any (g : FuncId) (w : World) :
    Calls Try.prog 90 #[.func (.func g) #[] #[]] w fun e w' => e = .returned (.func (.func 111) #[] #[.pointer (some ⟨w.heap.size, 0, none⟩)]) ∧ w.alloc (.cells #[.func (.func g) #[] #[]] 49) = w' := by
  have hmf : ∀ (fn : Fn) (first cap : Array Value) (w : World), Sem.run Try.prog (Instr.makeFunc fn first cap) w = .ok (.func fn first cap) w := fun _ _ _ _ => rfl
  go_enter Try.func90, Try.ntmps90
  go_wp2
  go_ret
  exact ⟨rfl, rfl⟩
end Go.Proofs.Ytonmjcfkanldcaa
