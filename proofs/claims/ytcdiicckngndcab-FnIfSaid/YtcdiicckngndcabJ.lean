/-
  Contracts of the program's either, both, madeOfOne, twoRelationsFrom and madeOfTwo; for relations of at most 4 points, and lists of at most 2^20 numbers.
-/
import Derived.Test.YtcdiicckngndcabI
namespace Go.Proofs.Ytcdiicckngndcab
open Go.RowKit

theorem zip_at (f : Int → Int → Int) (xs ys : List Int) (k : Nat) (h : k < xs.length) (h2 : k < ys.length) : (zipI f xs ys)[k]? = some (f (rowAt xs k) (rowAt ys k)) := by
  unfold zipI
  rw [List.getElem?_zipWith, rowAt_get h, rowAt_get h2]
theorem rel_zero (w : World) : RelAt (w.alloc (.cells #[.int .i64 0, .int .i64 0, .int .i64 0, .int .i64 0, .int .i64 0] 47)) w.heap.size [] := by
  have := RelAt.new w []
  simpa [rowAt] using this
theorem below_four (w : World) (o p q r : Obj) : Below w.heap.size w ((((w.alloc o).alloc p).alloc q).alloc r) := (below_three w o p q).alloc (by simp; omega) _

set_option maxHeartbeats 1000000 in
theorem either_any (xs ys : List Int) (w : World) (h4 : xs.length ≤ 4) (hn : xs.length = ys.length) :
    Calls Try.prog 70 #[relOf xs, relOf ys] w fun e w' => e = .returned (relOf (eitherL xs ys)) ∧ Below w.heap.size w w' := by
  have hr0 := ((RelAt.new w xs).alloc (.cells #[.int .i64 ys.length, .int .i64 (rowAt ys 0), .int .i64 (rowAt ys 1), .int .i64 (rowAt ys 2), .int .i64 (rowAt ys 3)] 47)).alloc (.cells #[.int .i64 0, .int .i64 0, .int .i64 0, .int .i64 0, .int .i64 0] 47)
  have hs0 := (RelAt.new (w.alloc (.cells #[.int .i64 xs.length, .int .i64 (rowAt xs 0), .int .i64 (rowAt xs 1), .int .i64 (rowAt xs 2), .int .i64 (rowAt xs 3)] 47)) ys).alloc (.cells #[.int .i64 0, .int .i64 0, .int .i64 0, .int .i64 0, .int .i64 0] 47)
  have ht0 := rel_zero ((w.alloc (.cells #[.int .i64 xs.length, .int .i64 (rowAt xs 0), .int .i64 (rowAt xs 1), .int .i64 (rowAt xs 2), .int .i64 (rowAt xs 3)] 47)).alloc (.cells #[.int .i64 ys.length, .int .i64 (rowAt ys 0), .int .i64 (rowAt ys 1), .int .i64 (rowAt ys 2), .int .i64 (rowAt ys 3)] 47))
  simp only [World.size_alloc] at hs0 ht0
  have hc0 := hr0.cell0
  have hol : (eitherL xs ys).length = xs.length := by unfold eitherL zipI; rw [List.length_zipWith, hn, Nat.min_self]
  have HO := Lib.hid hol
  have HN := Lib.hid hn
  clear hol hn
  go_enter Try.func70, Try.ntmps70
  go_wp2
  go_loopw [8, 5] (fun i _ wr => ∃ (k : Nat) (zs : List Int), k ≤ xs.length ∧ i = .int .i64 k ∧ Mix xs (eitherL xs ys) k zs ∧ RelAt wr w.heap.size zs ∧ RelAt wr (w.heap.size + 1) ys ∧ RelAt wr (w.heap.size + 1 + 1) [] ∧ Below w.heap.size w wr)
    (fun i _ _ => xs.length - (intOf i).toNat)
  case atStart => exact ⟨0, xs, Nat.zero_le _, rfl, Mix.zero _ _, hr0, hs0, ht0, below_three _ _ _ _⟩
  case round =>
    obtain ⟨k, zs, hk, rfl, hm, hr, hs, hrz, hb⟩ := hrel
    clear hr0 hc0 hs0 ht0
    by_cases hlt : k < xs.length
    · have hc1 := hr.row k (by omega)
      rw [hm.at] at hc1
      have hd1 := hs.row k (by omega)
      have hq : (k : Int) < 4 := by omega
      have hf := hr.free (1 + k)
      go_wp2
      go_region
      all_goals
        go_wp2
        go_roundw
        case rel =>
          refine ⟨k + 1, zs.set k (bits .or .i64 (rowAt xs k) (rowAt ys k)), by omega, by go_num, hm.step hlt (zip_at _ xs ys k hlt (by rw [← HN.out]; exact hlt)), ?_, hs.other (p := ⟨w.heap.size, 1 + k, none⟩) (by simp) _, hrz.other (p := ⟨w.heap.size, 1 + k, none⟩) (by simp; omega) _, hb.drew.setCell (Nat.le_refl _) _⟩
          exact hr.set k (by rw [hm.1]; exact hlt) (by omega) (bits .or .i64 (rowAt xs k) (rowAt ys k))
        case measure => simp [intOf]; omega
    · obtain rfl : k = xs.length := by omega
      have hz := hm.full HO.out
      subst hz
      have hcn := hr.cell0
      rw [HO.out] at hcn
      have hc1 := hr.cell1
      have hc2 := hr.cell2
      have hc3 := hr.cell3
      have hc4 := hr.cell4
      have hz0 := hrz.cell0
      have hz1 := hrz.cell1
      have hz2 := hrz.cell2
      have hz3 := hrz.cell3
      have hz4 := hrz.cell4
      have hy0 := hrz.free 0
      have hy1 := hrz.free 1
      have hy2 := hrz.free 2
      have hy3 := hrz.free 3
      have hy4 := hrz.free 4
      go_wp2
      refine bodyPost_ret (v := relOf (eitherL xs ys)) (by simp [results, Try.results70, go_sem, hz0, hz1, hz2, hz3, hz4, HO.out]) rfl ⟨rfl, ?_⟩
      repeat (first | exact hb | refine Below.setCell ?_ (by simp; omega) _)

set_option maxHeartbeats 1000000 in
theorem both_any (xs ys : List Int) (w : World) (h4 : xs.length ≤ 4) (hn : xs.length = ys.length) :
    Calls Try.prog 92 #[relOf xs, relOf ys] w fun e w' => e = .returned (relOf (bothL xs ys)) ∧ Below w.heap.size w w' := by
  have hr0 := ((RelAt.new w xs).alloc (.cells #[.int .i64 ys.length, .int .i64 (rowAt ys 0), .int .i64 (rowAt ys 1), .int .i64 (rowAt ys 2), .int .i64 (rowAt ys 3)] 47)).alloc (.cells #[.int .i64 0, .int .i64 0, .int .i64 0, .int .i64 0, .int .i64 0] 47)
  have hs0 := (RelAt.new (w.alloc (.cells #[.int .i64 xs.length, .int .i64 (rowAt xs 0), .int .i64 (rowAt xs 1), .int .i64 (rowAt xs 2), .int .i64 (rowAt xs 3)] 47)) ys).alloc (.cells #[.int .i64 0, .int .i64 0, .int .i64 0, .int .i64 0, .int .i64 0] 47)
  have ht0 := rel_zero ((w.alloc (.cells #[.int .i64 xs.length, .int .i64 (rowAt xs 0), .int .i64 (rowAt xs 1), .int .i64 (rowAt xs 2), .int .i64 (rowAt xs 3)] 47)).alloc (.cells #[.int .i64 ys.length, .int .i64 (rowAt ys 0), .int .i64 (rowAt ys 1), .int .i64 (rowAt ys 2), .int .i64 (rowAt ys 3)] 47))
  simp only [World.size_alloc] at hs0 ht0
  have hc0 := hr0.cell0
  have hol : (bothL xs ys).length = xs.length := by unfold bothL zipI; rw [List.length_zipWith, hn, Nat.min_self]
  have HO := Lib.hid hol
  have HN := Lib.hid hn
  clear hol hn
  go_enter Try.func92, Try.ntmps92
  go_wp2
  go_loopw [8, 5] (fun i _ wr => ∃ (k : Nat) (zs : List Int), k ≤ xs.length ∧ i = .int .i64 k ∧ Mix xs (bothL xs ys) k zs ∧ RelAt wr w.heap.size zs ∧ RelAt wr (w.heap.size + 1) ys ∧ RelAt wr (w.heap.size + 1 + 1) [] ∧ Below w.heap.size w wr)
    (fun i _ _ => xs.length - (intOf i).toNat)
  case atStart => exact ⟨0, xs, Nat.zero_le _, rfl, Mix.zero _ _, hr0, hs0, ht0, below_three _ _ _ _⟩
  case round =>
    obtain ⟨k, zs, hk, rfl, hm, hr, hs, hrz, hb⟩ := hrel
    clear hr0 hc0 hs0 ht0
    by_cases hlt : k < xs.length
    · have hc1 := hr.row k (by omega)
      rw [hm.at] at hc1
      have hd1 := hs.row k (by omega)
      have hq : (k : Int) < 4 := by omega
      have hf := hr.free (1 + k)
      go_wp2
      go_region
      all_goals
        go_wp2
        go_roundw
        case rel =>
          refine ⟨k + 1, zs.set k (bits .and .i64 (rowAt xs k) (rowAt ys k)), by omega, by go_num, hm.step hlt (zip_at _ xs ys k hlt (by rw [← HN.out]; exact hlt)), ?_, hs.other (p := ⟨w.heap.size, 1 + k, none⟩) (by simp) _, hrz.other (p := ⟨w.heap.size, 1 + k, none⟩) (by simp; omega) _, hb.drew.setCell (Nat.le_refl _) _⟩
          exact hr.set k (by rw [hm.1]; exact hlt) (by omega) (bits .and .i64 (rowAt xs k) (rowAt ys k))
        case measure => simp [intOf]; omega
    · obtain rfl : k = xs.length := by omega
      have hz := hm.full HO.out
      subst hz
      have hcn := hr.cell0
      rw [HO.out] at hcn
      have hc1 := hr.cell1
      have hc2 := hr.cell2
      have hc3 := hr.cell3
      have hc4 := hr.cell4
      have hz0 := hrz.cell0
      have hz1 := hrz.cell1
      have hz2 := hrz.cell2
      have hz3 := hrz.cell3
      have hz4 := hrz.cell4
      have hy0 := hrz.free 0
      have hy1 := hrz.free 1
      have hy2 := hrz.free 2
      have hy3 := hrz.free 3
      have hy4 := hrz.free 4
      go_wp2
      refine bodyPost_ret (v := relOf (bothL xs ys)) (by simp [results, Try.results92, go_sem, hz0, hz1, hz2, hz3, hz4, HO.out]) rfl ⟨rfl, ?_⟩
      repeat (first | exact hb | refine Below.setCell ?_ (by simp; omega) _)

end Go.Proofs.Ytcdiicckngndcab
