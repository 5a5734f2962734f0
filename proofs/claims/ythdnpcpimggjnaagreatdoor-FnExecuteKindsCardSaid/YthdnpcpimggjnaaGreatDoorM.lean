/-
  Lists of the call's own between two marks of memory; the laws' helpers over such lists.
-/
import Derived.Test.YthdnpcpimggjnaaGreatDoorH
namespace Go.Proofs.YthdnpcpimggjnaaGreatDoor
open Go.RowKit

/-- block b holds the relation made of these rows -/
def RelAt (w : World) (b : Nat) (xs : List Int) : Prop :=
  w.heap[b]? = some (.cells #[.int .i64 xs.length, .int .i64 (rowAt xs 0), .int .i64 (rowAt xs 1), .int .i64 (rowAt xs 2), .int .i64 (rowAt xs 3)] 36 (0, 0))

theorem RelAt.cell0 {w : World} {b : Nat} {xs : List Int} (h : RelAt w b xs) : w.cell? ⟨b, 0, none⟩ = some (.int .i64 xs.length) := by
  unfold RelAt at h
  simp [World.cell?, h]
theorem RelAt.cell1 {w : World} {b : Nat} {xs : List Int} (h : RelAt w b xs) : w.cell? ⟨b, 1, none⟩ = some (.int .i64 (rowAt xs 0)) := by
  unfold RelAt at h
  simp [World.cell?, h]
theorem RelAt.cell2 {w : World} {b : Nat} {xs : List Int} (h : RelAt w b xs) : w.cell? ⟨b, 2, none⟩ = some (.int .i64 (rowAt xs 1)) := by
  unfold RelAt at h
  simp [World.cell?, h]
theorem RelAt.cell3 {w : World} {b : Nat} {xs : List Int} (h : RelAt w b xs) : w.cell? ⟨b, 3, none⟩ = some (.int .i64 (rowAt xs 2)) := by
  unfold RelAt at h
  simp [World.cell?, h]
theorem RelAt.cell4 {w : World} {b : Nat} {xs : List Int} (h : RelAt w b xs) : w.cell? ⟨b, 4, none⟩ = some (.int .i64 (rowAt xs 3)) := by
  unfold RelAt at h
  simp [World.cell?, h]
theorem RelAt.row {w : World} {b : Nat} {xs : List Int} (h : RelAt w b xs) (k : Nat) (hk : k < 4) : w.cell? ⟨b, 1 + k, none⟩ = some (.int .i64 (rowAt xs k)) := by
  rcases (by omega : k = 0 ∨ k = 1 ∨ k = 2 ∨ k = 3) with rfl | rfl | rfl | rfl
  · exact h.cell1
  · exact h.cell2
  · exact h.cell3
  · exact h.cell4
theorem RelAt.free {w : World} {b : Nat} {xs : List Int} (h : RelAt w b xs) (j : Nat) : w.frozen? ⟨b, j, none⟩ = false := by
  unfold RelAt at h
  simp [World.frozen?, h]
theorem RelAt.lt {w : World} {b : Nat} {xs : List Int} (h : RelAt w b xs) : b < w.heap.size := (Array.getElem?_eq_some_iff.1 h).1
theorem RelAt.new (w : World) (xs : List Int) :
    RelAt (w.alloc (.cells #[.int .i64 xs.length, .int .i64 (rowAt xs 0), .int .i64 (rowAt xs 1), .int .i64 (rowAt xs 2), .int .i64 (rowAt xs 3)] 36)) w.heap.size xs :=
  heap_alloc_new w _
theorem RelAt.alloc {w : World} {b : Nat} {xs : List Int} (h : RelAt w b xs) (o : Obj) : RelAt (w.alloc o) b xs :=
  (Below.heap_alloc w o b h.lt).trans h
theorem RelAt.below {w w' : World} {B b : Nat} {xs : List Int} (h : RelAt w b xs) (hb : Below B w w') (hlt : b < B) : RelAt w' b xs :=
  (hb.block b hlt).trans h
theorem RelAt.other {w : World} {b : Nat} {xs : List Int} (h : RelAt w b xs) {p : Addr} (hp : b ≠ p.block) (v : Value) : RelAt (w.setCell p v) b xs :=
  (Below.heap_setCell w p v b hp).trans h
theorem RelAt.drew {w : World} {b : Nat} {xs : List Int} (h : RelAt w b xs) : RelAt w.drew b xs := h
theorem RelAt.drewN {w : World} {b : Nat} {xs : List Int} (h : RelAt w b xs) (n : Nat) : RelAt (w.drewN n) b xs := h
theorem RelAt.dn {w w' : World} {b : Nat} {xs : List Int} (h : RelAt w b xs) (hd : Dn w w') : RelAt w' b xs := by
  obtain ⟨q, rfl⟩ := hd
  exact h

theorem rowAt_set (xs : List Int) (k i : Nat) (v : Int) (hk : k < xs.length) : rowAt (xs.set k v) i = if i = k then v else rowAt xs i := by
  unfold rowAt
  rw [List.getD_eq_getElem?_getD, List.getD_eq_getElem?_getD, List.getElem?_set]
  by_cases h : i = k
  · subst h
    simp [hk]
  · rw [if_neg (fun e => h e.symm), if_neg h]

theorem RelAt.set {w : World} {b : Nat} {xs : List Int} (h : RelAt w b xs) (k : Nat) (hk : k < xs.length) (h4 : k < 4) (v : Int) :
    RelAt (w.setCell ⟨b, 1 + k, none⟩ (.int .i64 v)) b (xs.set k v) := by
  unfold RelAt
  rw [heap_setCell_same w b (1 + k) _ _ _ h, List.length_set, rowAt_set _ _ _ _ hk, rowAt_set _ _ _ _ hk, rowAt_set _ _ _ _ hk, rowAt_set _ _ _ _ hk]
  rcases (by omega : k = 0 ∨ k = 1 ∨ k = 2 ∨ k = 3) with rfl | rfl | rfl | rfl <;> simp

theorem rowAt_get {xs : List Int} {k : Nat} (h : k < xs.length) : xs[k]? = some (rowAt xs k) := by
  unfold rowAt
  rw [List.getD_eq_getElem?_getD, List.getElem?_eq_getElem h]
  rfl

set_option maxHeartbeats 1000000 in
theorem list_any (xs : List Int) (w : World) (h4 : xs.length ≤ 4) :
    Calls Tryz.prog 22 #[relOf xs] w fun e w' => ∃ v, e = .returned v ∧
      w'.ownsRow w.heap.size 3 1 v xs.length (xs.map (Value.int .i64)) ∧ Below w.heap.size w w' := by
  obtain ⟨i0, hi, hz0, hz1, hz2⟩ := info_parts Tryz.info3
  have hr0 := RelAt.new w xs
  have hc0 := hr0.cell0
  go_enter Tryz.func22, Tryz.ntmps22
  go_wp2_with (at_make; refine wpList_make_full _ rfl _ _ 23 rfl w.heap.size 3 i0 (.int .i64 0) 1 Tryz.underlying23 hi hz0 hz1 _ _ _ _ xs.length rfl rfl rfl rfl ?c1 ?c2 ?c3 ?_)
  case c1 => rw [hz2]; omega
  case c2 => unfold maxLen; omega
  case c3 => simp
  intro w1 hown hgrow
  have hB : Below w.heap.size w w1 := (below_one _ _).grown hgrow (by simp) (by simp)
  have hr1 : RelAt w1 w.heap.size xs := (hgrow.block w.heap.size (by simp) (by simp)).trans hr0
  rw [toList_madeCells_one] at hown
  clear hgrow hr0 hc0
  go_wp2
  go_loopw [10, 4] (fun i _ wr => ∃ k : Nat, k ≤ xs.length ∧ i = .int .i64 k ∧ RelAt wr w.heap.size xs ∧
      wr.ownsRow w.heap.size 3 1 (.slice (some ⟨w.heap.size + 1, 0, none⟩) xs.length xs.length) xs.length ((xs.take k).map (Value.int .i64) ++ List.replicate (xs.length - k) (.int .i64 0)) ∧ Below w.heap.size w wr)
    (fun i _ _ => xs.length - (intOf i).toNat)
  case atStart => exact ⟨0, Nat.zero_le _, rfl, hr1, by simpa using hown, hB⟩
  case round =>
    obtain ⟨k, hk, rfl, hr, ho, hb⟩ := hrel
    by_cases hlt : k < xs.length
    · have hc1 := hr.row k (by omega)
      have hc2 := ho.cellAt k (by omega)
      have hf2 := ho.frozenAt k
      have hq : (k : Int) < 4 := by omega
      clear hr1 hown hB
      go_wp2
      go_roundw
      case rel =>
        refine ⟨k + 1, by omega, by go_num, hr.other (by simp) _, ?_, hb.setCell (by simp) _⟩
        have := (ho.stored k (.int .i64 (rowAt xs k))).1
        rw [toInts_step xs k _ (rowAt_get hlt)] at this
        exact this
      case measure => simp [intOf]; omega
    · go_wp2
      go_ret
      obtain rfl : k = xs.length := by omega
      exact ⟨_, rfl, by simpa using ho, hb⟩

/-- the first k rows are those of ys, the others those of xs -/
def Mix (xs ys : List Int) (k : Nat) (zs : List Int) : Prop := zs.length = xs.length ∧ ∀ j, zs[j]? = if j < k then ys[j]? else xs[j]?
theorem Mix.zero (xs ys : List Int) : Mix xs ys 0 xs := ⟨rfl, fun j => by rw [if_neg (by omega)]⟩
theorem Mix.step {xs ys zs : List Int} {k : Nat} {v : Int} (h : Mix xs ys k zs) (hk : k < xs.length) (hv : ys[k]? = some v) : Mix xs ys (k + 1) (zs.set k v) := by
  refine ⟨by rw [List.length_set, h.1], fun j => ?_⟩
  rw [List.getElem?_set, h.2]
  by_cases e : k = j
  · subst e
    rw [if_pos rfl, if_pos (by rw [h.1]; exact hk), if_pos (by omega), hv]
  · rw [if_neg e]
    by_cases h2 : j < k
    · rw [if_pos h2, if_pos (by omega)]
    · rw [if_neg h2, if_neg (by omega)]
theorem Mix.full {xs ys zs : List Int} (h : Mix xs ys xs.length zs) (hy : ys.length = xs.length) : zs = ys := by
  apply List.ext_getElem?
  intro j
  rw [h.2]
  by_cases e : j < xs.length
  · rw [if_pos e]
  · rw [if_neg e, List.getElem?_eq_none (by omega), List.getElem?_eq_none (by omega)]
theorem Mix.at {xs ys zs : List Int} {k : Nat} (h : Mix xs ys k zs) : rowAt zs k = rowAt xs k := by
  unfold rowAt
  rw [List.getD_eq_getElem?_getD, List.getD_eq_getElem?_getD, h.2, if_neg (by omega)]

theorem other_at (xs : List Int) (k : Nat) (h : k < xs.length) : (otherL xs)[k]? = some (bits .andNot .i64 (2 ^ xs.length - 1) (rowAt xs k)) := by
  unfold otherL
  rw [List.getElem?_map, rowAt_get h]
  rfl
theorem pow_top (n : Nat) (h1 : 1 ≤ n) (h4 : n ≤ 4) : ((2 ^ n - 1 : Nat) : Int) = 2 ^ n - 1 := by
  rcases (by omega : n = 1 ∨ n = 2 ∨ n = 3 ∨ n = 4) with rfl | rfl | rfl | rfl <;> rfl

set_option maxHeartbeats 1000000 in
theorem other_any (xs : List Int) (w : World) (h1 : 1 ≤ xs.length) (h4 : xs.length ≤ 4) :
    Calls Tryz.prog 113 #[relOf xs] w fun e w' => e = .returned (relOf (otherL xs)) ∧ Below w.heap.size w w' := by
  have hr0 := (RelAt.new w xs).alloc (.cells #[.int .i64 0, .int .i64 0, .int .i64 0, .int .i64 0, .int .i64 0] 36)
  have hr00 : RelAt ((w.alloc (.cells #[.int .i64 xs.length, .int .i64 (rowAt xs 0), .int .i64 (rowAt xs 1), .int .i64 (rowAt xs 2), .int .i64 (rowAt xs 3)] 36)).alloc (.cells #[.int .i64 0, .int .i64 0, .int .i64 0, .int .i64 0, .int .i64 0] 36)) (w.heap.size + 1) [] := by
    have := RelAt.new (w.alloc (.cells #[.int .i64 xs.length, .int .i64 (rowAt xs 0), .int .i64 (rowAt xs 1), .int .i64 (rowAt xs 2), .int .i64 (rowAt xs 3)] 36)) []
    simpa [rowAt] using this
  have hc0 := hr0.cell0
  have hol : (otherL xs).length = xs.length := by unfold otherL; simp
  have HO := Lib.hid hol
  clear hol
  go_enter Tryz.func113, Tryz.ntmps113
  go_wp2
  go_loopw [6, 3] (fun i _ wr => ∃ (k : Nat) (zs : List Int), k ≤ xs.length ∧ i = .int .i64 k ∧ Mix xs (otherL xs) k zs ∧ RelAt wr w.heap.size zs ∧ RelAt wr (w.heap.size + 1) [] ∧ Below w.heap.size w wr)
    (fun i _ _ => xs.length - (intOf i).toNat)
  case atStart => exact ⟨0, xs, Nat.zero_le _, rfl, Mix.zero _ _, hr0, hr00, below_two _ _ _⟩
  case round =>
    obtain ⟨k, zs, hk, rfl, hm, hr, hrz, hb⟩ := hrel
    clear hr0 hc0 hr00
    by_cases hlt : k < xs.length
    · have hc1 := hr.row k (by omega)
      rw [hm.at] at hc1
      have hq : (k : Int) < 4 := by omega
      have hcn := hr.cell0
      rw [hm.1] at hcn
      have hf := hr.free (1 + k)
      go_wp2
      go_region_with (go_at_call 106; refine (allPoints_any _ h1 h4 _).mono ?_; rintro e w' ⟨rfl, rfl⟩)
      all_goals
        go_wp2
        go_roundw
        case rel =>
          refine ⟨k + 1, zs.set k (bits .andNot .i64 (2 ^ xs.length - 1) (rowAt xs k)), by omega, by go_num, hm.step hlt (other_at xs k hlt), ?_, hrz.other (p := ⟨w.heap.size, 1 + k, none⟩) (by simp) _, hb.drew.setCell (Nat.le_refl _) _⟩
          have := hr.set k (by rw [hm.1]; exact hlt) (by omega) (bits .andNot .i64 (2 ^ xs.length - 1) (rowAt xs k))
          rw [← pow_top _ h1 h4] at this ⊢
          exact this
        case measure => simp [intOf]; omega
    · obtain rfl : k = xs.length := by omega
      have hz := hm.full HO.out
      subst hz
      have hcn := hr.cell0
      rw [HO.out] at hcn
      have hc1 := hr.cell1
      have hc2 := hr.cell2
      have hc3 := hr.cell3
      have hc4 := hr.cell4
      have hz0 := hrz.cell0
      have hz1 := hrz.cell1
      have hz2 := hrz.cell2
      have hz3 := hrz.cell3
      have hz4 := hrz.cell4
      have hy0 := hrz.free 0
      have hy1 := hrz.free 1
      have hy2 := hrz.free 2
      have hy3 := hrz.free 3
      have hy4 := hrz.free 4
      go_wp2
      refine bodyPost_ret (v := relOf (otherL xs)) (by simp [results, Tryz.results113, go_sem, hz0, hz1, hz2, hz3, hz4, HO.out]) rfl ⟨rfl, ?_⟩
      repeat (first | exact hb | refine Below.setCell ?_ (Nat.le_succ _) _)
end Go.Proofs.YthdnpcpimggjnaaGreatDoor

namespace Go.Proofs.YthdnpcpimggjnaaGreatDoor
open Go.RowKit

theorem zip_at (f : Int → Int → Int) (xs ys : List Int) (k : Nat) (h : k < xs.length) (h2 : k < ys.length) : (zipI f xs ys)[k]? = some (f (rowAt xs k) (rowAt ys k)) := by
  unfold zipI
  rw [List.getElem?_zipWith, rowAt_get h, rowAt_get h2]
theorem rel_zero (w : World) : RelAt (w.alloc (.cells #[.int .i64 0, .int .i64 0, .int .i64 0, .int .i64 0, .int .i64 0] 36)) w.heap.size [] := by
  have := RelAt.new w []
  simpa [rowAt] using this
theorem below_four (w : World) (o p q r : Obj) : Below w.heap.size w ((((w.alloc o).alloc p).alloc q).alloc r) := (below_three w o p q).alloc (by simp; omega) _

set_option maxHeartbeats 1000000 in
theorem either_any (xs ys : List Int) (w : World) (h4 : xs.length ≤ 4) (hn : xs.length = ys.length) :
    Calls Tryz.prog 114 #[relOf xs, relOf ys] w fun e w' => e = .returned (relOf (eitherL xs ys)) ∧ Below w.heap.size w w' := by
  have hr0 := ((RelAt.new w xs).alloc (.cells #[.int .i64 ys.length, .int .i64 (rowAt ys 0), .int .i64 (rowAt ys 1), .int .i64 (rowAt ys 2), .int .i64 (rowAt ys 3)] 36)).alloc (.cells #[.int .i64 0, .int .i64 0, .int .i64 0, .int .i64 0, .int .i64 0] 36)
  have hs0 := (RelAt.new (w.alloc (.cells #[.int .i64 xs.length, .int .i64 (rowAt xs 0), .int .i64 (rowAt xs 1), .int .i64 (rowAt xs 2), .int .i64 (rowAt xs 3)] 36)) ys).alloc (.cells #[.int .i64 0, .int .i64 0, .int .i64 0, .int .i64 0, .int .i64 0] 36)
  have ht0 := rel_zero ((w.alloc (.cells #[.int .i64 xs.length, .int .i64 (rowAt xs 0), .int .i64 (rowAt xs 1), .int .i64 (rowAt xs 2), .int .i64 (rowAt xs 3)] 36)).alloc (.cells #[.int .i64 ys.length, .int .i64 (rowAt ys 0), .int .i64 (rowAt ys 1), .int .i64 (rowAt ys 2), .int .i64 (rowAt ys 3)] 36))
  simp only [World.size_alloc] at hs0 ht0
  have hc0 := hr0.cell0
  have hol : (eitherL xs ys).length = xs.length := by unfold eitherL zipI; rw [List.length_zipWith, hn, Nat.min_self]
  have HO := Lib.hid hol
  have HN := Lib.hid hn
  clear hol hn
  go_enter Tryz.func114, Tryz.ntmps114
  go_wp2
  go_loopw [8, 5] (fun i _ wr => ∃ (k : Nat) (zs : List Int), k ≤ xs.length ∧ i = .int .i64 k ∧ Mix xs (eitherL xs ys) k zs ∧ RelAt wr w.heap.size zs ∧ RelAt wr (w.heap.size + 1) ys ∧ RelAt wr (w.heap.size + 1 + 1) [] ∧ Below w.heap.size w wr)
    (fun i _ _ => xs.length - (intOf i).toNat)
  case atStart => exact ⟨0, xs, Nat.zero_le _, rfl, Mix.zero _ _, hr0, hs0, ht0, below_three _ _ _ _⟩
  case round =>
    obtain ⟨k, zs, hk, rfl, hm, hr, hs, hrz, hb⟩ := hrel
    clear hr0 hc0 hs0 ht0
    by_cases hlt : k < xs.length
    · have hc1 := hr.row k (by omega)
      rw [hm.at] at hc1
      have hd1 := hs.row k (by omega)
      have hq : (k : Int) < 4 := by omega
      have hf := hr.free (1 + k)
      go_wp2
      go_region
      all_goals
        go_wp2
        go_roundw
        case rel =>
          refine ⟨k + 1, zs.set k (bits .or .i64 (rowAt xs k) (rowAt ys k)), by omega, by go_num, hm.step hlt (zip_at _ xs ys k hlt (by rw [← HN.out]; exact hlt)), ?_, hs.other (p := ⟨w.heap.size, 1 + k, none⟩) (by simp) _, hrz.other (p := ⟨w.heap.size, 1 + k, none⟩) (by simp; omega) _, hb.drew.setCell (Nat.le_refl _) _⟩
          exact hr.set k (by rw [hm.1]; exact hlt) (by omega) (bits .or .i64 (rowAt xs k) (rowAt ys k))
        case measure => simp [intOf]; omega
    · obtain rfl : k = xs.length := by omega
      have hz := hm.full HO.out
      subst hz
      have hcn := hr.cell0
      rw [HO.out] at hcn
      have hc1 := hr.cell1
      have hc2 := hr.cell2
      have hc3 := hr.cell3
      have hc4 := hr.cell4
      have hz0 := hrz.cell0
      have hz1 := hrz.cell1
      have hz2 := hrz.cell2
      have hz3 := hrz.cell3
      have hz4 := hrz.cell4
      have hy0 := hrz.free 0
      have hy1 := hrz.free 1
      have hy2 := hrz.free 2
      have hy3 := hrz.free 3
      have hy4 := hrz.free 4
      go_wp2
      refine bodyPost_ret (v := relOf (eitherL xs ys)) (by simp [results, Tryz.results114, go_sem, hz0, hz1, hz2, hz3, hz4, HO.out]) rfl ⟨rfl, ?_⟩
      repeat (first | exact hb | refine Below.setCell ?_ (by simp; omega) _)

set_option maxHeartbeats 1000000 in
theorem both_any (xs ys : List Int) (w : World) (h4 : xs.length ≤ 4) (hn : xs.length = ys.length) :
    Calls Tryz.prog 176 #[relOf xs, relOf ys] w fun e w' => e = .returned (relOf (bothL xs ys)) ∧ Below w.heap.size w w' := by
  have hr0 := ((RelAt.new w xs).alloc (.cells #[.int .i64 ys.length, .int .i64 (rowAt ys 0), .int .i64 (rowAt ys 1), .int .i64 (rowAt ys 2), .int .i64 (rowAt ys 3)] 36)).alloc (.cells #[.int .i64 0, .int .i64 0, .int .i64 0, .int .i64 0, .int .i64 0] 36)
  have hs0 := (RelAt.new (w.alloc (.cells #[.int .i64 xs.length, .int .i64 (rowAt xs 0), .int .i64 (rowAt xs 1), .int .i64 (rowAt xs 2), .int .i64 (rowAt xs 3)] 36)) ys).alloc (.cells #[.int .i64 0, .int .i64 0, .int .i64 0, .int .i64 0, .int .i64 0] 36)
  have ht0 := rel_zero ((w.alloc (.cells #[.int .i64 xs.length, .int .i64 (rowAt xs 0), .int .i64 (rowAt xs 1), .int .i64 (rowAt xs 2), .int .i64 (rowAt xs 3)] 36)).alloc (.cells #[.int .i64 ys.length, .int .i64 (rowAt ys 0), .int .i64 (rowAt ys 1), .int .i64 (rowAt ys 2), .int .i64 (rowAt ys 3)] 36))
  simp only [World.size_alloc] at hs0 ht0
  have hc0 := hr0.cell0
  have hol : (bothL xs ys).length = xs.length := by unfold bothL zipI; rw [List.length_zipWith, hn, Nat.min_self]
  have HO := Lib.hid hol
  have HN := Lib.hid hn
  clear hol hn
  go_enter Tryz.func176, Tryz.ntmps176
  go_wp2
  go_loopw [8, 5] (fun i _ wr => ∃ (k : Nat) (zs : List Int), k ≤ xs.length ∧ i = .int .i64 k ∧ Mix xs (bothL xs ys) k zs ∧ RelAt wr w.heap.size zs ∧ RelAt wr (w.heap.size + 1) ys ∧ RelAt wr (w.heap.size + 1 + 1) [] ∧ Below w.heap.size w wr)
    (fun i _ _ => xs.length - (intOf i).toNat)
  case atStart => exact ⟨0, xs, Nat.zero_le _, rfl, Mix.zero _ _, hr0, hs0, ht0, below_three _ _ _ _⟩
  case round =>
    obtain ⟨k, zs, hk, rfl, hm, hr, hs, hrz, hb⟩ := hrel
    clear hr0 hc0 hs0 ht0
    by_cases hlt : k < xs.length
    · have hc1 := hr.row k (by omega)
      rw [hm.at] at hc1
      have hd1 := hs.row k (by omega)
      have hq : (k : Int) < 4 := by omega
      have hf := hr.free (1 + k)
      go_wp2
      go_region
      all_goals
        go_wp2
        go_roundw
        case rel =>
          refine ⟨k + 1, zs.set k (bits .and .i64 (rowAt xs k) (rowAt ys k)), by omega, by go_num, hm.step hlt (zip_at _ xs ys k hlt (by rw [← HN.out]; exact hlt)), ?_, hs.other (p := ⟨w.heap.size, 1 + k, none⟩) (by simp) _, hrz.other (p := ⟨w.heap.size, 1 + k, none⟩) (by simp; omega) _, hb.drew.setCell (Nat.le_refl _) _⟩
          exact hr.set k (by rw [hm.1]; exact hlt) (by omega) (bits .and .i64 (rowAt xs k) (rowAt ys k))
        case measure => simp [intOf]; omega
    · obtain rfl : k = xs.length := by omega
      have hz := hm.full HO.out
      subst hz
      have hcn := hr.cell0
      rw [HO.out] at hcn
      have hc1 := hr.cell1
      have hc2 := hr.cell2
      have hc3 := hr.cell3
      have hc4 := hr.cell4
      have hz0 := hrz.cell0
      have hz1 := hrz.cell1
      have hz2 := hrz.cell2
      have hz3 := hrz.cell3
      have hz4 := hrz.cell4
      have hy0 := hrz.free 0
      have hy1 := hrz.free 1
      have hy2 := hrz.free 2
      have hy3 := hrz.free 3
      have hy4 := hrz.free 4
      go_wp2
      refine bodyPost_ret (v := relOf (bothL xs ys)) (by simp [results, Tryz.results176, go_sem, hz0, hz1, hz2, hz3, hz4, HO.out]) rfl ⟨rfl, ?_⟩
      repeat (first | exact hb | refine Below.setCell ?_ (by simp; omega) _)

end Go.Proofs.YthdnpcpimggjnaaGreatDoor

namespace Go.Proofs.YthdnpcpimggjnaaGreatDoor
open Go.RowKit

theorem own_mono {w : World} {B B' : Nat} {e : TypeId} {size : Nat} {v : Value} {n : Nat} {xs : List Value} (h : w.ownsRow B e size v n xs) (hB : B' ≤ B) : w.ownsRow B' e size v n xs := by
  refine ⟨h.1, ?_⟩
  rcases h.2 with h2 | ⟨g, cap, cur, h1, h2, h3⟩
  · exact .inl h2
  · exact .inr ⟨g, cap, cur, h1, Nat.le_trans hB h2, h3⟩

theorem madeOfOne_no (f : Value) (ao : Option Addr) (ca : Nat) (xs : List Int) (w : World) (hl : xs.length ≤ 1048576) (hx : Rd w ao xs) (hp : relIn xs = false) :
    Calls Tryz.prog 179 #[.slice ao xs.length ca, f] w (Gave w [] false) := by
  have HP := Lib.hid hp
  clear hp
  go_enter Tryz.func179, Tryz.ntmps179
  go_wp2_with (go_at_call 16; refine (relationFrom_no _ _ _ _ hl HP.out hx).mono ?_; rintro e w1 ⟨rfl, hb⟩)
  go_ret2
  exact ⟨.slice none 0 0, rfl, World.ownsRow_nil _ _ _ _, hb.alloc hb.size _⟩

theorem madeOfOne_yes (g : FuncId) (hcf : ∀ args w, Sem.run Tryz.prog (callFunc g args) w = .ok (.enter g args) w) (m : List Int → List Int) (ao : Option Addr) (ca : Nat) (xs : List Int) (w : World) (hx : Rd w ao xs) (hp : relIn xs = true) (hm : (m xs).length = xs.length)
    (hg : ∀ w, Calls Tryz.prog g #[relOf xs] w fun e w' => e = .returned (relOf (m xs)) ∧ Below w.heap.size w w') :
    Calls Tryz.prog 179 #[.slice ao xs.length ca, .func (.func g) #[] #[]] w (Gave w (m xs) true) := by
  have h4 := (relIn_len hp).2
  have HP := Lib.hid hp
  have HM := Lib.hid hm
  have HG := Lib.hid hg
  clear hp hm hg
  go_enter Tryz.func179, Tryz.ntmps179
  go_wp2_with fail
  refine (relationFrom_yes _ _ _ _ HP.out hx).mono ?_
  rintro e w1 ⟨rfl, hb⟩
  go_wp2_with fail
  refine (HG.out _).mono ?_
  rintro e w2 ⟨rfl, hb2⟩
  go_wp2_with fail
  refine (list_any (m xs) w2 (by rw [HM.out]; exact h4)).mono ?_
  rintro e w3 ⟨v, rfl, ho, hb3⟩
  go_wp2
  go_ret2
  have h12 : Below w.heap.size w w2 := (hb.alloc hb.size _).trans (hb2.mono (by have := hb.size; simp; omega))
  exact ⟨v, rfl, own_mono ho h12.size, h12.trans (hb3.mono h12.size)⟩

theorem cf_other (args : Array Value) (w : World) : Sem.run Tryz.prog (callFunc 113 args) w = .ok (.enter 113 args) w := by kernel_rfl

theorem implRelOther_any (ao : Option Addr) (ca : Nat) (xs : List Int) (w : World) (hl : xs.length ≤ 1048576) (hx : Rd w ao xs) :
    Calls Tryz.prog 121 #[.slice ao xs.length ca] w (Gave w (ifR (relIn xs) (otherL xs)) (relIn xs)) := by
  cases hp : relIn xs with
  | false =>
    have h1 := Lib.hid (madeOfOne_no (.func (.func 113) #[] #[]) ao ca xs w hl hx hp)
    clear hp
    go_enter Tryz.func121, Tryz.ntmps121
    go_wp2_with (go_at_call 179; refine h1.out.mono ?_; rintro e w1 ⟨v, rfl, ho, hb⟩)
    go_ret2
    exact ⟨v, rfl, ho, hb⟩
  | true =>
    have h4 := relIn_len hp
    have h1 := Lib.hid (madeOfOne_yes 113 cf_other otherL ao ca xs w hx hp (by unfold otherL; simp) (fun w => other_any xs w h4.1 h4.2))
    clear hp
    go_enter Tryz.func121, Tryz.ntmps121
    go_wp2_with (go_at_call 179; refine h1.out.mono ?_; rintro e w1 ⟨v, rfl, ho, hb⟩)
    go_ret2
    exact ⟨v, rfl, ho, hb⟩
end Go.Proofs.YthdnpcpimggjnaaGreatDoor

namespace Go.Proofs.YthdnpcpimggjnaaGreatDoor
open Go.RowKit

/-- v is a list of the call's own, in a block from lo on and below hi -/
structure OwnR (w : World) (lo hi : Nat) (v : Value) (xs : List Int) : Prop where
  row : w.ownsRow lo 3 1 v xs.length (xs.map (Value.int .i64))
  top : ∀ k, v.ownBlock = some k → k < hi
  size : hi ≤ w.heap.size

theorem OwnR.made {w' : World} {lo : Nat} {v : Value} {xs : List Int} (h : w'.ownsRow lo 3 1 v xs.length (xs.map (Value.int .i64))) : OwnR w' lo w'.heap.size v xs :=
  ⟨h, fun k hk => (h.lt k hk).2, Nat.le_refl _⟩
theorem OwnR.base {w : World} {lo hi : Nat} {v : Value} {xs : List Int} (h : OwnR w lo hi v xs) {k : Nat} (hk : v.ownBlock = some k) : lo ≤ k := (h.row.lt k hk).1
theorem OwnR.below {w w' : World} {lo hi B : Nat} {v : Value} {xs : List Int} (h : OwnR w lo hi v xs) (hb : Below B w w') (hB : hi ≤ B) : OwnR w' lo hi v xs := by
  refine ⟨⟨h.row.1, ?_⟩, h.top, Nat.le_trans h.size hb.size⟩
  rcases h.row.2 with h2 | ⟨g, cap, cur, rfl, h2, h3, h4⟩
  · exact .inl h2
  · exact .inr ⟨g, cap, cur, rfl, h2, (hb.block g (Nat.lt_of_lt_of_le (h.top g rfl) hB)).trans h3, h4⟩
theorem OwnR.dn {w w' : World} {lo hi : Nat} {v : Value} {xs : List Int} (h : OwnR w lo hi v xs) (hd : Dn w w') : OwnR w' lo hi v xs :=
  ⟨hd.row h.row, h.top, by rw [hd.heap]; exact h.size⟩
theorem OwnR.grown {w w' : World} {lo hi : Nat} {v : Value} {xs : List Int} {row : Option Nat} (h : OwnR w lo hi v xs) (hg : w.grownBy w' row) (hr : ∀ k, row = some k → hi ≤ k ∨ k < lo) : OwnR w' lo hi v xs := by
  refine ⟨h.row.kept hg ?_, h.top, Nat.le_trans h.size hg.size⟩
  cases hv : v.ownBlock with
  | none => exact .inl rfl
  | some k =>
    right
    intro e
    have h1 := h.top k hv
    have h2 := h.base hv
    rcases hr k e.symm with h3 | h3 <;> omega
theorem OwnR.rd {w : World} {lo hi : Nat} {v : Value} {xs : List Int} (h : OwnR w lo hi v xs) : ∃ ao cap, v = .slice ao xs.length cap ∧ Rd w ao xs := row_rd h.row

/-- a contract over lists of the call's own -/
theorem gave_own {w : World} {r : List Int} {ok : Bool} {e : Ending} {w' : World} (h : Gave w r ok e w') :
    ∃ v, e = .returned (.tuple #[v, .bool ok]) ∧ OwnR w' w.heap.size w'.heap.size v r ∧ Below w.heap.size w w' := by
  obtain ⟨v, he, ho, hb⟩ := h
  exact ⟨v, he, OwnR.made ho, hb⟩
end Go.Proofs.YthdnpcpimggjnaaGreatDoor
