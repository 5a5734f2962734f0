/-
  A relation in a block of five cells; contracts of the program's list, other, either and both; for relations of at most 4 points.
-/
import Derived.Test.YtcdiicckngndcabH
namespace Go.Proofs.Ytcdiicckngndcab
open Go.RowKit

/-- block b holds the relation made of these rows -/
def RelAt (w : World) (b : Nat) (xs : List Int) : Prop :=
  w.heap[b]? = some (.cells #[.int .i64 xs.length, .int .i64 (rowAt xs 0), .int .i64 (rowAt xs 1), .int .i64 (rowAt xs 2), .int .i64 (rowAt xs 3)] 47 (0, 0))

theorem RelAt.cell0 {w : World} {b : Nat} {xs : List Int} (h : RelAt w b xs) : w.cell? ⟨b, 0, none⟩ = some (.int .i64 xs.length) := by
  unfold RelAt at h
  simp [World.cell?, h]
theorem RelAt.cell1 {w : World} {b : Nat} {xs : List Int} (h : RelAt w b xs) : w.cell? ⟨b, 1, none⟩ = some (.int .i64 (rowAt xs 0)) := by
  unfold RelAt at h
  simp [World.cell?, h]
theorem RelAt.cell2 {w : World} {b : Nat} {xs : List Int} (h : RelAt w b xs) : w.cell? ⟨b, 2, none⟩ = some (.int .i64 (rowAt xs 1)) := by
  unfold RelAt at h
  simp [World.cell?, h]
theorem RelAt.cell3 {w : World} {b : Nat} {xs : List Int} (h : RelAt w b xs) : w.cell? ⟨b, 3, none⟩ = some (.int .i64 (rowAt xs 2)) := by
  unfold RelAt at h
  simp [World.cell?, h]
theorem RelAt.cell4 {w : World} {b : Nat} {xs : List Int} (h : RelAt w b xs) : w.cell? ⟨b, 4, none⟩ = some (.int .i64 (rowAt xs 3)) := by
  unfold RelAt at h
  simp [World.cell?, h]
theorem RelAt.row {w : World} {b : Nat} {xs : List Int} (h : RelAt w b xs) (k : Nat) (hk : k < 4) : w.cell? ⟨b, 1 + k, none⟩ = some (.int .i64 (rowAt xs k)) := by
  rcases (by omega : k = 0 ∨ k = 1 ∨ k = 2 ∨ k = 3) with rfl | rfl | rfl | rfl
  · exact h.cell1
  · exact h.cell2
  · exact h.cell3
  · exact h.cell4
theorem RelAt.free {w : World} {b : Nat} {xs : List Int} (h : RelAt w b xs) (j : Nat) : w.frozen? ⟨b, j, none⟩ = false := by
  unfold RelAt at h
  simp [World.frozen?, h]
theorem RelAt.lt {w : World} {b : Nat} {xs : List Int} (h : RelAt w b xs) : b < w.heap.size := (Array.getElem?_eq_some_iff.1 h).1
theorem RelAt.new (w : World) (xs : List Int) :
    RelAt (w.alloc (.cells #[.int .i64 xs.length, .int .i64 (rowAt xs 0), .int .i64 (rowAt xs 1), .int .i64 (rowAt xs 2), .int .i64 (rowAt xs 3)] 47)) w.heap.size xs :=
  heap_alloc_new w _
theorem RelAt.alloc {w : World} {b : Nat} {xs : List Int} (h : RelAt w b xs) (o : Obj) : RelAt (w.alloc o) b xs :=
  (Below.heap_alloc w o b h.lt).trans h
theorem RelAt.below {w w' : World} {B b : Nat} {xs : List Int} (h : RelAt w b xs) (hb : Below B w w') (hlt : b < B) : RelAt w' b xs :=
  (hb.block b hlt).trans h
theorem RelAt.other {w : World} {b : Nat} {xs : List Int} (h : RelAt w b xs) {p : Addr} (hp : b ≠ p.block) (v : Value) : RelAt (w.setCell p v) b xs :=
  (Below.heap_setCell w p v b hp).trans h
theorem RelAt.drew {w : World} {b : Nat} {xs : List Int} (h : RelAt w b xs) : RelAt w.drew b xs := h
theorem RelAt.drewN {w : World} {b : Nat} {xs : List Int} (h : RelAt w b xs) (n : Nat) : RelAt (w.drewN n) b xs := h
theorem RelAt.dn {w w' : World} {b : Nat} {xs : List Int} (h : RelAt w b xs) (hd : Dn w w') : RelAt w' b xs := by
  obtain ⟨q, rfl⟩ := hd
  exact h

theorem rowAt_set (xs : List Int) (k i : Nat) (v : Int) (hk : k < xs.length) : rowAt (xs.set k v) i = if i = k then v else rowAt xs i := by
  unfold rowAt
  rw [List.getD_eq_getElem?_getD, List.getD_eq_getElem?_getD, List.getElem?_set]
  by_cases h : i = k
  · subst h
    simp [hk]
  · rw [if_neg (fun e => h e.symm), if_neg h]

theorem RelAt.set {w : World} {b : Nat} {xs : List Int} (h : RelAt w b xs) (k : Nat) (hk : k < xs.length) (h4 : k < 4) (v : Int) :
    RelAt (w.setCell ⟨b, 1 + k, none⟩ (.int .i64 v)) b (xs.set k v) := by
  unfold RelAt
  rw [heap_setCell_same w b (1 + k) _ _ _ h, List.length_set, rowAt_set _ _ _ _ hk, rowAt_set _ _ _ _ hk, rowAt_set _ _ _ _ hk, rowAt_set _ _ _ _ hk]
  rcases (by omega : k = 0 ∨ k = 1 ∨ k = 2 ∨ k = 3) with rfl | rfl | rfl | rfl <;> simp

theorem rowAt_get {xs : List Int} {k : Nat} (h : k < xs.length) : xs[k]? = some (rowAt xs k) := by
  unfold rowAt
  rw [List.getD_eq_getElem?_getD, List.getElem?_eq_getElem h]
  rfl

set_option maxHeartbeats 1000000 in
theorem list_any (xs : List Int) (w : World) (h4 : xs.length ≤ 4) :
    Calls Try.prog 67 #[relOf xs] w fun e w' => ∃ v, e = .returned v ∧
      w'.ownsRow w.heap.size 3 1 v xs.length (xs.map (Value.int .i64)) ∧ Below w.heap.size w w' := by
  obtain ⟨i0, hi, hz0, hz1, hz2⟩ := info_parts Try.info3
  have hr0 := RelAt.new w xs
  have hc0 := hr0.cell0
  go_enter Try.func67, Try.ntmps67
  go_wp2_with (at_make; refine wpList_make_full _ rfl _ _ 23 rfl w.heap.size 3 i0 (.int .i64 0) 1 Try.underlying23 hi hz0 hz1 _ _ _ _ xs.length rfl rfl rfl rfl ?c1 ?c2 ?c3 ?_)
  case c1 => rw [hz2]; omega
  case c2 => unfold maxLen; omega
  case c3 => simp
  intro w1 hown hgrow
  have hB : Below w.heap.size w w1 := (below_one _ _).grown hgrow (by simp) (by simp)
  have hr1 : RelAt w1 w.heap.size xs := (hgrow.block w.heap.size (by simp) (by simp)).trans hr0
  rw [toList_madeCells_one] at hown
  clear hgrow hr0 hc0
  go_wp2
  go_loopw [10, 4] (fun i _ wr => ∃ k : Nat, k ≤ xs.length ∧ i = .int .i64 k ∧ RelAt wr w.heap.size xs ∧
      wr.ownsRow w.heap.size 3 1 (.slice (some ⟨w.heap.size + 1, 0, none⟩) xs.length xs.length) xs.length ((xs.take k).map (Value.int .i64) ++ List.replicate (xs.length - k) (.int .i64 0)) ∧ Below w.heap.size w wr)
    (fun i _ _ => xs.length - (intOf i).toNat)
  case atStart => exact ⟨0, Nat.zero_le _, rfl, hr1, by simpa using hown, hB⟩
  case round =>
    obtain ⟨k, hk, rfl, hr, ho, hb⟩ := hrel
    by_cases hlt : k < xs.length
    · have hc1 := hr.row k (by omega)
      have hc2 := ho.cellAt k (by omega)
      have hf2 := ho.frozenAt k
      have hq : (k : Int) < 4 := by omega
      clear hr1 hown hB
      go_wp2
      go_roundw
      case rel =>
        refine ⟨k + 1, by omega, by go_num, hr.other (by simp) _, ?_, hb.setCell (by simp) _⟩
        have := (ho.stored k (.int .i64 (rowAt xs k))).1
        rw [toInts_step xs k _ (rowAt_get hlt)] at this
        exact this
      case measure => simp [intOf]; omega
    · go_wp2
      go_ret
      obtain rfl : k = xs.length := by omega
      exact ⟨_, rfl, by simpa using ho, hb⟩

/-- the first k rows are those of ys, the others those of xs -/
def Mix (xs ys : List Int) (k : Nat) (zs : List Int) : Prop := zs.length = xs.length ∧ ∀ j, zs[j]? = if j < k then ys[j]? else xs[j]?
theorem Mix.zero (xs ys : List Int) : Mix xs ys 0 xs := ⟨rfl, fun j => by rw [if_neg (by omega)]⟩
theorem Mix.step {xs ys zs : List Int} {k : Nat} {v : Int} (h : Mix xs ys k zs) (hk : k < xs.length) (hv : ys[k]? = some v) : Mix xs ys (k + 1) (zs.set k v) := by
  refine ⟨by rw [List.length_set, h.1], fun j => ?_⟩
  rw [List.getElem?_set, h.2]
  by_cases e : k = j
  · subst e
    rw [if_pos rfl, if_pos (by rw [h.1]; exact hk), if_pos (by omega), hv]
  · rw [if_neg e]
    by_cases h2 : j < k
    · rw [if_pos h2, if_pos (by omega)]
    · rw [if_neg h2, if_neg (by omega)]
theorem Mix.full {xs ys zs : List Int} (h : Mix xs ys xs.length zs) (hy : ys.length = xs.length) : zs = ys := by
  apply List.ext_getElem?
  intro j
  rw [h.2]
  by_cases e : j < xs.length
  · rw [if_pos e]
  · rw [if_neg e, List.getElem?_eq_none (by omega), List.getElem?_eq_none (by omega)]
theorem Mix.at {xs ys zs : List Int} {k : Nat} (h : Mix xs ys k zs) : rowAt zs k = rowAt xs k := by
  unfold rowAt
  rw [List.getD_eq_getElem?_getD, List.getD_eq_getElem?_getD, h.2, if_neg (by omega)]

theorem other_at (xs : List Int) (k : Nat) (h : k < xs.length) : (otherL xs)[k]? = some (bits .andNot .i64 (2 ^ xs.length - 1) (rowAt xs k)) := by
  unfold otherL
  rw [List.getElem?_map, rowAt_get h]
  rfl
theorem pow_top (n : Nat) (h1 : 1 ≤ n) (h4 : n ≤ 4) : ((2 ^ n - 1 : Nat) : Int) = 2 ^ n - 1 := by
  rcases (by omega : n = 1 ∨ n = 2 ∨ n = 3 ∨ n = 4) with rfl | rfl | rfl | rfl <;> rfl

end Go.Proofs.Ytcdiicckngndcab
