/-
  The classes of an equivalence: all equivalences of at most 4 points; l4Classes of the model.
-/
import Derived.Test.YtebkeebgjjmdbaaGreatDoorJG
import Derived.Test.YtebkeebgjjmdbaaGreatDoorJI
namespace Go.Proofs.YtebkeebgjjmdbaaGreatDoor
open Go.RowKit

/-- whether a point is the least one of its row -/
def firstB (x : Int) (k : Nat) : Bool := bits .and .i64 x (wrap64 (wrap64 (2 ^ k) - 1)) == 0
/-- the rows of the first k points that are least ones -/
def clsTo (xs : List Int) (k : Nat) : List Int := ((List.range k).filter fun i => firstB (rowAt xs i) i).map (rowAt xs)
def clsL (xs : List Int) : List Int := clsTo xs xs.length
theorem clsTo_yes {xs : List Int} {k : Nat} (h : firstB (rowAt xs k) k = true) : clsTo xs (k + 1) = clsTo xs k ++ [rowAt xs k] := by
  unfold clsTo
  rw [List.range_succ, List.filter_append, List.map_append]
  simp [h]
theorem clsTo_no {xs : List Int} {k : Nat} (h : firstB (rowAt xs k) k = false) : clsTo xs (k + 1) = clsTo xs k := by
  unfold clsTo
  rw [List.range_succ, List.filter_append, List.map_append]
  simp [h]
theorem snoc_int (xs : List Int) (x : Int) : xs.map (Value.int .i64) ++ [Value.int .i64 x] = (xs ++ [x]).map (Value.int .i64) := by simp
theorem clsTo_le (xs : List Int) (k : Nat) : (clsTo xs k).length ≤ k := by
  unfold clsTo
  rw [List.length_map]
  exact Nat.le_trans (List.length_filter_le _ _) (by simp)

set_option maxRecDepth 20000 in
set_option maxHeartbeats 1000000 in
theorem l4Classes_any (ao : Option Addr) (ca : Nat) (xs : List Int) (w : World) (h4 : xs.length ≤ 4) (hx : Rd w ao xs) :
    Calls Tryz.prog 34 #[.slice ao xs.length ca] w fun e w' => ∃ v, e = .returned v ∧
      w'.ownsRow w.heap.size 3 1 v (clsL xs).length ((clsL xs).map (Value.int .i64)) ∧ Below w.heap.size w w' := by
  obtain ⟨i0, hi, hz0, hz1, hz2⟩ := info_parts Tryz.info3
  go_enter Tryz.func34, Tryz.ntmps34
  go_wp2
  go_loopw [3, 4] (fun v i wr => ∃ k : Nat, k ≤ xs.length ∧ i = .int .i64 k ∧ wr.ownsRow w.heap.size 3 1 v (clsTo xs k).length ((clsTo xs k).map (Value.int .i64)) ∧ Below w.heap.size w wr)
    (fun _ i _ => xs.length - (intOf i).toNat)
  case atStart => exact ⟨0, Nat.zero_le _, rfl, row_lit0 w, below_one _ _⟩
  case round =>
    obtain ⟨k, hk, rfl, ho, hB⟩ := hrel
    by_cases hlt : k < xs.length
    · obtain ⟨b, off, x, hxk, rfl, hbl, hc1⟩ := (hx.below hB).get k hlt
      have hxe : rowAt xs k = x := by have := rowAt_get hlt; rw [hxk] at this; exact (Option.some.inj this).symm
      have hi1 : ((k : Nat) : Int) < (xs.length : Int) := by omega
      have hle := clsTo_le xs k
      have HXE := Lib.hid hxe
      clear hx hxk hxe
      go_wp2
      go_quiet (fail)
      have ho' := (Dn.drewN wr nq).row ho
      have hB' := below_drewN hB nq
      obtain ⟨wq, hwq⟩ : ∃ wq, wr.drewN nq = wq := ⟨_, rfl⟩
      rw [hwq] at ho' hB' ⊢
      have hcq : wq.cell? ⟨b, off + k, none⟩ = some (.int .i64 x) := by rw [← hwq]; exact hc1
      clear hc1 ho hB hwq hbl
      have hs : w.heap.size ≤ wq.heap.size := hB'.size
      cases hb : (bits .and .i64 x (wrap64 (wrap64 (2 ^ k) - 1)) == 0) with
      | true =>
        have hy := clsTo_yes (xs := xs) (k := k) (by rw [HXE.out]; exact hb)
        rw [HXE.out] at hy
        have HY := Lib.hid hy
        clear hy
        go_wp2_with (at_builtin; refine wpList_append_own _ rfl (.tmp 21) (.tmp 26) 23 rfl w.heap.size 3 i0 (.int .i64 0) 1 8 Tryz.underlying23 hi hz0 hz1 hz2 rfl (by decide) _ _ _ rfl (ho'.alloc _) ⟨wq.heap.size, 0, none⟩ 1 1 [_] rfl rfl (cell_one_new _ _ _) (by simp [Value.oneCell']) (by unfold maxLen; omega) (by omega) (by simp; omega) ?_)
        intro v' w2 hown' hgrow _
        have hb' := own_step' ho' hB' hs _ hgrow
        rw [snoc_int, ← HY.out] at hown'
        clear ho' hB' hs hgrow hcq
        go_wp2
        go_roundw
        case rel => exact ⟨k + 1, by omega, by go_num, by rw [show (clsTo xs (k + 1)).length = (clsTo xs k).length + 1 by rw [HY.out]; simp]; exact hown', hb'⟩
        case measure => simp [intOf]; omega
      | false =>
        have hy := clsTo_no (xs := xs) (k := k) (by rw [HXE.out]; exact hb)
        have HY := Lib.hid hy
        clear hy
        go_wp2
        go_roundw
        case rel => exact ⟨k + 1, by omega, by go_num, by rw [HY.out]; exact ho', hB'⟩
        case measure => simp [intOf]; omega
    · go_wp2
      go_ret
      obtain rfl : k = xs.length := by omega
      exact ⟨_, rfl, ho, hB⟩

/-! all equivalences -/
def equ1 : List (List Int) := [[1]]
def equ2 : List (List Int) := [[1, 2], [3, 3]]
def equ3 : List (List Int) := [[1, 2, 4], [3, 3, 4], [5, 2, 5], [1, 6, 6], [7, 7, 7]]
def equ4 : List (List Int) := [[1, 2, 4, 8], [3, 3, 4, 8], [5, 2, 5, 8], [9, 2, 4, 9], [1, 6, 6, 8], [1, 10, 4, 10], [1, 2, 12, 12], [3, 3, 12, 12], [5, 10, 5, 10], [9, 6, 6, 9],
  [7, 7, 7, 8], [11, 11, 4, 11], [13, 2, 13, 13], [1, 14, 14, 14], [15, 15, 15, 15]]
theorem enum1 : ∀ a : Fin 2, hasB (a.val : Int) 0 = true → [(a.val : Int)] ∈ equ1 := by decide +kernel
theorem enum2 : ∀ a : Fin 4, hasB (a.val : Int) 0 = true → ∀ b : Fin 4, hasB (b.val : Int) 1 = true → hasB (b.val : Int) 0 = hasB (a.val : Int) 1 → [(a.val : Int), (b.val : Int)] ∈ equ2 := by decide +kernel
theorem enum3 : ∀ a : Fin 8, hasB (a.val : Int) 0 = true → ∀ b : Fin 8, hasB (b.val : Int) 1 = true → hasB (b.val : Int) 0 = hasB (a.val : Int) 1 → ∀ c : Fin 8, hasB (c.val : Int) 2 = true → hasB (c.val : Int) 0 = hasB (a.val : Int) 2 → hasB (c.val : Int) 1 = hasB (b.val : Int) 2 →
    kindT [(a.val : Int), (b.val : Int), (c.val : Int)] = true → [(a.val : Int), (b.val : Int), (c.val : Int)] ∈ equ3 := by decide +kernel
theorem enum4 : ∀ a : Fin 16, hasB (a.val : Int) 0 = true → ∀ b : Fin 16, hasB (b.val : Int) 1 = true → hasB (b.val : Int) 0 = hasB (a.val : Int) 1 → ∀ c : Fin 16, hasB (c.val : Int) 2 = true → hasB (c.val : Int) 0 = hasB (a.val : Int) 2 → hasB (c.val : Int) 1 = hasB (b.val : Int) 2 →
    ∀ d : Fin 16, hasB (d.val : Int) 3 = true → hasB (d.val : Int) 0 = hasB (a.val : Int) 3 → hasB (d.val : Int) 1 = hasB (b.val : Int) 3 → hasB (d.val : Int) 2 = hasB (c.val : Int) 3 →
    kindT [(a.val : Int), (b.val : Int), (c.val : Int), (d.val : Int)] = true → [(a.val : Int), (b.val : Int), (c.val : Int), (d.val : Int)] ∈ equ4 := by decide +kernel
def equs : List (List Int) := equ1 ++ (equ2 ++ (equ3 ++ equ4))
theorem enum_all {n : Nat} {xs : List Int} (E : Eqv n xs) : xs ∈ equs := by
  have R := E.rl
  have hn := R.len
  have h1 := R.one
  have h4 := R.four
  have hT := (kindT_iff R).2 E.trans
  have hs : ∀ i j, i < n → j < n → hB xs i j = hB xs j i := fun i j hi hj => bool_iff ⟨E.symm i j hi hj, E.symm j i hj hi⟩
  have row : ∀ i, ∃ y : Nat, rowAt xs i = (y : Int) ∧ y < 2 ^ n := fun i => by
    obtain ⟨y, hy, hy2⟩ := R.row i
    exact ⟨y.val, hy, hy2⟩
  unfold equs
  rw [List.mem_append, List.mem_append, List.mem_append]
  rcases (by omega : n = 1 ∨ n = 2 ∨ n = 3 ∨ n = 4) with rfl | rfl | rfl | rfl
  · obtain ⟨x0, rfl⟩ : ∃ x0, xs = [x0] := by
      match xs, hn with
      | [x0], _ => exact ⟨x0, rfl⟩
    obtain ⟨a, ha, ha2⟩ := row 0
    have ha : x0 = (a : Int) := ha
    subst ha
    exact .inl (enum1 ⟨a, ha2⟩ (E.refl 0 (by decide)))
  · obtain ⟨x0, x1, rfl⟩ : ∃ x0 x1, xs = [x0, x1] := by
      match xs, hn with
      | [x0, x1], _ => exact ⟨x0, x1, rfl⟩
    obtain ⟨a, ha, ha2⟩ := row 0
    obtain ⟨b, hb, hb2⟩ := row 1
    have ha : x0 = (a : Int) := ha
    have hb : x1 = (b : Int) := hb
    subst ha hb
    exact .inr (.inl (enum2 ⟨a, ha2⟩ (E.refl 0 (by decide)) ⟨b, hb2⟩ (E.refl 1 (by decide)) (hs 1 0 (by decide) (by decide))))
  · obtain ⟨x0, x1, x2, rfl⟩ : ∃ x0 x1 x2, xs = [x0, x1, x2] := by
      match xs, hn with
      | [x0, x1, x2], _ => exact ⟨x0, x1, x2, rfl⟩
    obtain ⟨a, ha, ha2⟩ := row 0
    obtain ⟨b, hb, hb2⟩ := row 1
    obtain ⟨c, hc, hc2⟩ := row 2
    have ha : x0 = (a : Int) := ha
    have hb : x1 = (b : Int) := hb
    have hc : x2 = (c : Int) := hc
    subst ha hb hc
    exact .inr (.inr (.inl (enum3 ⟨a, ha2⟩ (E.refl 0 (by decide)) ⟨b, hb2⟩ (E.refl 1 (by decide)) (hs 1 0 (by decide) (by decide)) ⟨c, hc2⟩ (E.refl 2 (by decide)) (hs 2 0 (by decide) (by decide)) (hs 2 1 (by decide) (by decide)) hT)))
  · obtain ⟨x0, x1, x2, x3, rfl⟩ : ∃ x0 x1 x2 x3, xs = [x0, x1, x2, x3] := by
      match xs, hn with
      | [x0, x1, x2, x3], _ => exact ⟨x0, x1, x2, x3, rfl⟩
    obtain ⟨a, ha, ha2⟩ := row 0
    obtain ⟨b, hb, hb2⟩ := row 1
    obtain ⟨c, hc, hc2⟩ := row 2
    obtain ⟨d, hd, hd2⟩ := row 3
    have ha : x0 = (a : Int) := ha
    have hb : x1 = (b : Int) := hb
    have hc : x2 = (c : Int) := hc
    have hd : x3 = (d : Int) := hd
    subst ha hb hc hd
    exact .inr (.inr (.inr (enum4 ⟨a, ha2⟩ (E.refl 0 (by decide)) ⟨b, hb2⟩ (E.refl 1 (by decide)) (hs 1 0 (by decide) (by decide)) ⟨c, hc2⟩ (E.refl 2 (by decide)) (hs 2 0 (by decide) (by decide)) (hs 2 1 (by decide) (by decide))
      ⟨d, hd2⟩ (E.refl 3 (by decide)) (hs 3 0 (by decide) (by decide)) (hs 3 1 (by decide) (by decide)) (hs 3 2 (by decide) (by decide)) hT)))

/-- the program's classes: points put into the class of their number, one by one -/
def clAcc (ps : List Nat) (n k : Nat) : List Int := (List.range k).foldl (fun zs i => addPair zs (cm ps (rt ps i)) i) (List.replicate (cm ps n) 0)
theorem clAcc_succ (ps : List Nat) (n k : Nat) : clAcc ps n (k + 1) = addPair (clAcc ps n k) (cm ps (rt ps k)) k := by
  unfold clAcc
  rw [List.range_succ, List.foldl_append]
  rfl
theorem clAcc_len (ps : List Nat) (n : Nat) : ∀ k, (clAcc ps n k).length = cm ps n
  | 0 => by simp [clAcc]
  | k + 1 => by rw [clAcc_succ, addPair_len, clAcc_len ps n k]
theorem cls_facts : ∀ xs ∈ equs, clAcc (linkS xs) xs.length xs.length = clsL xs ∧ (∀ i : Fin xs.length, cm (linkS xs) (rt (linkS xs) i.val) < cm (linkS xs) xs.length) ∧
    1 ≤ (clsL xs).length ∧ (∀ k : Fin (clsL xs).length, ∀ i : Fin xs.length, hasB (rowAt (clsL xs) k.val) i.val = decide (cm (linkS xs) (rt (linkS xs) i.val) = k.val)) ∧ (∀ k : Fin (clsL xs).length, ∃ y : Fin 16, rowAt (clsL xs) k.val = (y.val : Int) ∧ y.val < 2 ^ xs.length) := by decide +kernel
end Go.Proofs.YtebkeebgjjmdbaaGreatDoor
