/-
  EquClasses, of the program and of the model.
-/
import Derived.Test.YtonmjcfkanldcaaJI
import Derived.Test.YtonmjcfkanldcaaJE
import Derived.StillTailTactics
namespace Go.Proofs.Ytonmjcfkanldcaa
open Go.RowKit

/-- how many least points are less than k -/
def cm (ps : List Nat) : Nat → Nat
  | 0 => 0
  | k + 1 => cm ps k + if rt ps k = k then 1 else 0
theorem cm_le (ps : List Nat) : ∀ k, cm ps k ≤ k
  | 0 => Nat.le_refl _
  | k + 1 => by
    have := cm_le ps k
    show cm ps k + (if rt ps k = k then 1 else 0) ≤ k + 1
    split <;> omega
theorem cm_yes {ps : List Nat} {k : Nat} (h : rt ps k = k) : cm ps (k + 1) = cm ps k + 1 := by
  show cm ps k + (if rt ps k = k then 1 else 0) = _
  rw [if_pos h]
theorem cm_no {ps : List Nat} {k : Nat} (h : ¬ rt ps k = k) : cm ps (k + 1) = cm ps k := by
  show cm ps k + (if rt ps k = k then 1 else 0) = _
  rw [if_neg h, Nat.add_zero]
/-- the numbers of the classes of the first k points -/
def numTo (n : Nat) (ps : List Nat) (k : Nat) : List Int := (List.range n).map fun i => if i < k then ((cm ps (rt ps i) : Nat) : Int) else 0
def numL (n : Nat) (ps : List Nat) : List Int := numTo n ps n
theorem numTo_len (n : Nat) (ps : List Nat) (k : Nat) : (numTo n ps k).length = n := by simp [numTo]
theorem numTo_get (n : Nat) (ps : List Nat) (k i : Nat) (h : i < n) : (numTo n ps k)[i]? = some (if i < k then ((cm ps (rt ps i) : Nat) : Int) else 0) := by simp [numTo, h]
theorem numTo_zero (n : Nat) (ps : List Nat) : numTo n ps 0 = List.replicate n 0 := by
  apply List.ext_getElem?
  intro i
  by_cases h : i < n
  · rw [numTo_get n ps 0 i h, if_neg (by omega), List.getElem?_replicate, if_pos h]
  · rw [List.getElem?_eq_none (by rw [numTo_len]; omega), List.getElem?_eq_none (by simp; omega)]
theorem numTo_step (n : Nat) (ps : List Nat) (k : Nat) : (numTo n ps k).set k ((cm ps (rt ps k) : Nat) : Int) = numTo n ps (k + 1) := by
  apply List.ext_getElem?
  intro i
  by_cases h : i < n
  · rw [List.getElem?_set, numTo_get n ps k i h, numTo_get n ps (k + 1) i h, numTo_len]
    by_cases e : k = i
    · subst e
      rw [if_pos rfl, if_pos h, if_pos (by omega)]
    · rw [if_neg e]
      by_cases h2 : i < k
      · rw [if_pos h2, if_pos (by omega)]
      · rw [if_neg h2, if_neg (by omega)]
  · rw [List.getElem?_eq_none (by rw [List.length_set, numTo_len]; omega), List.getElem?_eq_none (by rw [numTo_len]; omega)]

set_option maxHeartbeats 4000000 in
theorem numbers_any {B n : Nat} {ps : List Nat} (hF : Fo ps) (h4 : n ≤ 4) (w : World) (h : LinkW w B n ps) (hB0 : B + 1 + n ≤ w.heap.size) :
    Calls Try.prog 57 #[.slice (some ⟨B, 0, none⟩) n n] w fun e w' => e = .returned (.tuple #[.slice (some ⟨w.heap.size, 0, none⟩) n n, .int .i64 (cm ps n : Nat)]) ∧
      w'.ownsRow w.heap.size 3 1 (.slice (some ⟨w.heap.size, 0, none⟩) n n) n ((numL n ps).map (Value.int .i64)) ∧ Below w.heap.size w w' := by
  obtain ⟨i0, hi, hz0, hz1, hz2⟩ := info_parts Try.info3
  have hL := fun (i : Nat) (hi : i < n) (wr : World) (hb : Below w.heap.size w wr) => least_any hF h4 i hi wr (h.below hb hB0)
  have hR := fun (i : Nat) (hi : i < n) (wr : World) (hb : Below w.heap.size w wr) => (h.below hb hB0).row i hi
  have hN := fun (i : Nat) (hi : i < n) (wr : World) (hb : Below w.heap.size w wr) => (h.below hb hB0).num i hi
  have hE := fun (i j : Nat) (hi : i < n) (hj : j < n) (wr : World) (hb : Below w.heap.size w wr) (hne : i ≠ j) => ptr_other (h.below hb hB0) i j hi hj hne
  have H := Lib.hid (And.intro hF (And.intro hL (And.intro hR (And.intro hN hE))))
  clear hL hR hN hE h hF
  go_enter Try.func57, Try.ntmps57
  go_wp2_with (at_make; refine wpList_make_full _ rfl _ _ 28 rfl w.heap.size 3 i0 (.int .i64 0) 1 Try.underlying28 hi hz0 hz1 _ _ _ _ n rfl rfl rfl rfl ?c1 ?c2 ?c3 ?_)
  case c1 => rw [hz2]; omega
  case c2 => unfold maxLen; omega
  case c3 => exact Nat.le_refl _
  intro w1 hown hgrow
  have hB : Below w.heap.size w w1 := (Below.refl _ _).grown hgrow (Nat.le_refl _) (by simp)
  rw [toList_madeCells_one] at hown
  have hown0 : w1.ownsRow w.heap.size 3 1 (.slice (some ⟨w.heap.size, 0, none⟩) n n) n ((numTo n ps 0).map (Value.int .i64)) := by
    rw [numTo_zero]
    simpa using hown
  clear hgrow hown
  go_wp2
  go_loopw [14, 5, 6, 7, 8] (fun i c _ _ _ wr => ∃ k : Nat, k ≤ n ∧ i = .int .i64 k ∧ c = .int .i64 (cm ps k : Nat) ∧ wr.ownsRow w.heap.size 3 1 (.slice (some ⟨w.heap.size, 0, none⟩) n n) n ((numTo n ps k).map (Value.int .i64)) ∧ Below w.heap.size w wr)
    (fun i _ _ _ _ _ => n - (intOf i).toNat)
  case atStart => exact ⟨0, Nat.zero_le _, rfl, rfl, hown0, hB⟩
  case round =>
    clear hown0 hB
    obtain ⟨k, hk, rfl, rfl, ho, hB⟩ := hrel
    by_cases hlt : k < n
    · have c1 := H.out.2.2.1 k hlt wr hB
      have q1 := H.out.2.1 k hlt wr hB
      have hrk : rt ps k ≤ k := H.out.1.rle k (by omega)
      have hc2 := ho.cellAt k (by omega)
      have hf2 := ho.frozenAt k
      obtain ⟨u, hu⟩ : ∃ u, ((numTo n ps k).map (Value.int .i64))[k]? = some u := ⟨_, List.getElem?_eq_getElem (by simp [numTo]; omega)⟩
      rw [hu] at hc2
      have hi1 : ((k : Nat) : Int) < (n : Int) := by omega
      have hle := cm_le ps k
      have hst := (ho.stored k (.int .i64 ((cm ps (rt ps k) : Nat) : Int))).1
      rw [← List.map_set, numTo_step] at hst
      by_cases e : rt ps k = k
      · have hcm := cm_yes e
        rw [e] at q1 hst
        have hE := ptr_same ⟨B + 1 + k, 0, none⟩ wr
        have HQ := Lib.hid (And.intro q1 (And.intro hcm hst))
        have HB := Lib.hid hB
        clear q1 hcm hst hB ho hu e hrk
        go_wp2_with fail
        refine HQ.out.1.mono ?_
        rintro e w' ⟨rfl, rfl⟩
        go_wp2
        go_roundw
        case rel => exact ⟨k + 1, by omega, by go_num, by rw [HQ.out.2.1]; go_num, HQ.out.2.2, HB.out.setCell (p := ⟨w.heap.size, k, none⟩) (Nat.le_refl _) _⟩
        case measure => simp [intOf]; omega
      · have hcm := cm_no e
        have hlr : rt ps k < k := by omega
        have hE := H.out.2.2.2.2 (rt ps k) k (by omega) hlt wr hB e
        have hnr := H.out.2.2.2.1 (rt ps k) (by omega) wr hB
        have hc3 := ho.cellAt (rt ps k) (by omega)
        have hrr : rt ps (rt ps k) = rt ps k := H.out.1.top _ (by omega) (H.out.1.fix k (by omega))
        rw [List.getElem?_map, numTo_get n ps k (rt ps k) (by omega), if_pos hlr, hrr] at hc3
        have hc3 : wr.cell? ⟨w.heap.size, rt ps k, none⟩ = some (.int .i64 ((cm ps (rt ps k) : Nat) : Int)) := hc3
        obtain ⟨r, hr⟩ : ∃ r, rt ps k = r := ⟨_, rfl⟩
        rw [hr] at q1 hst hE hnr hc3 hlr
        have hi2 : ((r : Nat) : Int) < (n : Int) := by omega
        have HQ := Lib.hid (And.intro q1 (And.intro hcm hst))
        have HB := Lib.hid hB
        clear q1 hcm hst hB ho hu e hrk hr hrr
        go_wp2_with fail
        refine HQ.out.1.mono ?_
        rintro e w' ⟨rfl, rfl⟩
        go_wp2
        go_roundw
        case rel => exact ⟨k + 1, by omega, by go_num, by rw [HQ.out.2.1], HQ.out.2.2, HB.out.setCell (p := ⟨w.heap.size, k, none⟩) (Nat.le_refl _) _⟩
        case measure => simp [intOf]; omega
    · obtain rfl : k = n := by omega
      go_wp2
      go_ret2
      exact ⟨rfl, ho, hB⟩
end Go.Proofs.Ytonmjcfkanldcaa

namespace Go.Proofs.Ytonmjcfkanldcaa
open Go.RowKit

/-- whether a point is the least one of its row -/
def firstB (x : Int) (k : Nat) : Bool := bits .and .i64 x (wrap64 (wrap64 (2 ^ k) - 1)) == 0
/-- the rows of the first k points that are least ones -/
def clsTo (xs : List Int) (k : Nat) : List Int := ((List.range k).filter fun i => firstB (rowAt xs i) i).map (rowAt xs)
def clsL (xs : List Int) : List Int := clsTo xs xs.length
theorem clsTo_yes {xs : List Int} {k : Nat} (h : firstB (rowAt xs k) k = true) : clsTo xs (k + 1) = clsTo xs k ++ [rowAt xs k] := by
  unfold clsTo
  rw [List.range_succ, List.filter_append, List.map_append]
  simp [h]
theorem clsTo_no {xs : List Int} {k : Nat} (h : firstB (rowAt xs k) k = false) : clsTo xs (k + 1) = clsTo xs k := by
  unfold clsTo
  rw [List.range_succ, List.filter_append, List.map_append]
  simp [h]
theorem snoc_int (xs : List Int) (x : Int) : xs.map (Value.int .i64) ++ [Value.int .i64 x] = (xs ++ [x]).map (Value.int .i64) := by simp
theorem clsTo_le (xs : List Int) (k : Nat) : (clsTo xs k).length ≤ k := by
  unfold clsTo
  rw [List.length_map]
  exact Nat.le_trans (List.length_filter_le _ _) (by simp)

set_option maxRecDepth 20000 in
set_option maxHeartbeats 1000000 in
theorem l4Classes_any (ao : Option Addr) (ca : Nat) (xs : List Int) (w : World) (h4 : xs.length ≤ 4) (hx : Rd w ao xs) :
    Calls Try.prog 59 #[.slice ao xs.length ca] w fun e w' => ∃ v, e = .returned v ∧
      w'.ownsRow w.heap.size 3 1 v (clsL xs).length ((clsL xs).map (Value.int .i64)) ∧ Below w.heap.size w w' := by
  obtain ⟨i0, hi, hz0, hz1, hz2⟩ := info_parts Try.info3
  go_enter Try.func59, Try.ntmps59
  go_wp2
  go_loopw [3, 4] (fun v i wr => ∃ k : Nat, k ≤ xs.length ∧ i = .int .i64 k ∧ wr.ownsRow w.heap.size 3 1 v (clsTo xs k).length ((clsTo xs k).map (Value.int .i64)) ∧ Below w.heap.size w wr)
    (fun _ i _ => xs.length - (intOf i).toNat)
  case atStart => exact ⟨0, Nat.zero_le _, rfl, row_lit0 w, below_one _ _⟩
  case round =>
    obtain ⟨k, hk, rfl, ho, hB⟩ := hrel
    by_cases hlt : k < xs.length
    · obtain ⟨b, off, x, hxk, rfl, hbl, hc1⟩ := (hx.below hB).get k hlt
      have hxe : rowAt xs k = x := by have := rowAt_get hlt; rw [hxk] at this; exact (Option.some.inj this).symm
      have hi1 : ((k : Nat) : Int) < (xs.length : Int) := by omega
      have hle := clsTo_le xs k
      have HXE := Lib.hid hxe
      clear hx hxk hxe
      go_wp2
      go_quiet (fail)
      have ho' := (Dn.drewN wr nq).row ho
      have hB' := below_drewN hB nq
      obtain ⟨wq, hwq⟩ : ∃ wq, wr.drewN nq = wq := ⟨_, rfl⟩
      rw [hwq] at ho' hB' ⊢
      have hcq : wq.cell? ⟨b, off + k, none⟩ = some (.int .i64 x) := by rw [← hwq]; exact hc1
      clear hc1 ho hB hwq hbl
      have hs : w.heap.size ≤ wq.heap.size := hB'.size
      cases hb : (bits .and .i64 x (wrap64 (wrap64 (2 ^ k) - 1)) == 0) with
      | true =>
        have hy := clsTo_yes (xs := xs) (k := k) (by rw [HXE.out]; exact hb)
        rw [HXE.out] at hy
        have HY := Lib.hid hy
        clear hy
        go_wp2_with (at_builtin; refine wpList_append_own _ rfl (.tmp 21) (.tmp 26) 28 rfl w.heap.size 3 i0 (.int .i64 0) 1 8 Try.underlying28 hi hz0 hz1 hz2 rfl (by decide) _ _ _ rfl (ho'.alloc _) ⟨wq.heap.size, 0, none⟩ 1 1 [_] rfl rfl (cell_one_new _ _ _) (by simp [Value.oneCell']) (by unfold maxLen; omega) (by omega) (by simp; omega) ?_)
        intro v' w2 hown' hgrow _
        have hb' := own_step' ho' hB' hs _ hgrow
        rw [snoc_int, ← HY.out] at hown'
        clear ho' hB' hs hgrow hcq
        go_wp2
        go_roundw
        case rel => exact ⟨k + 1, by omega, by go_num, by rw [show (clsTo xs (k + 1)).length = (clsTo xs k).length + 1 by rw [HY.out]; simp]; exact hown', hb'⟩
        case measure => simp [intOf]; omega
      | false =>
        have hy := clsTo_no (xs := xs) (k := k) (by rw [HXE.out]; exact hb)
        have HY := Lib.hid hy
        clear hy
        go_wp2
        go_roundw
        case rel => exact ⟨k + 1, by omega, by go_num, by rw [HY.out]; exact ho', hB'⟩
        case measure => simp [intOf]; omega
    · go_wp2
      go_ret
      obtain rfl : k = xs.length := by omega
      exact ⟨_, rfl, ho, hB⟩

/-! all equivalences -/
def equ1 : List (List Int) := [[1]]
def equ2 : List (List Int) := [[1, 2], [3, 3]]
def equ3 : List (List Int) := [[1, 2, 4], [3, 3, 4], [5, 2, 5], [1, 6, 6], [7, 7, 7]]
def equ4 : List (List Int) := [[1, 2, 4, 8], [3, 3, 4, 8], [5, 2, 5, 8], [9, 2, 4, 9], [1, 6, 6, 8], [1, 10, 4, 10], [1, 2, 12, 12], [3, 3, 12, 12], [5, 10, 5, 10], [9, 6, 6, 9],
  [7, 7, 7, 8], [11, 11, 4, 11], [13, 2, 13, 13], [1, 14, 14, 14], [15, 15, 15, 15]]
theorem enum1 : ∀ a : Fin 2, hasB (a.val : Int) 0 = true → [(a.val : Int)] ∈ equ1 := by decide +kernel
theorem enum2 : ∀ a : Fin 4, hasB (a.val : Int) 0 = true → ∀ b : Fin 4, hasB (b.val : Int) 1 = true → hasB (b.val : Int) 0 = hasB (a.val : Int) 1 → [(a.val : Int), (b.val : Int)] ∈ equ2 := by decide +kernel
theorem enum3 : ∀ a : Fin 8, hasB (a.val : Int) 0 = true → ∀ b : Fin 8, hasB (b.val : Int) 1 = true → hasB (b.val : Int) 0 = hasB (a.val : Int) 1 → ∀ c : Fin 8, hasB (c.val : Int) 2 = true → hasB (c.val : Int) 0 = hasB (a.val : Int) 2 → hasB (c.val : Int) 1 = hasB (b.val : Int) 2 →
    kindT [(a.val : Int), (b.val : Int), (c.val : Int)] = true → [(a.val : Int), (b.val : Int), (c.val : Int)] ∈ equ3 := by decide +kernel
theorem enum4 : ∀ a : Fin 16, hasB (a.val : Int) 0 = true → ∀ b : Fin 16, hasB (b.val : Int) 1 = true → hasB (b.val : Int) 0 = hasB (a.val : Int) 1 → ∀ c : Fin 16, hasB (c.val : Int) 2 = true → hasB (c.val : Int) 0 = hasB (a.val : Int) 2 → hasB (c.val : Int) 1 = hasB (b.val : Int) 2 →
    ∀ d : Fin 16, hasB (d.val : Int) 3 = true → hasB (d.val : Int) 0 = hasB (a.val : Int) 3 → hasB (d.val : Int) 1 = hasB (b.val : Int) 3 → hasB (d.val : Int) 2 = hasB (c.val : Int) 3 →
    kindT [(a.val : Int), (b.val : Int), (c.val : Int), (d.val : Int)] = true → [(a.val : Int), (b.val : Int), (c.val : Int), (d.val : Int)] ∈ equ4 := by decide +kernel
def equs : List (List Int) := equ1 ++ (equ2 ++ (equ3 ++ equ4))
theorem enum_all {n : Nat} {xs : List Int} (E : Eqv n xs) : xs ∈ equs := by
  have R := E.rl
  have hn := R.len
  have h1 := R.one
  have h4 := R.four
  have hT := (kindT_iff R).2 E.trans
  have hs : ∀ i j, i < n → j < n → hB xs i j = hB xs j i := fun i j hi hj => bool_iff ⟨E.symm i j hi hj, E.symm j i hj hi⟩
  have row : ∀ i, ∃ y : Nat, rowAt xs i = (y : Int) ∧ y < 2 ^ n := fun i => by
    obtain ⟨y, hy, hy2⟩ := R.row i
    exact ⟨y.val, hy, hy2⟩
  unfold equs
  rw [List.mem_append, List.mem_append, List.mem_append]
  rcases (by omega : n = 1 ∨ n = 2 ∨ n = 3 ∨ n = 4) with rfl | rfl | rfl | rfl
  · obtain ⟨x0, rfl⟩ : ∃ x0, xs = [x0] := by
      match xs, hn with
      | [x0], _ => exact ⟨x0, rfl⟩
    obtain ⟨a, ha, ha2⟩ := row 0
    have ha : x0 = (a : Int) := ha
    subst ha
    exact .inl (enum1 ⟨a, ha2⟩ (E.refl 0 (by decide)))
  · obtain ⟨x0, x1, rfl⟩ : ∃ x0 x1, xs = [x0, x1] := by
      match xs, hn with
      | [x0, x1], _ => exact ⟨x0, x1, rfl⟩
    obtain ⟨a, ha, ha2⟩ := row 0
    obtain ⟨b, hb, hb2⟩ := row 1
    have ha : x0 = (a : Int) := ha
    have hb : x1 = (b : Int) := hb
    subst ha hb
    exact .inr (.inl (enum2 ⟨a, ha2⟩ (E.refl 0 (by decide)) ⟨b, hb2⟩ (E.refl 1 (by decide)) (hs 1 0 (by decide) (by decide))))
  · obtain ⟨x0, x1, x2, rfl⟩ : ∃ x0 x1 x2, xs = [x0, x1, x2] := by
      match xs, hn with
      | [x0, x1, x2], _ => exact ⟨x0, x1, x2, rfl⟩
    obtain ⟨a, ha, ha2⟩ := row 0
    obtain ⟨b, hb, hb2⟩ := row 1
    obtain ⟨c, hc, hc2⟩ := row 2
    have ha : x0 = (a : Int) := ha
    have hb : x1 = (b : Int) := hb
    have hc : x2 = (c : Int) := hc
    subst ha hb hc
    exact .inr (.inr (.inl (enum3 ⟨a, ha2⟩ (E.refl 0 (by decide)) ⟨b, hb2⟩ (E.refl 1 (by decide)) (hs 1 0 (by decide) (by decide)) ⟨c, hc2⟩ (E.refl 2 (by decide)) (hs 2 0 (by decide) (by decide)) (hs 2 1 (by decide) (by decide)) hT)))
  · obtain ⟨x0, x1, x2, x3, rfl⟩ : ∃ x0 x1 x2 x3, xs = [x0, x1, x2, x3] := by
      match xs, hn with
      | [x0, x1, x2, x3], _ => exact ⟨x0, x1, x2, x3, rfl⟩
    obtain ⟨a, ha, ha2⟩ := row 0
    obtain ⟨b, hb, hb2⟩ := row 1
    obtain ⟨c, hc, hc2⟩ := row 2
    obtain ⟨d, hd, hd2⟩ := row 3
    have ha : x0 = (a : Int) := ha
    have hb : x1 = (b : Int) := hb
    have hc : x2 = (c : Int) := hc
    have hd : x3 = (d : Int) := hd
    subst ha hb hc hd
    exact .inr (.inr (.inr (enum4 ⟨a, ha2⟩ (E.refl 0 (by decide)) ⟨b, hb2⟩ (E.refl 1 (by decide)) (hs 1 0 (by decide) (by decide)) ⟨c, hc2⟩ (E.refl 2 (by decide)) (hs 2 0 (by decide) (by decide)) (hs 2 1 (by decide) (by decide))
      ⟨d, hd2⟩ (E.refl 3 (by decide)) (hs 3 0 (by decide) (by decide)) (hs 3 1 (by decide) (by decide)) (hs 3 2 (by decide) (by decide)) hT)))

/-- the program's classes: points put into the class of their number, one by one -/
def clAcc (ps : List Nat) (n k : Nat) : List Int := (List.range k).foldl (fun zs i => addPair zs (cm ps (rt ps i)) i) (List.replicate (cm ps n) 0)
theorem clAcc_succ (ps : List Nat) (n k : Nat) : clAcc ps n (k + 1) = addPair (clAcc ps n k) (cm ps (rt ps k)) k := by
  unfold clAcc
  rw [List.range_succ, List.foldl_append]
  rfl
theorem clAcc_len (ps : List Nat) (n : Nat) : ∀ k, (clAcc ps n k).length = cm ps n
  | 0 => by simp [clAcc]
  | k + 1 => by rw [clAcc_succ, addPair_len, clAcc_len ps n k]
theorem cls_facts : ∀ xs ∈ equs, clAcc (linkS xs) xs.length xs.length = clsL xs ∧ (∀ i : Fin xs.length, cm (linkS xs) (rt (linkS xs) i.val) < cm (linkS xs) xs.length) ∧
    1 ≤ (clsL xs).length ∧ (∀ k : Fin (clsL xs).length, ∀ i : Fin xs.length, hasB (rowAt (clsL xs) k.val) i.val = decide (cm (linkS xs) (rt (linkS xs) i.val) = k.val)) ∧ (∀ k : Fin (clsL xs).length, ∃ y : Fin 16, rowAt (clsL xs) k.val = (y.val : Int) ∧ y.val < 2 ^ xs.length) := by decide +kernel
end Go.Proofs.Ytonmjcfkanldcaa

namespace Go.Proofs.Ytonmjcfkanldcaa
open Go.RowKit

theorem specEquClasses_any (ao : Option Addr) (ca : Nat) (xs : List Int) (w : World) (hl : xs.length ≤ 1048576) (hx : Rd w ao xs) :
    Calls Try.prog 20 #[.slice ao xs.length ca] w (Gave w (ifR (equB xs) (clsL xs)) (equB xs)) := by
  have h1 := specEquIn_any ao ca xs w hl hx
  cases hp : equB xs with
  | false =>
    rw [hp] at h1
    have H1 := Lib.hid h1
    clear h1 hp hx
    go_enter Try.func20, Try.ntmps20
    go_wp2_with fail
    refine H1.out.mono ?_
    rintro e w1 ⟨rfl, hb⟩
    have hr := own_mono (row_lit0 w1) hb.size
    go_wp2
    go_ret2
    exact ⟨_, rfl, hr, hb.alloc hb.size _⟩
  | true =>
    rw [hp] at h1
    have h4 := (relIn_len (equ_yes hp).1).2
    have H1 := Lib.hid h1
    have HC := Lib.hid (fun wr h => l4Classes_any ao ca xs wr h4 h)
    clear h1 hp
    go_enter Try.func20, Try.ntmps20
    go_wp2_with fail
    refine H1.out.mono ?_
    rintro e w1 ⟨rfl, hb⟩
    have hx1 := hx.below hb
    clear hx
    go_wp2_with fail
    refine (HC.out _ hx1).mono ?_
    rintro e w2 ⟨v, rfl, ho, hb2⟩
    have hr := own_mono ho hb.size
    go_wp2
    go_ret2
    exact ⟨v, rfl, hr, hb.trans (hb2.mono hb.size)⟩

set_option maxRecDepth 20000 in
set_option maxHeartbeats 4000000 in
theorem implEquClasses_any (ao : Option Addr) (ca : Nat) (xs : List Int) (w : World) (hl : xs.length ≤ 1048576) (hx : Rd w ao xs) :
    Calls Try.prog 19 #[.slice ao xs.length ca] w (Gave w (ifR (equB xs) (clsL xs)) (equB xs)) := by
  cases hp : equB xs with
  | false =>
    have HC := Lib.hid (equivalenceFrom_no ao ca xs w hl hp hx)
    clear hp hx
    go_enter Try.func19, Try.ntmps19
    go_wp2_with fail
    refine HC.out.mono ?_
    rintro e w1 ⟨rfl, hb⟩
    go_wp2
    go_ret2
    exact ⟨.slice none 0 0, rfl, World.ownsRow_nil _ _ _ _, hb.alloc hb.size _⟩
  | true =>
    obtain ⟨i0, hi, hz0, hz1, hz2⟩ := info_parts Try.info3
    have E := (equ_iff xs).1 hp
    obtain ⟨f1, f2, f3, _, _⟩ := cls_facts xs (enum_all E)
    have R := E.rl
    have hF := linkS_fo R
    have h4 := R.four
    have hcl := cm_le (linkS xs) xs.length
    have hlen := clAcc_len (linkS xs) xs.length xs.length
    have hLk := fun wr => linkedBy_any R wr
    have hNu := fun (B : Nat) (wr : World) (h : LinkW wr B xs.length (linkS xs)) hB => numbers_any hF h4 wr h hB
    have H1 := Lib.hid (equivalenceFrom_yes ao ca xs w hp hx)
    have HB := Lib.hid (And.intro hLk (And.intro hNu (And.intro f1 (And.intro f2 hlen))))
    clear hp hx E R hF f1 f2 hLk hNu hlen f3
    go_enter Try.func19, Try.ntmps19
    go_wp2_with fail
    refine H1.out.mono ?_
    rintro e w1 ⟨rfl, hb⟩
    have x1 := RelAt.new w1 xs
    have B1 := hb.alloc hb.size (.cells #[.int .i64 xs.length, .int .i64 (rowAt xs 0), .int .i64 (rowAt xs 1), .int .i64 (rowAt xs 2), .int .i64 (rowAt xs 3)] 58)
    have p0 := x1.cell0
    have p1 := x1.cell1
    have p2 := x1.cell2
    have p3 := x1.cell3
    have p4 := x1.cell4
    clear x1 hb
    go_wp2_with fail
    refine (HB.out.1 _).mono ?_
    rintro e w3 ⟨rfl, hK, hs3, hb3⟩
    simp only [World.size_alloc] at hK hs3
    have B3 := B1.trans (hb3.mono B1.size)
    have HK := Lib.hid (And.intro hK hs3)
    clear hb3 B1 hK hs3 p0 p1 p2 p3 p4
    go_wp2_with fail
    refine (HB.out.2.1 _ _ HK.out.1 (by have := HK.out.2; omega)).mono ?_
    rintro e w4 ⟨rfl, ho4, hb4⟩
    have B4 := B3.trans (hb4.mono B3.size)
    have hg4 := (ho4.lt w3.heap.size rfl).2
    have hN := fun (k : Nat) (hk : k < xs.length) => ho4.cellAt k (by omega)
    clear hb4 B3 ho4
    obtain ⟨c, hc⟩ : ∃ c, cm (linkS xs) xs.length = c := ⟨_, rfl⟩
    rw [hc] at hcl HB ⊢
    have HCC := Lib.hid hc
    clear hc
    go_wp2_with (at_make; refine wpList_make_full _ rfl _ _ 28 rfl w4.heap.size 3 i0 (.int .i64 0) 1 Try.underlying28 hi hz0 hz1 _ _ _ _ c rfl rfl rfl rfl ?c1 ?c2 ?c3 ?_)
    case c1 => rw [hz2]; omega
    case c2 => unfold maxLen; omega
    case c3 => exact Nat.le_refl _
    intro w5 hown hgrow
    have hB5 : Below w4.heap.size w4 w5 := (Below.refl _ _).grown hgrow (Nat.le_refl _) (by simp)
    rw [toList_madeCells_one] at hown
    have hown0 : w5.ownsRow w4.heap.size 3 1 (.slice (some ⟨w4.heap.size, 0, none⟩) c c) c ((clAcc (linkS xs) xs.length 0).map (Value.int .i64)) := by
      have : clAcc (linkS xs) xs.length 0 = List.replicate c 0 := by rw [← HCC.out]; rfl
      rw [this]
      simpa using hown
    clear hgrow hown
    go_wp2
    go_loopw [28, 9, 10] (fun i _ _ wr => ∃ k : Nat, k ≤ xs.length ∧ i = .int .i64 k ∧ wr.ownsRow w4.heap.size 3 1 (.slice (some ⟨w4.heap.size, 0, none⟩) c c) c ((clAcc (linkS xs) xs.length k).map (Value.int .i64)) ∧ Below w4.heap.size w4 wr)
      (fun i _ _ _ => xs.length - (intOf i).toNat)
    case atStart => exact ⟨0, Nat.zero_le _, rfl, hown0, hB5⟩
    case round =>
      clear hown0 hB5
      obtain ⟨k, hk, rfl, ho, hB⟩ := hrel
      by_cases hlt : k < xs.length
      · have hn := (hB.cell (p := ⟨w3.heap.size, k, none⟩) hg4).trans (hN k hlt)
        have hnk := numTo_get xs.length (linkS xs) xs.length k hlt
        rw [if_pos hlt] at hnk
        rw [List.getElem?_map, show (numL xs.length (linkS xs))[k]? = _ from hnk] at hn
        replace hn : wr.cell? ⟨w3.heap.size, k, none⟩ = some (.int .i64 ((cm (linkS xs) (rt (linkS xs) k) : Nat) : Int)) := hn
        have hmc : cm (linkS xs) (rt (linkS xs) k) < c := HB.out.2.2.2.1 ⟨k, hlt⟩
        have hst := clAcc_succ (linkS xs) xs.length k
        have hln := clAcc_len (linkS xs) xs.length k
        rw [HCC.out] at hln
        obtain ⟨m, hm⟩ : ∃ m, cm (linkS xs) (rt (linkS xs) k) = m := ⟨_, rfl⟩
        rw [hm] at hn hmc hst
        have hc2 := ho.cellAt m (by omega)
        have hf2 := ho.frozenAt m
        rw [List.getElem?_map, rowAt_get (by rw [hln]; exact hmc)] at hc2
        replace hc2 : wr.cell? ⟨w4.heap.size, m, none⟩ = some (.int .i64 (rowAt (clAcc (linkS xs) xs.length k) m)) := hc2
        have hs2 := (ho.stored m (.int .i64 (bits .or .i64 (rowAt (clAcc (linkS xs) xs.length k) m) (pt k)))).1
        rw [← List.map_set] at hs2
        unfold addPair at hst
        rw [← hst] at hs2
        have HO := Lib.hid (And.intro hs2 hB)
        have HP := Lib.hid (fun w => (onePoint_any k (by omega) w).mono fun _ _ (h : _ ∧ _) => (⟨h.1, h.2.symm⟩ : _ ∧ _))
        have hmo : Try.prog.follows .mixedOrders = true := by kernel_rfl
        have hi1 : ((k : Nat) : Int) < (xs.length : Int) := by omega
        have hi2 : ((m : Nat) : Int) < (c : Int) := by omega
        obtain ⟨z, hz⟩ : ∃ z, rowAt (clAcc (linkS xs) xs.length k) m = z := ⟨_, rfl⟩
        rw [hz] at hc2 HO
        clear hnk hst hln hm hs2 ho hB hz
        go_wp2
        refine wp_region_still_tail 8 hmo (by kernel_rfl) ?_
        simp only [List.take_succ_cons, List.take_zero, List.drop_succ_cons, List.drop_zero]
        repeat still_step
        still_call (HP.out _)
        repeat still_step
        refine wpStill_nil ?_
        go_wp2
        go_roundw
        case rel => exact ⟨k + 1, by omega, by go_num, HO.out.1, HO.out.2.drew.setCell (p := ⟨w4.heap.size, m, none⟩) (Nat.le_refl _) _⟩
        case measure => simp [intOf]; omega
      · obtain rfl : k = xs.length := by omega
        go_wp2
        go_ret2
        have hf := HB.out.2.2.1
        have hl2 := HB.out.2.2.2.2
        rw [hf] at ho hl2
        exact ⟨_, rfl, by rw [show (ifR true (clsL xs)).length = c from hl2]; exact own_mono ho B4.size, B4.trans (hB.mono B4.size)⟩
end Go.Proofs.Ytonmjcfkanldcaa
