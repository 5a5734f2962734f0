/-
  Ranks: at most the number of points, the same turned, none for no pairs, not more for what is composed with itself.
-/
import Derived.Test.YthdnpcpimggjnaaGreatDoorQD
namespace Go.Proofs.YthdnpcpimggjnaaGreatDoor
open Go.RowKit

/-- block b holds a pair of sets -/
def PrAt (w : World) (b : Nat) (s t : Int) : Prop := w.heap[b]? = some (.cells #[.int .i64 s, .int .i64 t] 137 (0, 0))
theorem PrAt.new (w : World) (s t : Int) : PrAt (w.alloc (.cells #[.int .i64 s, .int .i64 t] 137)) w.heap.size s t := heap_alloc_new w _
theorem PrAt.lt {w : World} {b : Nat} {s t : Int} (h : PrAt w b s t) : b < w.heap.size := (Array.getElem?_eq_some_iff.1 h).1
theorem PrAt.alloc {w : World} {b : Nat} {s t : Int} (h : PrAt w b s t) (o : Obj) : PrAt (w.alloc o) b s t := (Below.heap_alloc w o b h.lt).trans h
theorem PrAt.drew {w : World} {b : Nat} {s t : Int} (h : PrAt w b s t) : PrAt w.drew b s t := h
theorem PrAt.below {w w' : World} {B b : Nat} {s t : Int} (h : PrAt w b s t) (hb : Below B w w') (hlt : b < B) : PrAt w' b s t := (hb.block b hlt).trans h
theorem PrAt.other {w : World} {b : Nat} {s t : Int} (h : PrAt w b s t) {p : Addr} (hp : b ≠ p.block) (u : Value) : PrAt (w.setCell p u) b s t := (Below.heap_setCell w p u b hp).trans h
theorem PrAt.cell0 {w : World} {b : Nat} {s t : Int} (h : PrAt w b s t) : w.cell? ⟨b, 0, none⟩ = some (.int .i64 s) := by
  unfold PrAt at h
  simp [World.cell?, h]
theorem PrAt.cell1 {w : World} {b : Nat} {s t : Int} (h : PrAt w b s t) : w.cell? ⟨b, 1, none⟩ = some (.int .i64 t) := by
  unfold PrAt at h
  simp [World.cell?, h]
theorem PrAt.free {w : World} {b : Nat} {s t : Int} (h : PrAt w b s t) (j : Nat) : w.frozen? ⟨b, j, none⟩ = false := by
  unfold PrAt at h
  simp [World.frozen?, h]

/-! a rectangle put to the rows -/
/-- a rectangle put to the first k rows -/
def rectTo (zs : List Int) (s t : Int) : Nat → List Int
  | 0 => zs
  | k + 1 => if hasB s k then (rectTo zs s t k).set k (bits .or .i64 (rowAt (rectTo zs s t k) k) t) else rectTo zs s t k
theorem rect_yes {zs : List Int} {s t : Int} {k : Nat} (h : hasB s k = true) : rectTo zs s t (k + 1) = (rectTo zs s t k).set k (bits .or .i64 (rowAt (rectTo zs s t k) k) t) := by
  show (if hasB s k then _ else _) = _
  rw [h]
  rfl
theorem rect_no {zs : List Int} {s t : Int} {k : Nat} (h : hasB s k = false) : rectTo zs s t (k + 1) = rectTo zs s t k := by
  show (if hasB s k then _ else _) = _
  rw [h]
  rfl
theorem rect_len (zs : List Int) (s t : Int) (k : Nat) : (rectTo zs s t k).length = zs.length := by
  induction k with
  | zero => rfl
  | succ k ih =>
    show (if hasB s k then (rectTo zs s t k).set k (bits .or .i64 (rowAt (rectTo zs s t k) k) t) else rectTo zs s t k).length = zs.length
    split
    · rw [List.length_set, ih]
    · exact ih

set_option maxHeartbeats 2000000 in
theorem withRectangle_any (zs : List Int) (s t : Int) (w : World) (h4 : zs.length ≤ 4) :
    Calls Tryz.prog 172 #[relOf zs, .agg #[.int .i64 s, .int .i64 t]] w fun e w' => e = .returned (relOf (rectTo zs s t zs.length)) ∧ Below w.heap.size w w' := by
  have hr0 := ((RelAt.new w zs).alloc (.cells #[.int .i64 s, .int .i64 t] 137)).alloc (.cells #[.int .i64 0, .int .i64 0, .int .i64 0, .int .i64 0, .int .i64 0] 36)
  have hs0 := (PrAt.new (w.alloc (.cells #[.int .i64 zs.length, .int .i64 (rowAt zs 0), .int .i64 (rowAt zs 1), .int .i64 (rowAt zs 2), .int .i64 (rowAt zs 3)] 36)) s t).alloc (.cells #[.int .i64 0, .int .i64 0, .int .i64 0, .int .i64 0, .int .i64 0] 36)
  have ht0 := rel_zero ((w.alloc (.cells #[.int .i64 zs.length, .int .i64 (rowAt zs 0), .int .i64 (rowAt zs 1), .int .i64 (rowAt zs 2), .int .i64 (rowAt zs 3)] 36)).alloc (.cells #[.int .i64 s, .int .i64 t] 137))
  simp only [World.size_alloc] at hs0 ht0
  have B0 := below_three w (.cells #[.int .i64 zs.length, .int .i64 (rowAt zs 0), .int .i64 (rowAt zs 1), .int .i64 (rowAt zs 2), .int .i64 (rowAt zs 3)] 36) (.cells #[.int .i64 s, .int .i64 t] 137) (.cells #[.int .i64 0, .int .i64 0, .int .i64 0, .int .i64 0, .int .i64 0] 36)
  have hc0 := hr0.cell0
  go_enter Tryz.func172, Tryz.ntmps172
  go_wp2
  go_loopw [8, 5] (fun i _ wr => ∃ k : Nat, k ≤ zs.length ∧ i = .int .i64 k ∧ RelAt wr w.heap.size (rectTo zs s t k) ∧ PrAt wr (w.heap.size + 1) s t ∧ RelAt wr (w.heap.size + 1 + 1) [] ∧ Below w.heap.size w wr)
    (fun i _ _ => zs.length - (intOf i).toNat)
  case atStart => exact ⟨0, Nat.zero_le _, rfl, hr0, hs0, ht0, B0⟩
  case round =>
    obtain ⟨k, hk, rfl, hr, hs, hrz, hb⟩ := hrel
    clear hr0 hc0 hs0 ht0 B0
    have hl := rect_len zs s t k
    by_cases hlt : k < zs.length
    · have hc1 := hr.row k (by omega)
      have hd0 := hs.cell0
      have hd1 := hs.cell1
      have hq : (k : Int) < 4 := by omega
      have hf := hr.free (1 + k)
      cases hz : hasB s k with
      | false =>
        have HST := Lib.hid (rect_no (zs := zs) (t := t) hz)
        have HL := Lib.hid hl
        clear hl
        go_wp2_with (go_at_call 236; refine (has_any _ k (by omega) _).mono ?_; rintro e w2 ⟨rfl, rfl⟩)
        go_roundw
        case rel => exact ⟨k + 1, by omega, by go_num, by rw [HST.out]; exact hr, hs, hrz, hb⟩
        case measure => simp [intOf]; omega
      | true =>
        have hst := rect_yes (zs := zs) (t := t) hz
        have hset := hr.set k (by rw [hl]; exact hlt) (by omega) (bits .or .i64 (rowAt (rectTo zs s t k) k) t)
        have HST := Lib.hid (And.intro hst hset)
        clear hst hset hl
        obtain ⟨Z, hZ⟩ : ∃ Z, rectTo zs s t k = Z := ⟨_, rfl⟩
        rw [hZ] at hr hc1 HST
        clear hZ
        go_wp2_with (go_at_call 236; refine (has_any _ k (by omega) _).mono ?_; rintro e w2 ⟨rfl, rfl⟩)
        go_region
        all_goals
          go_wp2
          go_roundw
          case rel => exact ⟨k + 1, by omega, by go_num, by rw [HST.out.1]; exact HST.out.2, hs.other (p := ⟨w.heap.size, 1 + k, none⟩) (by simp) _, hrz.other (p := ⟨w.heap.size, 1 + k, none⟩) (by simp; omega) _, hb.drew.setCell (Nat.le_refl _) _⟩
          case measure => simp [intOf]; omega
    · obtain rfl : k = zs.length := by omega
      obtain ⟨Z, hZ⟩ : ∃ Z, rectTo zs s t zs.length = Z := ⟨_, rfl⟩
      rw [hZ] at hr hl
      have HZ := Lib.hid hZ
      have hcn := hr.cell0
      rw [hl] at hcn
      have hc1 := hr.cell1
      have hc2 := hr.cell2
      have hc3 := hr.cell3
      have hc4 := hr.cell4
      have hz0 := hrz.cell0
      have hz1 := hrz.cell1
      have hz2 := hrz.cell2
      have hz3 := hrz.cell3
      have hz4 := hrz.cell4
      have hy0 := hrz.free 0
      have hy1 := hrz.free 1
      have hy2 := hrz.free 2
      have hy3 := hrz.free 3
      have hy4 := hrz.free 4
      have HL := Lib.hid hl
      clear hZ hl
      go_wp2
      refine bodyPost_ret (v := relOf Z) (by simp [results, Tryz.results172, go_sem, hz0, hz1, hz2, hz3, hz4, HL.out]) rfl ⟨by rw [HZ.out], ?_⟩
      repeat (first | exact hb | refine Below.setCell ?_ (by simp; omega) _)

/-! rectangles as lists -/
def okR (n : Nat) (p : List Int) : Bool := decide (p.length = 2) && rowIn n (rowAt p 0) && rowIn n (rowAt p 1)
def addR (n : Nat) (zs p : List Int) : List Int := rectTo zs (rowAt p 0) (rowAt p 1) n
def rofL (n : Nat) (xss : List (List Int)) : List Int := xss.foldl (addR n) (List.replicate n 0)
theorem rof_len (n : Nat) (xss : List (List Int)) : (rofL n xss).length = n := by
  have h : ∀ (l : List (List Int)) (zs : List Int), (l.foldl (addR n) zs).length = zs.length := by
    intro l
    induction l with
    | nil => intro zs; rfl
    | cons p r ih => intro zs; rw [List.foldl_cons, ih]; exact rect_len _ _ _ _
  unfold rofL
  rw [h]
  simp
theorem rof_bad {n : Nat} {xss : List (List Int)} {k : Nat} {p : List Int} (h : xss[k]? = some p) (hb : okR n p = false) : xss.all (okR n) = false := by
  rw [List.all_eq_false]
  exact ⟨p, List.mem_of_getElem? h, by simp [hb]⟩
theorem rof_all {n : Nat} {xss : List (List Int)} {k : Nat} {p : List Int} (h : xss[k]? = some p) (hb : okR n p = true) (ha : (xss.take k).all (okR n) = true) : (xss.take (k + 1)).all (okR n) = true := by
  rw [List.take_add_one, h]
  simp [ha, hb]
theorem rof_step {n : Nat} {xss : List (List Int)} {k : Nat} {p : List Int} (h : xss[k]? = some p) : rofL n (xss.take (k + 1)) = addR n (rofL n (xss.take k)) p := by
  rw [List.take_add_one, h]
  unfold rofL
  rw [Option.toList_some, List.foldl_append]
  rfl
theorem pairOf {p : List Int} (h : p.length = 2) : ∃ x y, p = [x, y] := by
  match p, h with
  | [x, y], _ => exact ⟨x, y, rfl⟩

end Go.Proofs.YthdnpcpimggjnaaGreatDoor

namespace Go.Proofs.YthdnpcpimggjnaaGreatDoor
open Go.RowKit

theorem b_drop : ∀ n : Fin 5, ∀ x y : Fin 16, x.val < 2 ^ n.val → ∃ u : Fin 16, bits .andNot .i64 (x.val : Int) (y.val : Int) = (u.val : Int) ∧ u.val < 2 ^ n.val ∧ ∀ j : Fin n.val, hasB (u.val : Int) j.val = (hasB (x.val : Int) j.val && !hasB (y.val : Int) j.val) := by decide +kernel

/-! rows set -/
theorem setR_rl {n : Nat} {zs : List Int} (h : Rl n zs) (k : Nat) (u : Fin 16) (hu : u.val < 2 ^ n) : Rl n (zs.set k (u.val : Int)) := by
  refine Rl.mk' (by rw [List.length_set, h.len]) h.one h.four fun i hi => ?_
  by_cases hk : k < n
  · rw [rowAt_set _ _ _ _ (by rw [h.len]; exact hk)]
    by_cases e : i = k
    · rw [if_pos e]
      exact ⟨u, rfl, hu⟩
    · rw [if_neg e]
      exact h.row i
  · rw [List.set_eq_of_length_le (by rw [h.len]; omega)]
    exact h.row i
theorem hB_setR {n : Nat} {zs : List Int} (h : Rl n zs) (k : Nat) (hk : k < n) (v : Int) (i j : Nat) : hB (zs.set k v) i j = if i = k then hasB v j else hB zs i j := by
  unfold hB
  rw [rowAt_set _ _ _ _ (by rw [h.len]; exact hk)]
  split <;> rfl

/-- whether a rectangle has a pair -/
def hasR (r : Int × Int) (i j : Nat) : Bool := hasB r.1 i && hasB r.2 j
theorem hasR_iff {r : Int × Int} {i j : Nat} : hasR r i j = true ↔ hasB r.1 i = true ∧ hasB r.2 j = true := by unfold hasR; rw [Bool.and_eq_true]
/-- a rectangle put to the rows -/
theorem rectTo_all {n : Nat} {zs : List Int} (h : Rl n zs) (s : Int) (t : Fin 16) (ht : t.val < 2 ^ n) : ∀ k, k ≤ n → Rl n (rectTo zs s (t.val : Int) k) ∧
    ∀ i j, i < n → j < n → (hB (rectTo zs s (t.val : Int) k) i j = true ↔ hB zs i j = true ∨ (i < k ∧ hasB s i = true ∧ hasB (t.val : Int) j = true))
  | 0, _ => ⟨h, fun i j _ _ => ⟨fun e => .inl e, fun e => e.elim id (fun ⟨a, _⟩ => absurd a (by omega))⟩⟩
  | k + 1, hk => by
    obtain ⟨R, hR⟩ := rectTo_all h s t ht k (by omega)
    cases hs : hasB s k with
    | false =>
      rw [rect_no hs]
      refine ⟨R, fun i j hi hj => ?_⟩
      rw [hR i j hi hj]
      constructor
      · rintro (e | ⟨a, b, c⟩)
        · exact .inl e
        · exact .inr ⟨by omega, b, c⟩
      · rintro (e | ⟨a, b, c⟩)
        · exact .inl e
        · by_cases e : i = k
          · subst e
            rw [hs] at b
            cases b
          · exact .inr ⟨by omega, b, c⟩
    | true =>
      rw [rect_yes hs]
      obtain ⟨y, hy, hyl⟩ := R.row k
      obtain ⟨u, hu, hul⟩ := b_orlt ⟨n, by have := h.four; omega⟩ y t hyl ht
      rw [hy, hu]
      refine ⟨setR_rl R k u hul, fun i j hi hj => ?_⟩
      rw [hB_setR R k (by omega)]
      by_cases e : i = k
      · subst e
        rw [if_pos rfl]
        have hor := b_or y t ⟨j, by have := h.four; omega⟩
        dsimp only at hor
        rw [hu] at hor
        have hb := hR i j hi hj
        unfold hB at hb
        rw [hy] at hb
        rw [hor, Bool.or_eq_true, hb]
        unfold hB
        constructor
        · rintro ((e | ⟨a, b, c⟩) | e)
          · exact .inl e
          · exact absurd a (by omega)
          · exact .inr ⟨by omega, hs, e⟩
        · rintro (e | ⟨a, b, c⟩)
          · exact .inl (.inl e)
          · exact .inr c
      · rw [if_neg e, hR i j hi hj]
        constructor
        · rintro (e | ⟨a, b, c⟩)
          · exact .inl e
          · exact .inr ⟨by omega, b, c⟩
        · rintro (e | ⟨a, b, c⟩)
          · exact .inl e
          · exact .inr ⟨by omega, b, c⟩

/-- a rectangle of n points -/
def isRect (n : Nat) (r : Int × Int) : Prop := ∃ s t : Fin 16, r = ((s.val : Int), (t.val : Int)) ∧ s.val < 2 ^ n ∧ t.val < 2 ^ n
/-- rectangles put together -/
def unionL (n : Nat) (x : List (Int × Int)) : List Int := x.foldl (fun zs r => rectTo zs r.1 r.2 n) (List.replicate n 0)
theorem union_snoc (n : Nat) (x : List (Int × Int)) (r : Int × Int) : unionL n (x ++ [r]) = rectTo (unionL n x) r.1 r.2 n := by
  unfold unionL
  rw [List.foldl_append]
  rfl
theorem fold_rect {n : Nat} : ∀ (x : List (Int × Int)) (zs : List Int), Rl n zs → (∀ r, r ∈ x → isRect n r) → Rl n (x.foldl (fun zs r => rectTo zs r.1 r.2 n) zs) ∧
    ∀ i j, i < n → j < n → (hB (x.foldl (fun zs r => rectTo zs r.1 r.2 n) zs) i j = true ↔ hB zs i j = true ∨ ∃ r, r ∈ x ∧ hasR r i j = true)
  | [], zs, h, _ => ⟨h, fun i j _ _ => ⟨fun e => .inl e, fun e => e.elim id (fun ⟨r, hr, _⟩ => absurd hr (by simp))⟩⟩
  | r :: x, zs, h, hx => by
    obtain ⟨s, t, rfl, hs, ht⟩ := hx r List.mem_cons_self
    obtain ⟨R, hR⟩ := rectTo_all h (s.val : Int) t ht n (Nat.le_refl _)
    obtain ⟨R2, hR2⟩ := fold_rect x _ R (fun r hr => hx r (List.mem_cons_of_mem _ hr))
    rw [List.foldl_cons]
    refine ⟨R2, fun i j hi hj => ?_⟩
    refine (hR2 i j hi hj).trans ?_
    rw [hR i j hi hj]
    constructor
    · rintro ((e | ⟨_, a, b⟩) | ⟨r, hr, e⟩)
      · exact .inl e
      · exact .inr ⟨_, List.mem_cons_self, hasR_iff.2 ⟨a, b⟩⟩
      · exact .inr ⟨r, List.mem_cons_of_mem _ hr, e⟩
    · rintro (e | ⟨q, hq, e⟩)
      · exact .inl (.inl e)
      · rcases List.mem_cons.1 hq with rfl | hq
        · exact .inl (.inr ⟨hi, (hasR_iff.1 e).1, (hasR_iff.1 e).2⟩)
        · exact .inr ⟨q, hq, e⟩
theorem union_rl {n : Nat} (h1 : 1 ≤ n) (h4 : n ≤ 4) {x : List (Int × Int)} (hx : ∀ r, r ∈ x → isRect n r) : Rl n (unionL n x) := (fold_rect x _ (Rl.zeros h1 h4) hx).1
theorem hB_union {n : Nat} (h1 : 1 ≤ n) (h4 : n ≤ 4) {x : List (Int × Int)} (hx : ∀ r, r ∈ x → isRect n r) (i j : Nat) (hi : i < n) (hj : j < n) : hB (unionL n x) i j = true ↔ ∃ r, r ∈ x ∧ hasR r i j = true := by
  rw [show unionL n x = x.foldl (fun zs r => rectTo zs r.1 r.2 n) (List.replicate n 0) from rfl, (fold_rect x _ (Rl.zeros h1 h4) hx).2 i j hi hj, hB_zeros n i j (by omega)]
  exact ⟨fun e => e.elim (fun h => (by cases h)) id, .inr⟩

/-! rows less a rectangle -/
def minTo (zs : List Int) (s t : Int) : Nat → List Int
  | 0 => zs
  | k + 1 => if hasB s k then (minTo zs s t k).set k (bits .andNot .i64 (rowAt (minTo zs s t k) k) t) else minTo zs s t k
theorem min_yes {zs : List Int} {s t : Int} {k : Nat} (h : hasB s k = true) : minTo zs s t (k + 1) = (minTo zs s t k).set k (bits .andNot .i64 (rowAt (minTo zs s t k) k) t) := by
  show (if hasB s k then _ else _) = _
  rw [h]
  rfl
theorem min_no {zs : List Int} {s t : Int} {k : Nat} (h : hasB s k = false) : minTo zs s t (k + 1) = minTo zs s t k := by
  show (if hasB s k then _ else _) = _
  rw [h]
  rfl
theorem min_len (zs : List Int) (s t : Int) (k : Nat) : (minTo zs s t k).length = zs.length := by
  induction k with
  | zero => rfl
  | succ k ih =>
    show (if hasB s k then (minTo zs s t k).set k (bits .andNot .i64 (rowAt (minTo zs s t k) k) t) else minTo zs s t k).length = zs.length
    split
    · rw [List.length_set, ih]
    · exact ih
theorem minTo_all {n : Nat} {zs : List Int} (h : Rl n zs) (s : Int) (t : Fin 16) : ∀ k, k ≤ n → Rl n (minTo zs s (t.val : Int) k) ∧
    ∀ i j, i < n → j < n → (hB (minTo zs s (t.val : Int) k) i j = true ↔ hB zs i j = true ∧ ¬ (i < k ∧ hasB s i = true ∧ hasB (t.val : Int) j = true))
  | 0, _ => ⟨h, fun i j _ _ => ⟨fun e => ⟨e, fun ⟨a, _⟩ => absurd a (by omega)⟩, fun e => e.1⟩⟩
  | k + 1, hk => by
    obtain ⟨R, hR⟩ := minTo_all h s t k (by omega)
    cases hs : hasB s k with
    | false =>
      rw [min_no hs]
      refine ⟨R, fun i j hi hj => ?_⟩
      rw [hR i j hi hj]
      constructor
      · rintro ⟨e, g⟩
        refine ⟨e, fun ⟨a, b, c⟩ => g ⟨?_, b, c⟩⟩
        by_cases e : i = k
        · subst e
          rw [hs] at b
          cases b
        · omega
      · rintro ⟨e, g⟩
        exact ⟨e, fun ⟨a, b, c⟩ => g ⟨by omega, b, c⟩⟩
    | true =>
      rw [min_yes hs]
      obtain ⟨y, hy, hyl⟩ := R.row k
      obtain ⟨u, hu, hul, huj⟩ := b_drop ⟨n, by have := h.four; omega⟩ y t hyl
      rw [hy, hu]
      refine ⟨setR_rl R k u hul, fun i j hi hj => ?_⟩
      rw [hB_setR R k (by omega)]
      by_cases e : i = k
      · subst e
        rw [if_pos rfl]
        have hor := huj ⟨j, hj⟩
        dsimp only at hor
        have hb := hR i j hi hj
        unfold hB at hb
        rw [hy] at hb
        rw [hor, Bool.and_eq_true, Bool.not_eq_true', hb]
        unfold hB
        constructor
        · rintro ⟨⟨e, _⟩, g⟩
          exact ⟨e, fun ⟨_, _, c⟩ => by rw [g] at c; cases c⟩
        · rintro ⟨e, g⟩
          refine ⟨⟨e, fun ⟨a, _⟩ => absurd a (by omega)⟩, ?_⟩
          cases hc : hasB (t.val : Int) j with
          | false => rfl
          | true => exact absurd ⟨by omega, hs, hc⟩ g
      · rw [if_neg e, hR i j hi hj]
        constructor
        · rintro ⟨e2, g⟩
          exact ⟨e2, fun ⟨a, b, c⟩ => g ⟨by omega, b, c⟩⟩
        · rintro ⟨e2, g⟩
          exact ⟨e2, fun ⟨a, b, c⟩ => g ⟨by omega, b, c⟩⟩
def minR (n : Nat) (zs : List Int) (r : Int × Int) : List Int := minTo zs r.1 r.2 n
theorem min_rl {n : Nat} {zs : List Int} (h : Rl n zs) {r : Int × Int} (hr : isRect n r) : Rl n (minR n zs r) := by
  obtain ⟨s, t, rfl, _, _⟩ := hr
  exact (minTo_all h (s.val : Int) t n (Nat.le_refl _)).1
theorem hB_min {n : Nat} {zs : List Int} (h : Rl n zs) {r : Int × Int} (hr : isRect n r) (i j : Nat) (hi : i < n) (hj : j < n) : hB (minR n zs r) i j = true ↔ hB zs i j = true ∧ hasR r i j = false := by
  obtain ⟨s, t, rfl, _, _⟩ := hr
  refine ((minTo_all h (s.val : Int) t n (Nat.le_refl _)).2 i j hi hj).trans ?_
  unfold hasR
  dsimp only
  constructor
  · rintro ⟨e, g⟩
    refine ⟨e, ?_⟩
    cases ha : hasB (s.val : Int) i with
    | false => rfl
    | true =>
      cases hb : hasB (t.val : Int) j with
      | false => rfl
      | true => exact absurd ⟨hi, ha, hb⟩ g
  · rintro ⟨e, g⟩
    exact ⟨e, fun ⟨_, b, c⟩ => by rw [b, c] at g; cases g⟩

/-! covers -/
/-- at most m of some rectangles have all pairs -/
def CV (n : Nat) (F : List (Int × Int)) (m : Nat) (zs : List Int) : Prop := ∃ x : List (Int × Int), x.length ≤ m ∧ (∀ r, r ∈ x → r ∈ F) ∧ ∀ i j, i < n → j < n → hB zs i j = true → ∃ r, r ∈ x ∧ hasR r i j = true
theorem cv_none {n : Nat} {F : List (Int × Int)} {m : Nat} {zs : List Int} (h : ∀ i j, i < n → j < n → hB zs i j = false) : CV n F m zs :=
  ⟨[], Nat.zero_le _, fun r hr => absurd hr (by simp), fun i j hi hj e => by rw [h i j hi hj] at e; cases e⟩
theorem cv_no0 {n : Nat} {F : List (Int × Int)} {zs : List Int} {i j : Nat} (hi : i < n) (hj : j < n) (e : hB zs i j = true) : ¬ CV n F 0 zs := by
  rintro ⟨x, hl, _, hc⟩
  obtain ⟨r, hr, _⟩ := hc i j hi hj e
  have hx0 : x = [] := List.eq_nil_of_length_eq_zero (by omega)
  rw [hx0] at hr
  cases hr
theorem cv_yes {n : Nat} {F : List (Int × Int)} {m : Nat} {zs : List Int} (h : Rl n zs) {r : Int × Int} (hr : isRect n r) (hF : r ∈ F) (hc : CV n F m (minR n zs r)) : CV n F (m + 1) zs := by
  obtain ⟨x, hl, hx, hc⟩ := hc
  refine ⟨r :: x, by simp; omega, fun q hq => ?_, fun i j hi hj e => ?_⟩
  · rcases List.mem_cons.1 hq with rfl | hq
    · exact hF
    · exact hx q hq
  · cases hh : hasR r i j with
    | true => exact ⟨r, List.mem_cons_self, hh⟩
    | false =>
      obtain ⟨q, hq, e2⟩ := hc i j hi hj ((hB_min h hr i j hi hj).2 ⟨e, hh⟩)
      exact ⟨q, List.mem_cons_of_mem _ hq, e2⟩
theorem cv_no {n : Nat} {F : List (Int × Int)} {m : Nat} {zs : List Int} (h : Rl n zs) (hF : ∀ r, r ∈ F → isRect n r) {i j : Nat} (hi : i < n) (hj : j < n) (e : hB zs i j = true)
    (hn : ∀ r, r ∈ F → hasR r i j = true → ¬ CV n F m (minR n zs r)) : ¬ CV n F (m + 1) zs := by
  rintro ⟨x, hl, hx, hc⟩
  obtain ⟨r, hr, e2⟩ := hc i j hi hj e
  refine hn r (hx r hr) e2 ⟨x.erase r, ?_, fun q hq => hx q (List.mem_of_mem_erase hq), fun a b ha hb e3 => ?_⟩
  · rw [List.length_erase_of_mem hr]
    omega
  · obtain ⟨g1, g2⟩ := (hB_min h (hF r (hx r hr)) a b ha hb).1 e3
    obtain ⟨q, hq, e4⟩ := hc a b ha hb g1
    refine ⟨q, ?_, e4⟩
    have hne : q ≠ r := by
      rintro rfl
      rw [e4] at g2
      cases g2
    exact (List.mem_erase_of_ne hne).2 hq

/-- the least number -/
def LeastC (n : Nat) (F : List (Int × Int)) (xs : List Int) (k : Nat) : Prop := CV n F k xs ∧ ∀ j, j < k → ¬ CV n F j xs
theorem leastQ_of (P : Nat → Prop) : ∀ K, P K → ∃ k, k ≤ K ∧ P k ∧ ∀ j, j < k → ¬ P j := by
  intro K
  induction K using Nat.strongRecOn with
  | ind K ih =>
    intro hK
    by_cases h : ∃ j, j < K ∧ P j
    · obtain ⟨j, hj, hp⟩ := h
      obtain ⟨k, hk, h1, h2⟩ := ih j hj hp
      exact ⟨k, by omega, h1, h2⟩
    · exact ⟨K, Nat.le_refl _, hK, fun j hj hp => h ⟨j, hj, hp⟩⟩

/-! full rectangles have all pairs -/
theorem full_mem {xs : List Int} (R : Rl xs.length xs) {r : Int × Int} (h : r ∈ fullL xs) : isRect xs.length r ∧ ∀ i j, i < xs.length → j < xs.length → hasR r i j = true → hB xs i j = true := by
  unfold fullL fullTo at h
  obtain ⟨z, hz, rfl⟩ := List.mem_map.1 h
  have hlt := List.mem_range.1 (List.mem_filter.1 hz).1
  have h16 := pow_le16 R.four
  obtain ⟨u, hu, hul, huj⟩ := relAll_row R (z : Int)
  refine ⟨⟨⟨z, by omega⟩, u, by rw [hu], hlt, hul⟩, fun i j hi hj e => ?_⟩
  obtain ⟨e1, e2⟩ := hasR_iff.1 e
  dsimp only at e1 e2
  rw [hu] at e2
  exact (huj j hj).1 e2 i hi e1
theorem full_at {xs : List Int} (R : Rl xs.length xs) (i j : Nat) (hi : i < xs.length) (hj : j < xs.length) (e : hB xs i j = true) : ∃ r, r ∈ fullL xs ∧ hasR r i j = true := by
  have h4 := R.four
  obtain ⟨p, hp, hpl⟩ := b_ptlt ⟨xs.length, by omega⟩ ⟨i, hi⟩
  dsimp only at hp
  have hpi : ∀ l, l < xs.length → (hasB (p.val : Int) l = true ↔ l = i) := by
    intro l hl
    have := b_pt ⟨i, by omega⟩ ⟨l, by omega⟩
    dsimp only at this
    rw [hp] at this
    rw [this, decide_eq_true_iff]
  have T : Rl xs.length (turnL xs) := R.turn
  have T' : Rl (turnL xs).length (turnL xs) := by rw [T.len]; exact T
  -- the row, the set closed
  obtain ⟨q, hq, hql, hqj⟩ := relAll_row R (p.val : Int)
  obtain ⟨c, hc, hcl, hcj⟩ := relAll_row T' (q.val : Int)
  rw [T.len] at hcl hcj
  obtain ⟨d, hd, hdl, hdj⟩ := relAll_row R (c.val : Int)
  have hq1 : ∀ l, l < xs.length → (hasB (q.val : Int) l = true ↔ hB xs i l = true) := by
    intro l hl
    rw [hqj l hl]
    constructor
    · intro g
      exact g i hi ((hpi i hi).2 rfl)
    · intro g a ha hh
      rw [(hpi a ha).1 hh]
      exact g
  have hc1 : ∀ a, a < xs.length → (hasB (c.val : Int) a = true ↔ ∀ l, l < xs.length → hB xs i l = true → hB xs a l = true) := by
    intro a ha
    rw [hcj a ha]
    constructor
    · intro g l hl hh
      have := g l hl ((hq1 l hl).2 hh)
      rw [hB_turn R l a hl ha] at this
      exact this
    · intro g l hl hh
      rw [hB_turn R l a hl ha]
      exact g l hl ((hq1 l hl).1 hh)
  have hdq : d = q := b_ext ⟨xs.length, by omega⟩ d q hdl hql (fun l => by
    rw [Bool.eq_iff_iff, hdj l.val l.isLt, hq1 l.val l.isLt]
    constructor
    · intro g
      exact g i hi ((hc1 i hi).2 fun _ _ h => h)
    · intro g a ha hh
      exact (hc1 a ha).1 hh l.val l.isLt g)
  have hclo : clo xs (c.val : Int) = (c.val : Int) := by
    unfold clo
    rw [hd, hdq, hc]
  refine ⟨((c.val : Int), relAll xs (c.val : Int)), ?_, hasR_iff.2 ⟨(hc1 i hi).2 fun _ _ h => h, ?_⟩⟩
  · unfold fullL fullTo
    refine List.mem_map.2 ⟨c.val, List.mem_filter.2 ⟨List.mem_range.2 hcl, ?_⟩, rfl⟩
    rw [hclo]
    exact beq_self_eq_true _
  · dsimp only
    rw [hd, hdq, hq1 j hj]
    exact e
theorem full_nodup (xs : List Int) : (fullL xs).Nodup := by
  unfold fullL fullTo
  refine List.Pairwise.map _ (fun a b h => ?_) (List.Pairwise.filter _ (List.nodup_range))
  intro e
  exact h (by have := congrArg Prod.fst e; exact Int.ofNat.inj this)
theorem cv_full {xs : List Int} (R : Rl xs.length xs) : CV xs.length (fullL xs) (fullL xs).length xs :=
  ⟨fullL xs, Nat.le_refl _, fun _ h => h, fun i j hi hj e => full_at R i j hi hj e⟩
theorem least_ex {xs : List Int} (R : Rl xs.length xs) : ∃ k, k ≤ (fullL xs).length ∧ LeastC xs.length (fullL xs) xs k := by
  obtain ⟨k, hk, h1, h2⟩ := leastQ_of (fun k => CV xs.length (fullL xs) k xs) _ (cv_full R)
  exact ⟨k, hk, h1, h2⟩

/-! choices of so many, as the program goes through them -/
def gC (F : List (Int × Int)) : Nat → List (Int × Int) → Nat → List (List (Int × Int))
  | 0, p, _ => [p]
  | m + 1, p, nx => (List.range (F.length - nx)).flatMap fun t => gC F m (p ++ [F.getD (nx + t) (0, 0)]) (nx + t + 1)
/-- those whose next one is among d -/
def gTo (F : List (Int × Int)) (m : Nat) (p : List (Int × Int)) (nx d : Nat) : List (List (Int × Int)) := (List.range d).flatMap fun t => gC F m (p ++ [F.getD (nx + t) (0, 0)]) (nx + t + 1)
theorem gTo_succ (F : List (Int × Int)) (m : Nat) (p : List (Int × Int)) (nx d : Nat) : gTo F m p nx (d + 1) = gTo F m p nx d ++ gC F m (p ++ [F.getD (nx + d) (0, 0)]) (nx + d + 1) := by
  unfold gTo
  rw [List.range_succ, List.flatMap_append]
  simp
theorem gTo_all (F : List (Int × Int)) (m : Nat) (p : List (Int × Int)) (nx : Nat) : gTo F m p nx (F.length - nx) = gC F (m + 1) p nx := rfl
theorem gTo_split (F : List (Int × Int)) (m : Nat) (p : List (Int × Int)) (nx d : Nat) (hd : d < F.length - nx) : ∃ rest, gC F (m + 1) p nx = gTo F m p nx (d + 1) ++ rest := by
  refine ⟨((List.range (F.length - nx)).drop (d + 1)).flatMap fun t => gC F m (p ++ [F.getD (nx + t) (0, 0)]) (nx + t + 1), ?_⟩
  have h : List.range (F.length - nx) = List.range (d + 1) ++ (List.range (F.length - nx)).drop (d + 1) := by
    have := (List.take_append_drop (d + 1) (List.range (F.length - nx))).symm
    rw [List.take_range, Nat.min_eq_left (by omega)] at this
    exact this
  show (List.range (F.length - nx)).flatMap _ = _
  rw [h, List.flatMap_append]
  have hd : List.drop (d + 1) (List.range (d + 1) ++ List.drop (d + 1) (List.range (F.length - nx))) = List.drop (d + 1) (List.range (F.length - nx)) := by
    rw [← h]
  rw [hd]
  rfl
theorem gC_sub (F : List (Int × Int)) : ∀ (m : Nat) (p : List (Int × Int)) (nx : Nat) (x : List (Int × Int)), x ∈ gC F m p nx → ∃ s, x = p ++ s ∧ s.length = m ∧ ∀ r, r ∈ s → r ∈ F
  | 0, p, nx, x, h => by
    rw [show gC F 0 p nx = [p] from rfl, List.mem_singleton] at h
    exact ⟨[], by rw [h, List.append_nil], rfl, fun r hr => absurd hr (by simp)⟩
  | m + 1, p, nx, x, h => by
    obtain ⟨t, ht, h⟩ := List.mem_flatMap.1 (show x ∈ (List.range (F.length - nx)).flatMap fun t => gC F m (p ++ [F.getD (nx + t) (0, 0)]) (nx + t + 1) from h)
    have hlt := List.mem_range.1 ht
    obtain ⟨s, rfl, hs, hF⟩ := gC_sub F m _ _ x h
    refine ⟨F.getD (nx + t) (0, 0) :: s, by simp, by simp [hs], fun r hr => ?_⟩
    rcases List.mem_cons.1 hr with rfl | hr
    · rw [List.getD_eq_getElem?_getD, List.getElem?_eq_getElem (by omega)]
      exact List.getElem_mem _
    · exact hF r hr
theorem sub_split {a : Int × Int} {s : List (Int × Int)} : ∀ {l : List (Int × Int)}, (a :: s).Sublist l → ∃ t, t < l.length ∧ l.getD t (0, 0) = a ∧ s.Sublist (l.drop (t + 1))
  | [], h => by cases h
  | b :: l, h => by
    rcases List.sublist_cons_iff.1 h with h | ⟨r, he, h⟩
    · obtain ⟨t, ht, e, hs⟩ := sub_split h
      exact ⟨t + 1, by simp; omega, by simpa using e, by simpa using hs⟩
    · cases he
      exact ⟨0, by simp, rfl, by simpa using h⟩
theorem gC_all (F : List (Int × Int)) : ∀ (m : Nat) (s p : List (Int × Int)) (nx : Nat), s.Sublist (F.drop nx) → s.length = m → p ++ s ∈ gC F m p nx
  | 0, s, p, nx, _, hl => by
    rw [List.eq_nil_of_length_eq_zero hl, List.append_nil]
    exact List.mem_singleton.2 rfl
  | m + 1, [], p, nx, _, hl => by simp at hl
  | m + 1, a :: s, p, nx, h, hl => by
    obtain ⟨t, ht, e, hs⟩ := sub_split h
    rw [List.length_drop] at ht
    show p ++ a :: s ∈ (List.range (F.length - nx)).flatMap fun t => gC F m (p ++ [F.getD (nx + t) (0, 0)]) (nx + t + 1)
    refine List.mem_flatMap.2 ⟨t, List.mem_range.2 ht, ?_⟩
    have e2 : F.getD (nx + t) (0, 0) = a := by
      rw [← e, List.getD_eq_getElem?_getD, List.getD_eq_getElem?_getD, List.getElem?_drop]
    rw [e2]
    have := gC_all F m s (p ++ [a]) (nx + t + 1) (by rw [List.drop_drop] at hs; exact hs) (by simpa using hl)
    simpa using this

/-- a choice of k has just the pairs -/
def PC (n : Nat) (F : List (Int × Int)) (k : Nat) (xs : List Int) : Prop := ∃ x, x ∈ gC F k [] 0 ∧ unionL n x = xs
theorem pc_cv {xs : List Int} (R : Rl xs.length xs) {k : Nat} (h : PC xs.length (fullL xs) k xs) : CV xs.length (fullL xs) k xs := by
  obtain ⟨x, hx, hu⟩ := h
  obtain ⟨s, hs, hl, hF⟩ := gC_sub _ _ _ _ _ hx
  rw [List.nil_append] at hs
  rw [hs] at hu
  refine ⟨s, by omega, hF, fun i j hi hj e => ?_⟩
  rw [← hu] at e
  have hr : ∀ r, r ∈ s → isRect xs.length r := fun r hr => (full_mem R (hF r hr)).1
  exact (hB_union R.one R.four hr i j hi hj).1 e
theorem nodup_le {l s : List (Int × Int)} (hn : l.Nodup) (hs : ∀ x, x ∈ l → x ∈ s) : l.length ≤ s.length := by
  induction l generalizing s with
  | nil => exact Nat.zero_le _
  | cons a l ih =>
    have ha := hs a List.mem_cons_self
    have hn2 := List.nodup_cons.1 hn
    have := ih (s := s.erase a) hn2.2 (fun x hx => (List.mem_erase_of_ne (by rintro rfl; exact hn2.1 hx)).2 (hs x (List.mem_cons_of_mem _ hx)))
    rw [List.length_erase_of_mem ha] at this
    have := List.length_pos_of_mem ha
    simp
    omega
theorem least_pc {xs : List Int} (R : Rl xs.length xs) {k : Nat} (h : LeastC xs.length (fullL xs) xs k) : PC xs.length (fullL xs) k xs ∧ ∀ j, j < k → ¬ PC xs.length (fullL xs) j xs := by
  refine ⟨?_, fun j hj hp => h.2 j hj (pc_cv R hp)⟩
  obtain ⟨x, hl, hF, hc⟩ := h.1
  obtain ⟨y, hy⟩ : ∃ y, (fullL xs).filter (fun r => decide (r ∈ x)) = y := ⟨_, rfl⟩
  have hyF : y.Sublist (fullL xs) := hy ▸ List.filter_sublist
  have hyx : ∀ r, r ∈ y → r ∈ x := fun r hr => by
    rw [← hy] at hr
    exact of_decide_eq_true (List.mem_filter.1 hr).2
  have hxy : ∀ r, r ∈ x → r ∈ y := fun r hr => by
    rw [← hy]
    exact List.mem_filter.2 ⟨hF r hr, decide_eq_true hr⟩
  have hyn : y.Nodup := hy ▸ List.Pairwise.filter _ (full_nodup xs)
  have hle := nodup_le hyn hyx
  have hcy : CV xs.length (fullL xs) y.length xs := ⟨y, Nat.le_refl _, fun r hr => hF r (hyx r hr), fun i j hi hj e => by
    obtain ⟨r, hr, e2⟩ := hc i j hi hj e
    exact ⟨r, hxy r hr, e2⟩⟩
  have hk : y.length = k := by
    by_cases e : y.length < k
    · exact absurd hcy (h.2 _ e)
    · omega
  have hr : ∀ r, r ∈ y → isRect xs.length r := fun r hr => (full_mem R (hF r (hyx r hr))).1
  refine ⟨y, ?_, ?_⟩
  · have := gC_all (fullL xs) k y [] 0 (by simpa using hyF) hk
    simpa using this
  · refine (union_rl R.one R.four hr).ext R fun i j hi hj => ?_
    rw [Bool.eq_iff_iff, hB_union R.one R.four hr i j hi hj]
    constructor
    · rintro ⟨r, hr2, e⟩
      exact (full_mem R (hF r (hyx r hr2))).2 i j hi hj e
    · intro e
      obtain ⟨r, hr2, e2⟩ := hc i j hi hj e
      exact ⟨r, hxy r hr2, e2⟩
end Go.Proofs.YthdnpcpimggjnaaGreatDoor

namespace Go.Proofs.YthdnpcpimggjnaaGreatDoor
open Go.RowKit

/-- so many rectangles, each one below the relation, have all its pairs -/
def CR (n : Nat) (k : Nat) (xs : List Int) : Prop := ∃ x : List (Int × Int), x.length ≤ k ∧ (∀ r, r ∈ x → isRect n r ∧ ∀ i j, i < n → j < n → hasR r i j = true → hB xs i j = true) ∧ ∀ i j, i < n → j < n → hB xs i j = true → ∃ r, r ∈ x ∧ hasR r i j = true

/-- each rectangle below it is part of a full one -/
theorem rect_full {xs : List Int} (R : Rl xs.length xs) {r : Int × Int} (hr : isRect xs.length r) (hb : ∀ i j, i < xs.length → j < xs.length → hasR r i j = true → hB xs i j = true) (hne : ∃ i j, i < xs.length ∧ j < xs.length ∧ hasR r i j = true) :
    ∃ f, f ∈ fullL xs ∧ ∀ i j, i < xs.length → j < xs.length → hasR r i j = true → hasR f i j = true := by
  obtain ⟨s, t, rfl, hs, ht⟩ := hr
  have h4 := R.four
  have T : Rl xs.length (turnL xs) := R.turn
  have T' : Rl (turnL xs).length (turnL xs) := by rw [T.len]; exact T
  obtain ⟨q, hq, hql, hqj⟩ := relAll_row R (s.val : Int)
  obtain ⟨c, hc, hcl, hcj⟩ := relAll_row T (q.val : Int)
  obtain ⟨d, hd, hdl, hdj⟩ := relAll_row R (c.val : Int)
  have hsc : ∀ i, i < xs.length → hasB (s.val : Int) i = true → hasB (c.val : Int) i = true := fun i hi h => (hcj i hi).2 fun l hl hh => by
    rw [hB_turn R l i hl hi]
    exact (hqj l hl).1 hh i hi h
  have hdq : d = q := b_ext ⟨xs.length, by omega⟩ d q hdl hql (fun l => by
    rw [Bool.eq_iff_iff, hdj l.val l.isLt]
    constructor
    · intro g
      exact (hqj l.val l.isLt).2 fun i hi h => g i hi (hsc i hi h)
    · intro g i hi h
      have := (hcj i hi).1 h l.val l.isLt g
      rw [hB_turn R l.val i l.isLt hi] at this
      exact this)
  have hclo : clo xs (c.val : Int) = (c.val : Int) := by
    unfold clo
    rw [hd, hdq, hc]
  refine ⟨((c.val : Int), relAll xs (c.val : Int)), ?_, fun i j hi hj h => ?_⟩
  · unfold fullL fullTo
    refine List.mem_map.2 ⟨c.val, List.mem_filter.2 ⟨List.mem_range.2 hcl, ?_⟩, rfl⟩
    rw [hclo]
    exact beq_self_eq_true _
  · obtain ⟨h1, h2⟩ := hasR_iff.1 h
    refine hasR_iff.2 ⟨hsc i hi h1, ?_⟩
    show hasB (relAll xs (c.val : Int)) j = true
    rw [hd, hdq]
    exact (hqj j hj).2 fun l hl hl2 => hb l j hl hj (hasR_iff.2 ⟨hl2, h2⟩)
theorem cv_cr {xs : List Int} (R : Rl xs.length xs) {k : Nat} : CV xs.length (fullL xs) k xs → CR xs.length k xs :=
  fun ⟨x, hl, hm, hc⟩ => ⟨x, hl, fun r hr => full_mem R (hm r hr), hc⟩
theorem cr_cv {xs : List Int} (R : Rl xs.length xs) {k : Nat} (h : CR xs.length k xs) : CV xs.length (fullL xs) k xs := by
  obtain ⟨x, hl, hm, hc⟩ := h
  have key : ∀ x : List (Int × Int), (∀ r, r ∈ x → isRect xs.length r ∧ ∀ i j, i < xs.length → j < xs.length → hasR r i j = true → hB xs i j = true) →
      ∃ y : List (Int × Int), y.length ≤ x.length ∧ (∀ f, f ∈ y → f ∈ fullL xs) ∧ ∀ r, r ∈ x → ∀ i j, i < xs.length → j < xs.length → hasR r i j = true → ∃ f, f ∈ y ∧ hasR f i j = true := by
    intro x
    induction x with
    | nil => exact fun _ => ⟨[], Nat.le_refl _, fun _ h => absurd h (by simp), fun r hr => absurd hr (by simp)⟩
    | cons r x ih =>
      intro hm
      obtain ⟨y, hyl, hyf, hyc⟩ := ih fun r hr => hm r (List.mem_cons_of_mem _ hr)
      obtain ⟨h1, h2⟩ := hm r List.mem_cons_self
      by_cases hne : ∃ i j, i < xs.length ∧ j < xs.length ∧ hasR r i j = true
      · obtain ⟨f, hf, hfc⟩ := rect_full R h1 h2 hne
        refine ⟨f :: y, by simp; omega, fun g hg => ?_, fun g hg i j hi hj e => ?_⟩
        · rcases List.mem_cons.1 hg with rfl | hg
          · exact hf
          · exact hyf g hg
        · rcases List.mem_cons.1 hg with rfl | hg
          · exact ⟨f, List.mem_cons_self, hfc i j hi hj e⟩
          · obtain ⟨f2, hf2, e2⟩ := hyc g hg i j hi hj e
            exact ⟨f2, List.mem_cons_of_mem _ hf2, e2⟩
      · refine ⟨y, by simp; omega, hyf, fun g hg i j hi hj e => ?_⟩
        rcases List.mem_cons.1 hg with rfl | hg
        · exact absurd ⟨i, j, hi, hj, e⟩ hne
        · exact hyc g hg i j hi hj e
  obtain ⟨y, hyl, hyf, hyc⟩ := key x hm
  refine ⟨y, by omega, hyf, fun i j hi hj e => ?_⟩
  obtain ⟨r, hr, e2⟩ := hc i j hi hj e
  exact hyc r hr i j hi hj e2
/-- the least number, by rectangles that need not be full -/
theorem least_le {xs : List Int} (R : Rl xs.length xs) {k m : Nat} (h : LeastC xs.length (fullL xs) xs k) (hc : CR xs.length m xs) : k ≤ m := by
  by_cases e : m < k
  · exact absurd (cr_cv R hc) (h.2 m e)
  · omega
theorem cr_turn {n k : Nat} {xs : List Int} (R : Rl n xs) (h : CR n k xs) : CR n k (turnL xs) := by
  obtain ⟨x, hl, hm, hc⟩ := h
  refine ⟨x.map fun r => (r.2, r.1), by rw [List.length_map]; exact hl, fun r hr => ?_, fun i j hi hj e => ?_⟩
  · obtain ⟨q, hq, rfl⟩ := List.mem_map.1 hr
    obtain ⟨⟨s, t, rfl, hs, ht⟩, hb⟩ := hm q hq
    refine ⟨⟨t, s, rfl, ht, hs⟩, fun i j hi hj e => ?_⟩
    rw [hB_turn R i j hi hj]
    obtain ⟨e1, e2⟩ := hasR_iff.1 e
    exact hb j i hj hi (hasR_iff.2 ⟨e2, e1⟩)
  · rw [hB_turn R i j hi hj] at e
    obtain ⟨r, hr, e2⟩ := hc j i hj hi e
    obtain ⟨e1, e2⟩ := hasR_iff.1 e2
    exact ⟨(r.2, r.1), List.mem_map.2 ⟨r, hr, rfl⟩, hasR_iff.2 ⟨e2, e1⟩⟩
theorem four_bits : ∀ b0 b1 b2 b3 : Bool, ∃ u : Fin 16, hasB (u.val : Int) 0 = b0 ∧ hasB (u.val : Int) 1 = b1 ∧ hasB (u.val : Int) 2 = b2 ∧ hasB (u.val : Int) 3 = b3 := by decide +kernel
theorem b_lt : ∀ n : Fin 5, ∀ u : Fin 16, (∀ j : Fin 4, ¬ j.val < n.val → hasB (u.val : Int) j.val = false) → u.val < 2 ^ n.val := by decide +kernel
/-- a set told point by point -/
theorem set_of (n : Nat) (h4 : n ≤ 4) (p : Nat → Bool) : ∃ u : Fin 16, u.val < 2 ^ n ∧ ∀ j, j < n → hasB (u.val : Int) j = p j := by
  obtain ⟨u, h0, h1, h2, h3⟩ := four_bits (decide (0 < n) && p 0) (decide (1 < n) && p 1) (decide (2 < n) && p 2) (decide (3 < n) && p 3)
  have key : ∀ j, j < 4 → hasB (u.val : Int) j = (decide (j < n) && p j) := by
    intro j hj
    rcases (by omega : j = 0 ∨ j = 1 ∨ j = 2 ∨ j = 3) with rfl | rfl | rfl | rfl
    · exact h0
    · exact h1
    · exact h2
    · exact h3
  refine ⟨u, b_lt ⟨n, by omega⟩ u fun j hj => ?_, fun j hj => ?_⟩
  · rw [key j.val j.isLt, decide_eq_false hj]
    rfl
  · rw [key j (by omega), decide_eq_true hj]
    rfl
theorem cr_comp {n k : Nat} {xs : List Int} (R : Rl n xs) (h : CR n k xs) : CR n k (compL xs xs) := by
  obtain ⟨x, hl, hm, hc⟩ := h
  have h4 := R.four
  have hex : ∀ r : Int × Int, ∃ u : Fin 16, u.val < 2 ^ n ∧ ∀ j, j < n → hasB (u.val : Int) j = (List.range n).any fun l => hasB r.2 l && hB xs l j := fun r => set_of n h4 _
  refine ⟨x.map fun r => (r.1, (((hex r).choose).val : Int)), by rw [List.length_map]; exact hl, fun r hr => ?_, fun i j hi hj e => ?_⟩
  · obtain ⟨q, hq, rfl⟩ := List.mem_map.1 hr
    obtain ⟨⟨s, t, rfl, hs, ht⟩, hb⟩ := hm q hq
    have hu := (hex ((s.val : Int), (t.val : Int))).choose_spec
    refine ⟨⟨s, _, rfl, hs, hu.1⟩, fun i j hi hj e => ?_⟩
    obtain ⟨e1, e2⟩ := hasR_iff.1 e
    have e2 : hasB ((((hex ((s.val : Int), (t.val : Int))).choose).val : Nat) : Int) j = true := e2
    rw [hu.2 j hj, List.any_eq_true] at e2
    obtain ⟨l, hl2, e3⟩ := e2
    rw [Bool.and_eq_true] at e3
    have hln := List.mem_range.1 hl2
    exact (hB_comp R R i j hi hj).2 ⟨l, hln, hb i l hi hln (hasR_iff.2 ⟨e1, e3.1⟩), e3.2⟩
  · obtain ⟨l, hl2, e1, e2⟩ := (hB_comp R R i j hi hj).1 e
    obtain ⟨r, hr, e3⟩ := hc i l hi hl2 e1
    obtain ⟨e4, e5⟩ := hasR_iff.1 e3
    refine ⟨(r.1, (((hex r).choose).val : Int)), List.mem_map.2 ⟨r, hr, rfl⟩, hasR_iff.2 ⟨e4, ?_⟩⟩
    show hasB ((((hex r).choose).val : Nat) : Int) j = true
    rw [(hex r).choose_spec.2 j hj, List.any_eq_true]
    exact ⟨l, List.mem_range.2 hl2, by rw [e5, e2]; rfl⟩
/-- rows -/
theorem cr_rows {n : Nat} {xs : List Int} (R : Rl n xs) : CR n n xs := by
  have h4 := R.four
  refine ⟨(List.range n).map fun i => (pt i, rowAt xs i), by simp, fun r hr => ?_, fun i j hi hj e => ?_⟩
  · obtain ⟨i, hi, rfl⟩ := List.mem_map.1 hr
    have hi := List.mem_range.1 hi
    obtain ⟨p, hp, hpl⟩ := b_ptlt ⟨n, by omega⟩ ⟨i, hi⟩
    obtain ⟨y, hy, hyl⟩ := R.row i
    dsimp only at hp
    refine ⟨⟨p, y, by rw [hp, hy], hpl, hyl⟩, fun a j ha hj e => ?_⟩
    obtain ⟨e1, e2⟩ := hasR_iff.1 e
    have e1 : hasB (pt i) a = true := e1
    have := b_pt ⟨i, by omega⟩ ⟨a, by omega⟩
    dsimp only at this
    rw [this, decide_eq_true_iff] at e1
    subst e1
    exact e2
  · refine ⟨(pt i, rowAt xs i), List.mem_map.2 ⟨i, List.mem_range.2 hi, rfl⟩, hasR_iff.2 ⟨?_, e⟩⟩
    have := b_pt ⟨i, by omega⟩ ⟨i, by omega⟩
    dsimp only at this
    rw [this]
    simp
theorem cr_zero {n : Nat} {xs : List Int} : CR n 0 xs ↔ ∀ i j, i < n → j < n → hB xs i j = false := by
  constructor
  · rintro ⟨x, hl, _, hc⟩ i j hi hj
    cases e : hB xs i j with
    | false => rfl
    | true =>
      obtain ⟨r, hr, _⟩ := hc i j hi hj e
      rw [List.eq_nil_of_length_eq_zero (Nat.le_zero.1 hl)] at hr
      cases hr
  · intro h
    exact ⟨[], Nat.le_refl _, fun r hr => absurd hr (by simp), fun i j hi hj e => by rw [h i j hi hj] at e; cases e⟩
/-- all that the law asks -/
theorem ranks {xs : List Int} (R : Rl xs.length xs) : ∃ k m : Nat, (k ≤ (fullL xs).length ∧ LeastC xs.length (fullL xs) xs k) ∧ (k ≤ (fullL (turnL xs)).length ∧ LeastC (turnL xs).length (fullL (turnL xs)) (turnL xs) k) ∧
    (m ≤ (fullL (compL xs xs)).length ∧ LeastC (compL xs xs).length (fullL (compL xs xs)) (compL xs xs) m) ∧ k ≤ xs.length ∧ m ≤ k ∧ (k = 0 ↔ ∀ i j, i < xs.length → j < xs.length → hB xs i j = false) := by
  have T := R.turn
  have C := R.comp R
  have T' : Rl (turnL xs).length (turnL xs) := by rw [T.len]; exact T
  have C' : Rl (compL xs xs).length (compL xs xs) := by rw [C.len]; exact C
  obtain ⟨k, hk, hkl⟩ := least_ex R
  obtain ⟨k2, hk2, hkl2⟩ := least_ex T'
  obtain ⟨m, hm, hml⟩ := least_ex C'
  have c1 := cv_cr R hkl.1
  have c2 := cv_cr T' hkl2.1
  have a1 : k2 ≤ k := least_le T' hkl2 (by rw [T.len]; exact cr_turn R c1)
  have a2 : k ≤ k2 := by
    have h := cr_turn T' c2
    rw [turn_turn R, T.len] at h
    exact least_le R hkl h
  obtain rfl : k2 = k := by omega
  have a3 : m ≤ k2 := least_le C' hml (by rw [C.len]; exact cr_comp R c1)
  refine ⟨k2, m, ⟨hk, hkl⟩, ⟨hk2, hkl2⟩, ⟨hm, hml⟩, least_le R hkl (cr_rows R), a3, ?_⟩
  constructor
  · intro e
    rw [e] at c1
    exact cr_zero.1 c1
  · intro h
    have := least_le R hkl (cr_zero.2 h)
    omega
end Go.Proofs.YthdnpcpimggjnaaGreatDoor
