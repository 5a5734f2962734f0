/-
  The program's betweenDifferent, inBothDirections and the tests of the kinds.
-/
import Derived.Test.YthdnpcpimggjnaaGreatDoorGB
import Derived.Deep.RegionHeld3
import Derived.Test.YthdnpcpimggjnaaGreatDoorEG
namespace Go.Proofs.YthdnpcpimggjnaaGreatDoor
open Go.RowKit

/-! both -/
theorem b_and : ∀ z y : Fin 16, ∀ j : Fin 4, hasB (bits .and .i64 (z.val : Int) (y.val : Int)) j.val = (hasB (z.val : Int) j.val && hasB (y.val : Int) j.val) := by decide +kernel
theorem b_andlt : ∀ n : Fin 5, ∀ z y : Fin 16, z.val < 2 ^ n.val → y.val < 2 ^ n.val → ∃ u : Fin 16, bits .and .i64 (z.val : Int) (y.val : Int) = (u.val : Int) ∧ u.val < 2 ^ n.val := by decide +kernel
theorem Rl.both {n : Nat} {xs ys : List Int} (h : Rl n xs) (k : Rl n ys) : Rl n (bothL xs ys) := by
  have hl : (bothL xs ys).length = n := by unfold bothL zipI; rw [List.length_zipWith, h.len, k.len, Nat.min_self]
  refine Rl.mk' hl h.one h.four fun i hi => ?_
  obtain ⟨y, hy, hy2⟩ := h.row i
  obtain ⟨z, hz, hz2⟩ := k.row i
  obtain ⟨u, hu, hu2⟩ := b_andlt ⟨n, by have := h.four; omega⟩ y z hy2 hz2
  refine ⟨u, ?_, hu2⟩
  unfold bothL
  rw [zipAt _ _ _ _ (by rw [h.len]; exact hi) (by rw [k.len]; exact hi), hy, hz, hu]
theorem hB_both {n : Nat} {xs ys : List Int} (h : Rl n xs) (k : Rl n ys) (i j : Nat) (hi : i < n) (hj : j < n) : hB (bothL xs ys) i j = (hB xs i j && hB ys i j) := by
  obtain ⟨y, hy, hy2⟩ := h.row i
  obtain ⟨z, hz, hz2⟩ := k.row i
  unfold hB bothL
  rw [zipAt _ _ _ _ (by rw [h.len]; exact hi) (by rw [k.len]; exact hi), hy, hz]
  exact b_and y z ⟨j, by have := h.four; omega⟩
theorem Rl.zeros {n : Nat} (h1 : 1 ≤ n) (h4 : n ≤ 4) : Rl n (List.replicate n 0) := ⟨List.length_replicate, h1, h4, zeros16 n⟩
theorem hB_zeros (n i j : Nat) (hj : j < 4) : hB (List.replicate n 0) i j = false := by
  unfold hB
  rw [zeros_at]
  exact b_zero ⟨j, hj⟩
theorem turn_turn {n : Nat} {xs : List Int} (h : Rl n xs) : turnL (turnL xs) = xs :=
  h.turn.turn.ext h fun i j hi hj => by rw [hB_turn h.turn i j hi hj, hB_turn h j i hj hi]

/-! the kinds, as the model asks -/
def kindR (xs : List Int) : Bool := belowB (sameL xs.length) xs
def kindI (xs : List Int) : Bool := belowB (sameL xs.length) (otherL xs)
def kindS (xs : List Int) : Bool := decide (xs = turnL xs)
def kindA (xs : List Int) : Bool := belowB (bothL xs (turnL xs)) (sameL xs.length)
def kindT (xs : List Int) : Bool := belowB (compL xs xs) xs
def kindC (xs : List Int) : Bool := belowB (otherL xs) (turnL xs)
def kindF (xs : List Int) : Bool := belowB (compL (turnL xs) xs) (sameL xs.length)
def kindD (xs : List Int) : Bool := belowB (sameL xs.length) (compL xs (turnL xs))
def kindJ (xs : List Int) : Bool := belowB (compL xs (turnL xs)) (sameL xs.length)
def kindO (xs : List Int) : Bool := belowB (sameL xs.length) (compL (turnL xs) xs)
def kindB (c : Nat) (xs : List Int) : Bool :=
  if c = 114 then kindR xs else if c = 105 then kindI xs else if c = 115 then kindS xs else if c = 97 then kindA xs else if c = 116 then kindT xs
  else if c = 99 then kindC xs else if c = 102 then kindF xs else if c = 100 then kindD xs else if c = 106 then kindJ xs else kindO xs

/-! the program's -/
def offI (xs : List Int) : List Int := bothL xs (otherL (sameL xs.length))
def twoW (xs : List Int) : List Int := bothL xs (turnL xs)
def allL (n : Nat) : List Int := otherL (List.replicate n 0)
def oneMost (xs : List Int) : Bool := xs.all fun x => decide (cnt x ≤ 1)
def oneLeast (xs : List Int) : Bool := xs.all fun x => !decide (cnt x = 0)

theorem same_below {n : Nat} {ys : List Int} (h : Rl n ys) : belowB (sameL n) ys = true ↔ ∀ i, i < n → hB ys i i = true := by
  rw [below_iff (Rl.same h.one h.four) h]
  constructor
  · intro e i hi
    exact e i i hi hi (by rw [hB_same h.four i i hi hi]; exact decide_eq_true rfl)
  · intro e i j hi hj hs
    rw [hB_same h.four i j hi hj] at hs
    obtain rfl := of_decide_eq_true hs
    exact e j hi
theorem below_same {n : Nat} {ys : List Int} (h : Rl n ys) : belowB ys (sameL n) = true ↔ ∀ i j, i < n → j < n → hB ys i j = true → j = i := by
  rw [below_iff h (Rl.same h.one h.four)]
  constructor
  · intro e i j hi hj hs
    have := e i j hi hj hs
    rw [hB_same h.four i j hi hj] at this
    exact of_decide_eq_true this
  · intro e i j hi hj hs
    rw [hB_same h.four i j hi hj]
    exact decide_eq_true (e i j hi hj hs)
theorem Rl.off {n : Nat} {xs : List Int} (h : Rl n xs) : Rl n (offI xs) := by
  unfold offI
  rw [h.len]
  exact h.both (Rl.same h.one h.four).other
theorem hB_off {n : Nat} {xs : List Int} (h : Rl n xs) (i j : Nat) (hi : i < n) (hj : j < n) : hB (offI xs) i j = (hB xs i j && !decide (j = i)) := by
  unfold offI
  rw [h.len, hB_both h (Rl.same h.one h.four).other i j hi hj, hB_other (Rl.same h.one h.four) i j hi hj, hB_same h.four i j hi hj]
theorem Rl.twoW {n : Nat} {xs : List Int} (h : Rl n xs) : Rl n (twoW xs) := h.both h.turn
theorem hB_twoW {n : Nat} {xs : List Int} (h : Rl n xs) (i j : Nat) (hi : i < n) (hj : j < n) : hB (twoW xs) i j = (hB xs i j && hB xs j i) := by
  show hB (bothL xs (turnL xs)) i j = _
  rw [hB_both h h.turn i j hi hj, hB_turn h i j hi hj]
theorem Rl.all {n : Nat} (h1 : 1 ≤ n) (h4 : n ≤ 4) : Rl n (allL n) := (Rl.zeros h1 h4).other
theorem hB_all {n : Nat} (h1 : 1 ≤ n) (h4 : n ≤ 4) (i j : Nat) (hi : i < n) (hj : j < n) : hB (allL n) i j = true := by
  unfold allL
  rw [hB_other (Rl.zeros h1 h4) i j hi hj, hB_zeros n i j (by omega)]
  rfl

theorem bool_iff {a b : Bool} (h : a = true ↔ b = true) : a = b := by rw [Bool.eq_iff_iff]; exact h
theorem isI {n : Nat} {xs : List Int} (h : Rl n xs) : decide (offI xs = xs) = kindI xs := by
  refine bool_iff ?_
  unfold kindI
  rw [decide_eq_true_iff, h.len, same_below h.other]
  constructor
  · intro e i hi
    rw [hB_other h i i hi hi, ← e, hB_off h i i hi hi]
    simp
  · intro e
    refine h.off.ext h fun i j hi hj => ?_
    rw [hB_off h i j hi hj]
    by_cases hij : j = i
    · subst hij
      have := e j hj
      rw [hB_other h j j hj hj] at this
      simp at this
      simp [this]
    · simp [hij]
theorem isS (xs : List Int) : decide (turnL xs = xs) = kindS xs := by
  refine bool_iff ?_
  unfold kindS
  rw [decide_eq_true_iff, decide_eq_true_iff]
  exact ⟨Eq.symm, Eq.symm⟩
theorem isC {n : Nat} {xs : List Int} (h : Rl n xs) : decide (eitherL xs (turnL xs) = allL n) = kindC xs := by
  refine bool_iff ?_
  unfold kindC
  rw [decide_eq_true_iff, below_iff h.other h.turn]
  have h1 := h.one
  have h4 := h.four
  constructor
  · intro e i j hi hj hs
    rw [hB_other h i j hi hj] at hs
    have := hB_all h1 h4 i j hi hj
    rw [← e, hB_either h h.turn i j hi hj] at this
    rw [Bool.not_eq_true'] at hs
    rw [hs] at this
    simpa using this
  · intro e
    refine (h.either h.turn).ext (Rl.all h1 h4) fun i j hi hj => ?_
    rw [hB_all h1 h4 i j hi hj, hB_either h h.turn i j hi hj]
    cases hx : hB xs i j with
    | true => rfl
    | false => rw [e i j hi hj (by rw [hB_other h i j hi hj, hx]; rfl)]; rfl

theorem cnt_most : ∀ n : Fin 5, ∀ z : Fin 16, z.val < 2 ^ n.val → (cnt (z.val : Int) ≤ 1 ↔ ∀ j k : Fin n.val, hasB (z.val : Int) j.val = true → hasB (z.val : Int) k.val = true → k = j) := by decide +kernel
theorem cnt_least : ∀ n : Fin 5, ∀ z : Fin 16, z.val < 2 ^ n.val → ((¬ cnt (z.val : Int) = 0) ↔ ∃ j : Fin n.val, hasB (z.val : Int) j.val = true) := by decide +kernel
theorem all_rows {n : Nat} {xs : List Int} (h : Rl n xs) (p : Int → Bool) : xs.all p = true ↔ ∀ i, i < n → p (rowAt xs i) = true := by
  rw [List.all_eq_true]
  constructor
  · intro e i hi
    exact e _ (List.mem_of_getElem? (rowAt_get (by rw [h.len]; exact hi)))
  · intro e x hx
    obtain ⟨i, hi, rfl⟩ := List.mem_iff_getElem.1 hx
    have := e i (by rw [← h.len]; exact hi)
    have e2 := rowAt_get hi
    rw [List.getElem?_eq_getElem hi] at e2
    rw [Option.some.inj e2]
    exact this
theorem most_iff {n : Nat} {xs : List Int} (h : Rl n xs) : oneMost xs = true ↔ ∀ i j k, i < n → j < n → k < n → hB xs i j = true → hB xs i k = true → k = j := by
  unfold oneMost
  rw [all_rows h]
  constructor
  · intro e i j k hi hj hk h1 h2
    obtain ⟨y, hy, hy2⟩ := h.row i
    have := e i hi
    rw [decide_eq_true_iff, hy] at this
    unfold hB at h1 h2
    rw [hy] at h1 h2
    have h3 := (cnt_most ⟨n, by have := h.four; omega⟩ y hy2).1 this ⟨j, hj⟩ ⟨k, hk⟩ h1 h2
    exact congrArg Fin.val h3
  · intro e i hi
    obtain ⟨y, hy, hy2⟩ := h.row i
    rw [decide_eq_true_iff, hy]
    refine (cnt_most ⟨n, by have := h.four; omega⟩ y hy2).2 fun j k h1 h2 => ?_
    exact Fin.ext (e i j.val k.val hi j.isLt k.isLt (by unfold hB; rw [hy]; exact h1) (by unfold hB; rw [hy]; exact h2))
theorem least_iff {n : Nat} {xs : List Int} (h : Rl n xs) : oneLeast xs = true ↔ ∀ i, i < n → ∃ j, j < n ∧ hB xs i j = true := by
  unfold oneLeast
  rw [all_rows h]
  constructor
  · intro e i hi
    obtain ⟨y, hy, hy2⟩ := h.row i
    have := e i hi
    rw [Bool.not_eq_true', decide_eq_false_iff_not, hy] at this
    obtain ⟨j, hj⟩ := (cnt_least ⟨n, by have := h.four; omega⟩ y hy2).1 this
    exact ⟨j.val, j.isLt, by unfold hB; rw [hy]; exact hj⟩
  · intro e i hi
    obtain ⟨y, hy, hy2⟩ := h.row i
    obtain ⟨j, hj, hb⟩ := e i hi
    rw [Bool.not_eq_true', decide_eq_false_iff_not, hy]
    refine (cnt_least ⟨n, by have := h.four; omega⟩ y hy2).2 ⟨⟨j, hj⟩, ?_⟩
    unfold hB at hb
    rw [hy] at hb
    exact hb
theorem isF {n : Nat} {xs : List Int} (h : Rl n xs) : oneMost xs = kindF xs := by
  refine bool_iff ?_
  unfold kindF
  rw [h.len, most_iff h, below_same (h.turn.comp h)]
  constructor
  · intro e i j hi hj hc
    obtain ⟨l, hl, h1, h2⟩ := (hB_comp h.turn h i j hi hj).1 hc
    rw [hB_turn h i l hi hl] at h1
    exact e l i j hl hi hj h1 h2
  · intro e i j k hi hj hk h1 h2
    exact e j k hj hk ((hB_comp h.turn h j k hj hk).2 ⟨i, hi, by rw [hB_turn h j i hj hi]; exact h1, h2⟩)
theorem isD {n : Nat} {xs : List Int} (h : Rl n xs) : oneLeast xs = kindD xs := by
  refine bool_iff ?_
  unfold kindD
  rw [h.len, least_iff h, same_below (h.comp h.turn)]
  constructor
  · intro e i hi
    obtain ⟨j, hj, hb⟩ := e i hi
    exact (hB_comp h h.turn i i hi hi).2 ⟨j, hj, hb, by rw [hB_turn h j i hj hi]; exact hb⟩
  · intro e i hi
    obtain ⟨l, hl, h1, _⟩ := (hB_comp h h.turn i i hi hi).1 (e i hi)
    exact ⟨l, hl, h1⟩
theorem isJ {n : Nat} {xs : List Int} (h : Rl n xs) : oneMost (turnL xs) = kindJ xs := by
  rw [isF h.turn]
  unfold kindF kindJ
  rw [turn_turn h, turnL_len]
theorem isO {n : Nat} {xs : List Int} (h : Rl n xs) : oneLeast (turnL xs) = kindO xs := by
  rw [isD h.turn]
  unfold kindD kindO
  rw [turn_turn h, turnL_len]
end Go.Proofs.YthdnpcpimggjnaaGreatDoor

namespace Go.Proofs.YthdnpcpimggjnaaGreatDoor
open Go.RowKit

set_option maxHeartbeats 40000000 in
theorem at_any {xs : List Int} {m a : Nat} (h : Rl xs.length xs) (r : Rep xs m a) (g cap k : Nat) (hk : k ≤ 100) (w : World) (ho : w.ownsRow 0 36 5 (.slice (some ⟨g, 0, none⟩) (m + 1) cap) (m + 1) (powC xs (m + 1))) :
    Calls Tryz.prog 210 #[plV g cap m a, .int .i64 k] w fun e w' => e = .returned (relOf (powL xs k)) ∧ Below w.heap.size w w' := by
  have hm := new_le h m r.new
  have hg := (ho.lt g rfl).2
  have ho2 := (ho.alloc (.cells #[.slice (some ⟨g, 0, none⟩) (m + 1) cap, .int .i64 a] 152)).alloc (.cells #[.int .i64 0, .int .i64 0, .int .i64 0, .int .i64 0, .int .i64 0] 36)
  have R := Lib.hid r
  by_cases hlt : k < m + 1
  · obtain ⟨c0, c1, c2, c3, c4⟩ := pow_cells ho2 k hlt
    have hi1 : (k : Int) < (m : Int) + 1 := by omega
    have hi2 : (k : Int) < ((m + 1 : Nat) : Int) := by omega
    have z1 := rel_zero (w.alloc (.cells #[.slice (some ⟨g, 0, none⟩) (m + 1) cap, .int .i64 a] 152))
    have B0 := below_two w (.cells #[.slice (some ⟨g, 0, none⟩) (m + 1) cap, .int .i64 a] 152) (.cells #[.int .i64 0, .int .i64 0, .int .i64 0, .int .i64 0, .int .i64 0] 36)
    rw [World.size_alloc] at z1
    clear ho ho2 r
    go_enter Tryz.func210, Tryz.ntmps210
    go_wp2
    have bb := fun (W : World) (j : Nat) (v : Value) (h : Below w.heap.size w W) => h.setCell (p := ⟨w.heap.size + 1, j, none⟩) (Nat.le_succ _) v
    first
      | exact bodyPost_ret (v := relOf (powL xs k)) (by simp [results, Tryz.results210, go_sem]) rfl ⟨rfl, below_two _ _ _⟩
      | exact bodyPost_ret (v := relOf (powL xs k)) (by simp [results, Tryz.results210, go_sem]) rfl ⟨rfl, bb _ _ _ (bb _ _ _ (bb _ _ _ (bb _ _ _ (bb _ _ _ B0))))⟩
      | trace_state
  · obtain ⟨d, rfl⟩ : ∃ d, m = a + d := ⟨m - a, by have := r.lt; omega⟩
    have hlta := r.lt
    have hd : 0 < d := by omega
    have hq := Nat.mod_lt (k - a) hd
    obtain ⟨q, hqe⟩ : ∃ q, (k - a) % d = q := ⟨_, rfl⟩
    rw [hqe] at hq
    have hE : powL xs k = powL xs (a + q) := by
      have := r.at k (by omega)
      rw [show a + d - a = d by omega, hqe] at this
      exact this
    rw [hE]
    obtain ⟨c0, c1, c2, c3, c4⟩ := pow_cells ho2 (a + q) (by omega)
    obtain ⟨x, rfl⟩ : ∃ x, k = a + x := ⟨k - a, by omega⟩
    have hqx : x % d = q := by rw [← hqe]; congr 1; omega
    have hmod : (x : Int) % (d : Int) = (q : Int) := by rw [← hqx]; rfl
    have hmod2 : Int.tmod (x : Int) (d : Int) = (q : Int) := by rw [← hqx]; exact (Int.ofNat_tmod x d).symm
    have hx0 : 0 ≤ (x : Int) := by omega
    have z1 := rel_zero (w.alloc (.cells #[.slice (some ⟨g, 0, none⟩) (a + d + 1) cap, .int .i64 a] 152))
    have B0 := below_two w (.cells #[.slice (some ⟨g, 0, none⟩) (a + d + 1) cap, .int .i64 a] 152) (.cells #[.int .i64 0, .int .i64 0, .int .i64 0, .int .i64 0, .int .i64 0] 36)
    rw [World.size_alloc] at z1
    have hdn : ¬ (d : Int) = 0 := by omega
    have hdz : ((d : Int) == 0) = false := beq_eq_false_iff_ne.2 hdn
    have hdp : (0 : Int) < (d : Int) := by omega
    have hq0 : (0 : Int) ≤ (q : Int) := by omega
    have hw1 := wrap_of (x : Int) (by omega) (by omega)
    have hw3 := wrap_of (q : Int) (by omega) (by omega)
    have hw2 := wrap_of ((a : Int) + (q : Int)) (by omega) (by omega)
    have hj1 : (a : Int) + (q : Int) < (a : Int) + (d : Int) + 1 := by omega
    have hj0 : 0 ≤ (a : Int) + (q : Int) := by omega
    have hj2 : ((a : Int) + (q : Int)).toNat = a + q := by omega
    have pb := (PbAt.new w (.slice (some ⟨g, 0, none⟩) (a + d + 1) cap) a).alloc (.cells #[.int .i64 0, .int .i64 0, .int .i64 0, .int .i64 0, .int .i64 0] 36)
    have hper := fun w => period_any g cap (a + d) a (by omega) (by omega) w
    rw [show a + d - a = d by omega] at hper
    have HP := Lib.hid hper
    have HO := Lib.hid ho2
    clear ho ho2 r hper hE hqe
    obtain ⟨K, hK⟩ : ∃ K : Int, ((a + x : Nat) : Int) = K := ⟨_, rfl⟩
    have hKa : K - (a : Int) = (x : Int) := by omega
    have hKn : ¬ K < (a : Int) + (d : Int) + 1 := by omega
    have hKn2 : ¬ K < ((a + d + 1 : Nat) : Int) := by omega
    rw [hK]
    clear hK
    go_enter Tryz.func210, Tryz.ntmps210
    go_wp2
    have hgne : g ≠ w.heap.size := by omega
    have hgne1 : g ≠ w.heap.size + 1 := by omega
    have hgne2 : w.heap.size + 1 ≠ g := by omega
    have hgb : (w.heap.size + 1 == g) = false := beq_eq_false_iff_ne.2 hgne2
    have hgb2 : (g == w.heap.size + 1) = false := beq_eq_false_iff_ne.2 hgne1
    obtain ⟨W0, hW0⟩ : ∃ W0, (w.alloc (.cells #[.slice (some ⟨g, 0, none⟩) (a + d + 1) cap, .int .i64 a] 152)).alloc (.cells #[.int .i64 0, .int .i64 0, .int .i64 0, .int .i64 0, .int .i64 0] 36) = W0 := ⟨_, rfl⟩
    have HO2 := HO.out
    rw [hW0] at c0 c1 c2 c3 c4 pb z1 B0 HO2 ⊢
    clear HO hW0
    obtain ⟨L, hL⟩ : ∃ L, powL xs (a + q) = L := ⟨_, rfl⟩
    try rw [hL] at c0
    try rw [hL] at c1
    try rw [hL] at c2
    try rw [hL] at c3
    try rw [hL] at c4
    try rw [hL]
    have HL := Lib.hid hL
    have HO := Lib.hid HO2
    have HB := Lib.hid (And.intro B0 (And.intro pb z1))
    have pbl := pb.lt
    have z1l := z1.lt
    have v0 := pb.cell0
    have v1 := pb.cell1
    clear hL HO2 B0 pb z1 R h hlt hk hg hm hlta hqx
    go_region_held (fun w' => w'.cell? ⟨w.heap.size, 0, none⟩ = some (.slice (some ⟨g, 0, none⟩) (a + d + 1) cap) ∧ w'.cell? ⟨w.heap.size, 1, none⟩ = some (.int .i64 a) ∧ w'.cell? ⟨g, (a + q) * 5, none⟩ = some (.int .i64 L.length) ∧ w'.cell? ⟨g, (a + q) * 5 + 1, none⟩ = some (.int .i64 (rowAt L 0)) ∧ w'.cell? ⟨g, (a + q) * 5 + 2, none⟩ = some (.int .i64 (rowAt L 1)) ∧ w'.cell? ⟨g, (a + q) * 5 + 3, none⟩ = some (.int .i64 (rowAt L 2)) ∧ w'.cell? ⟨g, (a + q) * 5 + 4, none⟩ = some (.int .i64 (rowAt L 3))) (go_keep) (first | (go_at_call 191; refine (HP.out _).mono ?_; rintro e w2 ⟨rfl, hb2⟩; obtain ⟨e0, e1, e2, e3, e4⟩ := pow_cells (own_keepR HO.out.drew hb2 (fun y hy => (HO.out.drew.lt y hy).2)) (a + q) (by omega); rw [HL.out] at e0 e1 e2 e3 e4; have pb2 := HB.out.2.1.drew.below hb2 pbl; have u0 := pb2.cell0; have u1 := pb2.cell1; have z2 := HB.out.2.2.drew.below hb2 z1l; have f0 := z2.free 0; have f1 := z2.free 1; have f2 := z2.free 2; have f3 := z2.free 3; have f4 := z2.free 4; have x0 := z2.cell0; have x1 := z2.cell1; have x2 := z2.cell2; have x3 := z2.cell3; have x4 := z2.cell4; have B2 := HB.out.1.drew.trans (hb2.mono HB.out.1.drew.size)))
    all_goals
      go_wp2
      have bb := fun (W : World) (j : Nat) (v : Value) (h : Below w.heap.size w W) => h.setCell (p := ⟨w.heap.size + 1, j, none⟩) (Nat.le_succ _) v
      exact bodyPost_ret (v := relOf L) (by simp [results, Tryz.results210, go_sem, x0, x1, x2, x3, x4]) rfl ⟨by rw [HL.out], bb _ _ _ (bb _ _ _ (bb _ _ _ (bb _ _ _ (bb _ _ _ B2))))⟩
end Go.Proofs.YthdnpcpimggjnaaGreatDoor

namespace Go.Proofs.YthdnpcpimggjnaaGreatDoor
open Go.RowKit

theorem implCompPower_any (ao : Option Addr) (ca : Nat) (xs : List Int) (k : Int) (w : World) (hl : xs.length ≤ 1048576) (hx : Rd w ao xs) :
    Calls Tryz.prog 151 #[.slice ao xs.length ca, .int .i64 k] w (Gave w (ifR (relIn xs && inB k 0 100) (powL xs k.toNat)) (relIn xs && inB k 0 100)) := by
  cases hp : relIn xs with
  | false =>
    have HP := Lib.hid hp
    clear hp
    go_enter Tryz.func151, Tryz.ntmps151
    go_wp2_with (go_at_call 16; refine (relationFrom_no _ _ _ _ hl HP.out hx).mono ?_; rintro e w1 ⟨rfl, hb⟩)
    go_ret2
    exact ⟨.slice none 0 0, rfl, World.ownsRow_nil _ _ _ _, hb.alloc hb.size _⟩
  | true =>
    have R := Lib.hid (Rl.of hp)
    have HP := Lib.hid hp
    clear hp
    rw [Bool.true_and]
    by_cases h1 : k < 0
    · have hB : inB k 0 100 = false := inB_no (by omega)
      have HB := Lib.hid hB
      clear hB
      rw [HB.out]
      go_enter Tryz.func151, Tryz.ntmps151
      go_wp2_with (go_at_call 16; refine (relationFrom_yes _ _ _ _ HP.out hx).mono ?_; rintro e w1 ⟨rfl, hb⟩)
      go_ret2
      exact ⟨.slice none 0 0, rfl, World.ownsRow_nil _ _ _ _, hb.alloc hb.size _⟩
    · by_cases h2 : 100 < k
      · have hB : inB k 0 100 = false := inB_no (by omega)
        have HB := Lib.hid hB
        clear hB
        rw [HB.out]
        go_enter Tryz.func151, Tryz.ntmps151
        go_wp2_with (go_at_call 16; refine (relationFrom_yes _ _ _ _ HP.out hx).mono ?_; rintro e w1 ⟨rfl, hb⟩)
        go_ret2
        exact ⟨.slice none 0 0, rfl, World.ownsRow_nil _ _ _ _, hb.alloc hb.size _⟩
      · obtain ⟨n, rfl⟩ : ∃ n : Nat, k = (n : Int) := ⟨k.toNat, by omega⟩
        have hB : inB (n : Int) 0 100 = true := inB_yes (by omega) (by omega)
        have HB := Lib.hid hB
        clear hB
        rw [HB.out, Int.toNat_natCast]
        go_enter Tryz.func151, Tryz.ntmps151
        go_wp2_with fail
        refine (relationFrom_yes _ _ _ _ HP.out hx).mono ?_
        rintro e w1 ⟨rfl, hb⟩
        have B1 := hb.alloc hb.size (.cells #[.int .i64 xs.length, .int .i64 (rowAt xs 0), .int .i64 (rowAt xs 1), .int .i64 (rowAt xs 2), .int .i64 (rowAt xs 3)] 36)
        clear hb hx
        go_wp2_with fail
        refine (powersOf_any R.out _).mono ?_
        rintro e w2 ⟨v, m, a, hr, rfl, ho, hb2⟩
        obtain ⟨g, cap, rfl, _, _⟩ := pow_form ho (by omega)
        have B2 := B1.trans (hb2.mono B1.size)
        clear hb2 B1
        go_wp2_with fail
        refine (at_any R.out hr g cap n (by omega) _ (own_mono ho (Nat.zero_le _))).mono ?_
        rintro e w3 ⟨rfl, hb3⟩
        have B3 := B2.trans (hb3.mono B2.size)
        clear hb3 B2 ho
        go_wp2_with fail
        refine (list_any (powL xs n) w3 (by rw [(R.out.pow n).len]; exact R.out.four)).mono ?_
        rintro e w4 ⟨v, rfl, ho, hb4⟩
        go_wp2
        go_ret2
        exact ⟨v, rfl, own_mono ho B3.size, B3.trans (hb4.mono B3.size)⟩
end Go.Proofs.YthdnpcpimggjnaaGreatDoor

namespace Go.Proofs.YthdnpcpimggjnaaGreatDoor
open Go.RowKit

theorem cEither {n : Nat} {xs ys : List Int} (h : Rl n xs) (k : Rl n ys) (ao bo : Option Addr) (ca cb : Nat) (w : World) (hx : Rd w ao xs) (hy : Rd w bo ys) : Calls Tryz.prog 148 #[.slice ao xs.length ca, .slice bo ys.length cb] w (Gave w (eitherL xs ys) true) := by
  have := implRelEither_any ao bo ca cb xs ys w (rl_short h) (rl_short k) hx hy
  rw [two_ok h k] at this
  exact this
theorem cBoth {n : Nat} {xs ys : List Int} (h : Rl n xs) (k : Rl n ys) (ao bo : Option Addr) (ca cb : Nat) (w : World) (hx : Rd w ao xs) (hy : Rd w bo ys) : Calls Tryz.prog 150 #[.slice ao xs.length ca, .slice bo ys.length cb] w (Gave w (bothL xs ys) true) := by
  have := implRelBoth_any ao bo ca cb xs ys w (rl_short h) (rl_short k) hx hy
  rw [two_ok h k] at this
  exact this
theorem both_others {n : Nat} {a b : List Int} (h : Rl n a) (k : Rl n b) : eitherL (otherL a) (otherL b) = otherL (bothL a b) :=
  Rl.ext (h.other.either k.other) (h.both k).other fun i j hi hj => by
    rw [hB_either h.other k.other i j hi hj, hB_other h i j hi hj, hB_other k i j hi hj, hB_other (h.both k) i j hi hj, hB_both h k i j hi hj]
    cases hB a i j <;> cases hB b i j <;> rfl
theorem both_below1 {n : Nat} {a b : List Int} (h : Rl n a) (k : Rl n b) : belowB (bothL a b) a = true := by
  rw [below_iff (h.both k) h]
  intro i j hi hj e
  rw [hB_both h k i j hi hj, Bool.and_eq_true] at e
  exact e.1
theorem both_below2 {n : Nat} {a b : List Int} (h : Rl n a) (k : Rl n b) : belowB (bothL a b) b = true := by
  rw [below_iff (h.both k) k]
  intro i j hi hj e
  rw [hB_both h k i j hi hj, Bool.and_eq_true] at e
  exact e.2
theorem turn_other {n : Nat} {a : List Int} (h : Rl n a) : turnL (otherL a) = otherL (turnL a) :=
  Rl.ext h.other.turn h.turn.other fun i j hi hj => by rw [hB_turn h.other i j hi hj, hB_other h j i hj hi, hB_other h.turn i j hi hj, hB_turn h i j hi hj]
/-! as many pairs turned -/
def b2 (b : Bool) : Int := if b then 1 else 0
theorem cnt_has : ∀ z : Fin 16, cnt (z.val : Int) = b2 (hasB (z.val : Int) 0) + b2 (hasB (z.val : Int) 1) + b2 (hasB (z.val : Int) 2) + b2 (hasB (z.val : Int) 3) := by decide +kernel
theorem has_zero : ∀ j : Fin 4, hasB 0 j.val = false := by decide +kernel
theorem cnt_hB {n : Nat} {a : List Int} (h : Rl n a) (i : Nat) : cnt (rowAt a i) = b2 (hB a i 0) + b2 (hB a i 1) + b2 (hB a i 2) + b2 (hB a i 3) := by
  obtain ⟨y, hy, _⟩ := h.row i
  unfold hB
  rw [hy]
  exact cnt_has y
theorem hB_out {n : Nat} {a : List Int} (h : Rl n a) (i j : Nat) (hj : j < 4) (ho : ¬ (i < n ∧ j < n)) : hB a i j = false := by
  have h4 := h.four
  by_cases hjn : j < n
  · have hi : n ≤ i := by omega
    have e : rowAt a i = 0 := by
      unfold rowAt
      rw [List.getD_eq_getElem?_getD, List.getElem?_eq_none (by rw [h.len]; exact hi)]
      rfl
    unfold hB
    rw [e]
    exact has_zero ⟨j, hj⟩
  · obtain ⟨y, hy, hl⟩ := h.row i
    unfold hB
    rw [hy]
    exact b_out ⟨n, by omega⟩ y hl ⟨j, hj⟩ (by simpa using hjn)
theorem hB_turn4 {n : Nat} {a : List Int} (h : Rl n a) (i j : Nat) (hi : i < 4) (hj : j < 4) : hB (turnL a) i j = hB a j i := by
  by_cases hin : i < n ∧ j < n
  · exact hB_turn h i j hin.1 hin.2
  · rw [hB_out h.turn i j hj hin, hB_out h j i hi (fun e => hin ⟨e.2, e.1⟩)]
theorem size_rows {n : Nat} {a : List Int} (h : Rl n a) : sizeL a = cnt (rowAt a 0) + cnt (rowAt a 1) + cnt (rowAt a 2) + cnt (rowAt a 3) := by
  have h1 := h.one
  have h4 := h.four
  have hl := h.len
  match a, hl with
  | [], hl => simp at hl; omega
  | [x], _ => simp [sizeL, rowAt, cnt]
  | [x, y], _ => simp [sizeL, rowAt, cnt]
  | [x, y, z], _ => simp [sizeL, rowAt, cnt]
  | [x, y, z, u], _ => simp [sizeL, rowAt, cnt]
  | _ :: _ :: _ :: _ :: _ :: _, hl => simp at hl; omega
theorem size_turn {n : Nat} {a : List Int} (h : Rl n a) : sizeL (turnL a) = sizeL a := by
  have e := fun i (hi : i < 4) => cnt_hB h.turn i
  rw [size_rows h.turn, size_rows h, cnt_hB h.turn, cnt_hB h.turn, cnt_hB h.turn, cnt_hB h.turn, cnt_hB h, cnt_hB h, cnt_hB h, cnt_hB h]
  rw [hB_turn4 h 0 0 (by decide) (by decide), hB_turn4 h 0 1 (by decide) (by decide), hB_turn4 h 0 2 (by decide) (by decide), hB_turn4 h 0 3 (by decide) (by decide),
    hB_turn4 h 1 0 (by decide) (by decide), hB_turn4 h 1 1 (by decide) (by decide), hB_turn4 h 1 2 (by decide) (by decide), hB_turn4 h 1 3 (by decide) (by decide),
    hB_turn4 h 2 0 (by decide) (by decide), hB_turn4 h 2 1 (by decide) (by decide), hB_turn4 h 2 2 (by decide) (by decide), hB_turn4 h 2 3 (by decide) (by decide),
    hB_turn4 h 3 0 (by decide) (by decide), hB_turn4 h 3 1 (by decide) (by decide), hB_turn4 h 3 2 (by decide) (by decide), hB_turn4 h 3 3 (by decide) (by decide)]
  omega
theorem cSize {n : Nat} {xs : List Int} (h : Rl n xs) (s : Int) (hs : sizeL xs = s) (ao : Option Addr) (ca : Nat) (w : World) (hx : Rd w ao xs) : Calls Tryz.prog 8 #[.slice ao xs.length ca] w fun e w' => e = .returned (.tuple #[.int .i64 s, .bool true]) ∧ Below w.heap.size w w' := by
  have := implRelSize_any ao ca xs w (rl_short h) hx
  rw [h.ok] at this
  subst hs
  exact this

/-! stars are powers of more -/
theorem pow_more {a : List Int} (h : Rl a.length a) (k : Nat) : powL (eitherL a (sameL a.length)) k = upL a k := by
  have hs := Rl.same h.one h.four
  have hb : (eitherL a (sameL a.length)).length = a.length := (h.either hs).len
  have hb' : Rl (eitherL a (sameL a.length)).length (eitherL a (sameL a.length)) := by rw [hb]; exact h.either hs
  induction k with
  | zero =>
    show sameL (eitherL a (sameL a.length)).length = sameL a.length
    rw [hb]
  | succ k ih =>
    show compL (powL (eitherL a (sameL a.length)) k) (eitherL a (sameL a.length)) = eitherL (upL a k) (compL (upL a k) a)
    rw [ih]
    refine ((h.up k).comp (h.either hs)).ext ((h.up k).either ((h.up k).comp h)) fun i j hi hj => ?_
    rw [Bool.eq_iff_iff, hB_either (h.up k) ((h.up k).comp h) i j hi hj, Bool.or_eq_true, hB_comp (h.up k) (h.either hs) i j hi hj, hB_comp (h.up k) h i j hi hj]
    constructor
    · rintro ⟨l, hl, e1, e2⟩
      rw [hB_either h hs l j hl hj, Bool.or_eq_true] at e2
      rcases e2 with e2 | e2
      · exact .inr ⟨l, hl, e1, e2⟩
      · rw [hB_same h.four l j hl hj] at e2
        have := of_decide_eq_true e2
        subst this
        exact .inl e1
    · rintro (e | ⟨l, hl, e1, e2⟩)
      · refine ⟨j, hj, e, ?_⟩
        rw [hB_either h hs j j hj hj, hB_same h.four j j hj hj]
        simp
      · refine ⟨l, hl, e1, ?_⟩
        rw [hB_either h hs l j hl hj, e2]
        rfl
theorem star_pow {a : List Int} (h : Rl a.length a) : powL (eitherL a (sameL a.length)) a.length = starL a := by
  rw [pow_more h]
  refine (h.up _).ext h.star fun i j hi hj => ?_
  unfold starL
  rw [Bool.eq_iff_iff, hB_up h i j hi hj, hB_either h.reach (Rl.same h.one h.four) i j hi hj, Bool.or_eq_true, hB_reach h i j hi hj]
  constructor
  · rintro ⟨t, ht, e⟩
    rcases Nat.eq_zero_or_pos t with rfl | h1
    · exact .inr e
    · exact .inl ⟨t, h1, e⟩
  · rintro (⟨t, h1, e⟩ | e)
    · obtain ⟨s, _, hs2, e2⟩ := short1 h i j hi hj t h1 e
      exact ⟨s, hs2, e2⟩
    · exact ⟨0, Nat.zero_le _, e⟩
theorem cPower {n : Nat} {xs : List Int} (h : Rl n xs) (k : Nat) (hk : k ≤ 100) (ao : Option Addr) (ca : Nat) (w : World) (hx : Rd w ao xs) : Calls Tryz.prog 151 #[.slice ao xs.length ca, .int .i64 k] w (Gave w (powL xs k) true) := by
  have := implCompPower_any ao ca xs k w (rl_short h) hx
  rw [h.ok, show inB (k : Int) 0 100 = true from decide_eq_true ⟨by omega, by omega⟩] at this
  exact this
end Go.Proofs.YthdnpcpimggjnaaGreatDoor

namespace Go.Proofs.YthdnpcpimggjnaaGreatDoor
open Go.RowKit

/-! sizes -/
theorem b2_le (b : Bool) : 0 ≤ b2 b ∧ b2 b ≤ 1 := by cases b <;> decide
theorem size_sum {n : Nat} {a : List Int} (R : Rl n a) : sizeL a = (b2 (hB a 0 0) + b2 (hB a 0 1) + b2 (hB a 0 2) + b2 (hB a 0 3)) + (b2 (hB a 1 0) + b2 (hB a 1 1) + b2 (hB a 1 2) + b2 (hB a 1 3)) + (b2 (hB a 2 0) + b2 (hB a 2 1) + b2 (hB a 2 2) + b2 (hB a 2 3)) + (b2 (hB a 3 0) + b2 (hB a 3 1) + b2 (hB a 3 2) + b2 (hB a 3 3)) := by
  rw [size_rows R, cnt_hB R, cnt_hB R, cnt_hB R, cnt_hB R]
theorem size_sq {n : Nat} {a : List Int} (R : Rl n a) : sizeL a ≤ (n : Int) * (n : Int) := by
  rw [size_sum R]
  have h1 := R.one
  have h4 := R.four
  have hle := fun i j => b2_le (hB a i j)
  have h0 := fun (i j : Nat) (hj : j < 4) (ho : ¬ (i < n ∧ j < n)) => show b2 (hB a i j) = 0 by rw [hB_out R i j hj ho]; rfl
  have c00 := hle 0 0; have c01 := hle 0 1; have c02 := hle 0 2; have c03 := hle 0 3
  have c10 := hle 1 0; have c11 := hle 1 1; have c12 := hle 1 2; have c13 := hle 1 3
  have c20 := hle 2 0; have c21 := hle 2 1; have c22 := hle 2 2; have c23 := hle 2 3
  have c30 := hle 3 0; have c31 := hle 3 1; have c32 := hle 3 2; have c33 := hle 3 3
  rcases (by omega : n = 1 ∨ n = 2 ∨ n = 3 ∨ n = 4) with e | e | e | e
  · have z01 := h0 0 1 (by omega) (by omega); have z02 := h0 0 2 (by omega) (by omega); have z03 := h0 0 3 (by omega) (by omega)
    have z10 := h0 1 0 (by omega) (by omega); have z11 := h0 1 1 (by omega) (by omega); have z12 := h0 1 2 (by omega) (by omega); have z13 := h0 1 3 (by omega) (by omega)
    have z20 := h0 2 0 (by omega) (by omega); have z21 := h0 2 1 (by omega) (by omega); have z22 := h0 2 2 (by omega) (by omega); have z23 := h0 2 3 (by omega) (by omega)
    have z30 := h0 3 0 (by omega) (by omega); have z31 := h0 3 1 (by omega) (by omega); have z32 := h0 3 2 (by omega) (by omega); have z33 := h0 3 3 (by omega) (by omega)
    rw [e]
    omega
  · have z02 := h0 0 2 (by omega) (by omega); have z03 := h0 0 3 (by omega) (by omega)
    have z12 := h0 1 2 (by omega) (by omega); have z13 := h0 1 3 (by omega) (by omega)
    have z20 := h0 2 0 (by omega) (by omega); have z21 := h0 2 1 (by omega) (by omega); have z22 := h0 2 2 (by omega) (by omega); have z23 := h0 2 3 (by omega) (by omega)
    have z30 := h0 3 0 (by omega) (by omega); have z31 := h0 3 1 (by omega) (by omega); have z32 := h0 3 2 (by omega) (by omega); have z33 := h0 3 3 (by omega) (by omega)
    rw [e]
    omega
  · have z03 := h0 0 3 (by omega) (by omega)
    have z13 := h0 1 3 (by omega) (by omega)
    have z23 := h0 2 3 (by omega) (by omega)
    have z30 := h0 3 0 (by omega) (by omega); have z31 := h0 3 1 (by omega) (by omega); have z32 := h0 3 2 (by omega) (by omega); have z33 := h0 3 3 (by omega) (by omega)
    rw [e]
    omega
  · rw [e]
    omega
theorem size_none {n : Nat} {a : List Int} (R : Rl n a) (h : ∀ i j, i < n → j < n → hB a i j = false) : sizeL a = 0 := by
  rw [size_sum R]
  have h0 := fun (i j : Nat) (hj : j < 4) => show b2 (hB a i j) = 0 by
    by_cases ho : i < n ∧ j < n
    · rw [h i j ho.1 ho.2]; rfl
    · rw [hB_out R i j hj ho]; rfl
  rw [h0 0 0 (by omega), h0 0 1 (by omega), h0 0 2 (by omega), h0 0 3 (by omega), h0 1 0 (by omega), h0 1 1 (by omega), h0 1 2 (by omega), h0 1 3 (by omega),
    h0 2 0 (by omega), h0 2 1 (by omega), h0 2 2 (by omega), h0 2 3 (by omega), h0 3 0 (by omega), h0 3 1 (by omega), h0 3 2 (by omega), h0 3 3 (by omega)]
  rfl
theorem size_some {n : Nat} {a : List Int} (R : Rl n a) (i j : Nat) (hi : i < n) (hj : j < n) (h : hB a i j = true) : 1 ≤ sizeL a := by
  rw [size_sum R]
  have h4 := R.four
  have hle := fun i j => b2_le (hB a i j)
  have c00 := hle 0 0; have c01 := hle 0 1; have c02 := hle 0 2; have c03 := hle 0 3
  have c10 := hle 1 0; have c11 := hle 1 1; have c12 := hle 1 2; have c13 := hle 1 3
  have c20 := hle 2 0; have c21 := hle 2 1; have c22 := hle 2 2; have c23 := hle 2 3
  have c30 := hle 3 0; have c31 := hle 3 1; have c32 := hle 3 2; have c33 := hle 3 3
  have h1 : b2 (hB a i j) = 1 := by rw [h]; rfl
  clear hle h
  rcases (by omega : i = 0 ∨ i = 1 ∨ i = 2 ∨ i = 3) with rfl | rfl | rfl | rfl <;> rcases (by omega : j = 0 ∨ j = 1 ∨ j = 2 ∨ j = 3) with rfl | rfl | rfl | rfl <;> omega
end Go.Proofs.YthdnpcpimggjnaaGreatDoor

namespace Go.Proofs.YthdnpcpimggjnaaGreatDoor
open Go.RowKit

theorem sameR {n : Nat} {xs : List Int} (h : Rl n xs) (w : World) : Calls Tryz.prog 107 #[.int .i64 xs.length] w fun e w' => e = .returned (relOf (sameL xs.length)) ∧ Below w.heap.size w w' := sameOn_any xs.length w (h.len.symm ▸ h.one) (h.len.symm ▸ h.four)
theorem bothR {n : Nat} {xs ys : List Int} (h : Rl n xs) (k : Rl n ys) (w : World) : Calls Tryz.prog 176 #[relOf xs, relOf ys] w fun e w' => e = .returned (relOf (bothL xs ys)) ∧ Below w.heap.size w w' := both_any xs ys w (h.len.symm ▸ h.four) (h.len.trans k.len.symm)
theorem eitherR' {n : Nat} {xs ys : List Int} (h : Rl n xs) (k : Rl n ys) (w : World) : Calls Tryz.prog 114 #[relOf xs, relOf ys] w fun e w' => e = .returned (relOf (eitherL xs ys)) ∧ Below w.heap.size w w' := either_any xs ys w (h.len.symm ▸ h.four) (h.len.trans k.len.symm)
theorem belowR {n : Nat} {xs ys : List Int} (h : Rl n xs) (k : Rl n ys) (w : World) : Calls Tryz.prog 108 #[relOf xs, relOf ys] w fun e w' => e = .returned (.bool (belowB xs ys)) ∧ Below w.heap.size w w' := below_any xs ys w (h.len.symm ▸ h).ok (k.len.symm ▸ k).ok (h.len.trans k.len.symm)

set_option maxRecDepth 100000 in
set_option maxHeartbeats 4000000 in
theorem between_walk (xs a b c : List Int) (w : World)
    (h1 : ∀ w, Calls Tryz.prog 107 #[.int .i64 xs.length] w fun e w' => e = .returned (relOf a) ∧ Below w.heap.size w w')
    (h2 : ∀ w, Calls Tryz.prog 113 #[relOf a] w fun e w' => e = .returned (relOf b) ∧ Below w.heap.size w w')
    (h3 : ∀ w, Calls Tryz.prog 176 #[relOf xs, relOf b] w fun e w' => e = .returned (relOf c) ∧ Below w.heap.size w w') :
    Calls Tryz.prog 109 #[relOf xs] w fun e w' => e = .returned (relOf c) ∧ Below w.heap.size w w' := by
  have x0 := (RelAt.new w xs).alloc (.cells #[.int .i64 0, .int .i64 0, .int .i64 0, .int .i64 0, .int .i64 0] 36)
  have z0 := rel_zero (w.alloc (.cells #[.int .i64 xs.length, .int .i64 (rowAt xs 0), .int .i64 (rowAt xs 1), .int .i64 (rowAt xs 2), .int .i64 (rowAt xs 3)] 36))
  have B0 := below_two w (.cells #[.int .i64 xs.length, .int .i64 (rowAt xs 0), .int .i64 (rowAt xs 1), .int .i64 (rowAt xs 2), .int .i64 (rowAt xs 3)] 36) (.cells #[.int .i64 0, .int .i64 0, .int .i64 0, .int .i64 0, .int .i64 0] 36)
  simp only [World.size_alloc] at z0
  have H := Lib.hid (And.intro h1 (And.intro h2 h3))
  clear h1 h2 h3
  have p0 := x0.cell0
  have p1 := x0.cell1
  have p2 := x0.cell2
  have p3 := x0.cell3
  have p4 := x0.cell4
  go_enter Tryz.func109, Tryz.ntmps109
  go_wp2
  obtain ⟨W0, hW0⟩ : ∃ W0, (w.alloc (.cells #[.int .i64 xs.length, .int .i64 (rowAt xs 0), .int .i64 (rowAt xs 1), .int .i64 (rowAt xs 2), .int .i64 (rowAt xs 3)] 36)).alloc (.cells #[.int .i64 0, .int .i64 0, .int .i64 0, .int .i64 0, .int .i64 0] 36) = W0 := ⟨_, rfl⟩
  rw [hW0] at p0 p1 p2 p3 p4 x0 B0 ⊢
  rw [hW0] at z0
  clear hW0
  have x := x0.drew
  have B := B0.drew
  have z := z0.drew
  clear x0 B0 z0
  go_region_held (fun w' => w'.cell? ⟨w.heap.size, 0, none⟩ = some (.int .i64 xs.length) ∧ w'.cell? ⟨w.heap.size, 1, none⟩ = some (.int .i64 (rowAt xs 0)) ∧ w'.cell? ⟨w.heap.size, 2, none⟩ = some (.int .i64 (rowAt xs 1)) ∧ w'.cell? ⟨w.heap.size, 3, none⟩ = some (.int .i64 (rowAt xs 2)) ∧ w'.cell? ⟨w.heap.size, 4, none⟩ = some (.int .i64 (rowAt xs 3))) (go_keep) (first
    | (go_at_call 107; refine (H.out.1 _).mono ?_; rintro e w2 ⟨rfl, hb⟩; have x := x.below hb x.lt; have B := B.trans (hb.mono B.size); have p0 := x.cell0; have p1 := x.cell1; have p2 := x.cell2; have p3 := x.cell3; have p4 := x.cell4; have z := z.below hb z.lt; have f0 := z.free 0; have f1 := z.free 1; have f2 := z.free 2; have f3 := z.free 3; have f4 := z.free 4; have u0 := z.cell0; have u1 := z.cell1; have u2 := z.cell2; have u3 := z.cell3; have u4 := z.cell4; clear hb)
    | (go_at_call 113; refine (H.out.2.1 _).mono ?_; rintro e w3 ⟨rfl, hb⟩; have x := x.below hb x.lt; have B := B.trans (hb.mono B.size); have p0 := x.cell0; have p1 := x.cell1; have p2 := x.cell2; have p3 := x.cell3; have p4 := x.cell4; have z := z.below hb z.lt; have f0 := z.free 0; have f1 := z.free 1; have f2 := z.free 2; have f3 := z.free 3; have f4 := z.free 4; have u0 := z.cell0; have u1 := z.cell1; have u2 := z.cell2; have u3 := z.cell3; have u4 := z.cell4; clear hb)
    | (go_at_call 176; refine (H.out.2.2 _).mono ?_; rintro e w4 ⟨rfl, hb⟩; have x := x.below hb x.lt; have B := B.trans (hb.mono B.size); have p0 := x.cell0; have p1 := x.cell1; have p2 := x.cell2; have p3 := x.cell3; have p4 := x.cell4; have z := z.below hb z.lt; have f0 := z.free 0; have f1 := z.free 1; have f2 := z.free 2; have f3 := z.free 3; have f4 := z.free 4; have u0 := z.cell0; have u1 := z.cell1; have u2 := z.cell2; have u3 := z.cell3; have u4 := z.cell4; clear hb))
  all_goals
    go_wp2
    refine bodyPost_ret (v := relOf c) (by simp [results, Tryz.results109, go_sem, u0, u1, u2, u3, u4]) rfl ⟨rfl, ?_⟩
    have bb := fun (W : World) (j : Nat) (v : Value) (h : Below w.heap.size w W) => h.setCell (p := ⟨w.heap.size + 1, j, none⟩) (by simp) v
    exact bb _ _ _ (bb _ _ _ (bb _ _ _ (bb _ _ _ (bb _ _ _ B))))

theorem offR {n : Nat} {xs : List Int} (h : Rl n xs) (w : World) : Calls Tryz.prog 109 #[relOf xs] w fun e w' => e = .returned (relOf (offI xs)) ∧ Below w.heap.size w w' := by
  have hs : Rl n (sameL xs.length) := by rw [h.len]; exact Rl.same h.one h.four
  exact between_walk xs (sameL xs.length) (otherL (sameL xs.length)) (offI xs) w (fun w => sameR h w) (fun w => otherR hs w) (fun w => bothR h hs.other w)

set_option maxRecDepth 100000 in
set_option maxHeartbeats 4000000 in
theorem inBoth_walk (xs a b : List Int) (w : World)
    (h1 : ∀ w, Calls Tryz.prog 110 #[relOf xs] w fun e w' => e = .returned (relOf a) ∧ Below w.heap.size w w')
    (h2 : ∀ w, Calls Tryz.prog 176 #[relOf xs, relOf a] w fun e w' => e = .returned (relOf b) ∧ Below w.heap.size w w') :
    Calls Tryz.prog 111 #[relOf xs] w fun e w' => e = .returned (relOf b) ∧ Below w.heap.size w w' := by
  have x0 := (RelAt.new w xs).alloc (.cells #[.int .i64 0, .int .i64 0, .int .i64 0, .int .i64 0, .int .i64 0] 36)
  have z0 := rel_zero (w.alloc (.cells #[.int .i64 xs.length, .int .i64 (rowAt xs 0), .int .i64 (rowAt xs 1), .int .i64 (rowAt xs 2), .int .i64 (rowAt xs 3)] 36))
  have B0 := below_two w (.cells #[.int .i64 xs.length, .int .i64 (rowAt xs 0), .int .i64 (rowAt xs 1), .int .i64 (rowAt xs 2), .int .i64 (rowAt xs 3)] 36) (.cells #[.int .i64 0, .int .i64 0, .int .i64 0, .int .i64 0, .int .i64 0] 36)
  simp only [World.size_alloc] at z0
  have H := Lib.hid (And.intro h1 h2)
  clear h1 h2
  have p0 := x0.cell0
  have p1 := x0.cell1
  have p2 := x0.cell2
  have p3 := x0.cell3
  have p4 := x0.cell4
  go_enter Tryz.func111, Tryz.ntmps111
  go_wp2
  obtain ⟨W0, hW0⟩ : ∃ W0, (w.alloc (.cells #[.int .i64 xs.length, .int .i64 (rowAt xs 0), .int .i64 (rowAt xs 1), .int .i64 (rowAt xs 2), .int .i64 (rowAt xs 3)] 36)).alloc (.cells #[.int .i64 0, .int .i64 0, .int .i64 0, .int .i64 0, .int .i64 0] 36) = W0 := ⟨_, rfl⟩
  rw [hW0] at p0 p1 p2 p3 p4 x0 B0 ⊢
  rw [hW0] at z0
  clear hW0
  have x := x0.drew
  have B := B0.drew
  have z := z0.drew
  clear x0 B0 z0
  go_region_held (fun w' => w'.cell? ⟨w.heap.size, 0, none⟩ = some (.int .i64 xs.length) ∧ w'.cell? ⟨w.heap.size, 1, none⟩ = some (.int .i64 (rowAt xs 0)) ∧ w'.cell? ⟨w.heap.size, 2, none⟩ = some (.int .i64 (rowAt xs 1)) ∧ w'.cell? ⟨w.heap.size, 3, none⟩ = some (.int .i64 (rowAt xs 2)) ∧ w'.cell? ⟨w.heap.size, 4, none⟩ = some (.int .i64 (rowAt xs 3))) (go_keep) (first
    | (go_at_call 110; refine (H.out.1 _).mono ?_; rintro e w2 ⟨rfl, hb⟩; have x := x.below hb x.lt; have B := B.trans (hb.mono B.size); have p0 := x.cell0; have p1 := x.cell1; have p2 := x.cell2; have p3 := x.cell3; have p4 := x.cell4; have z := z.below hb z.lt; have f0 := z.free 0; have f1 := z.free 1; have f2 := z.free 2; have f3 := z.free 3; have f4 := z.free 4; have u0 := z.cell0; have u1 := z.cell1; have u2 := z.cell2; have u3 := z.cell3; have u4 := z.cell4; clear hb)
    | (go_at_call 176; refine (H.out.2 _).mono ?_; rintro e w3 ⟨rfl, hb⟩; have x := x.below hb x.lt; have B := B.trans (hb.mono B.size); have p0 := x.cell0; have p1 := x.cell1; have p2 := x.cell2; have p3 := x.cell3; have p4 := x.cell4; have z := z.below hb z.lt; have f0 := z.free 0; have f1 := z.free 1; have f2 := z.free 2; have f3 := z.free 3; have f4 := z.free 4; have u0 := z.cell0; have u1 := z.cell1; have u2 := z.cell2; have u3 := z.cell3; have u4 := z.cell4; clear hb))
  all_goals
    go_wp2
    refine bodyPost_ret (v := relOf b) (by simp [results, Tryz.results111, go_sem, u0, u1, u2, u3, u4]) rfl ⟨rfl, ?_⟩
    have bb := fun (W : World) (j : Nat) (v : Value) (h : Below w.heap.size w W) => h.setCell (p := ⟨w.heap.size + 1, j, none⟩) (by simp) v
    exact bb _ _ _ (bb _ _ _ (bb _ _ _ (bb _ _ _ (bb _ _ _ B))))

theorem twoR {n : Nat} {xs : List Int} (h : Rl n xs) (w : World) : Calls Tryz.prog 111 #[relOf xs] w fun e w' => e = .returned (relOf (twoW xs)) ∧ Below w.heap.size w w' :=
  inBoth_walk xs (turnL xs) (twoW xs) w (fun w => turnedR h w) (fun w => bothR h h.turn w)
end Go.Proofs.YthdnpcpimggjnaaGreatDoor
