/-
  Facts and contracts for laws on drawn relations: below, split, sizes, all kinds, points alone, maps.
-/
import Derived.Test.YtpbkgdohfnjjpaaGC
import Derived.Test.YtpbkgdohfnjjpaaHK
import Derived.Test.YtpbkgdohfnjjpaaHS
import Derived.Test.YtpbkgdohfnjjpaaHMb
import Derived.Test.YtpbkgdohfnjjpaaHN
import Derived.Test.YtpbkgdohfnjjpaaHL
namespace Go.Proofs.Ytpbkgdohfnjjpaa
open Go.RowKit

/-! below -/
theorem lo_both {n : Nat} {a b : List Int} (R : Rl n a) (S : Rl n b) (h : belowB a b = true) : bothL a b = a := by
  rw [below_iff R S] at h
  refine (R.both S).ext R fun i j hi hj => ?_
  rw [hB_both R S i j hi hj]
  cases e : hB a i j with
  | false => rfl
  | true => rw [h i j hi hj e]; rfl
theorem lo_either {n : Nat} {a b : List Int} (R : Rl n a) (S : Rl n b) (h : belowB a b = true) : eitherL a b = b := by
  rw [below_iff R S] at h
  refine (R.either S).ext S fun i j hi hj => ?_
  rw [hB_either R S i j hi hj]
  cases e : hB a i j with
  | false => rfl
  | true => rw [h i j hi hj e]; rfl
theorem lo_turn {n : Nat} {a b : List Int} (R : Rl n a) (S : Rl n b) (h : belowB a b = true) : belowB (turnL a) (turnL b) = true := by
  rw [below_iff R S] at h
  rw [below_iff R.turn S.turn]
  intro i j hi hj e
  rw [hB_turn R i j hi hj] at e
  rw [hB_turn S i j hi hj]
  exact h j i hj hi e
theorem lo_two {a b : List Int} (h : (twoIn a b && belowB a b) = true) : Rl a.length a ∧ Rl a.length b ∧ belowB a b = true := by
  rw [Bool.and_eq_true] at h
  obtain ⟨R, S⟩ := two_rl h.1
  exact ⟨R, S, h.2⟩

theorem kindS_split {n : Nat} {xs : List Int} (h : Rl n xs) : kindS xs = true ↔ ∀ i j, i < n → j < n → hB xs i j = true → hB xs j i = true := by
  unfold kindS
  rw [decide_eq_true_iff]
  constructor
  · intro e i j hi hj h1
    rw [e, hB_turn h i j hi hj] at h1
    exact h1
  · intro e
    refine h.ext h.turn fun i j hi hj => ?_
    rw [hB_turn h i j hi hj]
    exact bool_iff ⟨e i j hi hj, e j i hj hi⟩

/-! split -/
def isT2 : ByteArray := ⟨#[105, 115]⟩
def iaT2 : ByteArray := ⟨#[105, 97]⟩
def iT1 : ByteArray := ⟨#[105]⟩
theorem two_all {xs : List Int} (c d : UInt8) : allK xs ⟨#[c, d]⟩ = (kindB c.toNat xs && kindB d.toNat xs) := by
  unfold allK allTo
  show (List.range 2).all (fun i => kindB (byt ⟨#[c, d]⟩ i) xs) = _
  rw [show List.range 2 = [0, 1] from rfl, List.all_cons, List.all_cons, List.all_nil, Bool.and_true]
  rfl
theorem oneK_all {xs : List Int} (c : UInt8) : allK xs ⟨#[c]⟩ = kindB c.toNat xs := by
  unfold allK allTo
  show (List.range 1).all (fun i => kindB (byt ⟨#[c]⟩ i) xs) = _
  rw [show List.range 1 = [0] from rfl, List.all_cons, List.all_nil, Bool.and_true]
  rfl
theorem split_either {n : Nat} {a : List Int} (R : Rl n a) : eitherL (turnsL a) (oneWayL a) = offI a := by
  refine (R.turns.either R.oneWay).ext R.off fun i j hi hj => ?_
  rw [hB_either R.turns R.oneWay i j hi hj]
  unfold oneWayL
  rw [hB_both R.off R.turns.other i j hi hj, hB_other R.turns i j hi hj]
  unfold turnsL
  rw [hB_twoW R.off i j hi hj]
  cases hB (offI a) i j <;> cases hB (offI a) j i <;> rfl
theorem most_i (a : List Int) : mostL a iT1 = offI a := by
  unfold mostL
  rw [show hasTo iT1 115 iT1.size = false by decide +kernel, show hasTo iT1 105 iT1.size = true by decide +kernel]
  rfl
theorem mostB_i {n : Nat} {a : List Int} (R : Rl n a) : mostB a iT1 = true := by
  unfold mostB
  rw [R.ok, show textTo iT1 isT iT1.size = true by decide +kernel]
  rfl
theorem irr_off {n : Nat} {xs a : List Int} (R : Rl n xs) (S : Rl n a) (h : ∀ i j, i < n → j < n → hB xs i j = true → hB (offI a) i j = true) : kindI xs = true := by
  rw [← isI R]
  refine decide_eq_true (R.off.ext R fun i j hi hj => ?_)
  rw [hB_off R i j hi hj]
  cases e : hB xs i j with
  | false => rfl
  | true =>
    have := h i j hi hj e
    rw [hB_off S i j hi hj, Bool.and_eq_true] at this
    rw [this.2]
    rfl
theorem split_is {n : Nat} {a : List Int} (R : Rl n a) : kindInB (turnsL a) isT2 = true := by
  have T := R.turns
  unfold kindInB
  rw [T.ok, show textTo isT2 risat isT2.size = true by decide +kernel, show allK (turnsL a) isT2 = (kindI (turnsL a) && kindS (turnsL a)) from two_all 105 115]
  rw [irr_off T R (fun i j hi hj h => by
    unfold turnsL at h
    rw [hB_twoW R.off i j hi hj, Bool.and_eq_true] at h
    exact h.1)]
  rw [(kindS_split T).2 fun i j hi hj h => by
    unfold turnsL at h ⊢
    rw [hB_twoW R.off i j hi hj, Bool.and_eq_true] at h
    rw [hB_twoW R.off j i hj hi, h.1, h.2]
    rfl]
  rfl
theorem split_ia {n : Nat} {a : List Int} (R : Rl n a) : kindInB (oneWayL a) iaT2 = true := by
  have T := R.turns
  have O := R.oneWay
  have hO : ∀ i j, i < n → j < n → hB (oneWayL a) i j = true → hB (offI a) i j = true ∧ hB (offI a) j i = false := by
    intro i j hi hj h
    unfold oneWayL at h
    rw [hB_both R.off T.other i j hi hj, hB_other T i j hi hj, Bool.and_eq_true] at h
    have h1 := h.1
    unfold turnsL at h
    rw [hB_twoW R.off i j hi hj, h1] at h
    exact ⟨h1, by simpa using h⟩
  unfold kindInB
  rw [O.ok, show textTo iaT2 risat iaT2.size = true by decide +kernel, show allK (oneWayL a) iaT2 = (kindI (oneWayL a) && kindA (oneWayL a)) from two_all 105 97]
  rw [irr_off O R (fun i j hi hj h => (hO i j hi hj h).1)]
  have hA : kindA (oneWayL a) = true := by
    unfold kindA
    rw [O.len, below_same (O.both O.turn)]
    intro i j hi hj h
    rw [hB_both O O.turn i j hi hj, hB_turn O i j hi hj, Bool.and_eq_true] at h
    have h1 := hO i j hi hj h.1
    have h2 := hO j i hj hi h.2
    rw [h2.1] at h1
    cases h1.2
  rw [hA]
  rfl

/-! sizes -/
theorem b2_le (b : Bool) : 0 ≤ b2 b ∧ b2 b ≤ 1 := by cases b <;> decide
theorem size_sum {n : Nat} {a : List Int} (R : Rl n a) : sizeL a = (b2 (hB a 0 0) + b2 (hB a 0 1) + b2 (hB a 0 2) + b2 (hB a 0 3)) + (b2 (hB a 1 0) + b2 (hB a 1 1) + b2 (hB a 1 2) + b2 (hB a 1 3)) + (b2 (hB a 2 0) + b2 (hB a 2 1) + b2 (hB a 2 2) + b2 (hB a 2 3)) + (b2 (hB a 3 0) + b2 (hB a 3 1) + b2 (hB a 3 2) + b2 (hB a 3 3)) := by
  rw [size_rows R, cnt_hB R, cnt_hB R, cnt_hB R, cnt_hB R]
theorem size_sq {n : Nat} {a : List Int} (R : Rl n a) : sizeL a ≤ (n : Int) * (n : Int) := by
  rw [size_sum R]
  have h1 := R.one
  have h4 := R.four
  have hle := fun i j => b2_le (hB a i j)
  have h0 := fun (i j : Nat) (hj : j < 4) (ho : ¬ (i < n ∧ j < n)) => show b2 (hB a i j) = 0 by rw [hB_out R i j hj ho]; rfl
  have c00 := hle 0 0; have c01 := hle 0 1; have c02 := hle 0 2; have c03 := hle 0 3
  have c10 := hle 1 0; have c11 := hle 1 1; have c12 := hle 1 2; have c13 := hle 1 3
  have c20 := hle 2 0; have c21 := hle 2 1; have c22 := hle 2 2; have c23 := hle 2 3
  have c30 := hle 3 0; have c31 := hle 3 1; have c32 := hle 3 2; have c33 := hle 3 3
  rcases (by omega : n = 1 ∨ n = 2 ∨ n = 3 ∨ n = 4) with e | e | e | e
  · have z01 := h0 0 1 (by omega) (by omega); have z02 := h0 0 2 (by omega) (by omega); have z03 := h0 0 3 (by omega) (by omega)
    have z10 := h0 1 0 (by omega) (by omega); have z11 := h0 1 1 (by omega) (by omega); have z12 := h0 1 2 (by omega) (by omega); have z13 := h0 1 3 (by omega) (by omega)
    have z20 := h0 2 0 (by omega) (by omega); have z21 := h0 2 1 (by omega) (by omega); have z22 := h0 2 2 (by omega) (by omega); have z23 := h0 2 3 (by omega) (by omega)
    have z30 := h0 3 0 (by omega) (by omega); have z31 := h0 3 1 (by omega) (by omega); have z32 := h0 3 2 (by omega) (by omega); have z33 := h0 3 3 (by omega) (by omega)
    rw [e]
    omega
  · have z02 := h0 0 2 (by omega) (by omega); have z03 := h0 0 3 (by omega) (by omega)
    have z12 := h0 1 2 (by omega) (by omega); have z13 := h0 1 3 (by omega) (by omega)
    have z20 := h0 2 0 (by omega) (by omega); have z21 := h0 2 1 (by omega) (by omega); have z22 := h0 2 2 (by omega) (by omega); have z23 := h0 2 3 (by omega) (by omega)
    have z30 := h0 3 0 (by omega) (by omega); have z31 := h0 3 1 (by omega) (by omega); have z32 := h0 3 2 (by omega) (by omega); have z33 := h0 3 3 (by omega) (by omega)
    rw [e]
    omega
  · have z03 := h0 0 3 (by omega) (by omega)
    have z13 := h0 1 3 (by omega) (by omega)
    have z23 := h0 2 3 (by omega) (by omega)
    have z30 := h0 3 0 (by omega) (by omega); have z31 := h0 3 1 (by omega) (by omega); have z32 := h0 3 2 (by omega) (by omega); have z33 := h0 3 3 (by omega) (by omega)
    rw [e]
    omega
  · rw [e]
    omega
theorem size_none {n : Nat} {a : List Int} (R : Rl n a) (h : ∀ i j, i < n → j < n → hB a i j = false) : sizeL a = 0 := by
  rw [size_sum R]
  have h0 := fun (i j : Nat) (hj : j < 4) => show b2 (hB a i j) = 0 by
    by_cases ho : i < n ∧ j < n
    · rw [h i j ho.1 ho.2]; rfl
    · rw [hB_out R i j hj ho]; rfl
  rw [h0 0 0 (by omega), h0 0 1 (by omega), h0 0 2 (by omega), h0 0 3 (by omega), h0 1 0 (by omega), h0 1 1 (by omega), h0 1 2 (by omega), h0 1 3 (by omega),
    h0 2 0 (by omega), h0 2 1 (by omega), h0 2 2 (by omega), h0 2 3 (by omega), h0 3 0 (by omega), h0 3 1 (by omega), h0 3 2 (by omega), h0 3 3 (by omega)]
  rfl
theorem size_some {n : Nat} {a : List Int} (R : Rl n a) (i j : Nat) (hi : i < n) (hj : j < n) (h : hB a i j = true) : 1 ≤ sizeL a := by
  rw [size_sum R]
  have h4 := R.four
  have hle := fun i j => b2_le (hB a i j)
  have c00 := hle 0 0; have c01 := hle 0 1; have c02 := hle 0 2; have c03 := hle 0 3
  have c10 := hle 1 0; have c11 := hle 1 1; have c12 := hle 1 2; have c13 := hle 1 3
  have c20 := hle 2 0; have c21 := hle 2 1; have c22 := hle 2 2; have c23 := hle 2 3
  have c30 := hle 3 0; have c31 := hle 3 1; have c32 := hle 3 2; have c33 := hle 3 3
  have h1 : b2 (hB a i j) = 1 := by rw [h]; rfl
  clear hle h
  rcases (by omega : i = 0 ∨ i = 1 ∨ i = 2 ∨ i = 3) with rfl | rfl | rfl | rfl <;> rcases (by omega : j = 0 ∨ j = 1 ∨ j = 2 ∨ j = 3) with rfl | rfl | rfl | rfl <;> omega
theorem no_pt : ∀ z : Fin 16, ∀ j : Fin 4, hasB (z.val : Int) j.val = true → ((z.val : Int) == 0) = false := by decide +kernel
theorem fold_some {n : Nat} (h4 : n ≤ 4) (f : Fin n × Fin n → Fin n) (l : List (Fin n × Fin n)) (p : Fin n × Fin n) (hp : p ∈ l) : ((l.foldl (fun s p => bits .or .i64 s (pt (f p).val)) (0 : Int)) == 0) = false := by
  obtain ⟨z, hz, hi⟩ := fold_ends h4 f l 0
  have hz : l.foldl (fun s p => bits .or .i64 s (pt (f p).val)) (0 : Int) = (z.val : Int) := hz
  rw [hz]
  exact no_pt z ⟨(f p).val, by have := (f p).isLt; omega⟩ ((hi ⟨(f p).val, by have := (f p).isLt; omega⟩).2 (.inr ⟨p, hp, rfl⟩))
/-- sizes and ends are none together -/
theorem size_ends {n : Nat} {a : List Int} (R : Rl n a) : ∃ b : Bool, (sizeL a == 0) = b ∧ (startsOf a == 0) = b ∧ (targetsOf a == 0) = b := by
  obtain rfl := R.len
  cases hl : pairsOf a with
  | nil =>
    refine ⟨true, ?_, ?_, ?_⟩
    · rw [size_none R fun i j hi hj => by
        cases e : hB a i j with
        | false => rfl
        | true =>
          have := (mem_pairs R.four (⟨i, hi⟩, ⟨j, hj⟩)).2 e
          rw [hl] at this
          cases this]
      rfl
    · unfold startsOf endsS
      rw [hl]
      rfl
    · unfold targetsOf endsT
      rw [hl]
      rfl
  | cons p r =>
    have hm : p ∈ pairsOf a := by rw [hl]; exact List.mem_cons_self
    refine ⟨false, ?_, fold_some R.four (fun p => p.1) (pairsOf a) p hm, fold_some R.four (fun p => p.2) (pairsOf a) p hm⟩
    have := size_some R p.1.val p.2.val p.1.isLt p.2.isLt ((mem_pairs R.four p).1 hm)
    exact beq_eq_false_iff_ne.2 (by omega)

/-! all kinds -/
theorem byt_str (l : List UInt8) (i : Nat) (h : i < l.length) : byt (strOf l) i = (l[i]).toNat := by
  unfold byt
  rw [dif_pos (by rw [str_size]; exact h)]
  rfl
theorem risat_inj : ∀ i j : Fin 10, byt risat i.val = byt risat j.val → i = j := by decide +kernel
theorem risat_byt : ∀ i : Fin 10, (risat.data.toList.getD i.val 0).toNat = byt risat i.val := by decide +kernel
theorem kinds_ok {n : Nat} {a : List Int} (R : Rl n a) : kindInB a (kindsOf a) = true := by
  obtain ⟨l, hl⟩ : ∃ l, (List.range 10).filter (fun i => kindB (byt risat i) a) = l := ⟨_, rfl⟩
  have hmem : ∀ i (h : i < l.length), l[i] < 10 ∧ kindB (byt risat l[i]) a = true := by
    subst hl
    intro i h
    have := List.mem_filter.1 (List.getElem_mem h)
    exact ⟨List.mem_range.1 this.1, this.2⟩
  have hnd : l.Nodup := hl ▸ List.Pairwise.filter _ List.nodup_range
  have hk : kindsOf a = strOf (l.map fun i => risat.data.toList.getD i 0) := by
    unfold kindsOf
    rw [R.ok, if_pos rfl]
    unfold pickL
    rw [hl]
  have hs : (kindsOf a).size = l.length := by rw [hk, str_size, List.length_map]
  have hb : ∀ i (h : i < l.length), byt (kindsOf a) i = byt risat l[i] := by
    intro i h
    rw [hk, byt_str _ i (by rw [List.length_map]; exact h), List.getElem_map]
    exact risat_byt ⟨l[i], (hmem i h).1⟩
  unfold kindInB
  rw [R.ok, Bool.true_and, Bool.and_eq_true]
  constructor
  · unfold textTo
    rw [List.all_eq_true]
    intro i hi
    have hi : i < l.length := by rw [← hs]; exact List.mem_range.1 hi
    unfold letB
    rw [hb i hi, risat_at l[i] (hmem i hi).1, Bool.true_and, Bool.not_eq_true']
    cases e : hasTo (kindsOf a) (byt risat l[i]) i with
    | false => rfl
    | true =>
      obtain ⟨k, hki, e2⟩ := (hasTo_iff _ _ _).1 e
      rw [hb k (by omega)] at e2
      have := risat_inj ⟨l[k], (hmem k (by omega)).1⟩ ⟨l[i], (hmem i hi).1⟩ e2
      have := congrArg Fin.val this
      exact absurd this (List.pairwise_iff_getElem.1 hnd k i _ _ hki)
  · unfold allK allTo
    rw [hs, List.all_eq_true]
    intro i hi
    have hi : i < l.length := List.mem_range.1 hi
    rw [hb i hi]
    exact (hmem i hi).2
theorem kinds_size (a : List Int) : (kindsOf a).size ≤ 1048576 := by
  unfold kindsOf
  split
  · rw [str_size]
    have := pick_len (fun i => kindB (byt risat i) a) 10
    omega
  · decide
theorem one_in {n : Nat} {a : List Int} (R : Rl n a) (c : UInt8) (h : textTo ⟨#[c]⟩ risat 1 = true) : kindInB a ⟨#[c]⟩ = kindB c.toNat a := by
  unfold kindInB
  rw [R.ok, show textTo ⟨#[c]⟩ risat (⟨#[c]⟩ : ByteArray).size = true from h, oneK_all]
  rfl
theorem in_f {n : Nat} {a : List Int} (R : Rl n a) : kindInB a ⟨#[102]⟩ = kindF a := one_in R 102 (by decide +kernel)
theorem in_d {n : Nat} {a : List Int} (R : Rl n a) : kindInB a ⟨#[100]⟩ = kindD a := one_in R 100 (by decide +kernel)
theorem in_j {n : Nat} {a : List Int} (R : Rl n a) : kindInB (turnL a) ⟨#[106]⟩ = kindF a := by
  rw [one_in R.turn 106 (by decide +kernel)]
  show kindJ (turnL a) = kindF a
  unfold kindJ kindF
  rw [turn_turn R, R.turn.len, R.len]
theorem in_o {n : Nat} {a : List Int} (R : Rl n a) : kindInB (turnL a) ⟨#[111]⟩ = kindD a := by
  rw [one_in R.turn 111 (by decide +kernel)]
  show kindO (turnL a) = kindD a
  unfold kindO kindD
  rw [turn_turn R, R.turn.len, R.len]

theorem str_beq (a : ByteArray) : (a == a) = true := by rcases a with ⟨d⟩; show (d == d) = true; simp
theorem str_bne (a : ByteArray) : (a != a) = false := by show (!(a == a)) = false; rw [str_beq]; rfl

/-! points alone -/
theorem same_size : sizeL (sameL 1) = 1 ∧ sizeL (sameL 2) = 2 ∧ sizeL (sameL 3) = 3 ∧ sizeL (sameL 4) = 4 := by decide +kernel
theorem same_kinds : kindsOf (sameL 1) = ⟨#[114, 115, 97, 116, 99, 102, 100, 106, 111]⟩ ∧ kindsOf (sameL 2) = ⟨#[114, 115, 97, 116, 102, 100, 106, 111]⟩ ∧
    kindsOf (sameL 3) = ⟨#[114, 115, 97, 116, 102, 100, 106, 111]⟩ ∧ kindsOf (sameL 4) = ⟨#[114, 115, 97, 116, 102, 100, 106, 111]⟩ := by decide +kernel

/-! maps -/
theorem low_pt : ∀ j : Fin 4, lowI (pt j.val) = j.val := by decide +kernel
theorem of_map {a : List Int} (h : isMapB a = true) : ofML (mapL a) = a ∧ ofMB (mapL a) = true := by
  have hp : relIn a = true := by
    unfold isMapB at h
    rw [Bool.and_eq_true] at h
    exact h.1
  have R := Rl.of hp
  constructor
  · apply List.ext_getElem?
    intro i
    unfold ofML mapL
    rw [List.map_map, List.getElem?_map]
    by_cases hi : i < a.length
    · rw [rowAt_get hi]
      have := (map_row h i hi).1
      show some (pt (lowI (rowAt a i) : Int).toNat) = some (rowAt a i)
      rw [Int.toNat_natCast, ← this]
    · rw [List.getElem?_eq_none (by omega)]
      rfl
  · unfold ofMB
    rw [mapL_len, Bool.and_eq_true]
    refine ⟨decide_eq_true ⟨R.one, R.four⟩, ?_⟩
    rw [List.all_eq_true]
    intro y hy
    obtain ⟨i, hi, e⟩ := List.getElem_of_mem hy
    rw [mapL_len] at hi
    have : y = (lowI (rowAt a i) : Int) := by
      rw [← e]
      simp only [mapL, List.getElem_map]
      have := rowAt_get hi
      rw [List.getElem?_eq_getElem hi] at this
      rw [Option.some.inj this]
    rw [this]
    unfold ptB
    have := (map_row h i hi).2
    exact decide_eq_true ⟨by omega, by omega⟩
theorem ofM_get {p : List Int} (h : ofMB p = true) (i : Nat) (hi : i < p.length) : ∃ j : Nat, p[i]? = some (j : Int) ∧ j < p.length ∧ rowAt (ofML p) i = pt j := by
  unfold ofMB at h
  rw [Bool.and_eq_true, List.all_eq_true] at h
  have := h.2 p[i] (List.getElem_mem hi)
  unfold ptB at this
  have := of_decide_eq_true this
  refine ⟨p[i].toNat, ?_, by omega, ?_⟩
  · rw [List.getElem?_eq_getElem hi, Int.toNat_of_nonneg this.1]
  · have e := rowAt_get (xs := ofML p) (k := i) (by rw [ofM_len]; exact hi)
    unfold ofML at e
    rw [List.getElem?_map, List.getElem?_eq_getElem hi] at e
    exact (Option.some.inj e).symm
theorem ofM_rl {p : List Int} (h : ofMB p = true) : Rl p.length (ofML p) := by
  have h0 := h
  unfold ofMB at h0
  rw [Bool.and_eq_true] at h0
  have h1 := of_decide_eq_true h0.1
  refine Rl.mk' (ofM_len p) h1.1 h1.2 fun i hi => ?_
  obtain ⟨j, _, hj, e⟩ := ofM_get h i hi
  rw [e]
  exact b_ptlt ⟨p.length, by omega⟩ ⟨j, hj⟩
theorem map_of {p : List Int} (h : ofMB p = true) : mapL (ofML p) = p ∧ isMapB (ofML p) = true := by
  have R := ofM_rl h
  have h4 := R.four
  constructor
  · apply List.ext_getElem?
    intro i
    by_cases hi : i < p.length
    · obtain ⟨j, e, hj, _⟩ := ofM_get h i hi
      unfold mapL ofML
      rw [List.map_map, List.getElem?_map, e]
      show some (lowI (pt (j : Int).toNat) : Int) = some (j : Int)
      rw [Int.toNat_natCast, low_pt ⟨j, by omega⟩]
    · rw [List.getElem?_eq_none (by rw [mapL_len, ofM_len]; omega), List.getElem?_eq_none (by omega)]
  · have hb : ∀ i k, i < p.length → k < p.length → ∃ j : Nat, j < p.length ∧ hB (ofML p) i k = decide (k = j) := by
      intro i k hi hk
      obtain ⟨j, _, hj, e⟩ := ofM_get h i hi
      refine ⟨j, hj, ?_⟩
      unfold hB
      rw [e]
      exact b_pt ⟨j, by omega⟩ ⟨k, by omega⟩
    have hb2 : ∀ i, i < p.length → ∃ j : Nat, j < p.length ∧ ∀ k, k < p.length → hB (ofML p) i k = decide (k = j) := by
      intro i hi
      obtain ⟨j, _, hj, e⟩ := ofM_get h i hi
      refine ⟨j, hj, fun k hk => ?_⟩
      unfold hB
      rw [e]
      exact b_pt ⟨j, by omega⟩ ⟨k, by omega⟩
    unfold isMapB
    rw [R.ok, fd_all, ← isF R, ← isD R, (most_iff R).2 fun i j k hi hj hk e1 e2 => by
      obtain ⟨m, hm, hh⟩ := hb2 i hi
      rw [hh j hj] at e1
      rw [hh k hk] at e2
      rw [of_decide_eq_true e2, of_decide_eq_true e1], (least_iff R).2 fun i hi => by
      obtain ⟨m, hm, hh⟩ := hb2 i hi
      exact ⟨m, hm, by rw [hh m hm]; exact decide_eq_true rfl⟩]
    rfl
theorem map_in {a : List Int} : kindInB a fdT = isMapB a := by
  unfold kindInB isMapB
  rw [fd_text, Bool.and_true]

/-! contracts -/
theorem uKindIn {n : Nat} {xs : List Int} (R : Rl n xs) (st : ByteArray) (hs : st.size ≤ 1048576) (b : Bool) (h : kindInB xs st = b) (ao : Option Addr) (ca : Nat) (w : World) (hx : Rd w ao xs) : Calls Try.prog 27 #[.slice ao xs.length ca, .string st] w fun e w' => e = .returned (.bool b) ∧ Below w.heap.size w w' := by
  have := implKindIn_any ao ca xs st w (rl_short R) hs hx
  rw [h] at this
  exact this
theorem uMost_i {n : Nat} {xs : List Int} (R : Rl n xs) (ao : Option Addr) (ca : Nat) (w : World) (hx : Rd w ao xs) : Calls Try.prog 31 #[.slice ao xs.length ca, .string ⟨#[105]⟩] w (Gave w (offI xs) true) := by
  have := implKindMost_any ao ca xs iT1 w (rl_short R) (by decide) hx
  rw [mostB_i R, most_i] at this
  exact this
theorem uOfMap {a : List Int} (h : isMapB a = true) (ao : Option Addr) (ca : Nat) (w : World) (hl : a.length ≤ 1048576) (hx : Rd w ao (mapL a)) : Calls Try.prog 35 #[.slice ao (mapL a).length ca] w (Gave w a true) := by
  have := implKindOfMap_any ao ca (mapL a) w (by rw [mapL_len]; exact hl) hx
  rw [(of_map h).2, (of_map h).1] at this
  exact this
theorem uMap {p : List Int} (h : ofMB p = true) (ao : Option Addr) (ca : Nat) (w : World) (hl : p.length ≤ 1048576) (hx : Rd w ao (ofML p)) : Calls Try.prog 33 #[.slice ao (ofML p).length ca] w (Gave w p true) := by
  have := implKindMap_any ao ca (ofML p) w (by rw [ofM_len]; exact hl) hx
  rw [(map_of h).2, (map_of h).1] at this
  exact this
theorem uEnds {n : Nat} {a : List Int} (R : Rl n a) (ao : Option Addr) (ca : Nat) (w : World) (hx : Rd w ao a) : Calls Try.prog 20 #[.slice ao a.length ca] w fun e w' => e = .returned (.tuple #[.int .i64 (startsOf a), .int .i64 (targetsOf a), .bool true]) ∧ Below w.heap.size w w' := by
  have := implRelEnds_any ao ca a w (rl_short R) hx
  rw [R.ok] at this
  exact this
end Go.Proofs.Ytpbkgdohfnjjpaa
