/-
  Words looked up in the tables; the closure that a line's function defers, where nothing panics.
-/
import Derived.Test.YthdnpcpimggjnaaGreatDoorHB
import Derived.Test.YthdnpcpimggjnaaGreatDoorAA
import Derived.Test.YthdnpcpimggjnaaGreatDoorDD
import Derived.Test.YthdnpcpimggjnaaGreatDoorHK
import Derived.Test.YthdnpcpimggjnaaGreatDoorDI
import Derived.Test.YthdnpcpimggjnaaGreatDoorHE
import Derived.Defers
import Derived.Recover
namespace Go.Proofs.YthdnpcpimggjnaaGreatDoor
open Go.RowKit

def ofML (ps : List Int) : List Int := ps.map fun y => pt y.toNat
def ofMB (ps : List Int) : Bool := decide (1 ≤ ps.length ∧ ps.length ≤ 4) && ps.all fun y => ptB y ps.length
theorem ofM_len (ps : List Int) : (ofML ps).length = ps.length := List.length_map _
theorem ofM_bad {ps : List Int} {k : Nat} {y : Int} (h : ps[k]? = some y) (hb : ptB y ps.length = false) : ofMB ps = false := by
  unfold ofMB
  rw [Bool.and_eq_false_iff]
  right
  rw [List.all_eq_false]
  exact ⟨y, List.mem_of_getElem? h, by simp [hb]⟩
theorem ofM_take (ps : List Int) (k : Nat) (y : Int) (h : ps[k]? = some y) : (ofML ps).take (k + 1) = (ofML ps).take k ++ [pt y.toNat] := by
  unfold ofML
  rw [← List.map_take, ← List.map_take, List.take_add_one, h]
  simp
/-- the rows so far, the others being empty -/
def ofTo (ps : List Int) (k : Nat) : List Int := (ofML ps).take k ++ List.replicate (ps.length - k) 0
theorem ofTo_len (ps : List Int) (k : Nat) (hk : k ≤ ps.length) : (ofTo ps k).length = ps.length := by
  unfold ofTo
  rw [List.length_append, List.length_take, ofM_len, List.length_replicate]
  omega
theorem or_zero : ∀ j : Fin 4, bits .or .i64 0 (pt j.val) = pt j.val := by decide +kernel
theorem ofTo_step (ps : List Int) (k : Nat) (j : Nat) (h : ps[k]? = some (j : Int)) (hj : j < 4) : addPair (ofTo ps k) k j = ofTo ps (k + 1) := by
  have hk : k < ps.length := (List.getElem?_eq_some_iff.1 h).1
  have hl : ((ofML ps).take k).length = k := by rw [List.length_take, ofM_len]; omega
  obtain ⟨m, hm⟩ : ∃ m, ps.length - k = m + 1 := ⟨ps.length - k - 1, by omega⟩
  have hm2 : ps.length - (k + 1) = m := by omega
  have hz : rowAt (ofTo ps k) k = 0 := by
    unfold rowAt ofTo
    rw [List.getD_eq_getElem?_getD, List.getElem?_append_right (by omega), hl, hm, Nat.sub_self]
    rfl
  unfold addPair
  rw [hz, or_zero ⟨j, hj⟩]
  unfold ofTo
  rw [List.set_append_right _ _ (by omega), hl, Nat.sub_self, hm, hm2, List.replicate_succ, List.set_cons_zero, ofM_take ps k _ h]
  simp
theorem ofTo_all (ps : List Int) : ofTo ps ps.length = ofML ps := by
  unfold ofTo
  rw [Nat.sub_self, List.take_of_length_le (by rw [ofM_len]; exact Nat.le_refl _)]
  simp
theorem inB_pt (y : Int) (n : Nat) : inB y 0 ((n : Int) - 1) = ptB y n := by
  unfold inB ptB
  rw [Bool.eq_iff_iff, decide_eq_true_iff, decide_eq_true_iff]
  omega

end Go.Proofs.YthdnpcpimggjnaaGreatDoor

namespace Go.Proofs.YthdnpcpimggjnaaGreatDoor
open Go.RowKit

/-! below -/
theorem lo_both {n : Nat} {a b : List Int} (R : Rl n a) (S : Rl n b) (h : belowB a b = true) : bothL a b = a := by
  rw [below_iff R S] at h
  refine (R.both S).ext R fun i j hi hj => ?_
  rw [hB_both R S i j hi hj]
  cases e : hB a i j with
  | false => rfl
  | true => rw [h i j hi hj e]; rfl
theorem lo_either {n : Nat} {a b : List Int} (R : Rl n a) (S : Rl n b) (h : belowB a b = true) : eitherL a b = b := by
  rw [below_iff R S] at h
  refine (R.either S).ext S fun i j hi hj => ?_
  rw [hB_either R S i j hi hj]
  cases e : hB a i j with
  | false => rfl
  | true => rw [h i j hi hj e]; rfl
theorem lo_turn {n : Nat} {a b : List Int} (R : Rl n a) (S : Rl n b) (h : belowB a b = true) : belowB (turnL a) (turnL b) = true := by
  rw [below_iff R S] at h
  rw [below_iff R.turn S.turn]
  intro i j hi hj e
  rw [hB_turn R i j hi hj] at e
  rw [hB_turn S i j hi hj]
  exact h j i hj hi e
theorem lo_two {a b : List Int} (h : (twoIn a b && belowB a b) = true) : Rl a.length a ∧ Rl a.length b ∧ belowB a b = true := by
  rw [Bool.and_eq_true] at h
  obtain ⟨R, S⟩ := two_rl h.1
  exact ⟨R, S, h.2⟩

theorem kindS_split {n : Nat} {xs : List Int} (h : Rl n xs) : kindS xs = true ↔ ∀ i j, i < n → j < n → hB xs i j = true → hB xs j i = true := by
  unfold kindS
  rw [decide_eq_true_iff]
  constructor
  · intro e i j hi hj h1
    rw [e, hB_turn h i j hi hj] at h1
    exact h1
  · intro e
    refine h.ext h.turn fun i j hi hj => ?_
    rw [hB_turn h i j hi hj]
    exact bool_iff ⟨e i j hi hj, e j i hj hi⟩

/-! split -/
def isT2 : ByteArray := ⟨#[105, 115]⟩
def iaT2 : ByteArray := ⟨#[105, 97]⟩
def iT1 : ByteArray := ⟨#[105]⟩
theorem two_all {xs : List Int} (c d : UInt8) : allK xs ⟨#[c, d]⟩ = (kindB c.toNat xs && kindB d.toNat xs) := by
  unfold allK allTo
  show (List.range 2).all (fun i => kindB (byt ⟨#[c, d]⟩ i) xs) = _
  rw [show List.range 2 = [0, 1] from rfl, List.all_cons, List.all_cons, List.all_nil, Bool.and_true]
  rfl
theorem oneK_all {xs : List Int} (c : UInt8) : allK xs ⟨#[c]⟩ = kindB c.toNat xs := by
  unfold allK allTo
  show (List.range 1).all (fun i => kindB (byt ⟨#[c]⟩ i) xs) = _
  rw [show List.range 1 = [0] from rfl, List.all_cons, List.all_nil, Bool.and_true]
  rfl
theorem split_either {n : Nat} {a : List Int} (R : Rl n a) : eitherL (turnsL a) (oneWayL a) = offI a := by
  refine (R.turns.either R.oneWay).ext R.off fun i j hi hj => ?_
  rw [hB_either R.turns R.oneWay i j hi hj]
  unfold oneWayL
  rw [hB_both R.off R.turns.other i j hi hj, hB_other R.turns i j hi hj]
  unfold turnsL
  rw [hB_twoW R.off i j hi hj]
  cases hB (offI a) i j <;> cases hB (offI a) j i <;> rfl
theorem most_i (a : List Int) : mostL a iT1 = offI a := by
  unfold mostL
  rw [show hasTo iT1 115 iT1.size = false by decide +kernel, show hasTo iT1 105 iT1.size = true by decide +kernel]
  rfl
theorem mostB_i {n : Nat} {a : List Int} (R : Rl n a) : mostB a iT1 = true := by
  unfold mostB
  rw [R.ok, show textTo iT1 isT iT1.size = true by decide +kernel]
  rfl
theorem irr_off {n : Nat} {xs a : List Int} (R : Rl n xs) (S : Rl n a) (h : ∀ i j, i < n → j < n → hB xs i j = true → hB (offI a) i j = true) : kindI xs = true := by
  rw [← isI R]
  refine decide_eq_true (R.off.ext R fun i j hi hj => ?_)
  rw [hB_off R i j hi hj]
  cases e : hB xs i j with
  | false => rfl
  | true =>
    have := h i j hi hj e
    rw [hB_off S i j hi hj, Bool.and_eq_true] at this
    rw [this.2]
    rfl
theorem split_is {n : Nat} {a : List Int} (R : Rl n a) : kindInB (turnsL a) isT2 = true := by
  have T := R.turns
  unfold kindInB
  rw [T.ok, show textTo isT2 risat isT2.size = true by decide +kernel, show allK (turnsL a) isT2 = (kindI (turnsL a) && kindS (turnsL a)) from two_all 105 115]
  rw [irr_off T R (fun i j hi hj h => by
    unfold turnsL at h
    rw [hB_twoW R.off i j hi hj, Bool.and_eq_true] at h
    exact h.1)]
  rw [(kindS_split T).2 fun i j hi hj h => by
    unfold turnsL at h ⊢
    rw [hB_twoW R.off i j hi hj, Bool.and_eq_true] at h
    rw [hB_twoW R.off j i hj hi, h.1, h.2]
    rfl]
  rfl
theorem split_ia {n : Nat} {a : List Int} (R : Rl n a) : kindInB (oneWayL a) iaT2 = true := by
  have T := R.turns
  have O := R.oneWay
  have hO : ∀ i j, i < n → j < n → hB (oneWayL a) i j = true → hB (offI a) i j = true ∧ hB (offI a) j i = false := by
    intro i j hi hj h
    unfold oneWayL at h
    rw [hB_both R.off T.other i j hi hj, hB_other T i j hi hj, Bool.and_eq_true] at h
    have h1 := h.1
    unfold turnsL at h
    rw [hB_twoW R.off i j hi hj, h1] at h
    exact ⟨h1, by simpa using h⟩
  unfold kindInB
  rw [O.ok, show textTo iaT2 risat iaT2.size = true by decide +kernel, show allK (oneWayL a) iaT2 = (kindI (oneWayL a) && kindA (oneWayL a)) from two_all 105 97]
  rw [irr_off O R (fun i j hi hj h => (hO i j hi hj h).1)]
  have hA : kindA (oneWayL a) = true := by
    unfold kindA
    rw [O.len, below_same (O.both O.turn)]
    intro i j hi hj h
    rw [hB_both O O.turn i j hi hj, hB_turn O i j hi hj, Bool.and_eq_true] at h
    have h1 := hO i j hi hj h.1
    have h2 := hO j i hj hi h.2
    rw [h2.1] at h1
    cases h1.2
  rw [hA]
  rfl

/-! ends -/
theorem no_pt : ∀ z : Fin 16, ∀ j : Fin 4, hasB (z.val : Int) j.val = true → ((z.val : Int) == 0) = false := by decide +kernel
theorem fold_some {n : Nat} (h4 : n ≤ 4) (f : Fin n × Fin n → Fin n) (l : List (Fin n × Fin n)) (p : Fin n × Fin n) (hp : p ∈ l) : ((l.foldl (fun s p => bits .or .i64 s (pt (f p).val)) (0 : Int)) == 0) = false := by
  obtain ⟨z, hz, hi⟩ := fold_ends h4 f l 0
  have hz : l.foldl (fun s p => bits .or .i64 s (pt (f p).val)) (0 : Int) = (z.val : Int) := hz
  rw [hz]
  exact no_pt z ⟨(f p).val, by have := (f p).isLt; omega⟩ ((hi ⟨(f p).val, by have := (f p).isLt; omega⟩).2 (.inr ⟨p, hp, rfl⟩))
/-- sizes and ends are none together -/
theorem size_ends {n : Nat} {a : List Int} (R : Rl n a) : ∃ b : Bool, (sizeL a == 0) = b ∧ (startsOf a == 0) = b ∧ (targetsOf a == 0) = b := by
  obtain rfl := R.len
  cases hl : pairsOf a with
  | nil =>
    refine ⟨true, ?_, ?_, ?_⟩
    · rw [size_none R fun i j hi hj => by
        cases e : hB a i j with
        | false => rfl
        | true =>
          have := (mem_pairs R.four (⟨i, hi⟩, ⟨j, hj⟩)).2 e
          rw [hl] at this
          cases this]
      rfl
    · unfold startsOf endsS
      rw [hl]
      rfl
    · unfold targetsOf endsT
      rw [hl]
      rfl
  | cons p r =>
    have hm : p ∈ pairsOf a := by rw [hl]; exact List.mem_cons_self
    refine ⟨false, ?_, fold_some R.four (fun p => p.1) (pairsOf a) p hm, fold_some R.four (fun p => p.2) (pairsOf a) p hm⟩
    have := size_some R p.1.val p.2.val p.1.isLt p.2.isLt ((mem_pairs R.four p).1 hm)
    exact beq_eq_false_iff_ne.2 (by omega)

/-! all kinds -/
theorem byt_str (l : List UInt8) (i : Nat) (h : i < l.length) : byt (strOf l) i = (l[i]).toNat := by
  unfold byt
  rw [dif_pos (by rw [str_size]; exact h)]
  rfl
theorem risat_inj : ∀ i j : Fin 10, byt risat i.val = byt risat j.val → i = j := by decide +kernel
theorem risat_byt : ∀ i : Fin 10, (risat.data.toList.getD i.val 0).toNat = byt risat i.val := by decide +kernel
theorem kinds_ok {n : Nat} {a : List Int} (R : Rl n a) : kindInB a (kindsOf a) = true := by
  obtain ⟨l, hl⟩ : ∃ l, (List.range 10).filter (fun i => kindB (byt risat i) a) = l := ⟨_, rfl⟩
  have hmem : ∀ i (h : i < l.length), l[i] < 10 ∧ kindB (byt risat l[i]) a = true := by
    subst hl
    intro i h
    have := List.mem_filter.1 (List.getElem_mem h)
    exact ⟨List.mem_range.1 this.1, this.2⟩
  have hnd : l.Nodup := hl ▸ List.Pairwise.filter _ List.nodup_range
  have hk : kindsOf a = strOf (l.map fun i => risat.data.toList.getD i 0) := by
    unfold kindsOf
    rw [R.ok, if_pos rfl]
    unfold pickL
    rw [hl]
  have hs : (kindsOf a).size = l.length := by rw [hk, str_size, List.length_map]
  have hb : ∀ i (h : i < l.length), byt (kindsOf a) i = byt risat l[i] := by
    intro i h
    rw [hk, byt_str _ i (by rw [List.length_map]; exact h), List.getElem_map]
    exact risat_byt ⟨l[i], (hmem i h).1⟩
  unfold kindInB
  rw [R.ok, Bool.true_and, Bool.and_eq_true]
  constructor
  · unfold textTo
    rw [List.all_eq_true]
    intro i hi
    have hi : i < l.length := by rw [← hs]; exact List.mem_range.1 hi
    unfold letB
    rw [hb i hi, risat_at l[i] (hmem i hi).1, Bool.true_and, Bool.not_eq_true']
    cases e : hasTo (kindsOf a) (byt risat l[i]) i with
    | false => rfl
    | true =>
      obtain ⟨k, hki, e2⟩ := (hasTo_iff _ _ _).1 e
      rw [hb k (by omega)] at e2
      have := risat_inj ⟨l[k], (hmem k (by omega)).1⟩ ⟨l[i], (hmem i hi).1⟩ e2
      have := congrArg Fin.val this
      exact absurd this (List.pairwise_iff_getElem.1 hnd k i _ _ hki)
  · unfold allK allTo
    rw [hs, List.all_eq_true]
    intro i hi
    have hi : i < l.length := List.mem_range.1 hi
    rw [hb i hi]
    exact (hmem i hi).2
theorem kinds_size (a : List Int) : (kindsOf a).size ≤ 1048576 := by
  unfold kindsOf
  split
  · rw [str_size]
    have := pick_len (fun i => kindB (byt risat i) a) 10
    omega
  · decide
theorem one_in {n : Nat} {a : List Int} (R : Rl n a) (c : UInt8) (h : textTo ⟨#[c]⟩ risat 1 = true) : kindInB a ⟨#[c]⟩ = kindB c.toNat a := by
  unfold kindInB
  rw [R.ok, show textTo ⟨#[c]⟩ risat (⟨#[c]⟩ : ByteArray).size = true from h, oneK_all]
  rfl
theorem in_f {n : Nat} {a : List Int} (R : Rl n a) : kindInB a ⟨#[102]⟩ = kindF a := one_in R 102 (by decide +kernel)
theorem in_d {n : Nat} {a : List Int} (R : Rl n a) : kindInB a ⟨#[100]⟩ = kindD a := one_in R 100 (by decide +kernel)
theorem in_j {n : Nat} {a : List Int} (R : Rl n a) : kindInB (turnL a) ⟨#[106]⟩ = kindF a := by
  rw [one_in R.turn 106 (by decide +kernel)]
  show kindJ (turnL a) = kindF a
  unfold kindJ kindF
  rw [turn_turn R, R.turn.len, R.len]
theorem in_o {n : Nat} {a : List Int} (R : Rl n a) : kindInB (turnL a) ⟨#[111]⟩ = kindD a := by
  rw [one_in R.turn 111 (by decide +kernel)]
  show kindO (turnL a) = kindD a
  unfold kindO kindD
  rw [turn_turn R, R.turn.len, R.len]

theorem str_beq (a : ByteArray) : (a == a) = true := by rcases a with ⟨d⟩; show (d == d) = true; simp
theorem str_bne (a : ByteArray) : (a != a) = false := by show (!(a == a)) = false; rw [str_beq]; rfl

/-! points alone -/
theorem same_size : sizeL (sameL 1) = 1 ∧ sizeL (sameL 2) = 2 ∧ sizeL (sameL 3) = 3 ∧ sizeL (sameL 4) = 4 := by decide +kernel
theorem same_kinds : kindsOf (sameL 1) = ⟨#[114, 115, 97, 116, 99, 102, 100, 106, 111]⟩ ∧ kindsOf (sameL 2) = ⟨#[114, 115, 97, 116, 102, 100, 106, 111]⟩ ∧
    kindsOf (sameL 3) = ⟨#[114, 115, 97, 116, 102, 100, 106, 111]⟩ ∧ kindsOf (sameL 4) = ⟨#[114, 115, 97, 116, 102, 100, 106, 111]⟩ := by decide +kernel

/-! maps -/
theorem low_pt : ∀ j : Fin 4, lowI (pt j.val) = j.val := by decide +kernel
theorem of_map {a : List Int} (h : isMapB a = true) : ofML (mapL a) = a ∧ ofMB (mapL a) = true := by
  have hp : relIn a = true := by
    unfold isMapB at h
    rw [Bool.and_eq_true] at h
    exact h.1
  have R := Rl.of hp
  constructor
  · apply List.ext_getElem?
    intro i
    unfold ofML mapL
    rw [List.map_map, List.getElem?_map]
    by_cases hi : i < a.length
    · rw [rowAt_get hi]
      have := (map_row h i hi).1
      show some (pt (lowI (rowAt a i) : Int).toNat) = some (rowAt a i)
      rw [Int.toNat_natCast, ← this]
    · rw [List.getElem?_eq_none (by omega)]
      rfl
  · unfold ofMB
    rw [mapL_len, Bool.and_eq_true]
    refine ⟨decide_eq_true ⟨R.one, R.four⟩, ?_⟩
    rw [List.all_eq_true]
    intro y hy
    obtain ⟨i, hi, e⟩ := List.getElem_of_mem hy
    rw [mapL_len] at hi
    have : y = (lowI (rowAt a i) : Int) := by
      rw [← e]
      simp only [mapL, List.getElem_map]
      have := rowAt_get hi
      rw [List.getElem?_eq_getElem hi] at this
      rw [Option.some.inj this]
    rw [this]
    unfold ptB
    have := (map_row h i hi).2
    exact decide_eq_true ⟨by omega, by omega⟩
theorem ofM_get {p : List Int} (h : ofMB p = true) (i : Nat) (hi : i < p.length) : ∃ j : Nat, p[i]? = some (j : Int) ∧ j < p.length ∧ rowAt (ofML p) i = pt j := by
  unfold ofMB at h
  rw [Bool.and_eq_true, List.all_eq_true] at h
  have := h.2 p[i] (List.getElem_mem hi)
  unfold ptB at this
  have := of_decide_eq_true this
  refine ⟨p[i].toNat, ?_, by omega, ?_⟩
  · rw [List.getElem?_eq_getElem hi, Int.toNat_of_nonneg this.1]
  · have e := rowAt_get (xs := ofML p) (k := i) (by rw [ofM_len]; exact hi)
    unfold ofML at e
    rw [List.getElem?_map, List.getElem?_eq_getElem hi] at e
    exact (Option.some.inj e).symm
theorem ofM_rl {p : List Int} (h : ofMB p = true) : Rl p.length (ofML p) := by
  have h0 := h
  unfold ofMB at h0
  rw [Bool.and_eq_true] at h0
  have h1 := of_decide_eq_true h0.1
  refine Rl.mk' (ofM_len p) h1.1 h1.2 fun i hi => ?_
  obtain ⟨j, _, hj, e⟩ := ofM_get h i hi
  rw [e]
  exact b_ptlt ⟨p.length, by omega⟩ ⟨j, hj⟩
theorem map_of {p : List Int} (h : ofMB p = true) : mapL (ofML p) = p ∧ isMapB (ofML p) = true := by
  have R := ofM_rl h
  have h4 := R.four
  constructor
  · apply List.ext_getElem?
    intro i
    by_cases hi : i < p.length
    · obtain ⟨j, e, hj, _⟩ := ofM_get h i hi
      unfold mapL ofML
      rw [List.map_map, List.getElem?_map, e]
      show some (lowI (pt (j : Int).toNat) : Int) = some (j : Int)
      rw [Int.toNat_natCast, low_pt ⟨j, by omega⟩]
    · rw [List.getElem?_eq_none (by rw [mapL_len, ofM_len]; omega), List.getElem?_eq_none (by omega)]
  · have hb : ∀ i k, i < p.length → k < p.length → ∃ j : Nat, j < p.length ∧ hB (ofML p) i k = decide (k = j) := by
      intro i k hi hk
      obtain ⟨j, _, hj, e⟩ := ofM_get h i hi
      refine ⟨j, hj, ?_⟩
      unfold hB
      rw [e]
      exact b_pt ⟨j, by omega⟩ ⟨k, by omega⟩
    have hb2 : ∀ i, i < p.length → ∃ j : Nat, j < p.length ∧ ∀ k, k < p.length → hB (ofML p) i k = decide (k = j) := by
      intro i hi
      obtain ⟨j, _, hj, e⟩ := ofM_get h i hi
      refine ⟨j, hj, fun k hk => ?_⟩
      unfold hB
      rw [e]
      exact b_pt ⟨j, by omega⟩ ⟨k, by omega⟩
    unfold isMapB
    rw [R.ok, fd_all, ← isF R, ← isD R, (most_iff R).2 fun i j k hi hj hk e1 e2 => by
      obtain ⟨m, hm, hh⟩ := hb2 i hi
      rw [hh j hj] at e1
      rw [hh k hk] at e2
      rw [of_decide_eq_true e2, of_decide_eq_true e1], (least_iff R).2 fun i hi => by
      obtain ⟨m, hm, hh⟩ := hb2 i hi
      exact ⟨m, hm, by rw [hh m hm]; exact decide_eq_true rfl⟩]
    rfl
theorem map_in {a : List Int} : kindInB a fdT = isMapB a := by
  unfold kindInB isMapB
  rw [fd_text, Bool.and_true]

/-! contracts -/
end Go.Proofs.YthdnpcpimggjnaaGreatDoor

namespace Go.Proofs.YthdnpcpimggjnaaGreatDoor
open Go.RowKit

theorem keepT {w w' : World} {lo n : Nat} {v : Value} {us : List Value} (h : w.ownsRow lo 3 1 v n us) (hb : Below w.heap.size w w') : w'.ownsRow lo 3 1 v n us :=
  own_keep h hb fun k e => (h.lt k e).2
end Go.Proofs.YthdnpcpimggjnaaGreatDoor

namespace Go.Proofs.YthdnpcpimggjnaaGreatDoor
open Go.RowKit

theorem drawKindAll_any (ao : Option Addr) (c : Nat) (bs : List Nat) (w : World) (hb : RdB w ao bs) (hc : bs.length ≤ c) (hbA : bs ≠ [] → ∀ a, ao = some a → a.block < w.heap.size) :
    Calls Tryz.prog 5 #[.slice ao bs.length c] w (Drew w) := by
  have HD := Lib.hid (l91Some_any ao c bs w hb hc hbA)
  clear hb hbA
  go_enter Tryz.func5, Tryz.ntmps5
  go_wp2_with fail
  refine HD.out.mono ?_
  rintro e w3 ⟨v, rs, rfl, hrl, ho, hB⟩
  have HR := Lib.hid (And.intro hrl (And.intro ho hB))
  clear hrl ho hB HD
  go_wp2
  go_ret
  exact ⟨v, rs, rfl, HR.out⟩
end Go.Proofs.YthdnpcpimggjnaaGreatDoor

namespace Go.Proofs.YthdnpcpimggjnaaGreatDoor
open Go.RowKit Go.Maps

/-- the entries of a table, in the order in which they were laid -/
def ents : List (ByteArray × Nat) → Nat → List MapEntry
  | [], _ => []
  | (k, f) :: l, i => { key := .string k, val := .func (.func f) #[] #[], born := i } :: ents l (i + 1)
/-- the function that stands at a word -/
def tabFind (k : ByteArray) : List (ByteArray × Nat) → Option Nat
  | [] => none
  | (q, f) :: l => if k == q then some f else tabFind k l
def tabLook (k : ByteArray) : List (ByteArray × Nat) → Nat → Option (Nat × Value)
  | [], _ => none
  | (q, f) :: l, j => if k == q then some (j, .func (.func f) #[] #[]) else tabLook k l (j + 1)
def tabVal : Option Nat → Value
  | some f => .func (.func f) #[] #[]
  | none => .nilFunc
theorem ents_app (l : List (ByteArray × Nat)) (k : ByteArray) (f : Nat) : ∀ i, ents (l ++ [(k, f)]) i = ents l i ++ [{ key := .string k, val := .func (.func f) #[] #[], born := i + l.length }] := by
  induction l with
  | nil => intro i; simp [ents]
  | cons p l ih =>
    intro i
    obtain ⟨q, g⟩ := p
    simp only [List.cons_append, ents, ih, List.length_cons]
    rw [show i + 1 + l.length = i + (l.length + 1) by omega]
theorem look_find (k : ByteArray) (l : List (ByteArray × Nat)) : ∀ j, (tabLook k l j = none ∧ tabFind k l = none) ∨ ∃ i f, tabLook k l j = some (i, .func (.func f) #[] #[]) ∧ tabFind k l = some f := by
  induction l with
  | nil => intro j; exact .inl ⟨rfl, rfl⟩
  | cons p l ih =>
    intro j
    obtain ⟨q, g⟩ := p
    simp only [tabLook, tabFind]
    split
    · exact .inr ⟨_, _, rfl, rfl⟩
    · exact ih (j + 1)
theorem findNow_ents (k : ByteArray) (l : List (ByteArray × Nat)) : ∀ i j, Instr.findNow .string (.string k) (ents l i) j = some (tabLook k l j) := by
  induction l with
  | nil => intro i j; rfl
  | cons p l ih =>
    intro i j
    obtain ⟨q, g⟩ := p
    simp only [ents, Instr.findNow, Instr.sameNow, tabLook]
    cases h : k == q with
    | true => simp
    | false => simp [ih]

/-- block b holds the table l -/
structure Tab (w0 w : World) (b : Nat) (l : List (ByteArray × Nat)) : Prop where
  here : w.heap[b]? = some (.map (ents l 0).toArray l.length)
  below : Below w0.heap.size w0 w
  base : w0.heap.size ≤ b
theorem Tab.made (w : World) : Tab w (w.alloc (.map #[] 0)) w.heap.size [] :=
  ⟨heap_alloc_new _ _, below_one w _, Nat.le_refl _⟩
theorem str_check (k : ByteArray) (em : Bool) (w : World) : (Instr.checkKey em 10000 9 (.string k)).run Tryz.prog w = .ok () w :=
  MapKept.run_checkKey Tryz.underlying9 (d := .string) (k := .string k) trivial em 9999
theorem Tab.lt {w0 w : World} {b : Nat} {l : List (ByteArray × Nat)} (h : Tab w0 w b l) : b < w.heap.size := by
  rcases Nat.lt_or_ge b w.heap.size with h' | h'
  · exact h'
  · have := h.here; simp [Array.getElem?_eq_none h'] at this
theorem Tab.next {w0 w : World} {b : Nat} {l : List (ByteArray × Nat)} (h : Tab w0 w b l) (k : ByteArray) (f : Nat) :
    Tab w0 { w with heap := w.heap.setIfInBounds b (.map (ents l 0 ++ [({ key := .string k, val := .func (.func f) #[] #[], born := l.length } : MapEntry)]).toArray (l.length + 1)) } b (l ++ [(k, f)]) := by
  have hlt := h.lt
  refine ⟨?_, h.below.trans ⟨rfl, rfl, rfl, by simp, fun i hi => ?_⟩, h.base⟩
  · simp [hlt, ents_app]
  · have := h.base
    have hne : b ≠ i := by omega
    simp [Array.getElem?_setIfInBounds_ne hne]
theorem Tab.insert {w0 w : World} {b : Nat} {l : List (ByteArray × Nat)} (h : Tab w0 w b l) {t e : TypeId} (ht : Tryz.prog.underlying t = some (.map 9 e)) (k : ByteArray) (f : Nat) (hk : tabLook k l 0 = none) :
    (Instr.mapUpdate t (.map (some b)) (.string k) (.func (.func f) #[] #[])).run Tryz.prog w = .ok () { w with heap := w.heap.setIfInBounds b (.map (ents l 0 ++ [({ key := .string k, val := .func (.func f) #[] #[], born := l.length } : MapEntry)]).toArray (l.length + 1)) } := by
  have h1 := h.here
  have h2 := findNow_ents k l 0 0
  rw [hk] at h2
  have h3 := str_check k false w
  have h4 := run_underlying (P := Tryz.prog) ht
  have h5 := run_underlying (P := Tryz.prog) Tryz.underlying9
  simp [Instr.mapUpdate, h4, getObj, Sem.run, h1, Result.andThen, h3, Instr.findKey, h5, h2, setObj]
/-- an entry of the literal, at the operation -/
theorem wpList_word {w0 : World} (w : World) {ops : Array Oper} {rest : List Oper} {o : Oper} {a : Act} {Q : Exit → Act → World → Prop}
    (hg : o.guard = none) (m x v : Operand) (t e : TypeId) (hop : o.op = Op.insert t m x v) (ht : Tryz.prog.underlying t = some (.map 9 e))
    (b : Nat) (l : List (ByteArray × Nat)) (hm : a.eval m = .map (some b)) (h : Tab w0 w b l) (k : ByteArray) (hx : a.eval x = .string k) (f : Nat) (hv : a.eval v = .func (.func f) #[] #[]) (hk : tabLook k l 0 = none)
    (hK : ∀ w', Tab w0 w' b (l ++ [(k, f)]) → wpList Tryz.prog ops Q rest (a.put o.dst undef) w') :
    wpList Tryz.prog ops Q (o :: rest) a w := by
  refine wpList_plain hg fun K' hK' => ?_
  have hrun := h.insert ht k f hk
  unfold Oper.wp
  simp [execOp, hop, hm, hx, hv, hrun, Result.andThen]
  exact hK' _ _ (hK _ (h.next k f))
theorem Tab.lookup {w0 w : World} {b : Nat} {l : List (ByteArray × Nat)} (h : Tab w0 w b l) {t e : TypeId} (ht : Tryz.prog.underlying t = some (.map 9 e)) (hz : ∀ w, (zeroValue e).run Tryz.prog w = .ok .nilFunc w) (k : ByteArray) :
    (Instr.lookup t (.map (some b)) (.string k) true).run Tryz.prog w = .ok (.tuple #[tabVal (tabFind k l), .bool (tabFind k l).isSome]) w := by
  have h1 := h.here
  have h2 := findNow_ents k l 0 0
  have h3 := fun em => str_check k em w
  have h4 := run_underlying (P := Tryz.prog) ht
  have h5 := run_underlying (P := Tryz.prog) Tryz.underlying9
  rcases look_find k l 0 with ⟨e1, e2⟩ | ⟨i, f, e1, e2⟩
  · rw [e1] at h2
    simp [Instr.lookup, h4, getObj, Sem.run, h1, Result.andThen, h3, Instr.findKey, h5, h2, hz, e2, tabVal]
  · rw [e1] at h2
    simp [Instr.lookup, h4, getObj, Sem.run, h1, Result.andThen, h3, Instr.findKey, h5, h2, e2, tabVal]
theorem Tab.step {w0 w w' : World} {b : Nat} {l : List (ByteArray × Nat)} (h : Tab w0 w b l) (hb : Below w.heap.size w w') : Tab w0 w' b l :=
  ⟨(hb.block b h.lt).trans h.here, h.below.trans (hb.mono h.below.size), h.base⟩

/-! ### the two tables -/
def aloneL : List (ByteArray × Nat) := [(⟨#[116, 117, 114, 110, 101, 100]⟩, 56), (⟨#[111, 116, 104, 101, 114]⟩, 57), (⟨#[114, 101, 97, 99, 104]⟩, 58), (⟨#[115, 116, 97, 114]⟩, 59), (⟨#[115, 116, 101, 112]⟩, 60), (⟨#[107, 101, 114, 110, 101, 108]⟩, 61), (⟨#[109, 111, 115, 116]⟩, 62), (⟨#[115, 104, 111, 119]⟩, 63), (⟨#[112, 97, 105, 114, 115]⟩, 64), (⟨#[107, 105, 110, 100, 115]⟩, 65), (⟨#[105, 110, 100, 101, 120]⟩, 66), (⟨#[99, 108, 97, 115, 115, 101, 115]⟩, 67), (⟨#[119, 97, 121, 115]⟩, 68), (⟨#[115, 105, 122, 101, 115]⟩, 69), (⟨#[97, 108, 108]⟩, 70), (⟨#[114, 97, 110, 107]⟩, 71), (⟨#[98, 108, 111, 99, 107, 115]⟩, 72), (⟨#[115, 112, 97, 99, 101]⟩, 73), (⟨#[101, 118, 101, 110]⟩, 74), (⟨#[114, 101, 103, 117, 108, 97, 114]⟩, 75)]
set_option maxHeartbeats 4000000 in
theorem wordsAlone_any (w : World) : Calls Tryz.prog 23 #[] w fun e w' => ∃ b, e = .returned (.map (some b)) ∧ Tab w w' b aloneL := by
  have hmm := @run_makeMap Tryz.prog
  have h0 := Tab.made w
  go_enter Tryz.func23, Tryz.ntmps23
  go_wp2_with (refine wpList_word (w0 := w) _ rfl _ _ _ _ 81 rfl Tryz.underlying48 _ _ rfl (by assumption) _ rfl _ rfl (by kernel_rfl) ?_; intro w1 hm1)
  go_ret
  exact ⟨_, rfl, by assumption⟩
def restL : List (ByteArray × Nat) := [(⟨#[112, 111, 105, 110, 116, 115]⟩, 76), (⟨#[114, 111, 119, 115]⟩, 77), (⟨#[112, 97, 105, 114]⟩, 78), (⟨#[99, 117, 116]⟩, 79), (⟨#[112, 111, 119, 101, 114]⟩, 80), (⟨#[99, 111, 109, 112]⟩, 81), (⟨#[108, 101, 102, 116]⟩, 82), (⟨#[114, 105, 103, 104, 116]⟩, 83), (⟨#[108, 101, 97, 115, 116]⟩, 84), (⟨#[119, 104, 105, 108, 101]⟩, 85), (⟨#[98, 111, 117, 110, 100]⟩, 86), (⟨#[97, 102, 116, 101, 114]⟩, 87), (⟨#[98, 101, 102, 111, 114, 101]⟩, 88), (⟨#[115, 117, 114, 101, 108, 121]⟩, 89), (⟨#[107, 101, 112, 116]⟩, 90), (⟨#[101, 110, 100, 115]⟩, 91)]
set_option maxHeartbeats 4000000 in
theorem wordsWithRest_any (w : World) : Calls Tryz.prog 24 #[] w fun e w' => ∃ b, e = .returned (.map (some b)) ∧ Tab w w' b restL := by
  have hmm := @run_makeMap Tryz.prog
  have h0 := Tab.made w
  go_enter Tryz.func24, Tryz.ntmps24
  go_wp2_with (refine wpList_word (w0 := w) _ rfl _ _ _ _ 83 rfl Tryz.underlying50 _ _ rfl (by assumption) _ rfl _ rfl (by kernel_rfl) ?_; intro w1 hm1)
  go_ret
  exact ⟨_, rfl, by assumption⟩
end Go.Proofs.YthdnpcpimggjnaaGreatDoor

namespace Go.Proofs.YthdnpcpimggjnaaGreatDoor
open Go.RowKit

theorem zero_alone (w : World) : (zeroValue 81).run Tryz.prog w = .ok .nilFunc w := by kernel_rfl
theorem zero_rest (w : World) : (zeroValue 83).run Tryz.prog w = .ok .nilFunc w := by kernel_rfl
theorem wordIn_alone (k : ByteArray) (f b : Nat) (w0 w : World) (h : Tab w0 w b aloneL) (hf : tabFind k aloneL = some f) :
    Calls Tryz.prog 97 #[.map (some b), .string k] w fun e w' => e = .returned (.func (.func f) #[] #[]) ∧ w' = w := by
  have hlk := h.lookup Tryz.underlying48 zero_alone k
  rw [hf] at hlk
  simp only [tabVal, Option.isSome] at hlk
  clear h hf
  go_enter Tryz.func97, Tryz.ntmps97
  go_wp2
  go_ret
  exact ⟨rfl, rfl⟩
theorem wordIn_rest (k : ByteArray) (f b : Nat) (w0 w : World) (h : Tab w0 w b restL) (hf : tabFind k restL = some f) :
    Calls Tryz.prog 96 #[.map (some b), .string k] w fun e w' => e = .returned (.func (.func f) #[] #[]) ∧ w' = w := by
  have hlk := h.lookup Tryz.underlying50 zero_rest k
  rw [hf] at hlk
  simp only [tabVal, Option.isSome] at hlk
  clear h hf
  go_enter Tryz.func96, Tryz.ntmps96
  go_wp2
  go_ret
  exact ⟨rfl, rfl⟩

theorem catch_idle (p : Addr) (w : World) :
    CallsD Tryz.prog 94 #[.pointer (some p)] .returning w fun e u' w' => e = .returned (.tuple #[]) ∧ u' = .returning ∧ w' = w := by
  refine callsD_of_wpS Tryz.func94 rfl fun c₀ cs hu => ?_
  apply wpS_seq
  apply wpS_region
  simp [wpOpsS, go_sem, recoverD, hu, Tryz.ntmps94, Exit.thenS]
  refine wpS_of_wp ?_
  go_wp2
  cases c₀
  simp_all [bodyPostS, results, Tryz.results94]
end Go.Proofs.YthdnpcpimggjnaaGreatDoor
