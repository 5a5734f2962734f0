/-
  More contracts and facts for laws on drawn relations: both, either, others, turned.
-/
import Derived.Test.YtebkeebgjjmdbabGB
import Derived.Test.YtebkeebgjjmdbabHA
import Derived.Test.YtebkeebgjjmdbabEI
namespace Go.Proofs.Ytebkeebgjjmdbab
open Go.RowKit

theorem both_others {n : Nat} {a b : List Int} (h : Rl n a) (k : Rl n b) : eitherL (otherL a) (otherL b) = otherL (bothL a b) :=
  Rl.ext (h.other.either k.other) (h.both k).other fun i j hi hj => by
    rw [hB_either h.other k.other i j hi hj, hB_other h i j hi hj, hB_other k i j hi hj, hB_other (h.both k) i j hi hj, hB_both h k i j hi hj]
    cases hB a i j <;> cases hB b i j <;> rfl
theorem both_below1 {n : Nat} {a b : List Int} (h : Rl n a) (k : Rl n b) : belowB (bothL a b) a = true := by
  rw [below_iff (h.both k) h]
  intro i j hi hj e
  rw [hB_both h k i j hi hj, Bool.and_eq_true] at e
  exact e.1
theorem both_below2 {n : Nat} {a b : List Int} (h : Rl n a) (k : Rl n b) : belowB (bothL a b) b = true := by
  rw [below_iff (h.both k) k]
  intro i j hi hj e
  rw [hB_both h k i j hi hj, Bool.and_eq_true] at e
  exact e.2
theorem turn_other {n : Nat} {a : List Int} (h : Rl n a) : turnL (otherL a) = otherL (turnL a) :=
  Rl.ext h.other.turn h.turn.other fun i j hi hj => by rw [hB_turn h.other i j hi hj, hB_other h j i hj hi, hB_other h.turn i j hi hj, hB_turn h i j hi hj]
/-! as many pairs turned -/
def b2 (b : Bool) : Int := if b then 1 else 0
theorem cnt_has : ∀ z : Fin 16, cnt (z.val : Int) = b2 (hasB (z.val : Int) 0) + b2 (hasB (z.val : Int) 1) + b2 (hasB (z.val : Int) 2) + b2 (hasB (z.val : Int) 3) := by decide +kernel
theorem has_zero : ∀ j : Fin 4, hasB 0 j.val = false := by decide +kernel
theorem cnt_hB {n : Nat} {a : List Int} (h : Rl n a) (i : Nat) : cnt (rowAt a i) = b2 (hB a i 0) + b2 (hB a i 1) + b2 (hB a i 2) + b2 (hB a i 3) := by
  obtain ⟨y, hy, _⟩ := h.row i
  unfold hB
  rw [hy]
  exact cnt_has y
theorem hB_out {n : Nat} {a : List Int} (h : Rl n a) (i j : Nat) (hj : j < 4) (ho : ¬ (i < n ∧ j < n)) : hB a i j = false := by
  have h4 := h.four
  by_cases hjn : j < n
  · have hi : n ≤ i := by omega
    have e : rowAt a i = 0 := by
      unfold rowAt
      rw [List.getD_eq_getElem?_getD, List.getElem?_eq_none (by rw [h.len]; exact hi)]
      rfl
    unfold hB
    rw [e]
    exact has_zero ⟨j, hj⟩
  · obtain ⟨y, hy, hl⟩ := h.row i
    unfold hB
    rw [hy]
    exact b_out ⟨n, by omega⟩ y hl ⟨j, hj⟩ (by simpa using hjn)
theorem hB_turn4 {n : Nat} {a : List Int} (h : Rl n a) (i j : Nat) (hi : i < 4) (hj : j < 4) : hB (turnL a) i j = hB a j i := by
  by_cases hin : i < n ∧ j < n
  · exact hB_turn h i j hin.1 hin.2
  · rw [hB_out h.turn i j hj hin, hB_out h j i hi (fun e => hin ⟨e.2, e.1⟩)]
theorem size_rows {n : Nat} {a : List Int} (h : Rl n a) : sizeL a = cnt (rowAt a 0) + cnt (rowAt a 1) + cnt (rowAt a 2) + cnt (rowAt a 3) := by
  have h1 := h.one
  have h4 := h.four
  have hl := h.len
  match a, hl with
  | [], hl => simp at hl; omega
  | [x], _ => simp [sizeL, rowAt, cnt]
  | [x, y], _ => simp [sizeL, rowAt, cnt]
  | [x, y, z], _ => simp [sizeL, rowAt, cnt]
  | [x, y, z, u], _ => simp [sizeL, rowAt, cnt]
  | _ :: _ :: _ :: _ :: _ :: _, hl => simp at hl; omega
theorem size_turn {n : Nat} {a : List Int} (h : Rl n a) : sizeL (turnL a) = sizeL a := by
  have e := fun i (hi : i < 4) => cnt_hB h.turn i
  rw [size_rows h.turn, size_rows h, cnt_hB h.turn, cnt_hB h.turn, cnt_hB h.turn, cnt_hB h.turn, cnt_hB h, cnt_hB h, cnt_hB h, cnt_hB h]
  rw [hB_turn4 h 0 0 (by decide) (by decide), hB_turn4 h 0 1 (by decide) (by decide), hB_turn4 h 0 2 (by decide) (by decide), hB_turn4 h 0 3 (by decide) (by decide),
    hB_turn4 h 1 0 (by decide) (by decide), hB_turn4 h 1 1 (by decide) (by decide), hB_turn4 h 1 2 (by decide) (by decide), hB_turn4 h 1 3 (by decide) (by decide),
    hB_turn4 h 2 0 (by decide) (by decide), hB_turn4 h 2 1 (by decide) (by decide), hB_turn4 h 2 2 (by decide) (by decide), hB_turn4 h 2 3 (by decide) (by decide),
    hB_turn4 h 3 0 (by decide) (by decide), hB_turn4 h 3 1 (by decide) (by decide), hB_turn4 h 3 2 (by decide) (by decide), hB_turn4 h 3 3 (by decide) (by decide)]
  omega
theorem cSize {n : Nat} {xs : List Int} (h : Rl n xs) (s : Int) (hs : sizeL xs = s) (ao : Option Addr) (ca : Nat) (w : World) (hx : Rd w ao xs) : Calls Try.prog 8 #[.slice ao xs.length ca] w fun e w' => e = .returned (.tuple #[.int .i64 s, .bool true]) ∧ Below w.heap.size w w' := by
  have := implRelSize_any ao ca xs w (rl_short h) hx
  rw [h.ok] at this
  subst hs
  exact this

/-! stars are powers of more -/
theorem pow_more {a : List Int} (h : Rl a.length a) (k : Nat) : powL (eitherL a (sameL a.length)) k = upL a k := by
  have hs := Rl.same h.one h.four
  have hb : (eitherL a (sameL a.length)).length = a.length := (h.either hs).len
  have hb' : Rl (eitherL a (sameL a.length)).length (eitherL a (sameL a.length)) := by rw [hb]; exact h.either hs
  induction k with
  | zero =>
    show sameL (eitherL a (sameL a.length)).length = sameL a.length
    rw [hb]
  | succ k ih =>
    show compL (powL (eitherL a (sameL a.length)) k) (eitherL a (sameL a.length)) = eitherL (upL a k) (compL (upL a k) a)
    rw [ih]
    refine ((h.up k).comp (h.either hs)).ext ((h.up k).either ((h.up k).comp h)) fun i j hi hj => ?_
    rw [Bool.eq_iff_iff, hB_either (h.up k) ((h.up k).comp h) i j hi hj, Bool.or_eq_true, hB_comp (h.up k) (h.either hs) i j hi hj, hB_comp (h.up k) h i j hi hj]
    constructor
    · rintro ⟨l, hl, e1, e2⟩
      rw [hB_either h hs l j hl hj, Bool.or_eq_true] at e2
      rcases e2 with e2 | e2
      · exact .inr ⟨l, hl, e1, e2⟩
      · rw [hB_same h.four l j hl hj] at e2
        have := of_decide_eq_true e2
        subst this
        exact .inl e1
    · rintro (e | ⟨l, hl, e1, e2⟩)
      · refine ⟨j, hj, e, ?_⟩
        rw [hB_either h hs j j hj hj, hB_same h.four j j hj hj]
        simp
      · refine ⟨l, hl, e1, ?_⟩
        rw [hB_either h hs l j hl hj, e2]
        rfl
theorem star_pow {a : List Int} (h : Rl a.length a) : powL (eitherL a (sameL a.length)) a.length = starL a := by
  rw [pow_more h]
  refine (h.up _).ext h.star fun i j hi hj => ?_
  unfold starL
  rw [Bool.eq_iff_iff, hB_up h i j hi hj, hB_either h.reach (Rl.same h.one h.four) i j hi hj, Bool.or_eq_true, hB_reach h i j hi hj]
  constructor
  · rintro ⟨t, ht, e⟩
    rcases Nat.eq_zero_or_pos t with rfl | h1
    · exact .inr e
    · exact .inl ⟨t, h1, e⟩
  · rintro (⟨t, h1, e⟩ | e)
    · obtain ⟨s, _, hs2, e2⟩ := short1 h i j hi hj t h1 e
      exact ⟨s, hs2, e2⟩
    · exact ⟨0, Nat.zero_le _, e⟩
end Go.Proofs.Ytebkeebgjjmdbab
