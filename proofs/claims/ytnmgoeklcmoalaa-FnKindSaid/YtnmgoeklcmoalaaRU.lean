/-
  A relation of kinds is of each one; transitive and reflexive ones turned.
-/
import Derived.Test.YtnmgoeklcmoalaaRK
namespace Go.Proofs.Ytnmgoeklcmoalaa
open Go.RowKit

theorem cut_size (st : ByteArray) (i : Nat) (h : i < st.size) : (st.extract i (i + 1)).size = 1 := by
  simp [ByteArray.size_extract]; omega
theorem cut_byt (st : ByteArray) (i : Nat) (h : i < st.size) : byt (st.extract i (i + 1)) 0 = byt st i := by
  have h1 : 0 < (st.extract i (i + 1)).size := by rw [cut_size st i h]; decide
  unfold byt
  rw [dif_pos h1, dif_pos h]
  simp [ByteArray.getElem_extract]
theorem kind_each {a : List Int} {st : ByteArray} (h : kindInB a st = true) (i : Nat) (hi : i < st.size) : kindInB a (st.extract i (i + 1)) = true := by
  unfold kindInB at h
  rw [Bool.and_eq_true, Bool.and_eq_true] at h
  have h1 := letters_of h.1.2 i hi
  have h2 : kindB (byt st i) a = true := by
    have := h.2
    unfold allK allTo at this
    rw [List.all_eq_true] at this
    exact this i (List.mem_range.2 hi)
  unfold kindInB
  rw [h.1.1]
  unfold textTo allK allTo letB
  rw [cut_size st i hi, show List.range 1 = [0] from rfl, List.all_cons, List.all_cons, List.all_nil, List.all_nil, cut_byt st i hi, h1, h2]
  rfl
theorem turned_t {n : Nat} {a : List Int} (R : Rl n a) : kindT (turnL a) = kindT a := by
  unfold kindT
  rw [Bool.eq_iff_iff, below_iff (R.turn.comp R.turn) R.turn, below_iff (R.comp R) R]
  constructor
  · intro h i j hi hj e
    obtain ⟨l, hl, e1, e2⟩ := (hB_comp R R i j hi hj).1 e
    have := h j i hj hi ((hB_comp R.turn R.turn j i hj hi).2 ⟨l, hl, by rw [hB_turn R j l hj hl]; exact e2, by rw [hB_turn R l i hl hi]; exact e1⟩)
    rw [hB_turn R j i hj hi] at this
    exact this
  · intro h i j hi hj e
    obtain ⟨l, hl, e1, e2⟩ := (hB_comp R.turn R.turn i j hi hj).1 e
    rw [hB_turn R i l hi hl] at e1
    rw [hB_turn R l j hl hj] at e2
    rw [hB_turn R i j hi hj]
    exact h j i hj hi ((hB_comp R R j i hj hi).2 ⟨l, hl, e2, e1⟩)
theorem turned_r {n : Nat} {a : List Int} (R : Rl n a) : kindR (turnL a) = kindR a := by
  have h4 := R.four
  unfold kindR
  rw [R.turn.len, R.len, Bool.eq_iff_iff, below_iff (Rl.same R.one R.four) R.turn, below_iff (Rl.same R.one R.four) R]
  constructor
  · intro h i j hi hj e
    have := h i j hi hj e
    rw [hB_same h4 i j hi hj, decide_eq_true_iff] at e
    subst e
    rw [hB_turn R j j hi hi] at this
    exact this
  · intro h i j hi hj e
    have := h i j hi hj e
    rw [hB_same h4 i j hi hj, decide_eq_true_iff] at e
    subst e
    rw [hB_turn R j j hi hi]
    exact this
theorem oneIn {n : Nat} {a : List Int} (R : Rl n a) (c : UInt8) (h : textTo ⟨#[c]⟩ risat 1 = true) : kindInB a ⟨#[c]⟩ = kindB c.toNat a := by
  unfold kindInB allK allTo
  rw [R.ok, show textTo ⟨#[c]⟩ risat (⟨#[c]⟩ : ByteArray).size = true from h]
  show (true && true && (List.range 1).all fun i => kindB (byt ⟨#[c]⟩ i) a) = _
  rw [show List.range 1 = [0] from rfl, List.all_cons, List.all_nil, Bool.and_true, Bool.and_true, Bool.true_and]
  rfl
theorem in_tT {n : Nat} {a : List Int} (R : Rl n a) : kindInB (turnL a) ⟨#[116]⟩ = kindInB a ⟨#[116]⟩ := by
  rw [oneIn R 116 (by decide +kernel), oneIn R.turn 116 (by decide +kernel)]
  exact turned_t R
theorem in_rT {n : Nat} {a : List Int} (R : Rl n a) : kindInB (turnL a) ⟨#[114]⟩ = kindInB a ⟨#[114]⟩ := by
  rw [oneIn R 114 (by decide +kernel), oneIn R.turn 114 (by decide +kernel)]
  exact turned_r R
end Go.Proofs.Ytnmgoeklcmoalaa
