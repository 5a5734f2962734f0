/-
  Least and greatest relations of a kind are of it, and are their own least and greatest ones.
-/
import Derived.Test.YtnmgoeklcmoalaaGB
import Derived.Test.YtnmgoeklcmoalaaHH
import Derived.Test.YtnmgoeklcmoalaaHS
namespace Go.Proofs.Ytnmgoeklcmoalaa
open Go.RowKit

theorem text_more {st lt : ByteArray} (h : textTo st lt st.size = true) (hm : ∀ k, k < st.size → hasTo risat (byt st k) risat.size = true) : textTo st risat st.size = true := by
  unfold textTo at h ⊢
  rw [List.all_eq_true] at h ⊢
  intro i hi
  have := h i hi
  unfold letB at this ⊢
  rw [Bool.and_eq_true] at this ⊢
  exact ⟨hm i (List.mem_range.1 hi), this.2⟩
theorem all_kinds {xs : List Int} {st : ByteArray} (h : ∀ k, k < st.size → kindB (byt st k) xs = true) : allK xs st = true := by
  unfold allK allTo
  rw [List.all_eq_true]
  intro i hi
  exact h i (List.mem_range.1 hi)
theorem kind_refl {n : Nat} {M : List Int} (R : Rl n M) (h : ∀ i, i < n → hB M i i = true) : kindR M = true := by
  have h4 := R.four
  unfold kindR
  rw [R.len, below_iff (Rl.same R.one R.four) R]
  intro i j hi hj e
  rw [hB_same h4 i j hi hj, decide_eq_true_iff] at e
  subst e
  exact h j hi
theorem kind_irr {n : Nat} {M : List Int} (R : Rl n M) (h : ∀ i, i < n → hB M i i = false) : kindI M = true := by
  have h4 := R.four
  unfold kindI
  rw [R.len, below_iff (Rl.same R.one R.four) R.other]
  intro i j hi hj e
  rw [hB_same h4 i j hi hj, decide_eq_true_iff] at e
  subst e
  rw [hB_other R j j hi hi, h j hi]
  rfl
theorem kind_sym {n : Nat} {M : List Int} (R : Rl n M) (h : ∀ i j, i < n → j < n → hB M i j = true → hB M j i = true) : kindS M = true := by
  unfold kindS
  rw [decide_eq_true_iff]
  refine R.ext R.turn fun i j hi hj => ?_
  rw [hB_turn R i j hi hj]
  exact bool_iff ⟨h i j hi hj, h j i hj hi⟩
theorem least_kind {n : Nat} {c : Nat} {M : List Int} (R : Rl n M) (hc : c = 114 ∨ c = 115 ∨ c = 116) (h : ofC n c M) : kindB c M = true := by
  rcases hc with rfl | rfl | rfl
  · exact kind_refl R (h.1 rfl)
  · exact kind_sym R (h.2.1 rfl)
  · exact h.2.2 rfl
theorem most_kind {n : Nat} {c : Nat} {M : List Int} (R : Rl n M) (hc : c = 105 ∨ c = 115) (h : ofM n c M) : kindB c M = true := by
  rcases hc with rfl | rfl
  · exact kind_irr R (h.1 rfl)
  · exact kind_sym R (h.2 rfl)
theorem least_in {xs : List Int} {st : ByteArray} (h : leastB xs st = true) : kindInB (leastL xs st) st = true := by
  unfold leastB at h
  rw [Bool.and_eq_true] at h
  have R := Rl.of h.1
  have L := least_rl R st
  unfold kindInB
  rw [L.ok, text_more h.2 fun k hk => by rcases rstIn h.2 k hk with e | e | e <;> rw [e] <;> decide +kernel, all_kinds fun k hk => least_kind L (rstIn h.2 k hk) (least_of R st _ ((hasTo_iff st _ _).2 ⟨k, hk, rfl⟩))]
  rfl
theorem least_again {xs : List Int} {st : ByteArray} (h : leastB xs st = true) : leastL (leastL xs st) st = leastL xs st ∧ leastB (leastL xs st) st = true := by
  unfold leastB at h
  rw [Bool.and_eq_true] at h
  have R := Rl.of h.1
  have L := least_rl R st
  refine ⟨sub.anti (least_rl L st) L (least_least L L st (sub.refl _) fun c hc => least_of R st c hc) (least_sub L st), ?_⟩
  unfold leastB
  rw [L.ok, h.2]
  rfl
theorem most_in {xs : List Int} {st : ByteArray} (h : mostB xs st = true) : kindInB (mostL xs st) st = true := by
  unfold mostB at h
  rw [Bool.and_eq_true] at h
  have R := Rl.of h.1
  have L := most_rl R st
  unfold kindInB
  rw [L.ok, text_more h.2 fun k hk => by rcases isTIn h.2 k hk with e | e <;> rw [e] <;> decide +kernel, all_kinds fun k hk => most_kind L (isTIn h.2 k hk) (most_of R st _ ((hasTo_iff st _ _).2 ⟨k, hk, rfl⟩))]
  rfl
theorem most_again {xs : List Int} {st : ByteArray} (h : mostB xs st = true) : mostL (mostL xs st) st = mostL xs st ∧ mostB (mostL xs st) st = true := by
  unfold mostB at h
  rw [Bool.and_eq_true] at h
  have R := Rl.of h.1
  have L := most_rl R st
  refine ⟨sub.anti (most_rl L st) L (most_sub L st) (most_most L st (sub.refl _) fun c hc => most_of R st c hc), ?_⟩
  unfold mostB
  rw [L.ok, h.2]
  rfl
/-! contracts -/
theorem vLeast {xs : List Int} {st : ByteArray} (h : leastB xs st = true) (hs : st.size ≤ 1048576) (ao : Option Addr) (ca : Nat) (w : World) (hx : Rd w ao (leastL xs st)) : Calls Try.prog 37 #[.slice ao (leastL xs st).length ca, .string st] w (Gave w (leastL xs st) true) := by
  have R := Rl.of (by unfold leastB at h; rw [Bool.and_eq_true] at h; exact h.1)
  have := implKindLeast_any ao ca (leastL xs st) st w (rl_short (least_rl R st)) hs hx
  rw [(least_again h).2, (least_again h).1] at this
  exact this
theorem vLeastIn {xs : List Int} {st : ByteArray} (h : leastB xs st = true) (hs : st.size ≤ 1048576) (ao : Option Addr) (ca : Nat) (w : World) (hx : Rd w ao (leastL xs st)) : Calls Try.prog 34 #[.slice ao (leastL xs st).length ca, .string st] w fun e w' => e = .returned (.bool true) ∧ Below w.heap.size w w' := by
  have R := Rl.of (by unfold leastB at h; rw [Bool.and_eq_true] at h; exact h.1)
  have := implKindIn_any ao ca (leastL xs st) st w (rl_short (least_rl R st)) hs hx
  rw [least_in h] at this
  exact this
theorem vMost {xs : List Int} {st : ByteArray} (h : mostB xs st = true) (hs : st.size ≤ 1048576) (ao : Option Addr) (ca : Nat) (w : World) (hx : Rd w ao (mostL xs st)) : Calls Try.prog 32 #[.slice ao (mostL xs st).length ca, .string st] w (Gave w (mostL xs st) true) := by
  have R := Rl.of (by unfold mostB at h; rw [Bool.and_eq_true] at h; exact h.1)
  have := implKindMost_any ao ca (mostL xs st) st w (rl_short (most_rl R st)) hs hx
  rw [(most_again h).2, (most_again h).1] at this
  exact this
theorem vMostIn {xs : List Int} {st : ByteArray} (h : mostB xs st = true) (hs : st.size ≤ 1048576) (ao : Option Addr) (ca : Nat) (w : World) (hx : Rd w ao (mostL xs st)) : Calls Try.prog 34 #[.slice ao (mostL xs st).length ca, .string st] w fun e w' => e = .returned (.bool true) ∧ Below w.heap.size w w' := by
  have R := Rl.of (by unfold mostB at h; rw [Bool.and_eq_true] at h; exact h.1)
  have := implKindIn_any ao ca (mostL xs st) st w (rl_short (most_rl R st)) hs hx
  rw [most_in h] at this
  exact this
end Go.Proofs.Ytnmgoeklcmoalaa
