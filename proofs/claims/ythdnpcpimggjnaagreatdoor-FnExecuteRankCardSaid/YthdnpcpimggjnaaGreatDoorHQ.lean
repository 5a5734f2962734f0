/-
  Steps that are repeated until nothing changes: where they end; least relations of kinds, and greatest ones.
-/
import Derived.Test.YthdnpcpimggjnaaGreatDoorHB
import Derived.Test.YthdnpcpimggjnaaGreatDoorDD
namespace Go.Proofs.YthdnpcpimggjnaaGreatDoor
open Go.RowKit

/-- what is related by a is related by b -/
def sub (n : Nat) (a b : List Int) : Prop := ∀ i j, i < n → j < n → hB a i j = true → hB b i j = true
theorem sub.refl {n : Nat} (a : List Int) : sub n a a := fun _ _ _ _ h => h
theorem sub.trans {n : Nat} {a b c : List Int} (h : sub n a b) (k : sub n b c) : sub n a c := fun i j hi hj e => k i j hi hj (h i j hi hj e)
theorem sub.anti {n : Nat} {a b : List Int} (ra : Rl n a) (rb : Rl n b) (h : sub n a b) (k : sub n b a) : a = b :=
  ra.ext rb fun i j hi hj => by rw [Bool.eq_iff_iff]; exact ⟨h i j hi hj, k i j hi hj⟩

/-! pairs, counted -/
def z16 (x : Int) : Fin 16 := ⟨x.toNat % 16, Nat.mod_lt _ (by decide)⟩
theorem z16_val (y : Fin 16) : z16 (y.val : Int) = y := Fin.ext (by unfold z16; simp)
def weight (xs : List Int) : Nat := cntN (z16 (rowAt xs 0)).val + cntN (z16 (rowAt xs 1)).val + cntN (z16 (rowAt xs 2)).val + cntN (z16 (rowAt xs 3)).val
theorem cntN_le (z : Fin 16) : cntN z.val ≤ 4 := by unfold cntN; omega
theorem weight_le (xs : List Int) : weight xs ≤ 16 := by
  unfold weight
  have := cntN_le (z16 (rowAt xs 0))
  have := cntN_le (z16 (rowAt xs 1))
  have := cntN_le (z16 (rowAt xs 2))
  have := cntN_le (z16 (rowAt xs 3))
  omega
theorem row_grow {n : Nat} {a b : List Int} (ra : Rl n a) (rb : Rl n b) (h : sub n a b) (i : Nat) : rowAt a i = rowAt b i ∨ cntN (z16 (rowAt a i)).val < cntN (z16 (rowAt b i)).val := by
  obtain ⟨x, hx, hx2⟩ := ra.row i
  obtain ⟨y, hy, hy2⟩ := rb.row i
  by_cases hi : i < n
  · rw [hx, hy, z16_val, z16_val]
    have hg : ∀ j : Fin 4, hasB (x.val : Int) j.val = true → hasB (y.val : Int) j.val = true := by
      intro j e
      by_cases hj : j.val < n
      · have := h i j.val hi hj (by unfold hB; rw [hx]; exact e)
        unfold hB at this
        rw [hy] at this
        exact this
      · rw [b_out ⟨n, by have := ra.four; omega⟩ x hx2 j (by simpa using hj)] at e
        cases e
    rcases cnt_grow x y hg with e | e
    · exact .inl (by rw [e])
    · exact .inr e
  · left
    rw [rowAt_out _ _ (by rw [ra.len]; exact hi), rowAt_out _ _ (by rw [rb.len]; exact hi)]
theorem weight_grow {n : Nat} {a b : List Int} (ra : Rl n a) (rb : Rl n b) (h : sub n a b) (hne : a ≠ b) : weight a < weight b := by
  have h0 := row_grow ra rb h 0
  have h1 := row_grow ra rb h 1
  have h2 := row_grow ra rb h 2
  have h3 := row_grow ra rb h 3
  have key : ¬ (rowAt a 0 = rowAt b 0 ∧ rowAt a 1 = rowAt b 1 ∧ rowAt a 2 = rowAt b 2 ∧ rowAt a 3 = rowAt b 3) := by
    rintro ⟨e0, e1, e2, e3⟩
    apply hne
    apply List.ext_getElem?
    intro i
    by_cases hi : i < n
    · have h4 := ra.four
      rw [rowAt_get (by rw [ra.len]; exact hi), rowAt_get (by rw [rb.len]; exact hi)]
      rcases (by omega : i = 0 ∨ i = 1 ∨ i = 2 ∨ i = 3) with rfl | rfl | rfl | rfl
      · rw [e0]
      · rw [e1]
      · rw [e2]
      · rw [e3]
    · rw [List.getElem?_eq_none (by rw [ra.len]; omega), List.getElem?_eq_none (by rw [rb.len]; omega)]
  have le : ∀ {i : Nat}, (rowAt a i = rowAt b i ∨ cntN (z16 (rowAt a i)).val < cntN (z16 (rowAt b i)).val) → cntN (z16 (rowAt a i)).val ≤ cntN (z16 (rowAt b i)).val := by
    intro i h
    rcases h with e | e
    · rw [e]; exact Nat.le_refl _
    · omega
  have l0 := le h0
  have l1 := le h1
  have l2 := le h2
  have l3 := le h3
  unfold weight
  by_cases e0 : rowAt a 0 = rowAt b 0
  · by_cases e1 : rowAt a 1 = rowAt b 1
    · by_cases e2 : rowAt a 2 = rowAt b 2
      · have e3 : ¬ rowAt a 3 = rowAt b 3 := fun e3 => key ⟨e0, e1, e2, e3⟩
        have := h3.resolve_left e3
        omega
      · have := h2.resolve_left e2
        omega
    · have := h1.resolve_left e1
      omega
  · have := h0.resolve_left e0
    omega

/-! steps, one after another -/
def roundTo (g : Nat → List Int → List Int) (xs : List Int) : Nat → List Int
  | 0 => xs
  | k + 1 => g k (roundTo g xs k)
theorem round_rl {n m : Nat} {g : Nat → List Int → List Int} (hR : ∀ k, k < m → ∀ xs, Rl n xs → Rl n (g k xs)) {xs : List Int} (h : Rl n xs) : ∀ k, k ≤ m → Rl n (roundTo g xs k)
  | 0, _ => h
  | k + 1, hk => hR k (by omega) _ (round_rl hR h k (by omega))
/-- steps that all go one way: if nothing has changed at their end, none changes anything -/
theorem round_fix {n m : Nat} {g : Nat → List Int → List Int} (le : List Int → List Int → Prop) (lr : ∀ a, le a a) (lt : ∀ a b c, le a b → le b c → le a c) (la : ∀ a b, Rl n a → Rl n b → le a b → le b a → a = b)
    (hR : ∀ k, k < m → ∀ xs, Rl n xs → Rl n (g k xs)) (hI : ∀ k, k < m → ∀ xs, Rl n xs → le xs (g k xs)) {xs : List Int} (h : Rl n xs) (e : roundTo g xs m = xs) : ∀ k, k < m → g k xs = xs := by
  have up : ∀ a d, a + d ≤ m → le (roundTo g xs a) (roundTo g xs (a + d)) := by
    intro a d
    induction d with
    | zero => intro _; exact lr _
    | succ d ih => intro hd; exact lt _ _ _ (ih (by omega)) (hI (a + d) (by omega) _ (round_rl hR h _ (by omega)))
  have same : ∀ k, k ≤ m → roundTo g xs k = xs := by
    intro k hk
    refine la _ _ (round_rl hR h k hk) h ?_ ?_
    · have := up k (m - k) (by omega)
      rw [show k + (m - k) = m by omega, e] at this
      exact this
    · have := up 0 k (by omega)
      rw [Nat.zero_add] at this
      exact this
  intro k hk
  have e1 := same (k + 1) (by omega)
  have e2 := same k (by omega)
  show g k xs = xs
  have e3 : g k (roundTo g xs k) = xs := e1
  rw [e2] at e3
  exact e3

/-! the least one -/
def leastF (c : Nat) (xs : List Int) : List Int := if c = 114 then eitherL xs (sameL xs.length) else if c = 115 then eitherL xs (turnL xs) else reachL xs
theorem reach_rl {n : Nat} {xs : List Int} (h : Rl n xs) : Rl n (reachL xs) := by
  obtain rfl := h.len
  exact h.reach
theorem same_rl {n : Nat} {xs : List Int} (h : Rl n xs) : Rl n (sameL xs.length) := by rw [h.len]; exact Rl.same h.one h.four
theorem leastF_rl {n : Nat} (c : Nat) {xs : List Int} (h : Rl n xs) : Rl n (leastF c xs) := by
  unfold leastF
  split
  · exact h.either (same_rl h)
  · split
    · exact h.either h.turn
    · exact reach_rl h
theorem leastF_inc {n : Nat} (c : Nat) {xs : List Int} (h : Rl n xs) : sub n xs (leastF c xs) := by
  intro i j hi hj e
  unfold leastF
  split
  · rw [hB_either h (same_rl h) i j hi hj, e]; rfl
  · split
    · rw [hB_either h h.turn i j hi hj, e]; rfl
    · obtain rfl := h.len
      exact (below_iff h h.reach).1 (reach_has h) i j hi hj e
/-- what is reached stays below what is transitive -/
theorem reach_in {n : Nat} {xs M : List Int} (h : Rl n xs) (hM : Rl n M) (ht : belowB (compL M M) M = true) (hs : sub n xs M) : sub n (reachL xs) M := by
  obtain rfl := h.len
  intro i j hi hj e
  obtain ⟨t, h1, e⟩ := (hB_reach h i j hi hj).1 e
  have key : ∀ t, 1 ≤ t → ∀ j, j < xs.length → hB (powL xs t) i j = true → hB M i j = true := by
    intro t
    induction t with
    | zero => intro h0; omega
    | succ t ih =>
      intro _ j hj e
      by_cases h0 : t = 0
      · subst h0
        have e2 := hB_pow1 h i j hi hj
        exact hs i j hi hj (by rw [← e2]; exact e)
      · obtain ⟨l, hl, f1, f2⟩ := (hB_comp (h.pow t) h i j hi hj).1 e
        have g1 := ih (by omega) l hl f1
        exact (below_iff (hM.comp hM) hM).1 ht i j hi hj ((hB_comp hM hM i j hi hj).2 ⟨l, hl, g1, hs l j hl hj f2⟩)
  exact key t h1 j hj e
/-- of a kind, by its letter -/
def ofC (n : Nat) (c : Nat) (M : List Int) : Prop :=
  (c = 114 → ∀ i, i < n → hB M i i = true) ∧ (c = 115 → ∀ i j, i < n → j < n → hB M i j = true → hB M j i = true) ∧ (c = 116 → belowB (compL M M) M = true)
theorem leastF_in {n : Nat} {c : Nat} (hc : c = 114 ∨ c = 115 ∨ c = 116) {xs M : List Int} (h : Rl n xs) (hM : Rl n M) (ho : ofC n c M) (hs : sub n xs M) : sub n (leastF c xs) M := by
  rcases hc with rfl | rfl | rfl
  · show sub n (eitherL xs (sameL xs.length)) M
    intro i j hi hj e
    rw [hB_either h (same_rl h) i j hi hj, Bool.or_eq_true, h.len] at e
    rcases e with e | e
    · exact hs i j hi hj e
    · rw [hB_same h.four i j hi hj] at e
      obtain rfl := of_decide_eq_true e
      exact ho.1 rfl j hj
  · show sub n (eitherL xs (turnL xs)) M
    intro i j hi hj e
    rw [hB_either h h.turn i j hi hj, Bool.or_eq_true] at e
    rcases e with e | e
    · exact hs i j hi hj e
    · rw [hB_turn h i j hi hj] at e
      exact ho.2.1 rfl j i hj hi (hs j i hj hi e)
  · exact reach_in h hM (ho.2.2 rfl) hs
/-- a step that changes nothing tells the kind -/
theorem leastF_fix {n : Nat} {c : Nat} (hc : c = 114 ∨ c = 115 ∨ c = 116) {xs : List Int} (h : Rl n xs) (e : leastF c xs = xs) : ofC n c xs := by
  rcases hc with rfl | rfl | rfl
  · refine ⟨fun _ i hi => ?_, fun q => absurd q (by decide), fun q => absurd q (by decide)⟩
    have e2 : eitherL xs (sameL xs.length) = xs := e
    rw [← e2, hB_either h (same_rl h) i i hi hi, h.len, hB_same h.four i i hi hi]
    simp
  · refine ⟨fun q => absurd q (by decide), fun _ i j hi hj hb => ?_, fun q => absurd q (by decide)⟩
    have e2 : eitherL xs (turnL xs) = xs := e
    rw [← e2, hB_either h h.turn j i hj hi, hB_turn h j i hj hi, hb]
    simp
  · refine ⟨fun q => absurd q (by decide), fun q => absurd q (by decide), fun _ => ?_⟩
    have e2 : reachL xs = xs := e
    obtain rfl := h.len
    have := reach_trans h
    rw [e2] at this
    exact this

/-! where least steps end -/
theorem rstIn {st : ByteArray} (h : textTo st rst st.size = true) (k : Nat) (hk : k < st.size) : byt st k = 114 ∨ byt st k = 115 ∨ byt st k = 116 := by
  have h1 : letB st rst k = true := by
    cases hh : letB st rst k with
    | true => rfl
    | false => rw [textTo_no st rst k st.size hk hh] at h; cases h
  unfold letB at h1
  rw [Bool.and_eq_true] at h1
  have h2 := h1.1
  unfold hasTo at h2
  rw [List.any_eq_true] at h2
  obtain ⟨i, hi, e⟩ := h2
  have hi : i < 3 := List.mem_range.1 hi
  have e : byt rst i = byt st k := of_decide_eq_true e
  rcases (by omega : i = 0 ∨ i = 1 ∨ i = 2) with rfl | rfl | rfl
  · exact .inl e.symm
  · exact .inr (.inl e.symm)
  · exact .inr (.inr e.symm)
theorem hasTo_iff (st : ByteArray) (c n : Nat) : hasTo st c n = true ↔ ∃ k, k < n ∧ byt st k = c := by
  unfold hasTo
  rw [List.any_eq_true]
  constructor
  · rintro ⟨k, hk, e⟩
    exact ⟨k, List.mem_range.1 hk, of_decide_eq_true e⟩
  · rintro ⟨k, hk, e⟩
    exact ⟨k, List.mem_range.2 hk, decide_eq_true e⟩
theorem leastS_eq (xs : List Int) (b : Bool) : leastS xs b = if b then eitherL xs (turnL xs) else xs := rfl
theorem leastR_eq (xs : List Int) (b : Bool) : leastR xs b = if b then eitherL xs (sameL xs.length) else xs := rfl
theorem leastS_rl {n : Nat} {xs : List Int} (h : Rl n xs) (b : Bool) : Rl n (leastS xs b) := by
  cases b
  · exact h
  · exact h.either h.turn
theorem leastT_rl {n : Nat} {xs : List Int} (h : Rl n xs) (b : Bool) : Rl n (leastT xs b) := by
  cases b
  · exact h
  · exact reach_rl h
theorem leastR_rl {n : Nat} {xs : List Int} (h : Rl n xs) (b : Bool) : Rl n (leastR xs b) := by
  cases b
  · exact h
  · exact h.either (same_rl h)
theorem least_rl {n : Nat} {xs : List Int} (h : Rl n xs) (st : ByteArray) : Rl n (leastL xs st) := leastR_rl (leastT_rl (leastS_rl h _) _) _
theorem leastS_sub {n : Nat} {xs : List Int} (h : Rl n xs) (b : Bool) : sub n xs (leastS xs b) := by
  cases b
  · exact sub.refl _
  · exact leastF_inc 115 h
theorem leastT_sub {n : Nat} {xs : List Int} (h : Rl n xs) (b : Bool) : sub n xs (leastT xs b) := by
  cases b
  · exact sub.refl _
  · exact leastF_inc 116 h
theorem leastR_sub {n : Nat} {xs : List Int} (h : Rl n xs) (b : Bool) : sub n xs (leastR xs b) := by
  cases b
  · exact sub.refl _
  · exact leastF_inc 114 h
theorem least_sub {n : Nat} {xs : List Int} (h : Rl n xs) (st : ByteArray) : sub n xs (leastL xs st) :=
  ((leastS_sub h _).trans (leastT_sub (leastS_rl h _) _)).trans (leastR_sub (leastT_rl (leastS_rl h _) _) _)
theorem Rl.self' {n : Nat} {xs : List Int} (h : Rl n xs) : Rl xs.length xs := by rw [h.len]; exact h
/-- symmetric ones -/
def Sym (n : Nat) (a : List Int) : Prop := ∀ i j, i < n → j < n → hB a i j = true → hB a j i = true
theorem sym_either {n : Nat} {xs : List Int} (h : Rl n xs) : Sym n (eitherL xs (turnL xs)) := by
  intro i j hi hj e
  rw [hB_either h h.turn i j hi hj, hB_turn h i j hi hj] at e
  rw [hB_either h h.turn j i hj hi, hB_turn h j i hj hi, Bool.or_comm]
  exact e
theorem sym_pow {xs : List Int} (h : Rl xs.length xs) (hs : Sym xs.length xs) (t : Nat) : ∀ i j, i < xs.length → j < xs.length → hB (powL xs t) i j = true → hB (powL xs t) j i = true := by
  induction t with
  | zero =>
    intro i j hi hj e
    have e2 : hB (sameL xs.length) i j = true := e
    show hB (sameL xs.length) j i = true
    rw [hB_same h.four i j hi hj] at e2
    obtain rfl := of_decide_eq_true e2
    rw [hB_same h.four j j hj hj]
    exact decide_eq_true rfl
  | succ t ih =>
    intro i j hi hj e
    obtain ⟨l, hl, f1, f2⟩ := (hB_comp (h.pow t) h i j hi hj).1 e
    have g1 := ih i l hi hl f1
    have g2 := hs l j hl hj f2
    have := pow_add h j i hj hi 1 t l hl (by rw [hB_pow1 h j l hj hl]; exact g2) g1
    rw [Nat.add_comm] at this
    exact this
theorem sym_reach {n : Nat} {xs : List Int} (h : Rl n xs) (hs : Sym n xs) : Sym n (reachL xs) := by
  obtain rfl := h.len
  intro i j hi hj e
  obtain ⟨t, h1, e⟩ := (hB_reach h i j hi hj).1 e
  exact (hB_reach h j i hj hi).2 ⟨t, h1, sym_pow h hs t i j hi hj e⟩
theorem sym_same {n : Nat} {xs : List Int} (h : Rl n xs) (hs : Sym n xs) : Sym n (eitherL xs (sameL xs.length)) := by
  intro i j hi hj e
  rw [hB_either h (same_rl h) i j hi hj, Bool.or_eq_true, h.len, hB_same h.four i j hi hj] at e
  rw [hB_either h (same_rl h) j i hj hi, Bool.or_eq_true, h.len, hB_same h.four j i hj hi]
  rcases e with e | e
  · exact .inl (hs i j hi hj e)
  · exact .inr (decide_eq_true (of_decide_eq_true e).symm)
theorem trans_same {n : Nat} {xs : List Int} (h : Rl n xs) (ht : belowB (compL xs xs) xs = true) : belowB (compL (eitherL xs (sameL xs.length)) (eitherL xs (sameL xs.length))) (eitherL xs (sameL xs.length)) = true := by
  have r := h.either (same_rl h)
  rw [below_iff (r.comp r) r]
  intro i j hi hj e
  obtain ⟨l, hl, f1, f2⟩ := (hB_comp r r i j hi hj).1 e
  rw [hB_either h (same_rl h) i l hi hl, Bool.or_eq_true, h.len, hB_same h.four i l hi hl] at f1
  rw [hB_either h (same_rl h) l j hl hj, Bool.or_eq_true, h.len, hB_same h.four l j hl hj] at f2
  rw [hB_either h (same_rl h) i j hi hj, Bool.or_eq_true, h.len, hB_same h.four i j hi hj]
  rcases f1 with f1 | f1
  · rcases f2 with f2 | f2
    · exact .inl ((below_iff (h.comp h) h).1 ht i j hi hj ((hB_comp h h i j hi hj).2 ⟨l, hl, f1, f2⟩))
    · obtain rfl := of_decide_eq_true f2
      exact .inl f1
  · obtain rfl := of_decide_eq_true f1
    exact f2
/-- the model's is of each kind of the text -/
theorem least_of {n : Nat} {xs : List Int} (h : Rl n xs) (st : ByteArray) (c : Nat) (hc : hasTo st c st.size = true) : ofC n c (leastL xs st) := by
  have hS := leastS_rl h (hasTo st 115 st.size)
  have hT := leastT_rl hS (hasTo st 116 st.size)
  refine ⟨?_, ?_, ?_⟩
  · rintro rfl i hi
    show hB (leastR _ (hasTo st 114 st.size)) i i = true
    rw [hc]
    show hB (eitherL _ (sameL _)) i i = true
    rw [hB_either hT (same_rl hT) i i hi hi, hT.len, hB_same h.four i i hi hi]
    simp
  · rintro rfl
    have s1 : Sym n (leastS xs (hasTo st 115 st.size)) := by rw [hc]; exact sym_either h
    have s2 : Sym n (leastT (leastS xs (hasTo st 115 st.size)) (hasTo st 116 st.size)) := by
      cases hasTo st 116 st.size
      · exact s1
      · exact sym_reach hS s1
    show Sym n (leastR _ (hasTo st 114 st.size))
    cases hasTo st 114 st.size
    · exact s2
    · exact sym_same hT s2
  · rintro rfl
    have t1 : belowB (compL (leastT (leastS xs (hasTo st 115 st.size)) (hasTo st 116 st.size)) (leastT (leastS xs (hasTo st 115 st.size)) (hasTo st 116 st.size))) (leastT (leastS xs (hasTo st 115 st.size)) (hasTo st 116 st.size)) = true := by
      rw [hc]
      exact reach_trans hS.self'
    show belowB (compL (leastR _ (hasTo st 114 st.size)) (leastR _ (hasTo st 114 st.size))) (leastR _ (hasTo st 114 st.size)) = true
    cases hasTo st 114 st.size
    · exact t1
    · exact trans_same hT t1
/-- it is below each one that has all pairs and is of the kinds of the text -/
theorem least_least {n : Nat} {xs R : List Int} (h : Rl n xs) (hR : Rl n R) (st : ByteArray) (hs : sub n xs R) (ho : ∀ c, hasTo st c st.size = true → ofC n c R) : sub n (leastL xs st) R := by
  have hS := leastS_rl h (hasTo st 115 st.size)
  have hT := leastT_rl hS (hasTo st 116 st.size)
  have s1 : sub n (leastS xs (hasTo st 115 st.size)) R := by
    cases hb : hasTo st 115 st.size
    · exact hs
    · exact leastF_in (.inr (.inl rfl)) h hR (ho 115 hb) hs
  have s2 : sub n (leastT (leastS xs (hasTo st 115 st.size)) (hasTo st 116 st.size)) R := by
    cases hb : hasTo st 116 st.size
    · exact s1
    · exact leastF_in (.inr (.inr rfl)) hS hR (ho 116 hb) s1
  show sub n (leastR _ (hasTo st 114 st.size)) R
  cases hb : hasTo st 114 st.size
  · exact s2
  · exact leastF_in (.inl rfl) hT hR (ho 114 hb) s2
/-- where the least steps of a text end -/
def leastG (st : ByteArray) (k : Nat) : List Int → List Int := leastF (byt st k)
theorem least_end {xs r : List Int} (h : Rl xs.length xs) (hr : Rl xs.length r) (st : ByteArray) (ht : textTo st rst st.size = true) (h1 : sub xs.length xs r) (h2 : sub xs.length r (leastL xs st)) (e : roundTo (leastG st) r st.size = r) : r = leastL xs st := by
  have hf := round_fix (g := leastG st) (sub xs.length) (fun a => sub.refl a) (fun a b c => sub.trans) (fun a b ra rb => sub.anti ra rb) (fun k _ xs h => leastF_rl _ h) (fun k _ xs h => leastF_inc _ h) hr e
  refine sub.anti hr (least_rl h st) h2 (least_least h hr st h1 fun c hc => ?_)
  obtain ⟨k, hk, rfl⟩ := (hasTo_iff st c st.size).1 hc
  exact leastF_fix (rstIn ht k hk) hr (hf k hk)
theorem least_step {xs r : List Int} (h : Rl xs.length xs) (hr : Rl xs.length r) (st : ByteArray) (ht : textTo st rst st.size = true) (h1 : sub xs.length xs r) (h2 : sub xs.length r (leastL xs st)) : ∀ k, k ≤ st.size →
    Rl xs.length (roundTo (leastG st) r k) ∧ sub xs.length r (roundTo (leastG st) r k) ∧ sub xs.length (roundTo (leastG st) r k) (leastL xs st)
  | 0, _ => ⟨hr, sub.refl _, h2⟩
  | k + 1, hk => by
    obtain ⟨a, b, c⟩ := least_step h hr st ht h1 h2 k (by omega)
    exact ⟨leastF_rl _ a, b.trans (leastF_inc _ a), leastF_in (rstIn ht k (by omega)) a (least_rl h st) (least_of h st _ ((hasTo_iff st _ st.size).2 ⟨k, by omega, rfl⟩)) c⟩

/-! where steps that take pairs away end: greatest relations of kinds -/
def isT : ByteArray := ⟨#[105, 115]⟩
def mostF (c : Nat) (xs : List Int) : List Int := if c = 105 then offI xs else twoW xs
def mostS (xs : List Int) (b : Bool) : List Int := if b then twoW xs else xs
def mostI (xs : List Int) (b : Bool) : List Int := if b then offI xs else xs
def mostL (xs : List Int) (st : ByteArray) : List Int := mostI (mostS xs (hasTo st 115 st.size)) (hasTo st 105 st.size)
theorem mostF_rl {n : Nat} (c : Nat) {xs : List Int} (h : Rl n xs) : Rl n (mostF c xs) := by
  unfold mostF
  split
  · exact h.off
  · exact h.twoW
theorem off_sub {n : Nat} {xs : List Int} (h : Rl n xs) : sub n (offI xs) xs := by
  intro i j hi hj e
  rw [hB_off h i j hi hj, Bool.and_eq_true] at e
  exact e.1
theorem two_sub {n : Nat} {xs : List Int} (h : Rl n xs) : sub n (twoW xs) xs := by
  intro i j hi hj e
  rw [hB_twoW h i j hi hj, Bool.and_eq_true] at e
  exact e.1
theorem mostF_dec {n : Nat} (c : Nat) {xs : List Int} (h : Rl n xs) : sub n (mostF c xs) xs := by
  unfold mostF
  split
  · exact off_sub h
  · exact two_sub h
def ofM (n : Nat) (c : Nat) (M : List Int) : Prop := (c = 105 → ∀ i, i < n → hB M i i = false) ∧ (c = 115 → Sym n M)
theorem mostF_in {n : Nat} {c : Nat} (hc : c = 105 ∨ c = 115) {xs M : List Int} (h : Rl n xs) (ho : ofM n c M) (hs : sub n M xs) : sub n M (mostF c xs) := by
  rcases hc with rfl | rfl
  · show sub n M (offI xs)
    intro i j hi hj e
    rw [hB_off h i j hi hj, hs i j hi hj e]
    by_cases q : j = i
    · subst q
      rw [ho.1 rfl j hj] at e
      cases e
    · simp [q]
  · show sub n M (twoW xs)
    intro i j hi hj e
    rw [hB_twoW h i j hi hj, hs i j hi hj e, hs j i hj hi (ho.2 rfl i j hi hj e)]
    rfl
theorem mostF_fix {n : Nat} {c : Nat} (hc : c = 105 ∨ c = 115) {xs : List Int} (h : Rl n xs) (e : mostF c xs = xs) : ofM n c xs := by
  rcases hc with rfl | rfl
  · refine ⟨fun _ i hi => ?_, fun q => absurd q (by decide)⟩
    have e2 : offI xs = xs := e
    rw [← e2, hB_off h i i hi hi]
    simp
  · refine ⟨fun q => absurd q (by decide), fun _ i j hi hj hb => ?_⟩
    have e2 : twoW xs = xs := e
    rw [← e2, hB_twoW h i j hi hj, Bool.and_eq_true] at hb
    exact hb.2
theorem isTIn {st : ByteArray} (h : textTo st isT st.size = true) (k : Nat) (hk : k < st.size) : byt st k = 105 ∨ byt st k = 115 := by
  have h1 : letB st isT k = true := by
    cases hh : letB st isT k with
    | true => rfl
    | false => rw [textTo_no st isT k st.size hk hh] at h; cases h
  unfold letB at h1
  rw [Bool.and_eq_true] at h1
  have h2 := h1.1
  unfold hasTo at h2
  rw [List.any_eq_true] at h2
  obtain ⟨i, hi, e⟩ := h2
  have hi : i < 2 := List.mem_range.1 hi
  have e : byt isT i = byt st k := of_decide_eq_true e
  rcases (by omega : i = 0 ∨ i = 1) with rfl | rfl
  · exact .inl e.symm
  · exact .inr e.symm
theorem mostS_rl {n : Nat} {xs : List Int} (h : Rl n xs) (b : Bool) : Rl n (mostS xs b) := by
  cases b
  · exact h
  · exact h.twoW
theorem mostI_rl {n : Nat} {xs : List Int} (h : Rl n xs) (b : Bool) : Rl n (mostI xs b) := by
  cases b
  · exact h
  · exact h.off
theorem most_rl {n : Nat} {xs : List Int} (h : Rl n xs) (st : ByteArray) : Rl n (mostL xs st) := mostI_rl (mostS_rl h _) _
theorem most_sub {n : Nat} {xs : List Int} (h : Rl n xs) (st : ByteArray) : sub n (mostL xs st) xs := by
  have s1 : sub n (mostS xs (hasTo st 115 st.size)) xs := by
    cases hasTo st 115 st.size
    · exact sub.refl _
    · exact two_sub h
  refine sub.trans ?_ s1
  show sub n (mostI _ (hasTo st 105 st.size)) _
  cases hasTo st 105 st.size
  · exact sub.refl _
  · exact off_sub (mostS_rl h _)
theorem sym_two {n : Nat} {xs : List Int} (h : Rl n xs) : Sym n (twoW xs) := by
  intro i j hi hj e
  rw [hB_twoW h i j hi hj] at e
  rw [hB_twoW h j i hj hi, Bool.and_comm]
  exact e
theorem sym_off {n : Nat} {xs : List Int} (h : Rl n xs) (hs : Sym n xs) : Sym n (offI xs) := by
  intro i j hi hj e
  rw [hB_off h i j hi hj, Bool.and_eq_true] at e
  rw [hB_off h j i hj hi, hs i j hi hj e.1]
  have h2 := e.2
  by_cases q : i = j
  · subst q; simp at h2
  · simp [q]
theorem most_of {n : Nat} {xs : List Int} (h : Rl n xs) (st : ByteArray) (c : Nat) (hc : hasTo st c st.size = true) : ofM n c (mostL xs st) := by
  have hS := mostS_rl h (hasTo st 115 st.size)
  refine ⟨?_, ?_⟩
  · rintro rfl i hi
    show hB (mostI _ (hasTo st 105 st.size)) i i = false
    rw [hc]
    show hB (offI _) i i = false
    rw [hB_off hS i i hi hi]
    simp
  · rintro rfl
    have s1 : Sym n (mostS xs (hasTo st 115 st.size)) := by rw [hc]; exact sym_two h
    show Sym n (mostI _ (hasTo st 105 st.size))
    cases hasTo st 105 st.size
    · exact s1
    · exact sym_off hS s1
theorem most_most {n : Nat} {xs R : List Int} (h : Rl n xs) (st : ByteArray) (hs : sub n R xs) (ho : ∀ c, hasTo st c st.size = true → ofM n c R) : sub n R (mostL xs st) := by
  have s1 : sub n R (mostS xs (hasTo st 115 st.size)) := by
    cases hb : hasTo st 115 st.size
    · exact hs
    · exact mostF_in (.inr rfl) h (ho 115 hb) hs
  show sub n R (mostI _ (hasTo st 105 st.size))
  cases hb : hasTo st 105 st.size
  · exact s1
  · exact mostF_in (.inl rfl) (mostS_rl h _) (ho 105 hb) s1
def mostG (st : ByteArray) (k : Nat) : List Int → List Int := mostF (byt st k)
theorem most_end {xs r : List Int} (h : Rl xs.length xs) (hr : Rl xs.length r) (st : ByteArray) (ht : textTo st isT st.size = true) (h1 : sub xs.length r xs) (h2 : sub xs.length (mostL xs st) r) (e : roundTo (mostG st) r st.size = r) : r = mostL xs st := by
  have hf := round_fix (g := mostG st) (fun a b => sub xs.length b a) (fun a => sub.refl a) (fun a b c p q => sub.trans q p) (fun a b ra rb p q => sub.anti ra rb q p) (fun k _ xs h => mostF_rl _ h) (fun k _ xs h => mostF_dec _ h) hr e
  refine sub.anti hr (most_rl h st) (most_most h st h1 fun c hc => ?_) h2
  obtain ⟨k, hk, rfl⟩ := (hasTo_iff st c st.size).1 hc
  exact mostF_fix (isTIn ht k hk) hr (hf k hk)
theorem most_step {xs r : List Int} (h : Rl xs.length xs) (hr : Rl xs.length r) (st : ByteArray) (ht : textTo st isT st.size = true) (h1 : sub xs.length r xs) (h2 : sub xs.length (mostL xs st) r) : ∀ k, k ≤ st.size →
    Rl xs.length (roundTo (mostG st) r k) ∧ sub xs.length (roundTo (mostG st) r k) r ∧ sub xs.length (mostL xs st) (roundTo (mostG st) r k)
  | 0, _ => ⟨hr, sub.refl _, h2⟩
  | k + 1, hk => by
    obtain ⟨a, b, c⟩ := most_step h hr st ht h1 h2 k (by omega)
    exact ⟨mostF_rl _ a, (mostF_dec _ a).trans b, mostF_in (isTIn ht k (by omega)) a (most_of h st _ ((hasTo_iff st _ st.size).2 ⟨k, by omega, rfl⟩)) c⟩
end Go.Proofs.YthdnpcpimggjnaaGreatDoor
