/-
  Where steps that take pairs away end: greatest relations of kinds.
-/
import Derived.Test.YtpcbmijencboiaaHQ
namespace Go.Proofs.Ytpcbmijencboiaa
open Go.RowKit

def isT : ByteArray := ⟨#[105, 115]⟩
def mostF (c : Nat) (xs : List Int) : List Int := if c = 105 then offI xs else twoW xs
def mostS (xs : List Int) (b : Bool) : List Int := if b then twoW xs else xs
def mostI (xs : List Int) (b : Bool) : List Int := if b then offI xs else xs
def mostL (xs : List Int) (st : ByteArray) : List Int := mostI (mostS xs (hasTo st 115 st.size)) (hasTo st 105 st.size)
theorem mostF_rl {n : Nat} (c : Nat) {xs : List Int} (h : Rl n xs) : Rl n (mostF c xs) := by
  unfold mostF
  split
  · exact h.off
  · exact h.twoW
theorem off_sub {n : Nat} {xs : List Int} (h : Rl n xs) : sub n (offI xs) xs := by
  intro i j hi hj e
  rw [hB_off h i j hi hj, Bool.and_eq_true] at e
  exact e.1
theorem two_sub {n : Nat} {xs : List Int} (h : Rl n xs) : sub n (twoW xs) xs := by
  intro i j hi hj e
  rw [hB_twoW h i j hi hj, Bool.and_eq_true] at e
  exact e.1
theorem mostF_dec {n : Nat} (c : Nat) {xs : List Int} (h : Rl n xs) : sub n (mostF c xs) xs := by
  unfold mostF
  split
  · exact off_sub h
  · exact two_sub h
def ofM (n : Nat) (c : Nat) (M : List Int) : Prop := (c = 105 → ∀ i, i < n → hB M i i = false) ∧ (c = 115 → Sym n M)
theorem mostF_in {n : Nat} {c : Nat} (hc : c = 105 ∨ c = 115) {xs M : List Int} (h : Rl n xs) (ho : ofM n c M) (hs : sub n M xs) : sub n M (mostF c xs) := by
  rcases hc with rfl | rfl
  · show sub n M (offI xs)
    intro i j hi hj e
    rw [hB_off h i j hi hj, hs i j hi hj e]
    by_cases q : j = i
    · subst q
      rw [ho.1 rfl j hj] at e
      cases e
    · simp [q]
  · show sub n M (twoW xs)
    intro i j hi hj e
    rw [hB_twoW h i j hi hj, hs i j hi hj e, hs j i hj hi (ho.2 rfl i j hi hj e)]
    rfl
theorem mostF_fix {n : Nat} {c : Nat} (hc : c = 105 ∨ c = 115) {xs : List Int} (h : Rl n xs) (e : mostF c xs = xs) : ofM n c xs := by
  rcases hc with rfl | rfl
  · refine ⟨fun _ i hi => ?_, fun q => absurd q (by decide)⟩
    have e2 : offI xs = xs := e
    rw [← e2, hB_off h i i hi hi]
    simp
  · refine ⟨fun q => absurd q (by decide), fun _ i j hi hj hb => ?_⟩
    have e2 : twoW xs = xs := e
    rw [← e2, hB_twoW h i j hi hj, Bool.and_eq_true] at hb
    exact hb.2
theorem isTIn {st : ByteArray} (h : textTo st isT st.size = true) (k : Nat) (hk : k < st.size) : byt st k = 105 ∨ byt st k = 115 := by
  have h1 : letB st isT k = true := by
    cases hh : letB st isT k with
    | true => rfl
    | false => rw [textTo_no st isT k st.size hk hh] at h; cases h
  unfold letB at h1
  rw [Bool.and_eq_true] at h1
  have h2 := h1.1
  unfold hasTo at h2
  rw [List.any_eq_true] at h2
  obtain ⟨i, hi, e⟩ := h2
  have hi : i < 2 := List.mem_range.1 hi
  have e : byt isT i = byt st k := of_decide_eq_true e
  rcases (by omega : i = 0 ∨ i = 1) with rfl | rfl
  · exact .inl e.symm
  · exact .inr e.symm
theorem mostS_rl {n : Nat} {xs : List Int} (h : Rl n xs) (b : Bool) : Rl n (mostS xs b) := by
  cases b
  · exact h
  · exact h.twoW
theorem mostI_rl {n : Nat} {xs : List Int} (h : Rl n xs) (b : Bool) : Rl n (mostI xs b) := by
  cases b
  · exact h
  · exact h.off
theorem most_rl {n : Nat} {xs : List Int} (h : Rl n xs) (st : ByteArray) : Rl n (mostL xs st) := mostI_rl (mostS_rl h _) _
theorem most_sub {n : Nat} {xs : List Int} (h : Rl n xs) (st : ByteArray) : sub n (mostL xs st) xs := by
  have s1 : sub n (mostS xs (hasTo st 115 st.size)) xs := by
    cases hasTo st 115 st.size
    · exact sub.refl _
    · exact two_sub h
  refine sub.trans ?_ s1
  show sub n (mostI _ (hasTo st 105 st.size)) _
  cases hasTo st 105 st.size
  · exact sub.refl _
  · exact off_sub (mostS_rl h _)
theorem sym_two {n : Nat} {xs : List Int} (h : Rl n xs) : Sym n (twoW xs) := by
  intro i j hi hj e
  rw [hB_twoW h i j hi hj] at e
  rw [hB_twoW h j i hj hi, Bool.and_comm]
  exact e
theorem sym_off {n : Nat} {xs : List Int} (h : Rl n xs) (hs : Sym n xs) : Sym n (offI xs) := by
  intro i j hi hj e
  rw [hB_off h i j hi hj, Bool.and_eq_true] at e
  rw [hB_off h j i hj hi, hs i j hi hj e.1]
  have h2 := e.2
  by_cases q : i = j
  · subst q; simp at h2
  · simp [q]
theorem most_of {n : Nat} {xs : List Int} (h : Rl n xs) (st : ByteArray) (c : Nat) (hc : hasTo st c st.size = true) : ofM n c (mostL xs st) := by
  have hS := mostS_rl h (hasTo st 115 st.size)
  refine ⟨?_, ?_⟩
  · rintro rfl i hi
    show hB (mostI _ (hasTo st 105 st.size)) i i = false
    rw [hc]
    show hB (offI _) i i = false
    rw [hB_off hS i i hi hi]
    simp
  · rintro rfl
    have s1 : Sym n (mostS xs (hasTo st 115 st.size)) := by rw [hc]; exact sym_two h
    show Sym n (mostI _ (hasTo st 105 st.size))
    cases hasTo st 105 st.size
    · exact s1
    · exact sym_off hS s1
theorem most_most {n : Nat} {xs R : List Int} (h : Rl n xs) (st : ByteArray) (hs : sub n R xs) (ho : ∀ c, hasTo st c st.size = true → ofM n c R) : sub n R (mostL xs st) := by
  have s1 : sub n R (mostS xs (hasTo st 115 st.size)) := by
    cases hb : hasTo st 115 st.size
    · exact hs
    · exact mostF_in (.inr rfl) h (ho 115 hb) hs
  show sub n R (mostI _ (hasTo st 105 st.size))
  cases hb : hasTo st 105 st.size
  · exact s1
  · exact mostF_in (.inl rfl) (mostS_rl h _) (ho 105 hb) s1
def mostG (st : ByteArray) (k : Nat) : List Int → List Int := mostF (byt st k)
theorem most_end {xs r : List Int} (h : Rl xs.length xs) (hr : Rl xs.length r) (st : ByteArray) (ht : textTo st isT st.size = true) (h1 : sub xs.length r xs) (h2 : sub xs.length (mostL xs st) r) (e : roundTo (mostG st) r st.size = r) : r = mostL xs st := by
  have hf := round_fix (g := mostG st) (fun a b => sub xs.length b a) (fun a => sub.refl a) (fun a b c p q => sub.trans q p) (fun a b ra rb p q => sub.anti ra rb q p) (fun k _ xs h => mostF_rl _ h) (fun k _ xs h => mostF_dec _ h) hr e
  refine sub.anti hr (most_rl h st) (most_most h st h1 fun c hc => ?_) h2
  obtain ⟨k, hk, rfl⟩ := (hasTo_iff st c st.size).1 hc
  exact mostF_fix (isTIn ht k hk) hr (hf k hk)
theorem most_step {xs r : List Int} (h : Rl xs.length xs) (hr : Rl xs.length r) (st : ByteArray) (ht : textTo st isT st.size = true) (h1 : sub xs.length r xs) (h2 : sub xs.length (mostL xs st) r) : ∀ k, k ≤ st.size →
    Rl xs.length (roundTo (mostG st) r k) ∧ sub xs.length (roundTo (mostG st) r k) r ∧ sub xs.length (mostL xs st) (roundTo (mostG st) r k)
  | 0, _ => ⟨hr, sub.refl _, h2⟩
  | k + 1, hk => by
    obtain ⟨a, b, c⟩ := most_step h hr st ht h1 h2 k (by omega)
    exact ⟨mostF_rl _ a, (mostF_dec _ a).trans b, mostF_in (isTIn ht k (by omega)) a (most_of h st _ ((hasTo_iff st _ st.size).2 ⟨k, by omega, rfl⟩)) c⟩
end Go.Proofs.Ytpcbmijencboiaa
