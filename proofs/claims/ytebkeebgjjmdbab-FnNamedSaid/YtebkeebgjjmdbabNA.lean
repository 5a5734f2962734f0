/-
  Relations with other names: their pairs, compositions and sizes.
-/
import Derived.Test.YtebkeebgjjmdbabJA
import Derived.Test.YtebkeebgjjmdbabKS
import Derived.Test.YtebkeebgjjmdbabAE
namespace Go.Proofs.Ytebkeebgjjmdbab
open Go.RowKit

theorem named_fold {n : Nat} (h1 : 1 ≤ n) (h4 : n ≤ 4) (ps : List Int) (hv : ∀ i, i < n → pv ps i < n) (pre : List (Fin n × Fin n)) :
    Rl n (namedAcc n ps pre) ∧ ∀ i j, i < n → j < n → (hB (namedAcc n ps pre) i j = true ↔ ∃ p, p ∈ pre ∧ pv ps p.1.val = i ∧ pv ps p.2.val = j) := by
  refine rev_ind (P := fun pre => Rl n (namedAcc n ps pre) ∧ ∀ i j, i < n → j < n → (hB (namedAcc n ps pre) i j = true ↔ ∃ p, p ∈ pre ∧ pv ps p.1.val = i ∧ pv ps p.2.val = j)) ?_ ?_ pre
  · refine ⟨Rl.zeros h1 h4, fun i j hi hj => ?_⟩
    rw [show namedAcc n ps [] = List.replicate n 0 from rfl, hB_zeros n i j (by omega)]
    exact ⟨fun h => (by cases h), fun ⟨p, hp, _⟩ => (by cases hp)⟩
  · rintro l a ⟨R, ih⟩
    have a1 := hv a.1.val a.1.isLt
    have a2 := hv a.2.val a.2.isLt
    obtain ⟨y, hy, hy2⟩ := R.row (pv ps a.1.val)
    obtain ⟨z, hz, hz2⟩ := b_ptlt ⟨n, by omega⟩ ⟨pv ps a.2.val, a2⟩
    have hz' : pt (pv ps a.2.val) = (z.val : Int) := hz
    obtain ⟨u, hu, hu2⟩ := b_orlt ⟨n, by omega⟩ y z hy2 hz2
    have hat := fun i => addPair_at (namedAcc n ps l) (pv ps a.1.val) (pv ps a.2.val) i (by rw [namedAcc_len]; exact a1)
    rw [namedAcc_snoc]
    refine ⟨Rl.mk' (by rw [addPair_len, namedAcc_len]) h1 h4 fun i hi => ?_, fun i j hi hj => ?_⟩
    · rw [hat i]
      by_cases e : i = pv ps a.1.val
      · rw [if_pos e, hy, hz']
        exact ⟨u, hu, hu2⟩
      · rw [if_neg e]
        exact R.row i
    · have hih := ih i j hi hj
      unfold hB at hih ⊢
      rw [hat i]
      by_cases e : i = pv ps a.1.val
      · rw [if_pos e, hy, hz']
        have ho := b_or y z ⟨j, by omega⟩
        have hp := b_pt ⟨pv ps a.2.val, by omega⟩ ⟨j, by omega⟩
        rw [show pt (⟨pv ps a.2.val, by omega⟩ : Fin 4).val = pt (pv ps a.2.val) from rfl, hz'] at hp
        rw [show hasB (bits .or .i64 (y.val : Int) (z.val : Int)) j = (hasB (y.val : Int) j || hasB (z.val : Int) j) from ho, show hasB (z.val : Int) j = decide (j = pv ps a.2.val) from hp]
        rw [e, hy] at hih
        rw [Bool.or_eq_true, hih, decide_eq_true_iff]
        constructor
        · rintro (⟨p, hp, h1, h2⟩ | h1)
          · exact ⟨p, List.mem_append.2 (.inl hp), by rw [h1, e], h2⟩
          · exact ⟨a, List.mem_append.2 (.inr (List.mem_singleton.2 rfl)), e.symm, h1.symm⟩
        · rintro ⟨p, hp, h1, h2⟩
          rcases List.mem_append.1 hp with h | h
          · exact .inl ⟨p, h, by rw [h1, e], h2⟩
          · rw [List.mem_singleton.1 h] at h2
            exact .inr h2.symm
      · rw [if_neg e, hih]
        constructor
        · rintro ⟨p, hp, h1, h2⟩
          exact ⟨p, List.mem_append.2 (.inl hp), h1, h2⟩
        · rintro ⟨p, hp, h1, h2⟩
          rcases List.mem_append.1 hp with h | h
          · exact ⟨p, h, h1, h2⟩
          · rw [List.mem_singleton.1 h] at h1
            exact absurd h1.symm e
theorem each_perm1 : ∀ a : Fin 1, eachB 1 [(a.val : Int)] = true → (∀ i j : Fin 1, pv [(a.val : Int)] i.val = pv [(a.val : Int)] j.val → i = j) ∧ ∀ k : Fin 1, ∃ i : Fin 1, pv [(a.val : Int)] i.val = k.val := by decide +kernel
theorem each_perm2 : ∀ a b : Fin 2, eachB 2 [(a.val : Int), (b.val : Int)] = true → (∀ i j : Fin 2, pv [(a.val : Int), (b.val : Int)] i.val = pv [(a.val : Int), (b.val : Int)] j.val → i = j) ∧ ∀ k : Fin 2, ∃ i : Fin 2, pv [(a.val : Int), (b.val : Int)] i.val = k.val := by decide +kernel
theorem each_perm3 : ∀ a b c : Fin 3, eachB 3 [(a.val : Int), (b.val : Int), (c.val : Int)] = true → (∀ i j : Fin 3, pv [(a.val : Int), (b.val : Int), (c.val : Int)] i.val = pv [(a.val : Int), (b.val : Int), (c.val : Int)] j.val → i = j) ∧ ∀ k : Fin 3, ∃ i : Fin 3, pv [(a.val : Int), (b.val : Int), (c.val : Int)] i.val = k.val := by decide +kernel
theorem each_perm4 : ∀ a b c d : Fin 4, eachB 4 [(a.val : Int), (b.val : Int), (c.val : Int), (d.val : Int)] = true → (∀ i j : Fin 4, pv [(a.val : Int), (b.val : Int), (c.val : Int), (d.val : Int)] i.val = pv [(a.val : Int), (b.val : Int), (c.val : Int), (d.val : Int)] j.val → i = j) ∧ ∀ k : Fin 4, ∃ i : Fin 4, pv [(a.val : Int), (b.val : Int), (c.val : Int), (d.val : Int)] i.val = k.val := by decide +kernel
theorem each_perm {n : Nat} {ps : List Int} (h1 : 1 ≤ n) (h4 : n ≤ 4) (he : eachB n ps = true) : (∀ i j, i < n → j < n → pv ps i = pv ps j → i = j) ∧ ∀ k, k < n → ∃ i, i < n ∧ pv ps i = k := by
  obtain ⟨hl, hin⟩ := eachB_in he
  have lift : ∀ {m : Nat} {qs : List Int}, ((∀ i j : Fin m, pv qs i.val = pv qs j.val → i = j) ∧ ∀ k : Fin m, ∃ i : Fin m, pv qs i.val = k.val) → (∀ i j, i < m → j < m → pv qs i = pv qs j → i = j) ∧ ∀ k, k < m → ∃ i, i < m ∧ pv qs i = k := fun h =>
    ⟨fun i j hi hj e => by have := h.1 ⟨i, hi⟩ ⟨j, hj⟩ e; exact congrArg Fin.val this, fun k hk => by obtain ⟨i, e⟩ := h.2 ⟨k, hk⟩; exact ⟨i.val, i.isLt, e⟩⟩
  rcases (by omega : n = 1 ∨ n = 2 ∨ n = 3 ∨ n = 4) with rfl | rfl | rfl | rfl
  · match ps, hl with
    | [x0], _ =>
      obtain ⟨a, rfl⟩ := ptB_fin (hin x0 (by simp))
      exact lift (each_perm1 a he)
  · match ps, hl with
    | [x0, x1], _ =>
      obtain ⟨a, rfl⟩ := ptB_fin (hin x0 (by simp))
      obtain ⟨b, rfl⟩ := ptB_fin (hin x1 (by simp))
      exact lift (each_perm2 a b he)
  · match ps, hl with
    | [x0, x1, x2], _ =>
      obtain ⟨a, rfl⟩ := ptB_fin (hin x0 (by simp))
      obtain ⟨b, rfl⟩ := ptB_fin (hin x1 (by simp))
      obtain ⟨c, rfl⟩ := ptB_fin (hin x2 (by simp))
      exact lift (each_perm3 a b c he)
  · match ps, hl with
    | [x0, x1, x2, x3], _ =>
      obtain ⟨a, rfl⟩ := ptB_fin (hin x0 (by simp))
      obtain ⟨b, rfl⟩ := ptB_fin (hin x1 (by simp))
      obtain ⟨c, rfl⟩ := ptB_fin (hin x2 (by simp))
      obtain ⟨d, rfl⟩ := ptB_fin (hin x3 (by simp))
      exact lift (each_perm4 a b c d he)
theorem pv_lt {n : Nat} {ps : List Int} (he : eachB n ps = true) (i : Nat) (hi : i < n) : pv ps i < n := (pv_at he i hi).2
theorem nam_rl {n : Nat} {a ps : List Int} (R : Rl n a) (he : eachB n ps = true) : Rl n (namL a ps) := by
  have hn := R.len
  subst hn
  exact (named_fold R.one R.four ps (fun i hi => pv_lt he i hi) (pairsOf a)).1
theorem named_at {n : Nat} {a ps : List Int} (R : Rl n a) (he : eachB n ps = true) (x y : Nat) (hx : x < n) (hy : y < n) : hB (namL a ps) (pv ps x) (pv ps y) = hB a x y := by
  have hn := R.len
  subst hn
  have hp := (each_perm R.one R.four he).1
  rw [Bool.eq_iff_iff]
  refine ((named_fold R.one R.four ps (fun i hi => pv_lt he i hi) (pairsOf a)).2 _ _ (pv_lt he x hx) (pv_lt he y hy)).trans ?_
  constructor
  · rintro ⟨p, hm, e1, e2⟩
    have h := (mem_pairs R.four p).1 hm
    rw [hp _ _ p.1.isLt hx e1, hp _ _ p.2.isLt hy e2] at h
    exact h
  · intro h
    exact ⟨(⟨x, hx⟩, ⟨y, hy⟩), (mem_pairs R.four _).2 h, rfl, rfl⟩
theorem nam_comp {n : Nat} {a ps : List Int} (R : Rl n a) (he : eachB n ps = true) : namL (compL a a) ps = compL (namL a ps) (namL a ps) := by
  have N := nam_rl R he
  have C := R.comp R
  refine Rl.ext (nam_rl C he) (N.comp N) fun i j hi hj => ?_
  obtain ⟨x, hx, rfl⟩ := (each_perm R.one R.four he).2 i hi
  obtain ⟨y, hy, rfl⟩ := (each_perm R.one R.four he).2 j hj
  rw [named_at C he x y hx hy, Bool.eq_iff_iff, hB_comp R R x y hx hy, hB_comp N N _ _ hi hj]
  constructor
  · rintro ⟨l, hl, e1, e2⟩
    exact ⟨pv ps l, pv_lt he l hl, by rw [named_at R he x l hx hl]; exact e1, by rw [named_at R he l y hl hy]; exact e2⟩
  · rintro ⟨l, hl, e1, e2⟩
    obtain ⟨z, hz, rfl⟩ := (each_perm R.one R.four he).2 l hl
    exact ⟨z, hz, by rw [← named_at R he x z hx hz]; exact e1, by rw [← named_at R he z y hz hy]; exact e2⟩
theorem perm4 (h : Nat → Int) (s0 s1 s2 s3 : Nat) (l0 : s0 < 4) (l1 : s1 < 4) (l2 : s2 < 4) (l3 : s3 < 4) (d01 : s0 ≠ s1) (d02 : s0 ≠ s2) (d03 : s0 ≠ s3) (d12 : s1 ≠ s2) (d13 : s1 ≠ s3) (d23 : s2 ≠ s3) :
    h s0 + h s1 + h s2 + h s3 = h 0 + h 1 + h 2 + h 3 := by
  rcases (by omega : s0 = 0 ∨ s0 = 1 ∨ s0 = 2 ∨ s0 = 3) with rfl | rfl | rfl | rfl <;>
    rcases (by omega : s1 = 0 ∨ s1 = 1 ∨ s1 = 2 ∨ s1 = 3) with rfl | rfl | rfl | rfl <;>
    first
      | omega
      | (rcases (by omega : s2 = 0 ∨ s2 = 1 ∨ s2 = 2 ∨ s2 = 3) with rfl | rfl | rfl | rfl <;>
          first
            | omega
            | (rcases (by omega : s3 = 0 ∨ s3 = 1 ∨ s3 = 2 ∨ s3 = 3) with rfl | rfl | rfl | rfl <;> omega))
theorem nam_size {n : Nat} {a ps : List Int} (R : Rl n a) (he : eachB n ps = true) : sizeL (namL a ps) = sizeL a := by
  have N := nam_rl R he
  have h4 := R.four
  have hinj := (each_perm R.one R.four he).1
  obtain ⟨g, hg⟩ : ∃ g : Nat → Nat, ∀ i, g i = if i < n then pv ps i else i := ⟨_, fun _ => rfl⟩
  have gl : ∀ i, i < 4 → g i < 4 := fun i hi => by
    rw [hg]
    split
    · next h => have := pv_lt he i h; omega
    · exact hi
  have gi : ∀ i j, i < 4 → j < 4 → i ≠ j → g i ≠ g j := fun i j hi hj hne e => by
    rw [hg, hg] at e
    split at e
    · next h =>
      split at e
      · next h' => exact hne (hinj i j h h' e)
      · next h' => have := pv_lt he i h; omega
    · next h =>
      split at e
      · next h' => have := pv_lt he j h'; omega
      · exact hne e
  have gf : ∀ i j, i < 4 → j < 4 → b2 (hB (namL a ps) (g i) (g j)) = b2 (hB a i j) := fun i j hi hj => by
    by_cases h : i < n ∧ j < n
    · rw [hg, hg, if_pos h.1, if_pos h.2, named_at R he i j h.1 h.2]
    · rw [hB_out R i j hj h, hB_out N (g i) (g j) (gl j hj) (fun ⟨h1, h2⟩ => h ⟨?_, ?_⟩)]
      · rw [hg] at h1
        split at h1
        · assumption
        · exact h1
      · rw [hg] at h2
        split at h2
        · assumption
        · exact h2
  have hP := fun h : Nat → Int => perm4 h (g 0) (g 1) (g 2) (g 3) (gl 0 (by decide)) (gl 1 (by decide)) (gl 2 (by decide)) (gl 3 (by decide))
    (gi 0 1 (by decide) (by decide) (by decide)) (gi 0 2 (by decide) (by decide) (by decide)) (gi 0 3 (by decide) (by decide) (by decide)) (gi 1 2 (by decide) (by decide) (by decide)) (gi 1 3 (by decide) (by decide) (by decide)) (gi 2 3 (by decide) (by decide) (by decide))
  have hrow : ∀ i, i < 4 → b2 (hB (namL a ps) (g i) 0) + b2 (hB (namL a ps) (g i) 1) + b2 (hB (namL a ps) (g i) 2) + b2 (hB (namL a ps) (g i) 3) = b2 (hB a i 0) + b2 (hB a i 1) + b2 (hB a i 2) + b2 (hB a i 3) := fun i hi => by
    have := hP fun j => b2 (hB (namL a ps) (g i) j)
    simp only [gf i 0 hi (by decide), gf i 1 hi (by decide), gf i 2 hi (by decide), gf i 3 hi (by decide)] at this
    exact this.symm
  rw [size_sum N, size_sum R]
  have hc := hP fun i => b2 (hB (namL a ps) i 0) + b2 (hB (namL a ps) i 1) + b2 (hB (namL a ps) i 2) + b2 (hB (namL a ps) i 3)
  simp only [hrow 0 (by decide), hrow 1 (by decide), hrow 2 (by decide), hrow 3 (by decide)] at hc
  exact hc.symm
theorem nam_cases {a ps : List Int} (h : namB a ps = true) : Rl a.length a ∧ eachB a.length ps = true := by
  unfold namB at h
  rw [Bool.and_eq_true] at h
  exact ⟨Rl.of h.1, h.2⟩
theorem nam_ok {n : Nat} {a ps : List Int} (R : Rl n a) (he : eachB n ps = true) : namB a ps = true := by
  unfold namB
  rw [R.ok, R.len, he]
  rfl
end Go.Proofs.Ytebkeebgjjmdbab
