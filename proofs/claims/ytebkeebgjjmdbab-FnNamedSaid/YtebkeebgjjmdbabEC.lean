/-
  The ends of a relation turned are its ends, in the other order.
-/
import Derived.Test.YtebkeebgjjmdbabEA
import Derived.Test.YtebkeebgjjmdbabY
namespace Go.Proofs.Ytebkeebgjjmdbab
open Go.RowKit

theorem b_ext4 : ∀ y z : Fin 16, (∀ j : Fin 4, hasB (y.val : Int) j.val = hasB (z.val : Int) j.val) → y = z := by decide +kernel
theorem fold_ends {n : Nat} (h4 : n ≤ 4) (f : Fin n × Fin n → Fin n) : ∀ (l : List (Fin n × Fin n)) (s : Fin 16), ∃ z : Fin 16, l.foldl (fun s p => bits .or .i64 s (pt (f p).val)) (s.val : Int) = (z.val : Int) ∧
      ∀ j : Fin 4, (hasB (z.val : Int) j.val = true ↔ (hasB (s.val : Int) j.val = true ∨ ∃ p, p ∈ l ∧ (f p).val = j.val))
  | [], s => ⟨s, rfl, fun j => ⟨fun h => .inl h, fun h => h.elim id (fun ⟨p, hp, _⟩ => absurd hp (by simp))⟩⟩
  | q :: r, s => by
    rw [List.foldl_cons]
    obtain ⟨y, hy, _⟩ := b_ptlt ⟨4, by omega⟩ ⟨(f q).val, by have := (f q).isLt; show (f q).val < 4; omega⟩
    obtain ⟨u, hu⟩ := or1616 s y
    dsimp only at hy
    rw [hy, hu]
    obtain ⟨z, hz, hz2⟩ := fold_ends h4 f r u
    refine ⟨z, hz, fun j => ?_⟩
    have hor := b_or s y j
    rw [hu] at hor
    have hpt := b_pt ⟨(f q).val, by have := (f q).isLt; omega⟩ j
    dsimp only at hpt
    rw [hy] at hpt
    rw [hz2 j, hor, Bool.or_eq_true, hpt, decide_eq_true_iff]
    constructor
    · rintro ((h | h) | ⟨p, hp, h1⟩)
      · exact .inl h
      · exact .inr ⟨q, List.mem_cons_self, h.symm⟩
      · exact .inr ⟨p, List.mem_cons_of_mem _ hp, h1⟩
    · rintro (h | ⟨p, hp, h1⟩)
      · exact .inl (.inl h)
      · rcases List.mem_cons.1 hp with rfl | hp
        · exact .inl (.inr h1.symm)
        · exact .inr ⟨p, hp, h1⟩
theorem ends_eq {n : Nat} (h4 : n ≤ 4) (f g : Fin n × Fin n → Fin n) (l r : List (Fin n × Fin n)) (h : ∀ j : Nat, (∃ p, p ∈ l ∧ (f p).val = j) ↔ ∃ p, p ∈ r ∧ (g p).val = j) :
    l.foldl (fun s p => bits .or .i64 s (pt (f p).val)) 0 = r.foldl (fun s p => bits .or .i64 s (pt (g p).val)) 0 := by
  obtain ⟨y, hy, hy2⟩ := fold_ends h4 f l 0
  obtain ⟨z, hz, hz2⟩ := fold_ends h4 g r 0
  have e : y = z := b_ext4 y z fun j => by rw [Bool.eq_iff_iff, hy2 j, hz2 j, h j.val]
  rw [e] at hy
  exact hy.trans hz.symm
theorem ends_turn {xs : List Int} (h : relIn xs = true) : startsOf (turnL xs) = targetsOf xs ∧ targetsOf (turnL xs) = startsOf xs := by
  have R := Rl.of h
  have h4 := R.four
  have key : ∀ (ys : List Int) (e : ys.length = xs.length), ys = turnL xs → startsOf ys = targetsOf xs ∧ targetsOf ys = startsOf xs := by
    intro ys e hy
    obtain ⟨n, hn⟩ : ∃ n, n = xs.length := ⟨_, rfl⟩
    have hP : ∀ (zs : List Int) (m : Nat) (_ : m ≤ 4) (hm : zs.length = m), startsOf zs = endsS m (pairsTo m zs (m * m)) ∧ targetsOf zs = endsT m (pairsTo m zs (m * m)) ∧ ∀ p : Fin m × Fin m, p ∈ pairsTo m zs (m * m) ↔ hB zs p.1.val p.2.val = true := by
      intro zs m hm4 hm
      subst hm
      exact ⟨rfl, rfl, fun p => mem_pairs hm4 p⟩
    obtain ⟨a1, a2, a3⟩ := hP ys xs.length h4 e
    obtain ⟨c1, c2, c3⟩ := hP xs xs.length h4 rfl
    rw [a1, a2, c1, c2]
    have hsw : ∀ p : Fin xs.length × Fin xs.length, p ∈ pairsTo xs.length ys (xs.length * xs.length) ↔ (p.2, p.1) ∈ pairsTo xs.length xs (xs.length * xs.length) := by
      intro p
      rw [a3, c3, hy, hB_turn R _ _ p.1.isLt p.2.isLt]
    constructor
    · exact ends_eq h4 (fun p => p.1) (fun p => p.2) _ _ fun j => ⟨fun ⟨p, hp, e⟩ => ⟨(p.2, p.1), (hsw p).1 hp, e⟩, fun ⟨p, hp, e⟩ => ⟨(p.2, p.1), (hsw (p.2, p.1)).2 hp, e⟩⟩
    · exact ends_eq h4 (fun p => p.2) (fun p => p.1) _ _ fun j => ⟨fun ⟨p, hp, e⟩ => ⟨(p.2, p.1), (hsw p).1 hp, e⟩, fun ⟨p, hp, e⟩ => ⟨(p.2, p.1), (hsw (p.2, p.1)).2 hp, e⟩⟩
  exact key _ (turnL_len xs) rfl
end Go.Proofs.Ytebkeebgjjmdbab
