/-
  Blocks of a stepped relation: they have all its pairs, no two have a common point, and they are as many as its rank.
-/
import Derived.Test.YtnmgoeklcmoalabQA
import Derived.Test.YtnmgoeklcmoalabQJ
import Derived.Test.YtnmgoeklcmoalabQC
import Derived.Test.YtnmgoeklcmoalabQG
namespace Go.Proofs.Ytnmgoeklcmoalab
open Go.RowKit

theorem or_one : ∀ n : Fin 5, 1 ≤ n.val → ∀ z : Fin 16, z.val < 2 ^ n.val → ∃ u : Fin 16, bits .or .i64 (z.val : Int) 1 = (u.val : Int) ∧ u.val < 2 ^ n.val ∧ ∀ j : Fin 4, hasB (z.val : Int) j.val = true → hasB (u.val : Int) j.val = true := by decide +kernel
theorem bR_less : ∀ n : Fin 5, ∀ z y : Fin 16, z.val < 2 ^ n.val → (∀ j : Fin n.val, hasB (z.val : Int) j.val = true → hasB (y.val : Int) j.val = true) → bits .andNot .i64 (z.val : Int) (y.val : Int) = 0 := by decide +kernel

/-- a greater set has a smaller polar -/
theorem pol_anti {n : Nat} {xs : List Int} (R : Rl n xs) (z u : Int) (h : ∀ j, j < n → hasB z j = true → hasB u j = true) : bits .andNot .i64 (relAll xs u) (relAll xs z) = 0 := by
  obtain ⟨p, hp, hpl, hpj⟩ := relAll_row R z
  obtain ⟨q, hq, hql, hqj⟩ := relAll_row R u
  have h4 := R.four
  rw [hp, hq]
  refine bR_less ⟨n, by omega⟩ q p hql fun j hj => ?_
  exact (hpj j.val j.isLt).2 fun i hi hz => (hqj j.val j.isLt).1 hj i hi (h i hi hz)
/-- what is in the polar of the polar -/
theorem clo_row {n : Nat} {xs : List Int} (R : Rl n xs) (z : Int) : ∃ c : Fin 16, clo xs z = (c.val : Int) ∧ c.val < 2 ^ n ∧
    ∀ a, a < n → (hasB (c.val : Int) a = true ↔ ∀ l, l < n → hasB (relAll xs z) l = true → hB xs a l = true) := by
  obtain ⟨c, hc, hcl, hcj⟩ := relAll_row R.turn (relAll xs z)
  refine ⟨c, hc, hcl, fun a ha => ?_⟩
  rw [hcj a ha]
  constructor
  · intro g l hl hh
    have := g l hl hh
    rw [hB_turn R l a hl ha] at this
    exact this
  · intro g l hl hh
    rw [hB_turn R l a hl ha]
    exact g l hl hh
theorem clo_has {n : Nat} {xs : List Int} (R : Rl n xs) (z : Int) (a : Nat) (ha : a < n) (h : hasB z a = true) : hasB (clo xs z) a = true := by
  obtain ⟨p, hp, hpl, hpj⟩ := relAll_row R z
  obtain ⟨c, hc, hcl, hcj⟩ := clo_row R z
  rw [hc]
  refine (hcj a ha).2 fun l hl hh => ?_
  rw [hp] at hh
  exact (hpj l hl).1 hh a ha h
/-- the polar of what is closed is the polar -/
theorem pol_clo {n : Nat} {xs : List Int} (R : Rl n xs) (z : Int) : relAll xs (clo xs z) = relAll xs z := by
  obtain ⟨p, hp, hpl, hpj⟩ := relAll_row R z
  obtain ⟨c, hc, hcl, hcj⟩ := clo_row R z
  obtain ⟨d, hd, hdl, hdj⟩ := relAll_row R (clo xs z)
  have h4 := R.four
  rw [hd, hp, b_ext ⟨n, by omega⟩ d p hdl hpl fun j => by
    rw [Bool.eq_iff_iff, hdj j.val j.isLt]
    constructor
    · intro g
      exact (hpj j.val j.isLt).2 fun i hi hz => g i hi (clo_has R z i hi hz)
    · intro g i hi hz
      rw [hc] at hz
      exact (hcj i hi).1 hz j.val j.isLt (by rw [hp]; exact g)]
theorem clo_clo {n : Nat} {xs : List Int} (R : Rl n xs) (z : Int) : clo xs (clo xs z) = clo xs z := by
  show relAll (turnL xs) (relAll xs (clo xs z)) = relAll (turnL xs) (relAll xs z)
  rw [pol_clo R]
theorem clo_more {n : Nat} {xs : List Int} (R : Rl n xs) (z : Fin 16) (hz : z.val < 2 ^ n) : bits .andNot .i64 (z.val : Int) (clo xs (z.val : Int)) = 0 := by
  obtain ⟨c, hc, hcl, hcj⟩ := clo_row R (z.val : Int)
  have h4 := R.four
  rw [hc]
  refine bR_less ⟨n, by omega⟩ z c hz fun j hj => ?_
  rw [← hc]
  exact clo_has R _ j.val j.isLt hj
theorem clo_mono {n : Nat} {xs : List Int} (R : Rl n xs) (z u : Int) (h : ∀ j, j < n → hasB z j = true → hasB u j = true) : bits .andNot .i64 (clo xs z) (clo xs u) = 0 := by
  obtain ⟨c, hc, hcl, hcj⟩ := clo_row R z
  obtain ⟨d, hd, hdl, hdj⟩ := clo_row R u
  obtain ⟨p, hp, hpl, hpj⟩ := relAll_row R z
  obtain ⟨q, hq, hql, hqj⟩ := relAll_row R u
  have h4 := R.four
  rw [hc, hd]
  refine bR_less ⟨n, by omega⟩ c d hcl fun j hj => ?_
  refine (hdj j.val j.isLt).2 fun l hl hh => (hcj j.val j.isLt).1 hj l hl ?_
  rw [hq] at hh
  rw [hp]
  exact (hpj l hl).2 fun i hi hz => (hqj l hl).1 hh i hi (h i hi hz)
/-- a set of points, as a number -/
theorem set_fin {xs : List Int} {z : Int} (h : setB xs z = true) : ∃ u : Fin 16, z = (u.val : Int) ∧ u.val < 2 ^ xs.length ∧ Rl xs.length xs := by
  unfold setB rowIn at h
  rw [Bool.and_eq_true, Bool.and_eq_true, decide_eq_true_iff, decide_eq_true_iff] at h
  have R := Rl.of h.1
  have h4 := R.four
  have h16 : (2 : Nat) ^ xs.length ≤ 16 := by rcases (by omega : xs.length = 0 ∨ xs.length = 1 ∨ xs.length = 2 ∨ xs.length = 3 ∨ xs.length = 4) with e | e | e | e | e <;> rw [e] <;> decide
  have hz : z.toNat < 2 ^ xs.length := by
    have h1 := h.2.1
    have h2 := h.2.2
    have : ((z.toNat : Nat) : Int) < ((2 ^ xs.length : Nat) : Int) := by rw [Int.toNat_of_nonneg h1]; simpa using h2
    exact Int.ofNat_lt.1 this
  exact ⟨⟨z.toNat, by omega⟩, (Int.toNat_of_nonneg h.2.1).symm, hz, R⟩
theorem fin_set {xs : List Int} (R : Rl xs.length xs) (u : Fin 16) (h : u.val < 2 ^ xs.length) : setB xs (u.val : Int) = true := by
  unfold setB rowIn
  rw [R.ok, Bool.true_and, Bool.and_eq_true, decide_eq_true_iff, decide_eq_true_iff]
  refine ⟨by omega, ?_⟩
  have : ((u.val : Nat) : Int) < ((2 ^ xs.length : Nat) : Int) := by omega
  simpa using this
/-- all that the laws on polars ask -/
theorem polars {xs : List Int} {z : Int} (h : setB xs z = true) : ∃ u c : Int, bits .or .i64 z 1 = u ∧ clo xs z = c ∧ setB xs u = true ∧ setB xs c = true ∧ bits .andNot .i64 (relAll xs u) (relAll xs z) = 0 ∧ relAll xs c = relAll xs z ∧
    clo xs c = c ∧ bits .andNot .i64 z c = 0 ∧ bits .andNot .i64 c (clo xs u) = 0 := by
  obtain ⟨k, rfl, hk, R⟩ := set_fin h
  have h4 := R.four
  obtain ⟨u, hu, hul, huj⟩ := or_one ⟨xs.length, by omega⟩ R.one k hk
  obtain ⟨c, hc, hcl, _⟩ := clo_row R (k.val : Int)
  have hj : ∀ j, j < xs.length → hasB (k.val : Int) j = true → hasB (u.val : Int) j = true := fun j hj g => huj ⟨j, by omega⟩ g
  refine ⟨(u.val : Int), (c.val : Int), hu, hc, fin_set R u hul, fin_set R c hcl, pol_anti R _ _ hj, ?_, ?_, ?_, ?_⟩
  · rw [← hc]; exact pol_clo R _
  · rw [← hc]; exact clo_clo R _
  · rw [← hc]; exact clo_more R k hk
  · rw [← hc]; exact clo_mono R _ _ hj
end Go.Proofs.Ytnmgoeklcmoalab

namespace Go.Proofs.Ytnmgoeklcmoalab
open Go.RowKit

def rowR (r : Int × Int) : List Int := [r.1, r.2]
theorem PI_map (L : List (Int × Int)) : (List.range L.length).map (PI L) = L.map rowR := by
  apply List.ext_getElem?
  intro i
  rw [List.getElem?_map, List.getElem?_map]
  by_cases h : i < L.length
  · rw [List.getElem?_range h, List.getElem?_eq_getElem h]
    show some (PI L i) = some (rowR L[i])
    rw [PI_at (List.getElem?_eq_getElem h)]
    rfl
  · rw [List.getElem?_eq_none (by simpa using h), List.getElem?_eq_none (by simpa using h)]
    rfl
theorem rof_union (n : Nat) (L : List (Int × Int)) : rofL n (L.map rowR) = unionL n L := by
  unfold rofL unionL
  rw [List.foldl_map]
  rfl
theorem rect_okR {n : Nat} {r : Int × Int} (h : isRect n r) : okR n (rowR r) = true := by
  obtain ⟨s, t, rfl, hs, ht⟩ := h
  have h1 : ((s.val : Nat) : Int) < 2 ^ n := by
    have : ((s.val : Nat) : Int) < ((2 ^ n : Nat) : Int) := by omega
    simpa using this
  have h2 : ((t.val : Nat) : Int) < 2 ^ n := by
    have : ((t.val : Nat) : Int) < ((2 ^ n : Nat) : Int) := by omega
    simpa using this
  unfold okR rowR rowIn
  rw [show rowAt [(s.val : Int), (t.val : Int)] 0 = (s.val : Int) from rfl, show rowAt [(s.val : Int), (t.val : Int)] 1 = (t.val : Int) from rfl, decide_eq_true h1, decide_eq_true h2, decide_eq_true (show (0 : Int) ≤ (s.val : Int) by omega), decide_eq_true (show (0 : Int) ≤ (t.val : Int) by omega)]
  rfl
theorem rects_ok {n : Nat} {L : List (Int × Int)} (h : ∀ r, r ∈ L → isRect n r) : (L.map rowR).all (okR n) = true := by
  rw [List.all_eq_true]
  intro p hp
  obtain ⟨r, hr, rfl⟩ := List.mem_map.1 hp
  exact rect_okR (h r hr)
/-- all full rectangles together are the relation -/
theorem full_union {xs : List Int} (R : Rl xs.length xs) : rofL xs.length ((fullL xs).map rowR) = xs := by
  rw [rof_union]
  refine (union_rl R.one R.four fun r hr => (full_mem R hr).1).ext R fun i j hi hj => ?_
  rw [Bool.eq_iff_iff, hB_union R.one R.four (fun r hr => (full_mem R hr).1) i j hi hj]
  exact ⟨fun ⟨r, hr, e⟩ => (full_mem R hr).2 i j hi hj e, fun e => full_at R i j hi hj e⟩
/-- a full rectangle by its place -/
theorem full_idx {xs : List Int} (R : Rl xs.length xs) (t : Nat) (h : t < (fullL xs).length) :
    ∃ z p : Int, ((fullL xs).map rowR)[t]? = some [z, p] ∧ setB xs z = true ∧ polI xs z = p ∧ setB (turnL xs) p = true ∧ polI (turnL xs) p = z := by
  have hm : (fullL xs)[t] ∈ fullL xs := List.getElem_mem h
  obtain ⟨z, hz, e⟩ : ∃ z : Nat, (z < 2 ^ xs.length ∧ clo xs (z : Int) = (z : Int)) ∧ (fullL xs)[t] = ((z : Int), relAll xs (z : Int)) := by
    have hm2 : (fullL xs)[t] ∈ fullTo xs (2 ^ xs.length) := hm
    unfold fullTo at hm2
    obtain ⟨z, hz, e⟩ := List.mem_map.1 hm2
    obtain ⟨h1, h2⟩ := List.mem_filter.1 hz
    exact ⟨z, ⟨List.mem_range.1 h1, by simpa using h2⟩, e.symm⟩
  have h4 := R.four
  have h16 : 2 ^ xs.length ≤ 16 := by rcases (by omega : xs.length = 0 ∨ xs.length = 1 ∨ xs.length = 2 ∨ xs.length = 3 ∨ xs.length = 4) with e | e | e | e | e <;> rw [e] <;> decide
  have T := R.turn
  have T' : Rl (turnL xs).length (turnL xs) := by rw [T.len]; exact T
  obtain ⟨q, hq, hql, _⟩ := relAll_row R (z : Int)
  have s1 : setB xs (z : Int) = true := fin_set R ⟨z, by omega⟩ hz.1
  have s2 : setB (turnL xs) (relAll xs (z : Int)) = true := by rw [hq]; exact fin_set T' q (by rw [T.len]; exact hql)
  refine ⟨(z : Int), relAll xs (z : Int), ?_, s1, ?_, s2, ?_⟩
  · rw [List.getElem?_map, List.getElem?_eq_getElem h, e]
    rfl
  · unfold polI
    rw [s1]
    rfl
  · unfold polI
    rw [s2]
    exact hz.2
theorem full_asc {xs : List Int} (t : Nat) (h : t + 1 < (fullL xs).length) : decide ((fullL xs)[t + 1].1 ≤ (fullL xs)[t].1) = false := by
  have hp : (fullL xs).Pairwise fun a b => a.1 < b.1 := by
    unfold fullL fullTo
    rw [List.pairwise_map]
    refine List.Pairwise.imp ?_ (List.Pairwise.filter _ (List.pairwise_lt_range (n := 2 ^ xs.length)))
    intro a b hab
    show ((a : Nat) : Int) < ((b : Nat) : Int)
    omega
  have := List.pairwise_iff_getElem.1 hp t (t + 1) (by omega) h (by omega)
  exact decide_eq_false (by omega)
end Go.Proofs.Ytnmgoeklcmoalab

namespace Go.Proofs.Ytnmgoeklcmoalab
open Go.RowKit

theorem step_below {n : Nat} {xs : List Int} (R : Rl n xs) : belowB xs (stepL xs) = true := (below_iff R (stepL_rl R)).2 (step_has R)
theorem step_step {n : Nat} {xs : List Int} (R : Rl n xs) : stepL (stepL xs) = stepL xs := by
  have S := stepL_rl R
  refine (stepL_rl S).ext S fun i j hi hj => ?_
  rw [Bool.eq_iff_iff]
  exact ⟨fun h => step_in S S (fun _ _ _ _ h => h) (step_stepped R) i j hi hj h, fun h => step_has S i j hi hj h⟩
/-- stepped turned -/
theorem step_turn {n : Nat} {xs : List Int} (R : Rl n xs) (h : stepB xs = true) : stepB (turnL xs) = true := by
  rw [step_iff R] at h
  rw [step_iff R.turn]
  intro i j p q hi hj hp hq h1 h2 h3
  rw [hB_turn R _ _ hi hp] at h1
  rw [hB_turn R _ _ hq hp] at h2
  rw [hB_turn R _ _ hq hj] at h3
  rw [hB_turn R _ _ hi hj]
  exact h j i q p hj hi hq hp h3 h2 h1
/-- rows that meet are equal -/
theorem step_rows {n : Nat} {xs : List Int} (R : Rl n xs) (h : stepB xs = true) (i k : Nat) (hi : i < n) (hk : k < n) (hm : bits .and .i64 (rowAt xs i) (rowAt xs k) ≠ 0) : rowAt xs i = rowAt xs k := by
  have h4 := R.four
  obtain ⟨y, hy, hyl⟩ := R.row i
  obtain ⟨z, hz, hzl⟩ := R.row k
  obtain ⟨u, hu, hul⟩ := b_andlt ⟨n, by omega⟩ y z hyl hzl
  rw [hy, hz] at hm
  have hne : ∃ j : Fin n, hasB (u.val : Int) j.val = true := by
    by_cases g : ∃ j : Fin n, hasB (u.val : Int) j.val = true
    · exact g
    · exfalso
      apply hm
      rw [hu]
      have : u = 0 := b_ext ⟨n, by omega⟩ u 0 hul (Nat.two_pow_pos n) fun j => by
        have h0 : hasB (((0 : Fin 16).val : Nat) : Int) j.val = false := b_zero ⟨j.val, Nat.lt_of_lt_of_le j.isLt (by show n ≤ 4; omega)⟩
        rw [h0]
        cases e : hasB (u.val : Int) j.val with
        | false => rfl
        | true => exact absurd ⟨j, e⟩ g
      rw [this]
      rfl
  obtain ⟨p, hp⟩ := hne
  have hb := b_and y z ⟨p.val, by omega⟩
  rw [hu] at hb
  rw [hb, Bool.and_eq_true] at hp
  rw [step_iff R] at h
  have hyk : ∀ j, hasB (y.val : Int) j = hB xs i j := fun j => by unfold hB; rw [hy]
  have hzk : ∀ j, hasB (z.val : Int) j = hB xs k j := fun j => by unfold hB; rw [hz]
  rw [hyk, hzk] at hp
  rw [hy, hz, b_ext ⟨n, by omega⟩ y z hyl hzl fun j => by
    rw [Bool.eq_iff_iff, hyk, hzk]
    exact ⟨fun g => h k j.val p.val i hk j.isLt p.isLt hi hp.2 hp.1 g, fun g => h i j.val p.val k hi j.isLt p.isLt hk hp.1 hp.2 g⟩]
end Go.Proofs.Ytnmgoeklcmoalab

namespace Go.Proofs.Ytnmgoeklcmoalab
open Go.RowKit

/-- so many rectangles, each one below the relation, have all its pairs -/
def CR (n : Nat) (k : Nat) (xs : List Int) : Prop := ∃ x : List (Int × Int), x.length ≤ k ∧ (∀ r, r ∈ x → isRect n r ∧ ∀ i j, i < n → j < n → hasR r i j = true → hB xs i j = true) ∧ ∀ i j, i < n → j < n → hB xs i j = true → ∃ r, r ∈ x ∧ hasR r i j = true

/-- each rectangle below it is part of a full one -/
theorem rect_full {xs : List Int} (R : Rl xs.length xs) {r : Int × Int} (hr : isRect xs.length r) (hb : ∀ i j, i < xs.length → j < xs.length → hasR r i j = true → hB xs i j = true) (hne : ∃ i j, i < xs.length ∧ j < xs.length ∧ hasR r i j = true) :
    ∃ f, f ∈ fullL xs ∧ ∀ i j, i < xs.length → j < xs.length → hasR r i j = true → hasR f i j = true := by
  obtain ⟨s, t, rfl, hs, ht⟩ := hr
  have h4 := R.four
  have T : Rl xs.length (turnL xs) := R.turn
  have T' : Rl (turnL xs).length (turnL xs) := by rw [T.len]; exact T
  obtain ⟨q, hq, hql, hqj⟩ := relAll_row R (s.val : Int)
  obtain ⟨c, hc, hcl, hcj⟩ := relAll_row T (q.val : Int)
  obtain ⟨d, hd, hdl, hdj⟩ := relAll_row R (c.val : Int)
  have hsc : ∀ i, i < xs.length → hasB (s.val : Int) i = true → hasB (c.val : Int) i = true := fun i hi h => (hcj i hi).2 fun l hl hh => by
    rw [hB_turn R l i hl hi]
    exact (hqj l hl).1 hh i hi h
  have hdq : d = q := b_ext ⟨xs.length, by omega⟩ d q hdl hql (fun l => by
    rw [Bool.eq_iff_iff, hdj l.val l.isLt]
    constructor
    · intro g
      exact (hqj l.val l.isLt).2 fun i hi h => g i hi (hsc i hi h)
    · intro g i hi h
      have := (hcj i hi).1 h l.val l.isLt g
      rw [hB_turn R l.val i l.isLt hi] at this
      exact this)
  have hclo : clo xs (c.val : Int) = (c.val : Int) := by
    unfold clo
    rw [hd, hdq, hc]
  refine ⟨((c.val : Int), relAll xs (c.val : Int)), ?_, fun i j hi hj h => ?_⟩
  · unfold fullL fullTo
    refine List.mem_map.2 ⟨c.val, List.mem_filter.2 ⟨List.mem_range.2 hcl, ?_⟩, rfl⟩
    rw [hclo]
    exact beq_self_eq_true _
  · obtain ⟨h1, h2⟩ := hasR_iff.1 h
    refine hasR_iff.2 ⟨hsc i hi h1, ?_⟩
    show hasB (relAll xs (c.val : Int)) j = true
    rw [hd, hdq]
    exact (hqj j hj).2 fun l hl hl2 => hb l j hl hj (hasR_iff.2 ⟨hl2, h2⟩)
theorem cv_cr {xs : List Int} (R : Rl xs.length xs) {k : Nat} : CV xs.length (fullL xs) k xs → CR xs.length k xs :=
  fun ⟨x, hl, hm, hc⟩ => ⟨x, hl, fun r hr => full_mem R (hm r hr), hc⟩
theorem cr_cv {xs : List Int} (R : Rl xs.length xs) {k : Nat} (h : CR xs.length k xs) : CV xs.length (fullL xs) k xs := by
  obtain ⟨x, hl, hm, hc⟩ := h
  have key : ∀ x : List (Int × Int), (∀ r, r ∈ x → isRect xs.length r ∧ ∀ i j, i < xs.length → j < xs.length → hasR r i j = true → hB xs i j = true) →
      ∃ y : List (Int × Int), y.length ≤ x.length ∧ (∀ f, f ∈ y → f ∈ fullL xs) ∧ ∀ r, r ∈ x → ∀ i j, i < xs.length → j < xs.length → hasR r i j = true → ∃ f, f ∈ y ∧ hasR f i j = true := by
    intro x
    induction x with
    | nil => exact fun _ => ⟨[], Nat.le_refl _, fun _ h => absurd h (by simp), fun r hr => absurd hr (by simp)⟩
    | cons r x ih =>
      intro hm
      obtain ⟨y, hyl, hyf, hyc⟩ := ih fun r hr => hm r (List.mem_cons_of_mem _ hr)
      obtain ⟨h1, h2⟩ := hm r List.mem_cons_self
      by_cases hne : ∃ i j, i < xs.length ∧ j < xs.length ∧ hasR r i j = true
      · obtain ⟨f, hf, hfc⟩ := rect_full R h1 h2 hne
        refine ⟨f :: y, by simp; omega, fun g hg => ?_, fun g hg i j hi hj e => ?_⟩
        · rcases List.mem_cons.1 hg with rfl | hg
          · exact hf
          · exact hyf g hg
        · rcases List.mem_cons.1 hg with rfl | hg
          · exact ⟨f, List.mem_cons_self, hfc i j hi hj e⟩
          · obtain ⟨f2, hf2, e2⟩ := hyc g hg i j hi hj e
            exact ⟨f2, List.mem_cons_of_mem _ hf2, e2⟩
      · refine ⟨y, by simp; omega, hyf, fun g hg i j hi hj e => ?_⟩
        rcases List.mem_cons.1 hg with rfl | hg
        · exact absurd ⟨i, j, hi, hj, e⟩ hne
        · exact hyc g hg i j hi hj e
  obtain ⟨y, hyl, hyf, hyc⟩ := key x hm
  refine ⟨y, by omega, hyf, fun i j hi hj e => ?_⟩
  obtain ⟨r, hr, e2⟩ := hc i j hi hj e
  exact hyc r hr i j hi hj e2
/-- the least number, by rectangles that need not be full -/
theorem least_le {xs : List Int} (R : Rl xs.length xs) {k m : Nat} (h : LeastC xs.length (fullL xs) xs k) (hc : CR xs.length m xs) : k ≤ m := by
  by_cases e : m < k
  · exact absurd (cr_cv R hc) (h.2 m e)
  · omega
theorem cr_turn {n k : Nat} {xs : List Int} (R : Rl n xs) (h : CR n k xs) : CR n k (turnL xs) := by
  obtain ⟨x, hl, hm, hc⟩ := h
  refine ⟨x.map fun r => (r.2, r.1), by rw [List.length_map]; exact hl, fun r hr => ?_, fun i j hi hj e => ?_⟩
  · obtain ⟨q, hq, rfl⟩ := List.mem_map.1 hr
    obtain ⟨⟨s, t, rfl, hs, ht⟩, hb⟩ := hm q hq
    refine ⟨⟨t, s, rfl, ht, hs⟩, fun i j hi hj e => ?_⟩
    rw [hB_turn R i j hi hj]
    obtain ⟨e1, e2⟩ := hasR_iff.1 e
    exact hb j i hj hi (hasR_iff.2 ⟨e2, e1⟩)
  · rw [hB_turn R i j hi hj] at e
    obtain ⟨r, hr, e2⟩ := hc j i hj hi e
    obtain ⟨e1, e2⟩ := hasR_iff.1 e2
    exact ⟨(r.2, r.1), List.mem_map.2 ⟨r, hr, rfl⟩, hasR_iff.2 ⟨e2, e1⟩⟩
theorem four_bits : ∀ b0 b1 b2 b3 : Bool, ∃ u : Fin 16, hasB (u.val : Int) 0 = b0 ∧ hasB (u.val : Int) 1 = b1 ∧ hasB (u.val : Int) 2 = b2 ∧ hasB (u.val : Int) 3 = b3 := by decide +kernel
theorem b_lt : ∀ n : Fin 5, ∀ u : Fin 16, (∀ j : Fin 4, ¬ j.val < n.val → hasB (u.val : Int) j.val = false) → u.val < 2 ^ n.val := by decide +kernel
/-- a set told point by point -/
theorem set_of (n : Nat) (h4 : n ≤ 4) (p : Nat → Bool) : ∃ u : Fin 16, u.val < 2 ^ n ∧ ∀ j, j < n → hasB (u.val : Int) j = p j := by
  obtain ⟨u, h0, h1, h2, h3⟩ := four_bits (decide (0 < n) && p 0) (decide (1 < n) && p 1) (decide (2 < n) && p 2) (decide (3 < n) && p 3)
  have key : ∀ j, j < 4 → hasB (u.val : Int) j = (decide (j < n) && p j) := by
    intro j hj
    rcases (by omega : j = 0 ∨ j = 1 ∨ j = 2 ∨ j = 3) with rfl | rfl | rfl | rfl
    · exact h0
    · exact h1
    · exact h2
    · exact h3
  refine ⟨u, b_lt ⟨n, by omega⟩ u fun j hj => ?_, fun j hj => ?_⟩
  · rw [key j.val j.isLt, decide_eq_false hj]
    rfl
  · rw [key j (by omega), decide_eq_true hj]
    rfl
theorem cr_comp {n k : Nat} {xs : List Int} (R : Rl n xs) (h : CR n k xs) : CR n k (compL xs xs) := by
  obtain ⟨x, hl, hm, hc⟩ := h
  have h4 := R.four
  have hex : ∀ r : Int × Int, ∃ u : Fin 16, u.val < 2 ^ n ∧ ∀ j, j < n → hasB (u.val : Int) j = (List.range n).any fun l => hasB r.2 l && hB xs l j := fun r => set_of n h4 _
  refine ⟨x.map fun r => (r.1, (((hex r).choose).val : Int)), by rw [List.length_map]; exact hl, fun r hr => ?_, fun i j hi hj e => ?_⟩
  · obtain ⟨q, hq, rfl⟩ := List.mem_map.1 hr
    obtain ⟨⟨s, t, rfl, hs, ht⟩, hb⟩ := hm q hq
    have hu := (hex ((s.val : Int), (t.val : Int))).choose_spec
    refine ⟨⟨s, _, rfl, hs, hu.1⟩, fun i j hi hj e => ?_⟩
    obtain ⟨e1, e2⟩ := hasR_iff.1 e
    have e2 : hasB ((((hex ((s.val : Int), (t.val : Int))).choose).val : Nat) : Int) j = true := e2
    rw [hu.2 j hj, List.any_eq_true] at e2
    obtain ⟨l, hl2, e3⟩ := e2
    rw [Bool.and_eq_true] at e3
    have hln := List.mem_range.1 hl2
    exact (hB_comp R R i j hi hj).2 ⟨l, hln, hb i l hi hln (hasR_iff.2 ⟨e1, e3.1⟩), e3.2⟩
  · obtain ⟨l, hl2, e1, e2⟩ := (hB_comp R R i j hi hj).1 e
    obtain ⟨r, hr, e3⟩ := hc i l hi hl2 e1
    obtain ⟨e4, e5⟩ := hasR_iff.1 e3
    refine ⟨(r.1, (((hex r).choose).val : Int)), List.mem_map.2 ⟨r, hr, rfl⟩, hasR_iff.2 ⟨e4, ?_⟩⟩
    show hasB ((((hex r).choose).val : Nat) : Int) j = true
    rw [(hex r).choose_spec.2 j hj, List.any_eq_true]
    exact ⟨l, List.mem_range.2 hl2, by rw [e5, e2]; rfl⟩
/-- rows -/
theorem cr_rows {n : Nat} {xs : List Int} (R : Rl n xs) : CR n n xs := by
  have h4 := R.four
  refine ⟨(List.range n).map fun i => (pt i, rowAt xs i), by simp, fun r hr => ?_, fun i j hi hj e => ?_⟩
  · obtain ⟨i, hi, rfl⟩ := List.mem_map.1 hr
    have hi := List.mem_range.1 hi
    obtain ⟨p, hp, hpl⟩ := b_ptlt ⟨n, by omega⟩ ⟨i, hi⟩
    obtain ⟨y, hy, hyl⟩ := R.row i
    dsimp only at hp
    refine ⟨⟨p, y, by rw [hp, hy], hpl, hyl⟩, fun a j ha hj e => ?_⟩
    obtain ⟨e1, e2⟩ := hasR_iff.1 e
    have e1 : hasB (pt i) a = true := e1
    have := b_pt ⟨i, by omega⟩ ⟨a, by omega⟩
    dsimp only at this
    rw [this, decide_eq_true_iff] at e1
    subst e1
    exact e2
  · refine ⟨(pt i, rowAt xs i), List.mem_map.2 ⟨i, List.mem_range.2 hi, rfl⟩, hasR_iff.2 ⟨?_, e⟩⟩
    have := b_pt ⟨i, by omega⟩ ⟨i, by omega⟩
    dsimp only at this
    rw [this]
    simp
theorem cr_zero {n : Nat} {xs : List Int} : CR n 0 xs ↔ ∀ i j, i < n → j < n → hB xs i j = false := by
  constructor
  · rintro ⟨x, hl, _, hc⟩ i j hi hj
    cases e : hB xs i j with
    | false => rfl
    | true =>
      obtain ⟨r, hr, _⟩ := hc i j hi hj e
      rw [List.eq_nil_of_length_eq_zero (Nat.le_zero.1 hl)] at hr
      cases hr
  · intro h
    exact ⟨[], Nat.le_refl _, fun r hr => absurd hr (by simp), fun i j hi hj e => by rw [h i j hi hj] at e; cases e⟩
/-- all that the law asks -/
theorem ranks {xs : List Int} (R : Rl xs.length xs) : ∃ k m : Nat, (k ≤ (fullL xs).length ∧ LeastC xs.length (fullL xs) xs k) ∧ (k ≤ (fullL (turnL xs)).length ∧ LeastC (turnL xs).length (fullL (turnL xs)) (turnL xs) k) ∧
    (m ≤ (fullL (compL xs xs)).length ∧ LeastC (compL xs xs).length (fullL (compL xs xs)) (compL xs xs) m) ∧ k ≤ xs.length ∧ m ≤ k ∧ (k = 0 ↔ ∀ i j, i < xs.length → j < xs.length → hB xs i j = false) := by
  have T := R.turn
  have C := R.comp R
  have T' : Rl (turnL xs).length (turnL xs) := by rw [T.len]; exact T
  have C' : Rl (compL xs xs).length (compL xs xs) := by rw [C.len]; exact C
  obtain ⟨k, hk, hkl⟩ := least_ex R
  obtain ⟨k2, hk2, hkl2⟩ := least_ex T'
  obtain ⟨m, hm, hml⟩ := least_ex C'
  have c1 := cv_cr R hkl.1
  have c2 := cv_cr T' hkl2.1
  have a1 : k2 ≤ k := least_le T' hkl2 (by rw [T.len]; exact cr_turn R c1)
  have a2 : k ≤ k2 := by
    have h := cr_turn T' c2
    rw [turn_turn R, T.len] at h
    exact least_le R hkl h
  obtain rfl : k2 = k := by omega
  have a3 : m ≤ k2 := least_le C' hml (by rw [C.len]; exact cr_comp R c1)
  refine ⟨k2, m, ⟨hk, hkl⟩, ⟨hk2, hkl2⟩, ⟨hm, hml⟩, least_le R hkl (cr_rows R), a3, ?_⟩
  constructor
  · intro e
    rw [e] at c1
    exact cr_zero.1 c1
  · intro h
    have := least_le R hkl (cr_zero.2 h)
    omega
end Go.Proofs.Ytnmgoeklcmoalab

namespace Go.Proofs.Ytnmgoeklcmoalab
open Go.RowKit

/-- the rows that make blocks -/
def mkK (xs : List Int) : List Nat := (List.range xs.length).filter (makesB xs)
def blkR (xs : List Int) (k : Nat) : Int × Int := (rowAt (kerL xs) k, rowAt xs k)
theorem blk_map (xs : List Int) : blkL xs = (mkK xs).map (blkR xs) := by
  have h : ∀ m, blkTo xs m = ((List.range m).filter (makesB xs)).map (blkR xs) := by
    intro m
    induction m with
    | zero => rfl
    | succ m ih =>
      rw [List.range_succ, List.filter_append, List.map_append, ← ih]
      cases hm : makesB xs m with
      | true => rw [blk_yes hm]; simp [hm, blkR]
      | false => rw [blk_no hm]; simp [hm]
  exact h xs.length
theorem mk_iff {xs : List Int} {k : Nat} : makesB xs k = true ↔ rowAt xs k ≠ 0 ∧ ∀ i, i < k → rowAt xs i ≠ rowAt xs k := by
  unfold makesB toldB
  rw [Bool.and_eq_true, Bool.not_eq_true', List.any_eq_false, bne_iff_ne]
  constructor
  · rintro ⟨h0, h⟩
    refine ⟨h0, fun i hi e => ?_⟩
    have := h i (List.mem_range.2 hi)
    rw [e] at this
    simp [h0] at this
  · rintro ⟨h0, h⟩
    refine ⟨h0, fun i hi => ?_⟩
    have := h i (List.mem_range.1 hi)
    simp [this]
theorem mk_mem {xs : List Int} {k : Nat} : k ∈ mkK xs ↔ k < xs.length ∧ rowAt xs k ≠ 0 ∧ ∀ i, i < k → rowAt xs i ≠ rowAt xs k := by
  unfold mkK
  rw [List.mem_filter, List.mem_range, mk_iff]
theorem mk_ex {xs : List Int} : ∀ i, i < xs.length → rowAt xs i ≠ 0 → ∃ k, k ∈ mkK xs ∧ rowAt xs k = rowAt xs i := by
  intro i
  induction i using Nat.strongRecOn with
  | ind i ih =>
    intro hi h0
    by_cases h : ∃ j, j < i ∧ rowAt xs j = rowAt xs i
    · obtain ⟨j, hj, e⟩ := h
      obtain ⟨k, hk, e2⟩ := ih j hj (by omega) (by rw [e]; exact h0)
      exact ⟨k, hk, e2.trans e⟩
    · exact ⟨i, mk_mem.2 ⟨hi, h0, fun j hj e => h ⟨j, hj, e⟩⟩, rfl⟩
theorem mk_ne {xs : List Int} {k l : Nat} (hk : k ∈ mkK xs) (hl : l ∈ mkK xs) (h : k ≠ l) : rowAt xs k ≠ rowAt xs l := by
  rcases Nat.lt_or_gt_of_ne h with e | e
  · exact (mk_mem.1 hl).2.2 k e
  · exact fun e2 => (mk_mem.1 hk).2.2 l e e2.symm
theorem row_some {n : Nat} {xs : List Int} (R : Rl n xs) {k : Nat} (h : rowAt xs k ≠ 0) : ∃ j, j < n ∧ hB xs k j = true := by
  have h4 := R.four
  obtain ⟨y, hy, hyl⟩ := R.row k
  by_cases g : ∃ j : Fin n, hasB (y.val : Int) j.val = true
  · obtain ⟨j, hj⟩ := g
    exact ⟨j.val, j.isLt, by unfold hB; rw [hy]; exact hj⟩
  · exfalso
    apply h
    have : y = 0 := b_ext ⟨n, by omega⟩ y 0 hyl (Nat.two_pow_pos n) fun j => by
      have h0 : hasB (((0 : Fin 16).val : Nat) : Int) j.val = false := b_zero ⟨j.val, Nat.lt_of_lt_of_le j.isLt (by show n ≤ 4; omega)⟩
      rw [h0]
      cases e : hasB (y.val : Int) j.val with
      | false => rfl
      | true => exact absurd ⟨j, e⟩ g
    rw [hy, this]
    rfl
/-- rows that have a common point are equal -/
theorem step_meet {n : Nat} {xs : List Int} (R : Rl n xs) (h : stepB xs = true) {i k j : Nat} (hi : i < n) (hk : k < n) (hj : j < n) (e1 : hB xs i j = true) (e2 : hB xs k j = true) : rowAt xs i = rowAt xs k := by
  refine step_rows R h i k hi hk fun e => ?_
  obtain ⟨y, hy, _⟩ := R.row i
  obtain ⟨z, hz, _⟩ := R.row k
  have h4 := R.four
  have hb := b_and y z ⟨j, by omega⟩
  dsimp only at hb
  rw [hy, hz] at e
  rw [e, b_zero ⟨j, by omega⟩] at hb
  unfold hB at e1 e2
  rw [hy] at e1
  rw [hz] at e2
  rw [e1, e2] at hb
  cases hb
theorem blk_rect {xs : List Int} (R : Rl xs.length xs) {k : Nat} : isRect xs.length (blkR xs k) := by
  obtain ⟨y, hy, hyl⟩ := R.row k
  obtain ⟨z, hz, hzl⟩ := (ker_rl R).row k
  exact ⟨z, y, by unfold blkR; rw [hy, hz], hzl, hyl⟩
theorem blk_has {xs : List Int} (R : Rl xs.length xs) {k i j : Nat} (hk : k < xs.length) (hi : i < xs.length) : hasR (blkR xs k) i j = true ↔ rowAt xs k = rowAt xs i ∧ hB xs k j = true := by
  rw [hasR_iff]
  have : hasB (blkR xs k).1 i = decide (rowAt xs k = rowAt xs i) := hB_ker R k i hk hi
  rw [this, decide_eq_true_iff]
  rfl
theorem blk_below {xs : List Int} (R : Rl xs.length xs) {k : Nat} (hk : k < xs.length) : ∀ i j, i < xs.length → j < xs.length → hasR (blkR xs k) i j = true → hB xs i j = true := by
  intro i j hi hj e
  obtain ⟨e1, e2⟩ := (blk_has R hk hi).1 e
  unfold hB at e2 ⊢
  rw [← e1]
  exact e2
theorem blk_mem {xs : List Int} {r : Int × Int} : r ∈ blkL xs ↔ ∃ k, k ∈ mkK xs ∧ r = blkR xs k := by
  rw [blk_map, List.mem_map]
  exact ⟨fun ⟨k, h, e⟩ => ⟨k, h, e.symm⟩, fun ⟨k, h, e⟩ => ⟨k, h, e.symm⟩⟩
theorem blk_at {xs : List Int} (R : Rl xs.length xs) {i j : Nat} (hi : i < xs.length) (hj : j < xs.length) (e : hB xs i j = true) : ∃ r, r ∈ blkL xs ∧ hasR r i j = true := by
  have h4 := R.four
  have h0 : rowAt xs i ≠ 0 := fun h => by
    unfold hB at e
    rw [h, b_zero ⟨j, by omega⟩] at e
    cases e
  obtain ⟨k, hk, e2⟩ := mk_ex i hi h0
  have hkn := (mk_mem.1 hk).1
  refine ⟨blkR xs k, blk_mem.2 ⟨k, hk, rfl⟩, (blk_has R hkn hi).2 ⟨e2, ?_⟩⟩
  unfold hB at e ⊢
  rw [e2]
  exact e
theorem blk_union {xs : List Int} (R : Rl xs.length xs) : rofL xs.length ((blkL xs).map rowR) = xs ∧ ((blkL xs).map rowR).all (okR xs.length) = true := by
  have hr : ∀ r, r ∈ blkL xs → isRect xs.length r := fun r hr => by
    obtain ⟨k, _, rfl⟩ := blk_mem.1 hr
    exact blk_rect R
  refine ⟨?_, rects_ok hr⟩
  rw [rof_union]
  refine (union_rl R.one R.four hr).ext R fun i j hi hj => ?_
  rw [Bool.eq_iff_iff, hB_union R.one R.four hr i j hi hj]
  constructor
  · rintro ⟨r, hr, e⟩
    obtain ⟨k, hk, rfl⟩ := blk_mem.1 hr
    exact blk_below R (mk_mem.1 hk).1 i j hi hj e
  · exact fun e => blk_at R hi hj e
/-- as many as the rank -/
theorem blk_rank {xs : List Int} (R : Rl xs.length xs) (h : stepB xs = true) {m : Nat} (hm : LeastC xs.length (fullL xs) xs m) : m = (blkL xs).length := by
  have h1 : m ≤ (blkL xs).length := least_le R hm ⟨blkL xs, Nat.le_refl _, fun r hr => by
    obtain ⟨k, hk, rfl⟩ := blk_mem.1 hr
    exact ⟨blk_rect R, blk_below R (mk_mem.1 hk).1⟩, fun i j hi hj e => blk_at R hi hj e⟩
  obtain ⟨x, hxl, hxm, hxc⟩ := cv_cr R hm.1
  have hex : ∀ k, ∃ r : Int × Int, k ∈ mkK xs → r ∈ x ∧ ∃ j, j < xs.length ∧ hasR r k j = true ∧ hB xs k j = true := by
    intro k
    by_cases hk : k ∈ mkK xs
    · obtain ⟨hkn, h0, _⟩ := mk_mem.1 hk
      obtain ⟨j, hj, e⟩ := row_some R h0
      obtain ⟨r, hr, e2⟩ := hxc k j hkn hj e
      exact ⟨r, fun _ => ⟨hr, j, hj, e2, e⟩⟩
    · exact ⟨(0, 0), fun h => absurd h hk⟩
  have hnd : ((mkK xs).map fun k => (hex k).choose).Nodup := by
    rw [List.Nodup, List.pairwise_map]
    refine List.Pairwise.imp_of_mem ?_ (List.Pairwise.filter _ List.nodup_range : (mkK xs).Pairwise fun a b => a ≠ b)
    intro k l hk hl hne e
    obtain ⟨_, j, hj, e1, e2⟩ := (hex k).choose_spec hk
    obtain ⟨hlx, j2, hj2, f1, f2⟩ := (hex l).choose_spec hl
    rw [e] at e1
    have hkn := (mk_mem.1 hk).1
    have hln := (mk_mem.1 hl).1
    obtain ⟨e3, _⟩ := hasR_iff.1 e1
    obtain ⟨_, f4⟩ := hasR_iff.1 f1
    have g := (hxm _ hlx).2 k j2 hkn hj2 (hasR_iff.2 ⟨e3, f4⟩)
    exact mk_ne hk hl hne (step_meet R h hkn hln hj2 g f2)
  have h2 := nodup_le hnd (s := x) fun r hr => by
    obtain ⟨k, hk, rfl⟩ := List.mem_map.1 hr
    exact ((hex k).choose_spec hk).1
  rw [List.length_map] at h2
  have h3 : (blkL xs).length = (mkK xs).length := by rw [blk_map, List.length_map]
  omega
theorem and_zero : ∀ n : Fin 5, ∀ y z : Fin 16, y.val < 2 ^ n.val → (∀ j : Fin n.val, ¬ (hasB (y.val : Int) j.val = true ∧ hasB (z.val : Int) j.val = true)) → bits .and .i64 (y.val : Int) (z.val : Int) = 0 := by decide +kernel
/-- no two have a common point -/
theorem blk_apart {xs : List Int} (R : Rl xs.length xs) (h : stepB xs = true) (i j : Nat) (hj : j < i) (hi : i < (blkL xs).length) :
    ∃ p q s t : Int, ((blkL xs).map rowR)[i]? = some [p, q] ∧ ((blkL xs).map rowR)[j]? = some [s, t] ∧ (bits .and .i64 p s != 0) = false ∧ (bits .and .i64 q t != 0) = false := by
  have h4 := R.four
  have hl : (blkL xs).length = (mkK xs).length := by rw [blk_map, List.length_map]
  obtain ⟨k, hk⟩ : ∃ k, (mkK xs)[i]? = some k := ⟨_, List.getElem?_eq_getElem (by omega)⟩
  obtain ⟨l, hl2⟩ : ∃ l, (mkK xs)[j]? = some l := ⟨_, List.getElem?_eq_getElem (by omega)⟩
  have hkm := List.mem_of_getElem? hk
  have hlm := List.mem_of_getElem? hl2
  have hne : k ≠ l := by
    have hp : (mkK xs).Pairwise fun a b => a ≠ b := List.Pairwise.filter _ List.nodup_range
    have := List.pairwise_iff_getElem.1 hp j i (by omega) (by omega) hj
    rw [List.getElem?_eq_getElem (by omega)] at hk hl2
    rw [Option.some.inj hk, Option.some.inj hl2] at this
    exact fun e => this e.symm
  have hrow := mk_ne hkm hlm hne
  have hkn := (mk_mem.1 hkm).1
  have hln := (mk_mem.1 hlm).1
  obtain ⟨y, hy, hyl⟩ := R.row k
  obtain ⟨z, hz, hzl⟩ := R.row l
  obtain ⟨u, hu, hul⟩ := (ker_rl R).row k
  obtain ⟨v, hv, hvl⟩ := (ker_rl R).row l
  refine ⟨(u.val : Int), (y.val : Int), (v.val : Int), (z.val : Int), ?_, ?_, ?_, ?_⟩
  · rw [blk_map, List.map_map, List.getElem?_map, hk]
    show some (rowR (blkR xs k)) = _
    unfold rowR blkR
    rw [hy, hu]
  · rw [blk_map, List.map_map, List.getElem?_map, hl2]
    show some (rowR (blkR xs l)) = _
    unfold rowR blkR
    rw [hz, hv]
  · rw [and_zero ⟨xs.length, by omega⟩ u v hul fun a ⟨e1, e2⟩ => by
      have g1 := hB_ker R k a.val hkn a.isLt
      have g2 := hB_ker R l a.val hln a.isLt
      unfold hB at g1 g2
      rw [hu, e1] at g1
      rw [hv, e2] at g2
      exact hrow ((of_decide_eq_true g1.symm).trans (of_decide_eq_true g2.symm).symm)]
    rfl
  · rw [and_zero ⟨xs.length, by omega⟩ y z hyl fun a ⟨e1, e2⟩ => by
      exact hrow (step_meet R h hkn hln a.isLt (by unfold hB; rw [hy]; exact e1) (by unfold hB; rw [hz]; exact e2))]
    rfl
end Go.Proofs.Ytnmgoeklcmoalab
