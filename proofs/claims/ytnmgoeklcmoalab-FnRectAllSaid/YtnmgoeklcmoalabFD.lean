/-
  Lists of lists of numbers: contracts of szIntS, szIntSS, toIntSS, eqIntSS, markIntSS (the laws' helpers).
-/
import Derived.Test.YtnmgoeklcmoalabFB
namespace Go.Proofs.Ytnmgoeklcmoalab
open Go.RowKit

/-- the slice at this address reads as these lists -/
def RdS (w : World) (ao : Option Addr) (xss : List (List Int)) : Prop :=
  ∀ k xs, xss[k]? = some xs → ∃ b off ak ck, ao = some ⟨b, off, none⟩ ∧ b < w.heap.size ∧ w.cell? ⟨b, off + k, none⟩ = some (.slice ak xs.length ck) ∧ Rd w ak xs
theorem RdS.below {w w' : World} {ao : Option Addr} {xss : List (List Int)} (h : RdS w ao xss) (hb : Below w.heap.size w w') : RdS w' ao xss := by
  intro k xs hx
  obtain ⟨b, off, ak, ck, h1, h2, h3, h4⟩ := h k xs hx
  exact ⟨b, off, ak, ck, h1, Nat.lt_of_lt_of_le h2 hb.size, (hb.cell (p := ⟨b, off + k, none⟩) h2).trans h3, h4.below hb⟩
def sumTo (xss : List (List Int)) (k : Nat) : Nat := ((xss.take k).map List.length).sum
theorem sumTo_succ (xss : List (List Int)) (k : Nat) (xs : List Int) (h : xss[k]? = some xs) : sumTo xss (k + 1) = sumTo xss k + xs.length := by
  unfold sumTo
  rw [List.take_add_one, h]
  simp
theorem sumTo_le (xss : List (List Int)) (k : Nat) (xs : List Int) (h : xss[k]? = some xs) : xs.length ≤ sumTo xss xss.length := by
  have hk : k < xss.length := (List.getElem?_eq_some_iff.1 h).1
  have h2 : ∀ m, k < m → m ≤ xss.length → xs.length ≤ sumTo xss m := by
    intro m hm
    induction m with
    | zero => omega
    | succ m ih =>
      intro hle
      rw [sumTo_succ xss m _ (List.getElem?_eq_getElem (by omega))]
      by_cases e : k = m
      · subst e
        rw [List.getElem?_eq_getElem hk] at h
        have := Option.some.inj h
        rw [this]
        omega
      · have := ih (by omega) (by omega)
        omega
  exact h2 _ hk (Nat.le_refl _)
theorem sumTo_mono (xss : List (List Int)) : ∀ k m, k ≤ m → m ≤ xss.length → sumTo xss k ≤ sumTo xss m := by
  intro k m hkm
  induction m with
  | zero => intro _; rw [show k = 0 by omega]; exact Nat.le_refl _
  | succ m ih =>
    intro hm
    by_cases e : k = m + 1
    · rw [e]; exact Nat.le_refl _
    · have := ih (by omega) (by omega)
      rw [sumTo_succ xss m _ (List.getElem?_eq_getElem (by omega))]
      omega

/-- v is a list of lists of the call's own, all in blocks from lo on and below hi -/
structure OwnS (w : World) (lo hi : Nat) (v : Value) (xss : List (List Int)) (us : Nat → Value) : Prop where
  row : w.ownsRow lo 23 1 v xss.length ((List.range xss.length).map us)
  top : ∀ k, v.ownBlock = some k → k < hi
  size : hi ≤ w.heap.size
  apart : ∀ i j k, i < j → j < xss.length → (us i).ownBlock = some k → (us j).ownBlock ≠ some k
  rows : ∀ j xs, xss[j]? = some xs → OwnR w lo hi (us j) xs
theorem OwnS.same {w w' : World} {lo hi : Nat} {v : Value} {xss : List (List Int)} {us : Nat → Value} (h : OwnS w lo hi v xss us) (hs : hi ≤ w'.heap.size) (hb : ∀ k, lo ≤ k → k < hi → w'.heap[k]? = w.heap[k]?) : OwnS w' lo hi v xss us :=
  ⟨own_same h.row fun k hk => hb k (h.row.lt k hk).1 (h.top k hk), h.top, hs, h.apart, fun j xs hj => (h.rows j xs hj).same hs fun k hk => hb k ((h.rows j xs hj).base hk) ((h.rows j xs hj).top k hk)⟩
theorem OwnS.below {w w' : World} {lo hi B : Nat} {v : Value} {xss : List (List Int)} {us : Nat → Value} (h : OwnS w lo hi v xss us) (hb : Below B w w') (hB : hi ≤ B) : OwnS w' lo hi v xss us :=
  h.same (Nat.le_trans h.size hb.size) fun k _ h2 => hb.block k (by omega)
theorem OwnS.dn {w w' : World} {lo hi : Nat} {v : Value} {xss : List (List Int)} {us : Nat → Value} (h : OwnS w lo hi v xss us) (hd : Dn w w') : OwnS w' lo hi v xss us :=
  h.same (by rw [hd.heap]; exact h.size) fun k _ _ => by rw [hd.heap]
theorem OwnS.at {w : World} {lo hi : Nat} {v : Value} {xss : List (List Int)} {us : Nat → Value} (h : OwnS w lo hi v xss us) : ∃ ao cap, v = .slice ao xss.length cap ∧ ∀ k, k < xss.length → ∃ b, ao = some ⟨b, 0, none⟩ ∧ b < w.heap.size ∧ w.cell? ⟨b, k, none⟩ = some (us k) := by
  rcases h.row.2 with ⟨rfl, h2⟩ | ⟨g, cap, cur, rfl, _⟩
  · rw [h2]
    exact ⟨none, 0, rfl, fun k hk => absurd hk (by omega)⟩
  · refine ⟨_, cap, rfl, fun k hk => ⟨g, rfl, (h.row.lt g rfl).2, ?_⟩⟩
    rw [h.row.cellAt k (by omega), List.getElem?_map, List.getElem?_range hk]
    rfl
theorem OwnS.rd {w : World} {lo hi : Nat} {v : Value} {xss : List (List Int)} {us : Nat → Value} (h : OwnS w lo hi v xss us) : ∃ ao cap, v = .slice ao xss.length cap ∧ RdS w ao xss := by
  obtain ⟨ao, cap, rfl, hx⟩ := h.at
  refine ⟨ao, cap, rfl, fun k xs hk => ?_⟩
  obtain ⟨b, rfl, hb, hc⟩ := hx k (List.getElem?_eq_some_iff.1 hk).1
  obtain ⟨ak, ck, he, hr⟩ := (h.rows k xs hk).rd
  exact ⟨b, 0, ak, ck, rfl, hb, by rw [Nat.zero_add, hc, he], hr⟩

end Go.Proofs.Ytnmgoeklcmoalab
