/-
  Linked points read: the numbers of their classes.
-/
import Derived.Test.YtebkeebgjjmdbaaGreatDoorJC
namespace Go.Proofs.YtebkeebgjjmdbaaGreatDoor
open Go.RowKit

/-- how many least points are less than k -/
def cm (ps : List Nat) : Nat → Nat
  | 0 => 0
  | k + 1 => cm ps k + if rt ps k = k then 1 else 0
theorem cm_le (ps : List Nat) : ∀ k, cm ps k ≤ k
  | 0 => Nat.le_refl _
  | k + 1 => by
    have := cm_le ps k
    show cm ps k + (if rt ps k = k then 1 else 0) ≤ k + 1
    split <;> omega
theorem cm_yes {ps : List Nat} {k : Nat} (h : rt ps k = k) : cm ps (k + 1) = cm ps k + 1 := by
  show cm ps k + (if rt ps k = k then 1 else 0) = _
  rw [if_pos h]
theorem cm_no {ps : List Nat} {k : Nat} (h : ¬ rt ps k = k) : cm ps (k + 1) = cm ps k := by
  show cm ps k + (if rt ps k = k then 1 else 0) = _
  rw [if_neg h, Nat.add_zero]
/-- the numbers of the classes of the first k points -/
def numTo (n : Nat) (ps : List Nat) (k : Nat) : List Int := (List.range n).map fun i => if i < k then ((cm ps (rt ps i) : Nat) : Int) else 0
def numL (n : Nat) (ps : List Nat) : List Int := numTo n ps n
theorem numTo_len (n : Nat) (ps : List Nat) (k : Nat) : (numTo n ps k).length = n := by simp [numTo]
theorem numTo_get (n : Nat) (ps : List Nat) (k i : Nat) (h : i < n) : (numTo n ps k)[i]? = some (if i < k then ((cm ps (rt ps i) : Nat) : Int) else 0) := by simp [numTo, h]
theorem numTo_zero (n : Nat) (ps : List Nat) : numTo n ps 0 = List.replicate n 0 := by
  apply List.ext_getElem?
  intro i
  by_cases h : i < n
  · rw [numTo_get n ps 0 i h, if_neg (by omega), List.getElem?_replicate, if_pos h]
  · rw [List.getElem?_eq_none (by rw [numTo_len]; omega), List.getElem?_eq_none (by simp; omega)]
theorem numTo_step (n : Nat) (ps : List Nat) (k : Nat) : (numTo n ps k).set k ((cm ps (rt ps k) : Nat) : Int) = numTo n ps (k + 1) := by
  apply List.ext_getElem?
  intro i
  by_cases h : i < n
  · rw [List.getElem?_set, numTo_get n ps k i h, numTo_get n ps (k + 1) i h, numTo_len]
    by_cases e : k = i
    · subst e
      rw [if_pos rfl, if_pos h, if_pos (by omega)]
    · rw [if_neg e]
      by_cases h2 : i < k
      · rw [if_pos h2, if_pos (by omega)]
      · rw [if_neg h2, if_neg (by omega)]
  · rw [List.getElem?_eq_none (by rw [List.length_set, numTo_len]; omega), List.getElem?_eq_none (by rw [numTo_len]; omega)]

set_option maxHeartbeats 4000000 in
theorem numbers_any {B n : Nat} {ps : List Nat} (hF : Fo ps) (h4 : n ≤ 4) (w : World) (h : LinkW w B n ps) (hB0 : B + 1 + n ≤ w.heap.size) :
    Calls Tryz.prog 19 #[.slice (some ⟨B, 0, none⟩) n n] w fun e w' => e = .returned (.tuple #[.slice (some ⟨w.heap.size, 0, none⟩) n n, .int .i64 (cm ps n : Nat)]) ∧
      w'.ownsRow w.heap.size 3 1 (.slice (some ⟨w.heap.size, 0, none⟩) n n) n ((numL n ps).map (Value.int .i64)) ∧ Below w.heap.size w w' := by
  obtain ⟨i0, hi, hz0, hz1, hz2⟩ := info_parts Tryz.info3
  have hL := fun (i : Nat) (hi : i < n) (wr : World) (hb : Below w.heap.size w wr) => least_any hF h4 i hi wr (h.below hb hB0)
  have hR := fun (i : Nat) (hi : i < n) (wr : World) (hb : Below w.heap.size w wr) => (h.below hb hB0).row i hi
  have hN := fun (i : Nat) (hi : i < n) (wr : World) (hb : Below w.heap.size w wr) => (h.below hb hB0).num i hi
  have hE := fun (i j : Nat) (hi : i < n) (hj : j < n) (wr : World) (hb : Below w.heap.size w wr) (hne : i ≠ j) => ptr_other (h.below hb hB0) i j hi hj hne
  have H := Lib.hid (And.intro hF (And.intro hL (And.intro hR (And.intro hN hE))))
  clear hL hR hN hE h hF
  go_enter Tryz.func19, Tryz.ntmps19
  go_wp2_with (at_make; refine wpList_make_full _ rfl _ _ 23 rfl w.heap.size 3 i0 (.int .i64 0) 1 Tryz.underlying23 hi hz0 hz1 _ _ _ _ n rfl rfl rfl rfl ?c1 ?c2 ?c3 ?_)
  case c1 => rw [hz2]; omega
  case c2 => unfold maxLen; omega
  case c3 => exact Nat.le_refl _
  intro w1 hown hgrow
  have hB : Below w.heap.size w w1 := (Below.refl _ _).grown hgrow (Nat.le_refl _) (by simp)
  rw [toList_madeCells_one] at hown
  have hown0 : w1.ownsRow w.heap.size 3 1 (.slice (some ⟨w.heap.size, 0, none⟩) n n) n ((numTo n ps 0).map (Value.int .i64)) := by
    rw [numTo_zero]
    simpa using hown
  clear hgrow hown
  go_wp2
  go_loopw [14, 5, 6, 7, 8] (fun i c _ _ _ wr => ∃ k : Nat, k ≤ n ∧ i = .int .i64 k ∧ c = .int .i64 (cm ps k : Nat) ∧ wr.ownsRow w.heap.size 3 1 (.slice (some ⟨w.heap.size, 0, none⟩) n n) n ((numTo n ps k).map (Value.int .i64)) ∧ Below w.heap.size w wr)
    (fun i _ _ _ _ _ => n - (intOf i).toNat)
  case atStart => exact ⟨0, Nat.zero_le _, rfl, rfl, hown0, hB⟩
  case round =>
    clear hown0 hB
    obtain ⟨k, hk, rfl, rfl, ho, hB⟩ := hrel
    by_cases hlt : k < n
    · have c1 := H.out.2.2.1 k hlt wr hB
      have q1 := H.out.2.1 k hlt wr hB
      have hrk : rt ps k ≤ k := H.out.1.rle k (by omega)
      have hc2 := ho.cellAt k (by omega)
      have hf2 := ho.frozenAt k
      obtain ⟨u, hu⟩ : ∃ u, ((numTo n ps k).map (Value.int .i64))[k]? = some u := ⟨_, List.getElem?_eq_getElem (by simp [numTo]; omega)⟩
      rw [hu] at hc2
      have hi1 : ((k : Nat) : Int) < (n : Int) := by omega
      have hle := cm_le ps k
      have hst := (ho.stored k (.int .i64 ((cm ps (rt ps k) : Nat) : Int))).1
      rw [← List.map_set, numTo_step] at hst
      by_cases e : rt ps k = k
      · have hcm := cm_yes e
        rw [e] at q1 hst
        have hE := ptr_same ⟨B + 1 + k, 0, none⟩ wr
        have HQ := Lib.hid (And.intro q1 (And.intro hcm hst))
        have HB := Lib.hid hB
        clear q1 hcm hst hB ho hu e hrk
        go_wp2_with fail
        refine HQ.out.1.mono ?_
        rintro e w' ⟨rfl, rfl⟩
        go_wp2
        go_roundw
        case rel => exact ⟨k + 1, by omega, by go_num, by rw [HQ.out.2.1]; go_num, HQ.out.2.2, HB.out.setCell (p := ⟨w.heap.size, k, none⟩) (Nat.le_refl _) _⟩
        case measure => simp [intOf]; omega
      · have hcm := cm_no e
        have hlr : rt ps k < k := by omega
        have hE := H.out.2.2.2.2 (rt ps k) k (by omega) hlt wr hB e
        have hnr := H.out.2.2.2.1 (rt ps k) (by omega) wr hB
        have hc3 := ho.cellAt (rt ps k) (by omega)
        have hrr : rt ps (rt ps k) = rt ps k := H.out.1.top _ (by omega) (H.out.1.fix k (by omega))
        rw [List.getElem?_map, numTo_get n ps k (rt ps k) (by omega), if_pos hlr, hrr] at hc3
        have hc3 : wr.cell? ⟨w.heap.size, rt ps k, none⟩ = some (.int .i64 ((cm ps (rt ps k) : Nat) : Int)) := hc3
        obtain ⟨r, hr⟩ : ∃ r, rt ps k = r := ⟨_, rfl⟩
        rw [hr] at q1 hst hE hnr hc3 hlr
        have hi2 : ((r : Nat) : Int) < (n : Int) := by omega
        have HQ := Lib.hid (And.intro q1 (And.intro hcm hst))
        have HB := Lib.hid hB
        clear q1 hcm hst hB ho hu e hrk hr hrr
        go_wp2_with fail
        refine HQ.out.1.mono ?_
        rintro e w' ⟨rfl, rfl⟩
        go_wp2
        go_roundw
        case rel => exact ⟨k + 1, by omega, by go_num, by rw [HQ.out.2.1], HQ.out.2.2, HB.out.setCell (p := ⟨w.heap.size, k, none⟩) (Nat.le_refl _) _⟩
        case measure => simp [intOf]; omega
    · obtain rfl : k = n := by omega
      go_wp2
      go_ret2
      exact ⟨rfl, ho, hB⟩
end Go.Proofs.YtebkeebgjjmdbaaGreatDoor
