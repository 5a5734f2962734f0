/-
  toIntSS (the laws' helper); the model's RelOf.
-/
import Derived.Test.YtglhbejdnfafgabFD
import Derived.Test.YtglhbejdnfafgabAA
namespace Go.Proofs.Ytglhbejdnfafgab
open Go.RowKit

theorem setS (us : Nat → Value) (z v : Value) (n k : Nat) (hk : k < n) :
    ((List.range k).map us ++ List.replicate (n - k) z).set k v = (List.range (k + 1)).map (fun j => if j = k then v else us j) ++ List.replicate (n - (k + 1)) z := by
  obtain ⟨m, hm⟩ : ∃ m, n - k = m + 1 := ⟨n - k - 1, by omega⟩
  have hm2 : n - (k + 1) = m := by omega
  have h0 : k - ((List.range k).map us).length = 0 := by simp
  rw [hm, hm2, List.set_append_right _ _ (by simp), h0, List.replicate_succ, List.set_cons_zero, List.range_succ, List.map_append, List.append_assoc]
  congr 1
  · apply List.map_congr_left
    intro j hj
    have := List.mem_range.1 hj
    rw [if_neg (by omega)]
  · simp

set_option maxHeartbeats 1000000 in
theorem toIntSS_any (ao : Option Addr) (cap : Nat) (xss : List (List Int)) (w : World) (hn : xss.length ≤ 1048576) (hs : sumTo xss xss.length ≤ 1048576) (hr : RdS w ao xss) :
    Calls Try.prog 7 #[.slice ao xss.length cap] w fun e w' => ∃ v us, e = .returned v ∧ OwnS w' w.heap.size w'.heap.size v xss us ∧ Below w.heap.size w w' := by
  obtain ⟨i0, hi, hz0, hz1, hz2⟩ := info_parts Try.info224
  have HR := Lib.hid hr
  clear hr
  go_enter Try.func7, Try.ntmps7
  go_wp2_with (at_make; refine wpList_make_full _ rfl _ _ 22 rfl w.heap.size 24 i0 (.slice none 0 0) 1 Try.underlying22 hi hz0 hz1 _ _ _ _ xss.length rfl rfl rfl rfl ?c1 ?c2 ?c3 ?_)
  case c1 => rw [hz2]; omega
  case c2 => unfold maxLen; omega
  case c3 => exact Nat.le_refl _
  intro w1 hown hgrow
  have hB : Below w.heap.size w w1 := (Below.refl _ _).grown hgrow (Nat.le_refl _) (by simp)
  rw [toList_madeCells_one] at hown
  clear hgrow
  go_wp2
  go_loopw [4] (fun i wr => ∃ (k : Nat) (us : Nat → Value), k ≤ xss.length ∧ i = .int .i64 k ∧ wr.ownsRow w.heap.size 24 1 (.slice (some ⟨w.heap.size, 0, none⟩) xss.length xss.length) xss.length ((List.range k).map us ++ List.replicate (xss.length - k) (.slice none 0 0)) ∧ (∀ j xs, j < k → xss[j]? = some xs → OwnR wr w.heap.size wr.heap.size (us j) xs) ∧ (∀ i j q, i < j → j < k → (us i).ownBlock = some q → (us j).ownBlock ≠ some q) ∧ Below w.heap.size w wr)
    (fun i _ => xss.length - (intOf i).toNat)
  case atStart => exact ⟨0, fun _ => .slice none 0 0, Nat.zero_le _, rfl, by simpa using hown, fun j xs hj => by omega, fun i j q _ hj => by omega, hB⟩
  case round =>
    clear hown hB
    obtain ⟨k, us, hk, rfl, ho, hrows, hap, hb⟩ := hrel
    by_cases hlt : k < xss.length
    · obtain ⟨xs, hxs⟩ : ∃ xs, xss[k]? = some xs := ⟨_, List.getElem?_eq_getElem hlt⟩
      obtain ⟨b, off, ak, ck, rfl, hbl, hc1, hrd⟩ := (HR.out.below hb) k xs hxs
      have hle := sumTo_le xss k xs hxs
      have hi1 : ((k : Nat) : Int) < (xss.length : Int) := by omega
      have hcall := toIntS_own ak ck xs wr (by omega) hrd
      have HC := Lib.hid (And.intro hcall (And.intro hrows (And.intro hap hxs)))
      clear hcall hrows hap hrd hxs
      go_wp2_with fail
      refine HC.out.1.mono ?_
      rintro e w2 ⟨v, rfl, o2, b2⟩
      obtain ⟨vo, vc, rfl, _⟩ := o2.rd
      have ho2 := own_same ho (fun q hq => b2.block q (ho.lt q hq).2)
      have hc2 := ho2.cellAt k (by omega)
      have hgone : ((List.range k).map us ++ List.replicate (xss.length - k) (Value.slice none 0 0))[k]? = some (.slice none 0 0) := by
        rw [List.getElem?_append_right (by simp), List.getElem?_replicate]
        simp
        omega
      rw [hgone] at hc2
      have hf2 := ho2.frozenAt k
      have hst := (ho2.stored k (.slice vo xs.length vc)).1
      rw [setS us _ _ _ _ hlt] at hst
      have hN : w.heap.size < wr.heap.size := (ho.lt _ rfl).2
      have hrows2 : ∀ j ys, j < k + 1 → xss[j]? = some ys → OwnR (w2.setCell ⟨w.heap.size, k, none⟩ (.slice vo xs.length vc)) w.heap.size (w2.setCell ⟨w.heap.size, k, none⟩ (.slice vo xs.length vc)).heap.size (if j = k then .slice vo xs.length vc else us j) ys := by
        intro j ys hj hys
        have hsz2 : (w2.setCell ⟨w.heap.size, k, none⟩ (.slice vo xs.length vc)).heap.size = w2.heap.size := by simp
        by_cases e : j = k
        · subst e
          rw [HC.out.2.2.2] at hys
          cases hys
          rw [if_pos rfl]
          have o3 : OwnR w2 w.heap.size w2.heap.size (.slice vo xs.length vc) xs := ⟨own_mono o2.row hb.size, o2.top, Nat.le_refl _⟩
          have := o3.same (w' := w2.setCell ⟨w.heap.size, j, none⟩ (.slice vo xs.length vc)) (by rw [hsz2]; exact Nat.le_refl _) (fun q hq => Below.heap_setCell _ _ _ _ (by have := o2.base hq; simp; omega))
          rw [hsz2]
          exact this
        · rw [if_neg e]
          have r1 := HC.out.2.1 j ys (by omega) hys
          have r2 : OwnR w2 w.heap.size w2.heap.size (us j) ys := by
            have := r1.below b2 (Nat.le_refl _)
            exact ⟨this.row, fun q hq => Nat.lt_of_lt_of_le (this.top q hq) b2.size, Nat.le_refl _⟩
          rw [hsz2]
          refine r2.same (by rw [hsz2]; exact Nat.le_refl _) (fun q hq => Below.heap_setCell _ _ _ _ ?_)
          rcases r2.row.2 with ⟨h1, _⟩ | ⟨g, cap', cur, h1, _⟩
          · rw [h1] at hq
            cases hq
          · have hrow := r2.row
            rw [h1] at hrow hq
            have := rows_apart2 hrow ho2
            simp [Value.ownBlock] at hq
            simp
            omega
      have hap2 : ∀ i j q, i < j → j < k + 1 → (if i = k then Value.slice vo xs.length vc else us i).ownBlock = some q → (if j = k then Value.slice vo xs.length vc else us j).ownBlock ≠ some q := by
        intro i j q hij hj hq
        rw [if_neg (by omega)] at hq
        by_cases e : j = k
        · rw [if_pos e]
          intro hq2
          have h1 := o2.base hq2
          obtain ⟨ys, hys⟩ : ∃ ys, xss[i]? = some ys := ⟨_, List.getElem?_eq_getElem (by omega)⟩
          have h2 := (HC.out.2.1 i ys (by omega) hys).top q hq
          omega
        · rw [if_neg e]
          exact HC.out.2.2.1 i j q hij (by omega) hq
      have B2 : Below w.heap.size w (w2.setCell ⟨w.heap.size, k, none⟩ (.slice vo xs.length vc)) := (hb.trans (b2.mono hb.size)).setCell (p := ⟨w.heap.size, k, none⟩) (Nat.le_refl _) _
      have HO := Lib.hid (And.intro hst (And.intro hrows2 (And.intro hap2 B2)))
      clear hst hrows2 hap2 B2 ho ho2 o2 b2 hb hgone
      go_wp2
      go_roundw
      case rel => exact ⟨k + 1, _, by omega, by go_num, HO.out.1, HO.out.2.1, HO.out.2.2.1, HO.out.2.2.2⟩
      case measure => simp [intOf]; omega
    · obtain rfl : k = xss.length := by omega
      go_wp2
      go_ret
      refine ⟨_, us, rfl, ⟨by simpa using ho, fun q hq => (ho.lt q hq).2, Nat.le_refl _, hap, fun j xs hj => hrows j xs (List.getElem?_eq_some_iff.1 hj).1 hj⟩, hb⟩
end Go.Proofs.Ytglhbejdnfafgab
