/-
  Lists of rows of two numbers: contracts of eqIntSS, markIntSS, heldIntSS (the laws' helpers).
-/
import Derived.Test.YtglhbejdnfafgabEA
import Derived.BigQuiet
namespace Go.Proofs.Ytglhbejdnfafgab
open Go.RowKit

/-- a row of two numbers in a block of its own -/
abbrev sl2 (g : Nat) : Value := .slice (some ⟨g, 0, none⟩) 2 2
theorem own_same {w w' : World} {lo n size : Nat} {e : TypeId} {v : Value} {us : List Value} (h : w.ownsRow lo e size v n us) (hb : ∀ k, v.ownBlock = some k → w'.heap[k]? = w.heap[k]?) : w'.ownsRow lo e size v n us := by
  refine ⟨h.1, ?_⟩
  rcases h.2 with h2 | ⟨g, cap, cur, rfl, h2, h3, h4⟩
  · exact .inl h2
  · exact .inr ⟨g, cap, cur, rfl, h2, (hb g rfl).trans h3, h4⟩
theorem OwnR.same {w w' : World} {lo hi : Nat} {v : Value} {xs : List Int} (h : OwnR w lo hi v xs) (hs : hi ≤ w'.heap.size) (hb : ∀ k, v.ownBlock = some k → w'.heap[k]? = w.heap[k]?) : OwnR w' lo hi v xs :=
  ⟨own_same h.row hb, h.top, hs⟩
/-- v is a list of n rows of two numbers, all in blocks of their own from lo on and below hi -/
structure Own2 (w : World) (lo hi : Nat) (v : Value) (n : Nat) (r : Nat → List Int) (gs : Nat → Nat) : Prop where
  row : w.ownsRow lo 24 1 v n ((List.range n).map fun k => sl2 (gs k))
  top : ∀ k, v.ownBlock = some k → k < hi
  size : hi ≤ w.heap.size
  apart : ∀ i j, i < j → j < n → gs i ≠ gs j
  rows : ∀ j, j < n → (r j).length = 2 ∧ OwnR w lo hi (sl2 (gs j)) (r j)
theorem Own2.same {w w' : World} {lo hi n : Nat} {v : Value} {r : Nat → List Int} {gs : Nat → Nat} (h : Own2 w lo hi v n r gs) (hs : hi ≤ w'.heap.size) (hb : ∀ k, lo ≤ k → k < hi → w'.heap[k]? = w.heap[k]?) : Own2 w' lo hi v n r gs :=
  ⟨own_same h.row fun k hk => hb k (h.row.lt k hk).1 (h.top k hk), h.top, hs, h.apart, fun j hj => ⟨(h.rows j hj).1, (h.rows j hj).2.same hs fun k hk => hb k ((h.rows j hj).2.base hk) ((h.rows j hj).2.top k hk)⟩⟩
theorem Own2.below {w w' : World} {lo hi n B : Nat} {v : Value} {r : Nat → List Int} {gs : Nat → Nat} (h : Own2 w lo hi v n r gs) (hb : Below B w w') (hB : hi ≤ B) : Own2 w' lo hi v n r gs :=
  h.same (Nat.le_trans h.size hb.size) fun k _ h2 => hb.block k (by omega)
theorem Own2.dn {w w' : World} {lo hi n : Nat} {v : Value} {r : Nat → List Int} {gs : Nat → Nat} (h : Own2 w lo hi v n r gs) (hd : Dn w w') : Own2 w' lo hi v n r gs :=
  h.same (by rw [hd.heap]; exact h.size) fun k _ _ => by rw [hd.heap]
theorem Own2.grown {w w' : World} {lo hi n : Nat} {v : Value} {r : Nat → List Int} {gs : Nat → Nat} {row : Option Nat} (h : Own2 w lo hi v n r gs) (hg : w.grownBy w' row) (hr : ∀ k, row = some k → hi ≤ k ∨ k < lo) : Own2 w' lo hi v n r gs :=
  h.same (Nat.le_trans h.size hg.size) fun k h1 h2 => hg.block k (Nat.lt_of_lt_of_le h2 h.size) (by
    intro e
    rcases hr k e.symm with h3 | h3 <;> omega)
/-- what the list reads as, cell by cell -/
theorem Own2.rd {w : World} {lo hi n : Nat} {v : Value} {r : Nat → List Int} {gs : Nat → Nat} (h : Own2 w lo hi v n r gs) : ∃ ao cap, v = .slice ao n cap ∧ ∀ k, k < n → ∃ b, ao = some ⟨b, 0, none⟩ ∧ w.cell? ⟨b, k, none⟩ = some (sl2 (gs k)) := by
  rcases h.row.2 with ⟨rfl, h2⟩ | ⟨g, cap, cur, rfl, _⟩
  · subst h2
    exact ⟨none, 0, rfl, fun k hk => absurd hk (by omega)⟩
  · refine ⟨_, cap, rfl, fun k hk => ⟨g, rfl, ?_⟩⟩
    rw [h.row.cellAt k (by omega), List.getElem?_map, List.getElem?_range hk]
    rfl

set_option maxHeartbeats 1000000 in
theorem eq2_refl {w : World} {lo hi lo2 hi2 n : Nat} {v u : Value} {r : Nat → List Int} {gs gs2 : Nat → Nat} (h : Own2 w lo hi v n r gs) (k : Own2 w lo2 hi2 u n r gs2) (hn : n ≤ 1048576) :
    Calls Try.prog 10 #[v, u] w fun e w' => e = .returned (.bool true) ∧ Dn w w' := by
  obtain ⟨ao, ca, rfl, hx⟩ := h.rd
  obtain ⟨bo, cb, rfl, hy⟩ := k.rd
  go_enter Try.func10, Try.ntmps10
  have h1 : ((n : Int) != (n : Int)) = false := by simp
  go_wp2
  go_loopw [5] (fun i wr => ∃ j : Nat, j ≤ n ∧ i = .int .i64 j ∧ Dn w wr)
    (fun i _ => n - (intOf i).toNat)
  case atStart => exact ⟨0, Nat.zero_le _, rfl, Dn.refl _⟩
  case round =>
    obtain ⟨j, hj, rfl, hd⟩ := hrel
    by_cases hlt : j < n
    · obtain ⟨b, rfl, hc1⟩ := hx j hlt
      obtain ⟨b2, rfl, hc2⟩ := hy j hlt
      rw [← hd.cell] at hc1 hc2
      have hi1 : ((j : Nat) : Int) < (n : Int) := by omega
      obtain ⟨l1, r1⟩ := h.rows j hlt
      obtain ⟨_, r2⟩ := k.rows j hlt
      have heq : ∀ q : Nat, Calls Try.prog 9 #[sl2 (gs j), sl2 (gs2 j)] (wr.drewN q) fun e w' => e = .returned (.bool true) ∧ Dn (wr.drewN q) w' := by
        intro q
        refine (eqIntS_own (by omega) (by omega) (r1.dn (hd.trans (Dn.drewN wr q))) (r2.dn (hd.trans (Dn.drewN wr q)))).mono ?_
        rintro e w' ⟨rfl, hd'⟩
        exact ⟨by simp, hd'⟩
      have HE := Lib.hid heq
      clear heq l1 r1 r2
      go_wp2
      go_quiet ((go_at_call 9; exact quiet_dn (HE.out _)))
      go_wp2
      go_roundw
      case rel => exact ⟨j + 1, by omega, by go_num, hd.trans (Dn.drewN _ _)⟩
      case measure => simp [intOf]; omega
    · go_wp2
      go_ret
      exact ⟨rfl, hd⟩

/-- only blocks from lo on and below hi may have changed -/
structure Only (lo hi : Nat) (w w' : World) : Prop where
  below : Below lo w w'
  above : ∀ b, hi ≤ b → b < w.heap.size → w'.heap[b]? = w.heap[b]?
theorem Only.refl {lo hi : Nat} {w : World} : Only lo hi w w := ⟨Below.refl _ _, fun _ _ _ => rfl⟩
theorem Only.grown {lo hi : Nat} {w w1 w2 : World} {g : Nat} (h : Only lo hi w w1) (hg : w1.grownBy w2 (some g)) (h1 : lo ≤ g) (h2 : g < hi) (hs : lo ≤ w1.heap.size) : Only lo hi w w2 :=
  ⟨h.below.grown hg hs (fun q hq => by cases hq; exact h1), fun b hb hlt => (hg.block b (Nat.lt_of_lt_of_le hlt h.below.size) (by simp; omega)).trans (h.above b hb hlt)⟩
theorem rows_apart2 {w : World} {b1 b2 s1 s2 n1 m1 n2 g gp c1 c2 : Nat} {u1 u2 : List Value} (h : w.ownsRow b1 3 s1 (.slice (some ⟨g, 0, none⟩) n1 c1) m1 u1) (k : w.ownsRow b2 24 s2 (.slice (some ⟨gp, 0, none⟩) n2 c2) n2 u2) : g ≠ gp := by
  rcases h.2 with ⟨h2, _⟩ | ⟨g', cap', cur', he, _, hh, _⟩
  · cases h2
  · cases he
    rcases k.2 with ⟨k2, _⟩ | ⟨gp', cap2, cur2, ke, _, kh, _⟩
    · cases k2
    · cases ke
      rintro rfl
      rw [hh] at kh
      simp at kh

set_option maxHeartbeats 1000000 in
theorem mark2 {w : World} {lo hi n : Nat} {v : Value} {r : Nat → List Int} {gs : Nat → Nat} (k : Nat) (hk : k ≤ 1048576) (hn : n ≤ 1048576) (h : Own2 w lo hi v n r gs) :
    Calls Try.prog 11 #[v, .int .i64 k] w fun e w' => e = .returned (.int .i64 ((k + 2 * n : Nat) : Int)) ∧ Own2 w' lo hi v n (fun j => marks (k + 2 * j) 2) gs ∧ Only lo hi w w' := by
  obtain ⟨ao, ca, rfl, hx⟩ := h.rd
  have HX := Lib.hid hx
  clear hx
  go_enter Try.func11, Try.ntmps11
  go_wp2
  go_loopw [1, 5] (fun m i wr => ∃ j : Nat, j ≤ n ∧ i = .int .i64 j ∧ m = .int .i64 ((k + 2 * j : Nat) : Int) ∧ Own2 wr lo hi (.slice ao n ca) n (fun t => if t < j then marks (k + 2 * t) 2 else r t) gs ∧ Only lo hi w wr)
    (fun _ i _ => n - (intOf i).toNat)
  case atStart =>
    refine ⟨0, Nat.zero_le _, rfl, rfl, ?_, Only.refl⟩
    exact h
  case round =>
    obtain ⟨j, hj, rfl, rfl, ho, hO⟩ := hrel
    by_cases hlt : j < n
    · obtain ⟨b, rfl, _⟩ := HX.out j hlt
      have hc1 : wr.cell? ⟨b, j, none⟩ = some (sl2 (gs j)) := by
        rw [ho.row.cellAt j (by omega), List.getElem?_map, List.getElem?_range hlt]
        rfl
      have hi1 : ((j : Nat) : Int) < (n : Int) := by omega
      obtain ⟨l1, r1⟩ := ho.rows j hlt
      have hm := markIntS_own (k + 2 * j) (by omega) (by omega) r1
      rw [l1] at hm
      have HM := Lib.hid (And.intro hm (And.intro ho (And.intro r1 hO)))
      clear hm ho l1 r1 hO
      go_wp2_with fail
      refine HM.out.1.mono ?_
      rintro e w2 ⟨rfl, r2, hg⟩
      have ho := HM.out.2.1
      have r1 := HM.out.2.2.1
      have hlo : lo ≤ gs j := r1.base rfl
      have hhi : gs j < hi := r1.top _ rfl
      have hO2 := HM.out.2.2.2.grown hg hlo hhi (by have := ho.size; omega)
      have ho2 : Own2 w2 lo hi (.slice (some ⟨b, 0, none⟩) n ca) n (fun t => if t < j + 1 then marks (k + 2 * t) 2 else r t) gs := by
        refine ⟨own_same ho.row ?_, ho.top, Nat.le_trans ho.size hg.size, ho.apart, ?_⟩
        · intro q hq
          cases hq
          exact hg.block b (ho.row.lt b rfl).2 (by
            have := rows_apart2 r1.row ho.row
            simp [Value.ownBlock]
            omega)
        · intro t ht
          by_cases e : t = j
          · subst e
            show (if t < t + 1 then marks (k + 2 * t) 2 else r t).length = 2 ∧ OwnR w2 lo hi (sl2 (gs t)) (if t < t + 1 then marks (k + 2 * t) 2 else r t)
            rw [if_pos (by omega)]
            exact ⟨marks_len _ _, r2⟩
          · have hne : gs t ≠ gs j := by
              rcases Nat.lt_or_gt_of_ne e with e1 | e1
              · exact ho.apart t j e1 hlt
              · exact fun e2 => ho.apart j t e1 ht e2.symm
            obtain ⟨l3, r3⟩ := ho.rows t ht
            have r4 : OwnR w2 lo hi (sl2 (gs t)) (if t < j then marks (k + 2 * t) 2 else r t) := r3.same (Nat.le_trans ho.size hg.size) (fun q hq => by
              cases hq
              exact hg.block _ (r3.row.lt _ rfl).2 (by simp [Value.ownBlock]; exact hne))
            by_cases e1 : t < j
            · show (if t < j + 1 then marks (k + 2 * t) 2 else r t).length = 2 ∧ OwnR w2 lo hi (sl2 (gs t)) (if t < j + 1 then marks (k + 2 * t) 2 else r t)
              rw [if_pos (by omega)]
              rw [if_pos e1] at l3 r4
              exact ⟨l3, r4⟩
            · show (if t < j + 1 then marks (k + 2 * t) 2 else r t).length = 2 ∧ OwnR w2 lo hi (sl2 (gs t)) (if t < j + 1 then marks (k + 2 * t) 2 else r t)
              rw [if_neg (by omega)]
              rw [if_neg e1] at l3 r4
              exact ⟨l3, r4⟩
      have HO := Lib.hid (And.intro ho2 hO2)
      clear ho2 hO2 ho r1 r2 hg
      go_wp2
      go_roundw
      case rel => exact ⟨j + 1, by omega, by go_num, (by first | rfl | (congr 1; omega) | (push_cast; congr 1; omega) | (push_cast; congr 1)), HO.out.1, HO.out.2⟩
      case measure => simp [intOf]; omega
    · obtain rfl : j = n := by omega
      go_wp2
      go_ret
      refine ⟨rfl, ⟨ho.row, ho.top, ho.size, ho.apart, fun t ht => ?_⟩, hO⟩
      have := ho.rows t ht
      rw [if_pos ht] at this
      exact this

end Go.Proofs.Ytglhbejdnfafgab
