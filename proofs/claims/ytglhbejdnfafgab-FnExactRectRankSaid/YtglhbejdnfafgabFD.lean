/-
  Lists of lists of numbers: contracts of szIntS, szIntSS, toIntSS, eqIntSS, markIntSS (the laws' helpers).
-/
import Derived.Test.YtglhbejdnfafgabFB
namespace Go.Proofs.Ytglhbejdnfafgab
open Go.RowKit

/-- the slice at this address reads as these lists -/
def RdS (w : World) (ao : Option Addr) (xss : List (List Int)) : Prop :=
  ∀ k xs, xss[k]? = some xs → ∃ b off ak ck, ao = some ⟨b, off, none⟩ ∧ b < w.heap.size ∧ w.cell? ⟨b, off + k, none⟩ = some (.slice ak xs.length ck) ∧ Rd w ak xs
theorem RdS.below {w w' : World} {ao : Option Addr} {xss : List (List Int)} (h : RdS w ao xss) (hb : Below w.heap.size w w') : RdS w' ao xss := by
  intro k xs hx
  obtain ⟨b, off, ak, ck, h1, h2, h3, h4⟩ := h k xs hx
  exact ⟨b, off, ak, ck, h1, Nat.lt_of_lt_of_le h2 hb.size, (hb.cell (p := ⟨b, off + k, none⟩) h2).trans h3, h4.below hb⟩
def sumTo (xss : List (List Int)) (k : Nat) : Nat := ((xss.take k).map List.length).sum
theorem sumTo_succ (xss : List (List Int)) (k : Nat) (xs : List Int) (h : xss[k]? = some xs) : sumTo xss (k + 1) = sumTo xss k + xs.length := by
  unfold sumTo
  rw [List.take_add_one, h]
  simp
theorem sumTo_le (xss : List (List Int)) (k : Nat) (xs : List Int) (h : xss[k]? = some xs) : xs.length ≤ sumTo xss xss.length := by
  have hk : k < xss.length := (List.getElem?_eq_some_iff.1 h).1
  have h2 : ∀ m, k < m → m ≤ xss.length → xs.length ≤ sumTo xss m := by
    intro m hm
    induction m with
    | zero => omega
    | succ m ih =>
      intro hle
      rw [sumTo_succ xss m _ (List.getElem?_eq_getElem (by omega))]
      by_cases e : k = m
      · subst e
        rw [List.getElem?_eq_getElem hk] at h
        have := Option.some.inj h
        rw [this]
        omega
      · have := ih (by omega) (by omega)
        omega
  exact h2 _ hk (Nat.le_refl _)
theorem sumTo_mono (xss : List (List Int)) : ∀ k m, k ≤ m → m ≤ xss.length → sumTo xss k ≤ sumTo xss m := by
  intro k m hkm
  induction m with
  | zero => intro _; rw [show k = 0 by omega]; exact Nat.le_refl _
  | succ m ih =>
    intro hm
    by_cases e : k = m + 1
    · rw [e]; exact Nat.le_refl _
    · have := ih (by omega) (by omega)
      rw [sumTo_succ xss m _ (List.getElem?_eq_getElem (by omega))]
      omega

theorem szIntS_any (ao : Option Addr) (n cap : Nat) (left : Int) (w : World) (hn : n ≤ 9223372036854775807) (h0 : 0 ≤ left) (h1 : left ≤ 1048576) :
    Calls Try.prog 17 #[.slice ao n cap, .int .i64 left] w fun e w' => e = .returned (.int .i64 (if left < n then -1 else left - n)) ∧ w = w' := by
  by_cases h : left < n
  · have hd : left - (n : Int) < 0 := by omega
    go_enter Try.func17, Try.ntmps17
    go_wp2
    go_ret
    exact ⟨rfl, rfl⟩
  · have hd : ¬ left - (n : Int) < 0 := by omega
    go_enter Try.func17, Try.ntmps17
    go_wp2
    go_ret
    exact ⟨rfl, rfl⟩

set_option maxHeartbeats 1000000 in
theorem szSS_any (ao : Option Addr) (cap : Nat) (xss : List (List Int)) (w : World) (hm : xss.length ≤ 9223372036854775807) (hms : ∀ (k : Nat) (xs : List Int), xss[k]? = some xs → xs.length ≤ 9223372036854775807) (hr : RdS w ao xss) :
    Calls Try.prog 5 #[.slice ao xss.length cap, .int .i64 1048576] w fun e w' => ∃ r : Int, e = .returned (.int .i64 r) ∧ w = w' ∧ (r = -1 ∨ (0 ≤ r ∧ xss.length ≤ 1048576 ∧ sumTo xss xss.length ≤ 1048576)) := by
  by_cases hn : 1048576 < xss.length
  · have hd : (1048576 : Int) - (xss.length : Int) < 0 := by omega
    go_enter Try.func5, Try.ntmps5
    go_wp2
    go_ret
    exact ⟨-1, rfl, rfl, .inl rfl⟩
  · have hd : ¬ (1048576 : Int) - (xss.length : Int) < 0 := by omega
    go_enter Try.func5, Try.ntmps5
    go_wp2
    go_loopw [1, 5] (fun t i wr => ∃ k : Nat, k ≤ xss.length ∧ i = .int .i64 k ∧ t = .int .i64 (1048576 - (xss.length : Int) - (sumTo xss k : Int)) ∧ 0 ≤ 1048576 - (xss.length : Int) - (sumTo xss k : Int) ∧ wr = w)
      (fun _ i _ => xss.length - (intOf i).toNat)
    case atStart => exact ⟨0, Nat.zero_le _, rfl, by simp [sumTo], by simp [sumTo]; omega, rfl⟩
    case round =>
      obtain ⟨k, hk, rfl, rfl, h0, rfl⟩ := hrel
      by_cases hlt : k < xss.length
      · obtain ⟨xs, hxs⟩ : ∃ xs, xss[k]? = some xs := ⟨_, List.getElem?_eq_getElem hlt⟩
        obtain ⟨b, off, ak, ck, rfl, hbl, hc1, _⟩ := hr k xs hxs
        have hi1 : ((k : Nat) : Int) < (xss.length : Int) := by omega
        obtain ⟨L, hL⟩ : ∃ L : Int, 1048576 - (xss.length : Int) - (sumTo xss k : Int) = L := ⟨_, rfl⟩
        have hLm : L ≤ 1048576 := by omega
        rw [hL] at h0 ⊢
        have hs := sumTo_succ xss k xs hxs
        have hz := szIntS_any ak xs.length ck L wr (hms k xs hxs) h0 hLm
        have HZ := Lib.hid (And.intro hz (And.intro hs hL))
        clear hz hs hL hr hms hxs
        by_cases hq : L < (xs.length : Int)
        · go_wp2_with fail
          refine HZ.out.1.mono ?_
          rw [if_pos hq]
          rintro e w2 ⟨rfl, rfl⟩
          go_wp2
          go_ret
          exact ⟨-1, rfl, rfl, .inl rfl⟩
        · have hq2 : ¬ L - (xs.length : Int) < 0 := by omega
          have HQ := Lib.hid hq
          go_wp2_with fail
          refine HZ.out.1.mono ?_
          rw [if_neg (by have := HQ.out; omega)]
          rintro e w2 ⟨rfl, rfl⟩
          go_wp2
          go_roundw
          case rel => exact ⟨k + 1, by omega, by go_num, by rw [HZ.out.2.1, ← HZ.out.2.2]; congr 1; push_cast; omega, by have := HZ.out.2.1; have := HZ.out.2.2; omega, (by first | rfl | trivial)⟩
          case measure => simp [intOf]; omega
      · obtain rfl : k = xss.length := by omega
        go_wp2
        go_ret
        exact ⟨_, rfl, rfl, .inr ⟨h0, by omega, by omega⟩⟩

/-- v is a list of lists of the call's own, all in blocks from lo on and below hi -/
structure OwnS (w : World) (lo hi : Nat) (v : Value) (xss : List (List Int)) (us : Nat → Value) : Prop where
  row : w.ownsRow lo 24 1 v xss.length ((List.range xss.length).map us)
  top : ∀ k, v.ownBlock = some k → k < hi
  size : hi ≤ w.heap.size
  apart : ∀ i j k, i < j → j < xss.length → (us i).ownBlock = some k → (us j).ownBlock ≠ some k
  rows : ∀ j xs, xss[j]? = some xs → OwnR w lo hi (us j) xs
theorem OwnS.same {w w' : World} {lo hi : Nat} {v : Value} {xss : List (List Int)} {us : Nat → Value} (h : OwnS w lo hi v xss us) (hs : hi ≤ w'.heap.size) (hb : ∀ k, lo ≤ k → k < hi → w'.heap[k]? = w.heap[k]?) : OwnS w' lo hi v xss us :=
  ⟨own_same h.row fun k hk => hb k (h.row.lt k hk).1 (h.top k hk), h.top, hs, h.apart, fun j xs hj => (h.rows j xs hj).same hs fun k hk => hb k ((h.rows j xs hj).base hk) ((h.rows j xs hj).top k hk)⟩
theorem OwnS.below {w w' : World} {lo hi B : Nat} {v : Value} {xss : List (List Int)} {us : Nat → Value} (h : OwnS w lo hi v xss us) (hb : Below B w w') (hB : hi ≤ B) : OwnS w' lo hi v xss us :=
  h.same (Nat.le_trans h.size hb.size) fun k _ h2 => hb.block k (by omega)
theorem OwnS.dn {w w' : World} {lo hi : Nat} {v : Value} {xss : List (List Int)} {us : Nat → Value} (h : OwnS w lo hi v xss us) (hd : Dn w w') : OwnS w' lo hi v xss us :=
  h.same (by rw [hd.heap]; exact h.size) fun k _ _ => by rw [hd.heap]
theorem OwnS.at {w : World} {lo hi : Nat} {v : Value} {xss : List (List Int)} {us : Nat → Value} (h : OwnS w lo hi v xss us) : ∃ ao cap, v = .slice ao xss.length cap ∧ ∀ k, k < xss.length → ∃ b, ao = some ⟨b, 0, none⟩ ∧ b < w.heap.size ∧ w.cell? ⟨b, k, none⟩ = some (us k) := by
  rcases h.row.2 with ⟨rfl, h2⟩ | ⟨g, cap, cur, rfl, _⟩
  · rw [h2]
    exact ⟨none, 0, rfl, fun k hk => absurd hk (by omega)⟩
  · refine ⟨_, cap, rfl, fun k hk => ⟨g, rfl, (h.row.lt g rfl).2, ?_⟩⟩
    rw [h.row.cellAt k (by omega), List.getElem?_map, List.getElem?_range hk]
    rfl
theorem OwnS.rd {w : World} {lo hi : Nat} {v : Value} {xss : List (List Int)} {us : Nat → Value} (h : OwnS w lo hi v xss us) : ∃ ao cap, v = .slice ao xss.length cap ∧ RdS w ao xss := by
  obtain ⟨ao, cap, rfl, hx⟩ := h.at
  refine ⟨ao, cap, rfl, fun k xs hk => ?_⟩
  obtain ⟨b, rfl, hb, hc⟩ := hx k (List.getElem?_eq_some_iff.1 hk).1
  obtain ⟨ak, ck, he, hr⟩ := (h.rows k xs hk).rd
  exact ⟨b, 0, ak, ck, rfl, hb, by rw [Nat.zero_add, hc, he], hr⟩

set_option maxHeartbeats 1000000 in
theorem eqSS_refl {w : World} {lo hi lo2 hi2 : Nat} {v u : Value} {xss : List (List Int)} {us us2 : Nat → Value} (h : OwnS w lo hi v xss us) (k : OwnS w lo2 hi2 u xss us2) (hn : xss.length ≤ 1048576) (hs : sumTo xss xss.length ≤ 1048576) :
    Calls Try.prog 10 #[v, u] w fun e w' => e = .returned (.bool true) ∧ Dn w w' := by
  obtain ⟨ao, ca, rfl, hx⟩ := h.at
  obtain ⟨bo, cb, rfl, hy⟩ := k.at
  go_enter Try.func10, Try.ntmps10
  have h1 : ((xss.length : Int) != (xss.length : Int)) = false := by simp
  go_wp2
  go_loopw [5] (fun i wr => ∃ j : Nat, j ≤ xss.length ∧ i = .int .i64 j ∧ Dn w wr)
    (fun i _ => xss.length - (intOf i).toNat)
  case atStart => exact ⟨0, Nat.zero_le _, rfl, Dn.refl _⟩
  case round =>
    obtain ⟨j, hj, rfl, hd⟩ := hrel
    by_cases hlt : j < xss.length
    · obtain ⟨b, rfl, _, hc1⟩ := hx j hlt
      obtain ⟨b2, rfl, _, hc2⟩ := hy j hlt
      rw [← hd.cell] at hc1 hc2
      have hi1 : ((j : Nat) : Int) < (xss.length : Int) := by omega
      obtain ⟨xs, hxs⟩ : ∃ xs, xss[j]? = some xs := ⟨_, List.getElem?_eq_getElem hlt⟩
      have hle := sumTo_le xss j xs hxs
      have heq : ∀ q : Nat, Calls Try.prog 9 #[us j, us2 j] (wr.drewN q) fun e w' => e = .returned (.bool true) ∧ Dn (wr.drewN q) w' := by
        intro q
        refine (eqIntS_own (by omega) (by omega) ((h.rows j xs hxs).dn (hd.trans (Dn.drewN wr q))) ((k.rows j xs hxs).dn (hd.trans (Dn.drewN wr q)))).mono ?_
        rintro e w' ⟨rfl, hd'⟩
        exact ⟨by simp, hd'⟩
      have HE := Lib.hid heq
      obtain ⟨u1, hu1⟩ : ∃ u1, us j = u1 := ⟨_, rfl⟩
      obtain ⟨u2, hu2⟩ : ∃ u2, us2 j = u2 := ⟨_, rfl⟩
      rw [hu1] at hc1
      rw [hu2] at hc2
      have HE2 : Hid (∀ q : Nat, Calls Try.prog 9 #[u1, u2] (wr.drewN q) fun e w' => e = .returned (.bool true) ∧ Dn (wr.drewN q) w') := by
        rw [← hu1, ← hu2]
        exact HE
      clear heq HE hu1 hu2 hxs hle
      go_wp2
      go_quiet ((go_at_call 9; exact quiet_dn (HE2.out _)))
      go_wp2
      go_roundw
      case rel => exact ⟨j + 1, by omega, by go_num, hd.trans (Dn.drewN _ _)⟩
      case measure => simp [intOf]; omega
    · go_wp2
      go_ret
      exact ⟨rfl, hd⟩

set_option maxHeartbeats 1000000 in
theorem markSS {w : World} {lo hi : Nat} {v : Value} {xss : List (List Int)} {us : Nat → Value} (hn : xss.length ≤ 1048576) (hs : sumTo xss xss.length ≤ 1048576) (h : OwnS w lo hi v xss us) :
    Calls Try.prog 11 #[v, .int .i64 1] w fun e w' => e = .returned (.int .i64 ((1 + sumTo xss xss.length : Nat) : Int)) ∧ Only lo hi w w' := by
  obtain ⟨ao, ca, rfl, hx⟩ := h.at
  have hsz := h.size
  have HH := Lib.hid (And.intro h hx)
  clear h hx
  go_enter Try.func11, Try.ntmps11
  go_wp2
  go_loopw [1, 5] (fun m i wr => ∃ j : Nat, j ≤ xss.length ∧ i = .int .i64 j ∧ m = .int .i64 ((1 + sumTo xss j : Nat) : Int) ∧ wr.ownsRow lo 24 1 (.slice ao xss.length ca) xss.length ((List.range xss.length).map us) ∧ (∀ t xs, j ≤ t → xss[t]? = some xs → OwnR wr lo hi (us t) xs) ∧ Only lo hi w wr)
    (fun _ i _ => xss.length - (intOf i).toNat)
  case atStart => exact ⟨0, Nat.zero_le _, rfl, by simp [sumTo], HH.out.1.row, fun t xs _ ht => HH.out.1.rows t xs ht, Only.refl⟩
  case round =>
    obtain ⟨j, hj, rfl, rfl, ho, hrows, hO⟩ := hrel
    by_cases hlt : j < xss.length
    · obtain ⟨b, rfl, _, _⟩ := HH.out.2 j hlt
      have hc1 : wr.cell? ⟨b, j, none⟩ = some (us j) := by
        rw [ho.cellAt j (by omega), List.getElem?_map, List.getElem?_range hlt]
        rfl
      have hi1 : ((j : Nat) : Int) < (xss.length : Int) := by omega
      obtain ⟨xs, hxs⟩ : ∃ xs, xss[j]? = some xs := ⟨_, List.getElem?_eq_getElem hlt⟩
      have hle := sumTo_le xss j xs hxs
      have hss := sumTo_succ xss j xs hxs
      have hmono := sumTo_mono xss j xss.length hj (Nat.le_refl _)
      have r1 := hrows j xs (Nat.le_refl _) hxs
      have hm := markIntS_own (1 + sumTo xss j) (by omega) (by omega) r1
      obtain ⟨u1, hu1⟩ : ∃ u1, us j = u1 := ⟨_, rfl⟩
      rw [hu1] at hc1 hm r1
      have HM := Lib.hid (And.intro hm (And.intro ho (And.intro hrows (And.intro r1 (And.intro hO (And.intro hu1 hss))))))
      clear hm ho hrows r1 hO hu1 hss hmono
      go_wp2_with fail
      refine HM.out.1.mono ?_
      rintro e w2 ⟨rfl, _, hg⟩
      have ho := HM.out.2.1
      have hO := HM.out.2.2.2.2.1
      have r1 := HM.out.2.2.2.1
      have hO2 : Only lo hi w w2 := by
        refine ⟨hO.below.grown hg (Nat.le_trans ?_ hO.below.size) (fun q hq => r1.base hq), fun q hq hlt => ?_⟩
        · have := HH.out.1.row
          rcases this.2 with ⟨h1, _⟩ | ⟨g, cap', cur, h1, h2, _⟩
          · cases h1
          · have := (HH.out.1.row.lt g (by rw [h1]; rfl))
            omega
        · exact (hg.block q (Nat.lt_of_lt_of_le hlt hO.below.size) (fun e => by have := r1.top q e.symm; omega)).trans (hO.above q hq hlt)
      have ho2 : w2.ownsRow lo 24 1 (.slice (some ⟨b, 0, none⟩) xss.length ca) xss.length ((List.range xss.length).map us) := by
        refine own_same ho fun q hq => ?_
        cases hq
        refine hg.block b (ho.lt b rfl).2 fun e => ?_
        rcases r1.row.2 with ⟨h1, _⟩ | ⟨g, cap', cur, h1, _⟩
        · rw [h1] at e
          cases e
        · rw [h1] at e
          have hrow := r1.row
          rw [h1] at hrow
          have := rows_apart2 hrow ho
          simp [Value.ownBlock] at e
          omega
      have hrows2 : ∀ t xs, j + 1 ≤ t → xss[t]? = some xs → OwnR w2 lo hi (us t) xs := by
        intro t ys ht hys
        have r2 := HM.out.2.2.1 t ys (by omega) hys
        refine r2.same (Nat.le_trans r2.size hg.size) fun q hq => hg.block q (r2.row.lt q hq).2 fun e => ?_
        exact HH.out.1.apart j t q (by omega) (List.getElem?_eq_some_iff.1 hys).1 (by rw [HM.out.2.2.2.2.2.1]; exact e.symm) hq
      have HO := Lib.hid (And.intro ho2 (And.intro hrows2 hO2))
      clear ho2 hrows2 hO2 ho hO r1 hg
      go_wp2
      go_roundw
      case rel => exact ⟨j + 1, by omega, by go_num, by rw [HM.out.2.2.2.2.2.2]; congr 1; push_cast; omega, HO.out.1, HO.out.2.1, HO.out.2.2⟩
      case measure => simp [intOf]; omega
    · obtain rfl : j = xss.length := by omega
      go_wp2
      go_ret
      exact ⟨rfl, hO⟩
end Go.Proofs.Ytglhbejdnfafgab
