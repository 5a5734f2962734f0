/-
  Contracts of the model's l2Comp and l2Reach; for lists of at most 4 numbers below 16.
-/
import Derived.Test.YtcdiicckngndcabDA
namespace Go.Proofs.Ytcdiicckngndcab
open Go.RowKit

/-- all numbers are sets of at most four points -/
def In16 (xs : List Int) : Prop := ∀ k, ∃ z : Fin 16, rowAt xs k = (z.val : Int)
theorem In16.rel {xs : List Int} (h : relIn xs = true) : In16 xs := row16 h
theorem or1616 : ∀ z y : Fin 16, ∃ u : Fin 16, bits .or .i64 (z.val : Int) (y.val : Int) = (u.val : Int) := by decide +kernel
theorem imgTo16 {ys : List Int} (h : In16 ys) (set : Int) : ∀ k, ∃ z : Fin 16, imgTo ys set k = (z.val : Int)
  | 0 => ⟨0, rfl⟩
  | k + 1 => by
    rw [imgTo_succ]
    obtain ⟨z, hz⟩ := imgTo16 h set k
    split
    · obtain ⟨y, hy⟩ := h k
      rw [hz, hy]
      exact or1616 z y
    · exact ⟨z, hz⟩

/-- rows of rows, joined -/
def compL (xs ys : List Int) : List Int := xs.map fun x => imgTo ys x ys.length
theorem compL_len (xs ys : List Int) : (compL xs ys).length = xs.length := List.length_map _
theorem rowAt_map (f : Int → Int) (xs : List Int) (k : Nat) (hk : k < xs.length) : rowAt (xs.map f) k = f (rowAt xs k) := by
  have h1 := rowAt_get hk
  have h2 := rowAt_get (xs := xs.map f) (k := k) (by simpa using hk)
  rw [List.getElem?_map, h1] at h2
  simpa using h2.symm
theorem rowAt_out (xs : List Int) (k : Nat) (hk : ¬ k < xs.length) : rowAt xs k = 0 := by
  unfold rowAt
  rw [List.getD_eq_getElem?_getD, List.getElem?_eq_none (by omega)]
  rfl
theorem compL16 {xs ys : List Int} (h : In16 ys) : In16 (compL xs ys) := by
  intro k
  by_cases hk : k < xs.length
  · unfold compL; rw [rowAt_map _ _ _ hk]; exact imgTo16 h _ _
  · exact ⟨0, rowAt_out _ _ (by rw [compL_len]; exact hk)⟩
theorem compL_take {xs ys : List Int} (k : Nat) (hk : k < xs.length) : (compL xs ys).take (k + 1) = (compL xs ys).take k ++ [imgTo ys (rowAt xs k) ys.length] := by
  have h : (compL xs ys)[k]? = some (imgTo ys (rowAt xs k) ys.length) := by
    unfold compL; rw [List.getElem?_map, rowAt_get hk]; rfl
  rw [List.take_add_one, h]
  rfl

set_option maxHeartbeats 1000000 in
theorem l2Comp_any (ao bo : Option Addr) (ca cb : Nat) (xs ys : List Int) (w : World) (h4 : xs.length ≤ 4) (h5 : ys.length ≤ 4) (hs : In16 xs) (hx : Rd w ao xs) (hy : Rd w bo ys) :
    Calls Try.prog 103 #[.slice ao xs.length ca, .slice bo ys.length cb] w fun e w' => ∃ v, e = .returned v ∧
      w'.ownsRow w.heap.size 3 1 v xs.length ((compL xs ys).map (Value.int .i64)) ∧ Below w.heap.size w w' := by
  obtain ⟨i0, hi, hz0, hz1, hz2⟩ := info_parts Try.info3
  go_enter Try.func103, Try.ntmps103
  go_wp2
  go_loopw [5, 6] (fun v i wr => ∃ k : Nat, k ≤ xs.length ∧ i = .int .i64 k ∧ wr.ownsRow w.heap.size 3 1 v k (((compL xs ys).take k).map (Value.int .i64)) ∧ Below w.heap.size w wr)
    (fun _ i _ => xs.length - (intOf i).toNat)
  case atStart => exact ⟨0, Nat.zero_le _, rfl, row_lit0 w, below_one _ _⟩
  case round =>
    obtain ⟨k, hk, rfl, ho, hb⟩ := hrel
    by_cases hlt : k < xs.length
    · obtain ⟨b, off, x, hxk, rfl, hbl, hc1⟩ := (hx.below hb).get k hlt
      have hyb := hy.below hb
      obtain ⟨z, hz⟩ := hs k
      have hxy : x = (z.val : Int) := by
        have := rowAt_get hlt
        rw [hxk, hz] at this
        simpa using this
      rw [hxy] at hc1
      have hi1 : ((k : Nat) : Int) < (xs.length : Int) := by omega
      have ht := compL_take (xs := xs) (ys := ys) k hlt
      rw [hz] at ht
      have HT := Lib.hid ht
      clear hx hy hxk hxy hz ht
      go_wp2_with fail
      refine (l1Image_any bo cb ys z.val _ z.isLt h5 hyb).mono ?_
      rintro e w1 ⟨rfl, hd⟩
      clear hc1 hyb
      have ho1 := hd.row ho
      have hb1 := hb.trans (hd.below _)
      have hs1 := hb1.size
      go_wp2_with (at_builtin; refine wpList_append_own _ rfl (.tmp 14) (.tmp 21) 23 rfl w.heap.size 3 i0 (.int .i64 0) 1 8 Try.underlying23 hi hz0 hz1 hz2 rfl (by decide) _ _ _ rfl (ho1.alloc _) ⟨w1.heap.size, 0, none⟩ 1 1 [_] rfl rfl (cell_one_new _ _ _) (by simp [Value.oneCell']) (by unfold maxLen; omega) (by omega) (by simp; omega) ?_)
      intro v' w2 hown' hgrow _
      have hb' := own_step' ho1 hb1 hs1 _ hgrow
      rw [← List.map_take, ← List.map_singleton (f := Value.int .i64), ← List.map_append, ← HT.out] at hown'
      clear ho hb ho1 hb1 hgrow
      go_wp2
      go_roundw
      case rel => exact ⟨k + 1, by omega, by go_num, hown', hb'⟩
      case measure => simp [intOf]; omega
    · go_wp2
      go_ret
      obtain rfl : k = xs.length := by omega
      rw [List.take_of_length_le (by rw [compL_len]; omega)] at ho
      exact ⟨_, rfl, ho, hb⟩

/-- one more power added, and again -/
def reachTo (xs : List Int) : Nat → List Int
  | 0 => xs
  | k + 1 => zipI (bits .or .i64) (reachTo xs k) (compL (reachTo xs k) xs)
def reachL (xs : List Int) : List Int := reachTo xs xs.length
theorem reachTo_len (xs : List Int) : ∀ k, (reachTo xs k).length = xs.length
  | 0 => rfl
  | k + 1 => by unfold reachTo zipI; rw [List.length_zipWith, compL_len, reachTo_len xs k, Nat.min_self]
theorem zipAt (f : Int → Int → Int) (xs ys : List Int) (k : Nat) (h1 : k < xs.length) (h2 : k < ys.length) : rowAt (zipI f xs ys) k = f (rowAt xs k) (rowAt ys k) := by
  have h := rowAt_get (xs := zipI f xs ys) (k := k) (by unfold zipI; rw [List.length_zipWith]; omega)
  unfold zipI at h
  rw [List.getElem?_zipWith, rowAt_get h1, rowAt_get h2] at h
  exact (Option.some.inj h).symm
theorem reachTo16 {xs : List Int} (h : In16 xs) : ∀ k, In16 (reachTo xs k)
  | 0 => h
  | k + 1 => fun i => by
    by_cases hi : i < xs.length
    · have e : rowAt (reachTo xs (k + 1)) i = bits .or .i64 (rowAt (reachTo xs k) i) (rowAt (compL (reachTo xs k) xs) i) := zipAt _ _ _ _ (by rw [reachTo_len]; exact hi) (by rw [compL_len, reachTo_len]; exact hi)
      obtain ⟨z, hz⟩ := reachTo16 h k i
      obtain ⟨y, hy⟩ := compL16 (xs := reachTo xs k) h i
      rw [e, hz, hy]
      exact or1616 z y
    · exact ⟨0, rowAt_out _ _ (by rw [reachTo_len]; exact hi)⟩

theorem own_keep {w w' : World} {lo B n : Nat} {v : Value} {us : List Value} (h : w.ownsRow lo 3 1 v n us) (hb : Below B w w') (hB : ∀ k, v.ownBlock = some k → k < B) : w'.ownsRow lo 3 1 v n us := by
  refine ⟨h.1, ?_⟩
  rcases h.2 with h2 | ⟨g, cap, cur, rfl, h2, h3, h4⟩
  · exact .inl h2
  · exact .inr ⟨g, cap, cur, rfl, h2, (hb.block g (hB g rfl)).trans h3, h4⟩
theorem own_form {w : World} {lo n : Nat} {v : Value} {us : List Value} (h : w.ownsRow lo 3 1 v n us) (hn : 1 ≤ n) : ∃ g cap, v = .slice (some ⟨g, 0, none⟩) n cap ∧ lo ≤ g ∧ g < w.heap.size := by
  rcases h.2 with ⟨_, h2⟩ | ⟨g, cap, cur, rfl, _⟩
  · omega
  · exact ⟨g, cap, rfl, (h.lt g rfl).1, (h.lt g rfl).2⟩
theorem rd_own {w : World} {lo g cap : Nat} {xs : List Int} {n : Nat} (h : w.ownsRow lo 3 1 (.slice (some ⟨g, 0, none⟩) n cap) n (xs.map (Value.int .i64))) (hn : xs.length = n) : Rd w (some ⟨g, 0, none⟩) xs := by
  subst hn
  obtain ⟨ao, c, he, hr⟩ := row_rd h
  cases he
  exact hr

theorem l2Reach_at (xs : List Int) (k j : Nat) (hj : j < xs.length) : (reachTo xs (k + 1))[j]? = some (bits .or .i64 (rowAt (reachTo xs k) j) (rowAt (compL (reachTo xs k) xs) j)) := by
  have h := rowAt_get (xs := reachTo xs (k + 1)) (k := j) (by rw [reachTo_len]; exact hj)
  rw [h]
  exact congrArg some (zipAt _ _ _ _ (by rw [reachTo_len]; exact hj) (by rw [compL_len, reachTo_len]; exact hj))

set_option maxHeartbeats 4000000 in
theorem l2Reach_any (ao : Option Addr) (ca : Nat) (xs : List Int) (w : World) (h1 : 1 ≤ xs.length) (h4 : xs.length ≤ 4) (hs : In16 xs) (hx : Rd w ao xs) :
    Calls Try.prog 95 #[.slice ao xs.length ca] w fun e w' => ∃ v, e = .returned v ∧
      w'.ownsRow w.heap.size 3 1 v xs.length ((reachL xs).map (Value.int .i64)) ∧ Below w.heap.size w w' := by
  obtain ⟨i0, hi, hz0, hz1, hz2⟩ := info_parts Try.info3
  obtain ⟨b0, off0, _, _, rfl, hbl0, _⟩ := hx.get 0 (by omega)
  have hnews : ∀ (j : Nat) (u : Value), (xs.map (Value.int .i64))[j]? = some u → (w.alloc (.cells #[] 3)).cell? ((⟨b0, off0, none⟩ : Addr).add j) = some u := by
    intro j u hu
    rw [List.getElem?_map] at hu
    cases hxj : xs[j]? with
    | none => rw [hxj] at hu; cases hu
    | some y =>
      rw [hxj] at hu
      cases hu
      obtain ⟨b, off, he, _, hc⟩ := (hx.below (below_one w (.cells #[] 3))) j y hxj
      cases he
      simp only [Addr.add]
      split
      · rename_i h0
        subst h0
        exact hc
      · exact hc
  have HNEWS := Lib.hid hnews
  have HS := Lib.hid hs
  clear hnews hs
  go_enter Try.func95, Try.ntmps95
  go_wp2_with (at_builtin; refine wpList_append_own _ rfl (.tmp 7) (.tmp 8) 23 rfl w.heap.size 3 i0 (.int .i64 0) 1 8 Try.underlying23 hi hz0 hz1 hz2 rfl (by decide) _ _ _ rfl (row_lit0 w) ⟨b0, off0, none⟩ xs.length ca (xs.map (Value.int .i64)) rfl (by simp) HNEWS.out (by simp [Value.oneCell']) (by unfold maxLen; omega) (by omega) (by simp) ?_)
  intro v0 w1 hown hgrow _
  have hB1 : Below w.heap.size w w1 := (below_one w (.cells #[] 3)).grown hgrow (by simp) (fun k hk => ((row_lit0 w).lt k hk).1)
  obtain ⟨g, cap, rfl, hg1, hg2⟩ := own_form hown h1
  clear hgrow HNEWS hbl0
  go_wp2
  go_loopw [4, 5, 6] (fun i _ _ wr => ∃ k : Nat, k ≤ xs.length ∧ i = .int .i64 k ∧ wr.ownsRow w.heap.size 3 1 (.slice (some ⟨g, 0, none⟩) xs.length cap) xs.length ((reachTo xs k).map (Value.int .i64)) ∧ Below w.heap.size w wr)
    (fun i _ _ _ => xs.length - (intOf i).toNat)
  case atStart => exact ⟨0, Nat.zero_le _, rfl, hown, hB1⟩
  case round =>
    clear hown hB1
    obtain ⟨k, hk, rfl, ho, hB⟩ := hrel
    obtain ⟨wo, rfl⟩ : ∃ wo : World, wo = wr := ⟨_, rfl⟩
    have hgo := (ho.lt g rfl).2
    by_cases hlt : k < xs.length
    · have hc := l2Comp_any (some ⟨g, 0, none⟩) (some ⟨b0, off0, none⟩) cap ca (reachTo xs k) xs wo (by rw [reachTo_len]; exact h4) h4 (reachTo16 HS.out k) (rd_own ho (reachTo_len _ _)) (hx.below hB)
      rw [reachTo_len] at hc
      have hi1 : ((k : Nat) : Int) < (xs.length : Int) := by omega
      go_wp2_with fail
      refine hc.mono ?_
      rintro e w2 ⟨vm, rfl, hm, hb2⟩
      obtain ⟨g2, cap2, rfl, hg3, hg4⟩ := own_form hm h1
      have ho2 := own_keep ho hb2 (fun q hq => by cases hq; exact hgo)
      have hB2 := hB.trans (hb2.mono hB.size)
      clear ho hc
      go_wp2
      go_loopw [6] (fun j wr => ∃ (k2 : Nat) (zs : List Int), k2 ≤ xs.length ∧ j = .int .i64 k2 ∧ Mix (reachTo xs k) (reachTo xs (k + 1)) k2 zs ∧ wr.ownsRow w.heap.size 3 1 (.slice (some ⟨g, 0, none⟩) xs.length cap) xs.length (zs.map (Value.int .i64)) ∧ wr.ownsRow wo.heap.size 3 1 (.slice (some ⟨g2, 0, none⟩) xs.length cap2) xs.length ((compL (reachTo xs k) xs).map (Value.int .i64)) ∧ Below w.heap.size w wr)
        (fun j _ => xs.length - (intOf j).toNat)
      case atStart => exact ⟨0, _, Nat.zero_le _, rfl, Mix.zero _ _, ho2, hm, hB2⟩
      case round =>
        clear ho2 hm hB2
        obtain ⟨j, zs, hj, rfl, hmix, ho, hm, hB2⟩ := hrel
        by_cases hlj : j < xs.length
        · have hzl : zs.length = xs.length := hmix.1.trans (reachTo_len _ _)
          have hc1 := ho.cellAt j (by omega)
          have hf1 := ho.frozenAt j
          have hc2 := hm.cellAt j (by omega)
          have hz1' : (zs.map (Value.int .i64))[j]? = some (.int .i64 (rowAt zs j)) := by rw [List.getElem?_map, rowAt_get (by omega)]; rfl
          have hz2' : ((compL (reachTo xs k) xs).map (Value.int .i64))[j]? = some (.int .i64 (rowAt (compL (reachTo xs k) xs) j)) := by rw [List.getElem?_map, rowAt_get (by rw [compL_len, reachTo_len]; exact hlj)]; rfl
          rw [hz1', hmix.at] at hc1
          rw [hz2'] at hc2
          have hstep := hmix.step (v := bits .or .i64 (rowAt (reachTo xs k) j) (rowAt (compL (reachTo xs k) xs) j)) (by rw [reachTo_len]; exact hlj) (l2Reach_at xs k j hlj)
          obtain ⟨u, hu⟩ : ∃ u, rowAt (reachTo xs k) j = u := ⟨_, rfl⟩
          obtain ⟨y, hy⟩ : ∃ y, rowAt (compL (reachTo xs k) xs) j = y := ⟨_, rfl⟩
          rw [hu] at hc1 hstep
          rw [hy] at hc2 hstep
          have hj1 : ((j : Nat) : Int) < (xs.length : Int) := by omega
          have HSTEP := Lib.hid hstep
          clear hmix hx hz1' hz2' hstep hu hy
          go_wp2
          go_region
          all_goals
            go_wp2
            go_roundw
            case rel =>
              refine ⟨j + 1, _, by omega, by go_num, HSTEP.out, ?_, (ownsRow_setCell_below hm.drew (by simp; omega) _), hB2.drew.setCell (by simp; omega) _⟩
              have h := (ho.stored j (.int .i64 (bits .or .i64 u y))).1
              rw [← List.map_set] at h
              exact h.drew
            case measure => simp [intOf]; omega
        · obtain rfl : j = xs.length := by omega
          have hfull : zs = reachTo xs (k + 1) := Mix.full (xs := reachTo xs k) (by rw [reachTo_len xs k]; exact hmix) (by rw [reachTo_len xs (k + 1), reachTo_len xs k])
          rw [hfull] at ho
          go_wp2
          go_roundw
          case rel => exact ⟨k + 1, by omega, by go_num, ho, hB2⟩
          case measure => simp [intOf]; omega
    · obtain rfl : k = xs.length := by omega
      go_wp2
      go_ret
      exact ⟨_, rfl, ho, hB⟩
end Go.Proofs.Ytcdiicckngndcab
