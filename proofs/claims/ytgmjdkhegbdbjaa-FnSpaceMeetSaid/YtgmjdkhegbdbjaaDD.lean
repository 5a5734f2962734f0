/-
  The contract of the model's KindLeast, for whatever texts.
-/
import Derived.Test.YtgmjdkhegbdbjaaDC
namespace Go.Proofs.Ytgmjdkhegbdbjaa
open Go.RowKit

theorem l3Has_at (st : ByteArray) (c : Nat) (c' : Int) (b : Bool) (hc : (c : Int) = c') (hb : hasTo st c st.size = b) (w : World) (hl : st.size ≤ 1048576) :
    Calls Try.prog 127 #[.string st, .int .u8 c'] w fun e w' => e = .returned (.bool b) ∧ w = w' := by
  subst hc
  subst hb
  exact l3Has_any st c w hl

def rst : ByteArray := ⟨#[114, 115, 116]⟩
def leastS (xs : List Int) (b : Bool) : List Int := if b then zipI (bits .or .i64) xs (turnL xs) else xs
def leastT (xs : List Int) (b : Bool) : List Int := if b then reachL xs else xs
def leastR (xs : List Int) (b : Bool) : List Int := if b then zipI (bits .or .i64) xs (sameL xs.length) else xs
def leastL (xs : List Int) (st : ByteArray) : List Int := leastR (leastT (leastS xs (hasTo st 115 st.size)) (hasTo st 116 st.size)) (hasTo st 114 st.size)
def leastB (xs : List Int) (st : ByteArray) : Bool := relIn xs && textTo st rst st.size
theorem leastS_len (xs : List Int) (b : Bool) : (leastS xs b).length = xs.length := by
  cases b
  · rfl
  · show (zipI _ xs (turnL xs)).length = _
    unfold zipI; rw [List.length_zipWith, turnL_len, Nat.min_self]
theorem leastT_len (xs : List Int) (b : Bool) : (leastT xs b).length = xs.length := by
  cases b
  · rfl
  · exact reachTo_len xs _
theorem leastR_len (xs : List Int) (b : Bool) : (leastR xs b).length = xs.length := by
  cases b
  · rfl
  · show (zipI _ xs (sameL xs.length)).length = _
    unfold zipI; rw [List.length_zipWith, sameL_len, Nat.min_self]
theorem In16.zip {xs ys : List Int} (h : In16 xs) (h2 : In16 ys) : In16 (zipI (bits .or .i64) xs ys) := by
  intro k
  by_cases hk : k < (zipI (bits .or .i64) xs ys).length
  · have hl : k < xs.length ∧ k < ys.length := by unfold zipI at hk; rw [List.length_zipWith] at hk; omega
    rw [zipAt _ _ _ _ hl.1 hl.2]
    obtain ⟨z, hz⟩ := h k
    obtain ⟨y, hy⟩ := h2 k
    rw [hz, hy]
    exact or1616 z y
  · exact ⟨0, rowAt_out _ _ hk⟩
theorem leastS16 {xs : List Int} (h : relIn xs = true) (b : Bool) : In16 (leastS xs b) := by
  cases b
  · exact row16 h
  · exact In16.zip (row16 h) (turn16 _ (relIn_len h).2 _)
theorem news_of {w : World} {b off : Nat} {xs : List Int} (hx : Rd w (some ⟨b, off, none⟩) xs) (j : Nat) (u : Value) (hu : (xs.map (Value.int .i64))[j]? = some u) : (w.alloc (.cells #[] 3)).cell? ((⟨b, off, none⟩ : Addr).add j) = some u := by
  rw [List.getElem?_map] at hu
  cases hxj : xs[j]? with
  | none => rw [hxj] at hu; cases hu
  | some y =>
    rw [hxj] at hu
    cases hu
    obtain ⟨b, off, he, _, hc⟩ := (hx.below (below_one w (.cells #[] 3))) j y hxj
    cases he
    simp only [Addr.add]
    split
    · rename_i h0
      subst h0
      exact hc
    · exact hc

theorem kindLeast_no (ao : Option Addr) (ca : Nat) (xs : List Int) (st : ByteArray) (w : World) (hl : xs.length ≤ 1048576) (hl2 : st.size ≤ 1048576) (hp : leastB xs st = false) (hx : Rd w ao xs) :
    Calls Try.prog 100 #[.slice ao xs.length ca, .string st] w (Gave w [] false) := by
  have h1 := specRelIn_any ao ca xs w hl hx
  have hrst : rst.size ≤ 1048576 := by decide
  unfold leastB at hp
  cases hr : relIn xs with
  | false =>
    rw [hr] at h1
    have H1 := Lib.hid h1
    clear h1 hp hr
    go_enter Try.func100, Try.ntmps100
    go_wp2_with (go_at_call 34; refine H1.out.mono ?_; rintro e w1 ⟨rfl, hd⟩)
    go_ret2
    have hh : w.heap.size = w1.heap.size := by rw [hd.heap]
    exact ⟨_, rfl, by rw [hh]; exact row_lit0 w1, (hd.below _).alloc (by omega) _⟩
  | true =>
    have ht : textTo st rst st.size = false := by rw [hr] at hp; simpa using hp
    rw [hr] at h1
    have H1 := Lib.hid h1
    have HT := Lib.hid ht
    clear h1 hp hr ht
    go_enter Try.func100, Try.ntmps100
    go_wp2_with fail
    refine H1.out.mono ?_
    rintro e w1 ⟨rfl, hd⟩
    go_wp2_with fail
    refine (l3Text_any st rst w1 hl2 hrst).mono ?_
    rw [HT.out]
    rintro e w2 ⟨rfl, hd2⟩
    go_wp2
    go_ret2
    have hd3 := hd.trans hd2
    have hh : w.heap.size = w2.heap.size := by rw [hd3.heap]
    exact ⟨_, rfl, by rw [hh]; exact row_lit0 w2, (hd3.below _).alloc (by omega) _⟩

theorem mix_zip {xs ys zs : List Int} {j : Nat} (h : Mix xs (zipI (bits .or .i64) xs ys) j zs) (hj : j < xs.length) (hy : j < ys.length) :
    Mix xs (zipI (bits .or .i64) xs ys) (j + 1) (zs.set j (bits .or .i64 (rowAt xs j) (rowAt ys j))) := by
  refine h.step hj ?_
  rw [rowAt_get (by unfold zipI; rw [List.length_zipWith]; omega), zipAt _ _ _ _ hj hy]
theorem pt_wrap (k : Nat) (h : k < 4) : wrap64 (2 ^ k) = pt k := by
  rcases (by omega : k = 0 ∨ k = 1 ∨ k = 2 ∨ k = 3) with rfl | rfl | rfl | rfl <;> decide +kernel
theorem sameL_row (n k : Nat) (h : k < n) : rowAt (sameL n) k = pt k := by
  have h1 := rowAt_get (xs := sameL n) (k := k) (by rw [sameL_len]; exact h)
  have h2 : (sameL n)[k]? = some (pt k) := by unfold sameL; simp [h]
  rw [h1] at h2
  exact Option.some.inj h2



set_option maxHeartbeats 8000000 in
theorem kindLeast_yes (ao : Option Addr) (ca : Nat) (xs : List Int) (st : ByteArray) (w : World) (hl2 : st.size ≤ 1048576) (hp : leastB xs st = true) (hx : Rd w ao xs) :
    Calls Try.prog 100 #[.slice ao xs.length ca, .string st] w (Gave w (ifR true (leastL xs st)) true) := by
  unfold leastB at hp
  rw [Bool.and_eq_true] at hp
  obtain ⟨hr, ht⟩ := hp
  obtain ⟨h1, h4⟩ := relIn_len hr
  have hri := specRelIn_any ao ca xs w (by omega) hx
  rw [hr] at hri
  have HRI := Lib.hid hri
  have HT := Lib.hid ht
  have HP := Lib.hid hr
  have hrst : rst.size ≤ 1048576 := by decide
  clear hri ht hr
  obtain ⟨i0, hi, hz0, hz1, hz2⟩ := info_parts Try.info3
  obtain ⟨b0, off0, _, _, rfl, hbl0, _⟩ := hx.get 0 (by omega)
  go_enter Try.func100, Try.ntmps100
  go_wp2_with fail
  refine HRI.out.mono ?_
  rintro e w1 ⟨rfl, hd⟩
  go_wp2_with fail
  refine (l3Text_any st rst w1 hl2 hrst).mono ?_
  rw [HT.out]
  rintro e w2 ⟨rfl, hd2⟩
  have hd3 := hd.trans hd2
  have hx2 := hd3.rd hx
  have HH := Lib.hid (show w2.heap.size = w.heap.size by rw [hd3.heap])
  have hBw := hd3.below w.heap.size
  have HNEWS := Lib.hid (news_of hx2)
  clear hd hd2 HT HRI hd3
  go_wp2_with (at_builtin; refine wpList_append_own _ rfl (.tmp 19) (.tmp 20) 22 rfl w2.heap.size 3 i0 (.int .i64 0) 1 8 Try.underlying22 hi hz0 hz1 hz2 rfl (by decide) _ _ _ rfl (row_lit0 w2) ⟨b0, off0, none⟩ xs.length ca (xs.map (Value.int .i64)) rfl (by simp) HNEWS.out (by simp [Value.oneCell']) (by unfold maxLen; omega) (by omega) (by simp) ?_)
  intro v0 wa hown hgrow _
  have hB1 : Below w2.heap.size w2 wa := (below_one w2 (.cells #[] 3)).grown hgrow (by simp) (fun k hk => ((row_lit0 w2).lt k hk).1)
  obtain ⟨g, cap, rfl, hg1, hg2⟩ := own_form hown h1
  rw [HH.out] at hown hB1 hg1
  have hB := hBw.trans hB1
  clear hgrow HNEWS hbl0 hBw hB1
  cases hS : hasTo st 115 st.size with
  | false =>
    have HS := Lib.hid hS
    clear hS
    obtain ⟨S, hSe⟩ : ∃ S, S = xs := ⟨_, rfl⟩
    have HSE := Lib.hid (show S = leastS xs (hasTo st 115 st.size) by rw [HS.out, hSe]; rfl)
    have HSL := Lib.hid (show S.length = xs.length by rw [hSe])
    have HS16 := Lib.hid (show In16 S by rw [hSe]; exact row16 HP.out)
    have ho : wa.ownsRow w.heap.size 3 1 (.slice (some ⟨g, 0, none⟩) xs.length cap) xs.length (S.map (Value.int .i64)) := by rw [hSe]; exact hown
    clear hSe hown
    go_wp2_with fail
    refine (l3Has_at st 115 _ _ (by rfl) HS.out _ hl2).mono ?_
    rintro e w9 ⟨rfl, rfl⟩
    go_wp2_with fail
    cases hT : hasTo st 116 st.size with
    | true =>
      have HT := Lib.hid hT
      clear hT
      refine (l3Has_at st 116 _ _ (by rfl) HT.out _ hl2).mono ?_
      rintro e w9 ⟨rfl, rfl⟩
      have hc := l2Reach_any (some ⟨g, 0, none⟩) cap S wa (by rw [HSL.out]; exact h1) (by rw [HSL.out]; exact h4) HS16.out (rd_own ho HSL.out)
      rw [HSL.out] at hc
      go_wp2_with fail
      refine hc.mono ?_
      rintro e wb ⟨vt, rfl, hm, hb2⟩
      obtain ⟨g, cap, rfl, hg3, hg4⟩ := own_form hm h1
      have ho := own_mono hm hB.size
      have hB := hB.trans (hb2.mono hB.size)
      obtain ⟨T, hTe⟩ : ∃ T, T = reachL S := ⟨_, rfl⟩
      have HTL := Lib.hid (show T.length = xs.length by rw [hTe]; exact (reachTo_len S _).trans HSL.out)
      have HTE := Lib.hid (show T = leastT (leastS xs (hasTo st 115 st.size)) (hasTo st 116 st.size) by rw [hTe, HSE.out, HT.out]; rfl)
      rw [← hTe] at ho
      clear hTe hm hb2 hc
      have hgw := (ho.lt g rfl).1
      cases hR : hasTo st 114 st.size with
      | true =>
        have HR := Lib.hid hR
        clear hR
        go_wp2
        go_loopw [9] (fun j wr => ∃ (k2 : Nat) (zs : List Int), k2 ≤ xs.length ∧ j = .int .i64 k2 ∧ Mix T (zipI (bits .or .i64) T (sameL T.length)) k2 zs ∧ wr.ownsRow w.heap.size 3 1 (.slice (some ⟨g, 0, none⟩) xs.length cap) xs.length (zs.map (Value.int .i64)) ∧ Below w.heap.size w wr)
          (fun j _ => xs.length - (intOf j).toNat)
        case atStart => exact ⟨0, _, Nat.zero_le _, rfl, Mix.zero _ _, ho, hB⟩
        case round =>
          clear ho hB
          obtain ⟨j, zs, hj, rfl, hmix, ho, hB⟩ := hrel
          by_cases hlj : j < xs.length
          · have hzl : zs.length = xs.length := hmix.1.trans HTL.out
            have hc1 := ho.cellAt j (by omega)
            have hf1 := ho.frozenAt j
            have hz1' : (zs.map (Value.int .i64))[j]? = some (.int .i64 (rowAt zs j)) := by rw [List.getElem?_map, rowAt_get (by omega)]; rfl
            rw [hz1', hmix.at] at hc1
            have hstep := mix_zip hmix (by rw [HTL.out]; exact hlj) (by rw [sameL_len, HTL.out]; exact hlj)
            rw [sameL_row _ _ (by rw [HTL.out]; exact hlj)] at hstep
            obtain ⟨u, hu⟩ : ∃ u, rowAt T j = u := ⟨_, rfl⟩
            rw [hu] at hc1 hstep
            have hj1 : ((j : Nat) : Int) < (xs.length : Int) := by omega
            have hpt := pt_wrap j (by omega)
            have HSTEP := Lib.hid (And.intro hstep hpt)
            clear hmix hz1' hstep hu hpt
            go_wp2_with (go_at_call 127; refine (l3Has_at st 114 _ _ (by rfl) HR.out _ hl2).mono ?_; rintro e w9 ⟨rfl, rfl⟩)
            go_region
            all_goals
              go_wp2
              go_roundw
              case rel =>
                refine ⟨j + 1, _, by omega, by go_num, HSTEP.out.1, ?_, hB.drew.setCell (by simp; omega) _⟩
                have h := (ho.stored j (.int .i64 (bits .or .i64 u (wrap64 (2 ^ j))))).1
                rw [← List.map_set, HSTEP.out.2] at h
                rw [HSTEP.out.2]
                exact h.drew
              case measure => simp [intOf]; omega
          · have hfull : zs = zipI (bits .or .i64) T (sameL T.length) := Mix.full (xs := T) ((show j = T.length by have := HTL.out; omega) ▸ hmix) (by unfold zipI; rw [List.length_zipWith, sameL_len, Nat.min_self])
            have hfin : zs = leastL xs st := by rw [hfull]; unfold leastL; rw [← HTE.out, HR.out]; rfl
            rw [hfin] at ho
            clear hmix hfull hfin
            go_wp2
            go_ret2
            exact ⟨_, rfl, by rw [show (ifR true (leastL xs st)).length = xs.length from by show (leastL xs st).length = _; unfold leastL; rw [leastR_len, leastT_len, leastS_len]]; exact ho, hB⟩
      | false =>
        have HR := Lib.hid hR
        clear hR
        go_wp2
        go_loopw [9] (fun j wr => ∃ (k2 : Nat), k2 ≤ xs.length ∧ j = .int .i64 k2 ∧ wr.ownsRow w.heap.size 3 1 (.slice (some ⟨g, 0, none⟩) xs.length cap) xs.length (T.map (Value.int .i64)) ∧ Below w.heap.size w wr)
          (fun j _ => xs.length - (intOf j).toNat)
        case atStart => exact ⟨0, Nat.zero_le _, rfl, ho, hB⟩
        case round =>
          clear ho hB
          obtain ⟨j, hj, rfl, ho, hB⟩ := hrel
          by_cases hlj : j < xs.length
          · go_wp2_with (go_at_call 127; refine (l3Has_at st 114 _ _ (by rfl) HR.out _ hl2).mono ?_; rintro e w9 ⟨rfl, rfl⟩)
            go_roundw
            case rel => exact ⟨j + 1, by omega, by go_num, ho, hB⟩
            case measure => simp [intOf]; omega
          · have hfin : T = leastL xs st := by unfold leastL; rw [← HTE.out, HR.out]; rfl
            rw [hfin] at ho
            clear hfin
            go_wp2
            go_ret2
            exact ⟨_, rfl, by rw [show (ifR true (leastL xs st)).length = xs.length from by show (leastL xs st).length = _; unfold leastL; rw [leastR_len, leastT_len, leastS_len]]; exact ho, hB⟩
    | false =>
      have HT := Lib.hid hT
      clear hT
      refine (l3Has_at st 116 _ _ (by rfl) HT.out _ hl2).mono ?_
      rintro e w9 ⟨rfl, rfl⟩
      obtain ⟨T, hTe⟩ : ∃ T, T = S := ⟨_, rfl⟩
      have HTL := Lib.hid (show T.length = xs.length by rw [hTe]; exact HSL.out)
      have HTE := Lib.hid (show T = leastT (leastS xs (hasTo st 115 st.size)) (hasTo st 116 st.size) by rw [hTe, HSE.out, HT.out]; rfl)
      rw [← hTe] at ho
      clear hTe
      have hgw := (ho.lt g rfl).1
      cases hR : hasTo st 114 st.size with
      | true =>
        have HR := Lib.hid hR
        clear hR
        go_wp2
        go_loopw [9] (fun j wr => ∃ (k2 : Nat) (zs : List Int), k2 ≤ xs.length ∧ j = .int .i64 k2 ∧ Mix T (zipI (bits .or .i64) T (sameL T.length)) k2 zs ∧ wr.ownsRow w.heap.size 3 1 (.slice (some ⟨g, 0, none⟩) xs.length cap) xs.length (zs.map (Value.int .i64)) ∧ Below w.heap.size w wr)
          (fun j _ => xs.length - (intOf j).toNat)
        case atStart => exact ⟨0, _, Nat.zero_le _, rfl, Mix.zero _ _, ho, hB⟩
        case round =>
          clear ho hB
          obtain ⟨j, zs, hj, rfl, hmix, ho, hB⟩ := hrel
          by_cases hlj : j < xs.length
          · have hzl : zs.length = xs.length := hmix.1.trans HTL.out
            have hc1 := ho.cellAt j (by omega)
            have hf1 := ho.frozenAt j
            have hz1' : (zs.map (Value.int .i64))[j]? = some (.int .i64 (rowAt zs j)) := by rw [List.getElem?_map, rowAt_get (by omega)]; rfl
            rw [hz1', hmix.at] at hc1
            have hstep := mix_zip hmix (by rw [HTL.out]; exact hlj) (by rw [sameL_len, HTL.out]; exact hlj)
            rw [sameL_row _ _ (by rw [HTL.out]; exact hlj)] at hstep
            obtain ⟨u, hu⟩ : ∃ u, rowAt T j = u := ⟨_, rfl⟩
            rw [hu] at hc1 hstep
            have hj1 : ((j : Nat) : Int) < (xs.length : Int) := by omega
            have hpt := pt_wrap j (by omega)
            have HSTEP := Lib.hid (And.intro hstep hpt)
            clear hmix hz1' hstep hu hpt
            go_wp2_with (go_at_call 127; refine (l3Has_at st 114 _ _ (by rfl) HR.out _ hl2).mono ?_; rintro e w9 ⟨rfl, rfl⟩)
            go_region
            all_goals
              go_wp2
              go_roundw
              case rel =>
                refine ⟨j + 1, _, by omega, by go_num, HSTEP.out.1, ?_, hB.drew.setCell (by simp; omega) _⟩
                have h := (ho.stored j (.int .i64 (bits .or .i64 u (wrap64 (2 ^ j))))).1
                rw [← List.map_set, HSTEP.out.2] at h
                rw [HSTEP.out.2]
                exact h.drew
              case measure => simp [intOf]; omega
          · have hfull : zs = zipI (bits .or .i64) T (sameL T.length) := Mix.full (xs := T) ((show j = T.length by have := HTL.out; omega) ▸ hmix) (by unfold zipI; rw [List.length_zipWith, sameL_len, Nat.min_self])
            have hfin : zs = leastL xs st := by rw [hfull]; unfold leastL; rw [← HTE.out, HR.out]; rfl
            rw [hfin] at ho
            clear hmix hfull hfin
            go_wp2
            go_ret2
            exact ⟨_, rfl, by rw [show (ifR true (leastL xs st)).length = xs.length from by show (leastL xs st).length = _; unfold leastL; rw [leastR_len, leastT_len, leastS_len]]; exact ho, hB⟩
      | false =>
        have HR := Lib.hid hR
        clear hR
        go_wp2
        go_loopw [9] (fun j wr => ∃ (k2 : Nat), k2 ≤ xs.length ∧ j = .int .i64 k2 ∧ wr.ownsRow w.heap.size 3 1 (.slice (some ⟨g, 0, none⟩) xs.length cap) xs.length (T.map (Value.int .i64)) ∧ Below w.heap.size w wr)
          (fun j _ => xs.length - (intOf j).toNat)
        case atStart => exact ⟨0, Nat.zero_le _, rfl, ho, hB⟩
        case round =>
          clear ho hB
          obtain ⟨j, hj, rfl, ho, hB⟩ := hrel
          by_cases hlj : j < xs.length
          · go_wp2_with (go_at_call 127; refine (l3Has_at st 114 _ _ (by rfl) HR.out _ hl2).mono ?_; rintro e w9 ⟨rfl, rfl⟩)
            go_roundw
            case rel => exact ⟨j + 1, by omega, by go_num, ho, hB⟩
            case measure => simp [intOf]; omega
          · have hfin : T = leastL xs st := by unfold leastL; rw [← HTE.out, HR.out]; rfl
            rw [hfin] at ho
            clear hfin
            go_wp2
            go_ret2
            exact ⟨_, rfl, by rw [show (ifR true (leastL xs st)).length = xs.length from by show (leastL xs st).length = _; unfold leastL; rw [leastR_len, leastT_len, leastS_len]]; exact ho, hB⟩
  | true =>
    have HS := Lib.hid hS
    clear hS
    have hxa := hx.below hB
    have hc := l1Turned_any (some ⟨b0, off0, none⟩) ca xs wa HP.out hxa
    go_wp2_with fail
    refine (l3Has_at st 115 _ _ (by rfl) HS.out _ hl2).mono ?_
    rintro e w9 ⟨rfl, rfl⟩
    go_wp2_with fail
    refine hc.mono ?_
    rintro e wc ⟨vm, rfl, hm, hb2⟩
    obtain ⟨g2, cap2, rfl, hg3, hg4⟩ := own_form hm h1
    have ho2 := own_keep hown hb2 (fun q hq => by cases hq; exact hg2)
    have hB2 := hB.trans (hb2.mono hB.size)
    clear hc hown hB hb2 hxa
    go_wp2
    go_loopw [8] (fun j wr => ∃ (k2 : Nat) (zs : List Int), k2 ≤ xs.length ∧ j = .int .i64 k2 ∧ Mix xs (zipI (bits .or .i64) xs (turnL xs)) k2 zs ∧ wr.ownsRow w.heap.size 3 1 (.slice (some ⟨g, 0, none⟩) xs.length cap) xs.length (zs.map (Value.int .i64)) ∧ wr.ownsRow wa.heap.size 3 1 (.slice (some ⟨g2, 0, none⟩) xs.length cap2) xs.length ((turnL xs).map (Value.int .i64)) ∧ Below w.heap.size w wr)
      (fun j _ => xs.length - (intOf j).toNat)
    case atStart => exact ⟨0, _, Nat.zero_le _, rfl, Mix.zero _ _, ho2, hm, hB2⟩
    case round =>
      clear ho2 hm hB2
      obtain ⟨j, zs, hj, rfl, hmix, ho, hm, hB⟩ := hrel
      by_cases hlj : j < xs.length
      · have hzl : zs.length = xs.length := hmix.1
        have hc1 := ho.cellAt j (by omega)
        have hf1 := ho.frozenAt j
        have hc2 := hm.cellAt j (by omega)
        have hz1' : (zs.map (Value.int .i64))[j]? = some (.int .i64 (rowAt zs j)) := by rw [List.getElem?_map, rowAt_get (by omega)]; rfl
        have hz2' : ((turnL xs).map (Value.int .i64))[j]? = some (.int .i64 (rowAt (turnL xs) j)) := by rw [List.getElem?_map, rowAt_get (by rw [turnL_len]; exact hlj)]; rfl
        rw [hz1', hmix.at] at hc1
        rw [hz2'] at hc2
        have hstep := mix_zip hmix hlj (by rw [turnL_len]; exact hlj)
        obtain ⟨u, hu⟩ : ∃ u, rowAt xs j = u := ⟨_, rfl⟩
        obtain ⟨y, hy⟩ : ∃ y, rowAt (turnL xs) j = y := ⟨_, rfl⟩
        rw [hu] at hc1 hstep
        rw [hy] at hc2 hstep
        have hj1 : ((j : Nat) : Int) < (xs.length : Int) := by omega
        have HSTEP := Lib.hid hstep
        clear hmix hx hz1' hz2' hstep hu hy
        go_wp2
        go_region
        all_goals
          go_wp2
          go_roundw
          case rel =>
            refine ⟨j + 1, _, by omega, by go_num, HSTEP.out, ?_, (ownsRow_setCell_below hm.drew (by simp; omega) _), hB.drew.setCell (by simp; omega) _⟩
            have h := (ho.stored j (.int .i64 (bits .or .i64 u y))).1
            rw [← List.map_set] at h
            exact h.drew
          case measure => simp [intOf]; omega
      · obtain ⟨S, hSe⟩ : ∃ S, S = zs := ⟨_, rfl⟩
        have hSe2 : S = zipI (bits .or .i64) xs (turnL xs) := by rw [hSe]; exact Mix.full (xs := xs) (by rw [show xs.length = j by omega]; exact hmix) (by unfold zipI; rw [List.length_zipWith, turnL_len, Nat.min_self])
        have HSE := Lib.hid (show S = leastS xs (hasTo st 115 st.size) by rw [HS.out, hSe2]; rfl)
        have HSL := Lib.hid (show S.length = xs.length by rw [hSe]; exact hmix.1)
        have HS16 := Lib.hid (show In16 S by rw [HSE.out]; exact leastS16 HP.out _)
        rw [← hSe] at ho
        obtain ⟨wa, hwa⟩ : ∃ wa, wr = wa := ⟨_, rfl⟩
        rw [hwa] at ho hB ⊢
        clear hSe hSe2 hmix hm hwa
        go_wp2_with fail
        cases hT : hasTo st 116 st.size with
        | true =>
          have HT := Lib.hid hT
          clear hT
          refine (l3Has_at st 116 _ _ (by rfl) HT.out _ hl2).mono ?_
          rintro e w9 ⟨rfl, rfl⟩
          have hc := l2Reach_any (some ⟨g, 0, none⟩) cap S wa (by rw [HSL.out]; exact h1) (by rw [HSL.out]; exact h4) HS16.out (rd_own ho HSL.out)
          rw [HSL.out] at hc
          go_wp2_with fail
          refine hc.mono ?_
          rintro e wb ⟨vt, rfl, hm, hb2⟩
          obtain ⟨g, cap, rfl, hg3, hg4⟩ := own_form hm h1
          have ho := own_mono hm hB.size
          have hB := hB.trans (hb2.mono hB.size)
          obtain ⟨T, hTe⟩ : ∃ T, T = reachL S := ⟨_, rfl⟩
          have HTL := Lib.hid (show T.length = xs.length by rw [hTe]; exact (reachTo_len S _).trans HSL.out)
          have HTE := Lib.hid (show T = leastT (leastS xs (hasTo st 115 st.size)) (hasTo st 116 st.size) by rw [hTe, HSE.out, HT.out]; rfl)
          rw [← hTe] at ho
          clear hTe hm hb2 hc
          have hgw := (ho.lt g rfl).1
          cases hR : hasTo st 114 st.size with
          | true =>
            have HR := Lib.hid hR
            clear hR
            go_wp2
            go_loopw [9] (fun j wr => ∃ (k2 : Nat) (zs : List Int), k2 ≤ xs.length ∧ j = .int .i64 k2 ∧ Mix T (zipI (bits .or .i64) T (sameL T.length)) k2 zs ∧ wr.ownsRow w.heap.size 3 1 (.slice (some ⟨g, 0, none⟩) xs.length cap) xs.length (zs.map (Value.int .i64)) ∧ Below w.heap.size w wr)
              (fun j _ => xs.length - (intOf j).toNat)
            case atStart => exact ⟨0, _, Nat.zero_le _, rfl, Mix.zero _ _, ho, hB⟩
            case round =>
              clear ho hB
              obtain ⟨j, zs, hj, rfl, hmix, ho, hB⟩ := hrel
              by_cases hlj : j < xs.length
              · have hzl : zs.length = xs.length := hmix.1.trans HTL.out
                have hc1 := ho.cellAt j (by omega)
                have hf1 := ho.frozenAt j
                have hz1' : (zs.map (Value.int .i64))[j]? = some (.int .i64 (rowAt zs j)) := by rw [List.getElem?_map, rowAt_get (by omega)]; rfl
                rw [hz1', hmix.at] at hc1
                have hstep := mix_zip hmix (by rw [HTL.out]; exact hlj) (by rw [sameL_len, HTL.out]; exact hlj)
                rw [sameL_row _ _ (by rw [HTL.out]; exact hlj)] at hstep
                obtain ⟨u, hu⟩ : ∃ u, rowAt T j = u := ⟨_, rfl⟩
                rw [hu] at hc1 hstep
                have hj1 : ((j : Nat) : Int) < (xs.length : Int) := by omega
                have hpt := pt_wrap j (by omega)
                have HSTEP := Lib.hid (And.intro hstep hpt)
                clear hmix hz1' hstep hu hpt
                go_wp2_with (go_at_call 127; refine (l3Has_at st 114 _ _ (by rfl) HR.out _ hl2).mono ?_; rintro e w9 ⟨rfl, rfl⟩)
                go_region
                all_goals
                  go_wp2
                  go_roundw
                  case rel =>
                    refine ⟨j + 1, _, by omega, by go_num, HSTEP.out.1, ?_, hB.drew.setCell (by simp; omega) _⟩
                    have h := (ho.stored j (.int .i64 (bits .or .i64 u (wrap64 (2 ^ j))))).1
                    rw [← List.map_set, HSTEP.out.2] at h
                    rw [HSTEP.out.2]
                    exact h.drew
                  case measure => simp [intOf]; omega
              · have hfull : zs = zipI (bits .or .i64) T (sameL T.length) := Mix.full (xs := T) ((show j = T.length by have := HTL.out; omega) ▸ hmix) (by unfold zipI; rw [List.length_zipWith, sameL_len, Nat.min_self])
                have hfin : zs = leastL xs st := by rw [hfull]; unfold leastL; rw [← HTE.out, HR.out]; rfl
                rw [hfin] at ho
                clear hmix hfull hfin
                go_wp2
                go_ret2
                exact ⟨_, rfl, by rw [show (ifR true (leastL xs st)).length = xs.length from by show (leastL xs st).length = _; unfold leastL; rw [leastR_len, leastT_len, leastS_len]]; exact ho, hB⟩
          | false =>
            have HR := Lib.hid hR
            clear hR
            go_wp2
            go_loopw [9] (fun j wr => ∃ (k2 : Nat), k2 ≤ xs.length ∧ j = .int .i64 k2 ∧ wr.ownsRow w.heap.size 3 1 (.slice (some ⟨g, 0, none⟩) xs.length cap) xs.length (T.map (Value.int .i64)) ∧ Below w.heap.size w wr)
              (fun j _ => xs.length - (intOf j).toNat)
            case atStart => exact ⟨0, Nat.zero_le _, rfl, ho, hB⟩
            case round =>
              clear ho hB
              obtain ⟨j, hj, rfl, ho, hB⟩ := hrel
              by_cases hlj : j < xs.length
              · go_wp2_with (go_at_call 127; refine (l3Has_at st 114 _ _ (by rfl) HR.out _ hl2).mono ?_; rintro e w9 ⟨rfl, rfl⟩)
                go_roundw
                case rel => exact ⟨j + 1, by omega, by go_num, ho, hB⟩
                case measure => simp [intOf]; omega
              · have hfin : T = leastL xs st := by unfold leastL; rw [← HTE.out, HR.out]; rfl
                rw [hfin] at ho
                clear hfin
                go_wp2
                go_ret2
                exact ⟨_, rfl, by rw [show (ifR true (leastL xs st)).length = xs.length from by show (leastL xs st).length = _; unfold leastL; rw [leastR_len, leastT_len, leastS_len]]; exact ho, hB⟩
        | false =>
          have HT := Lib.hid hT
          clear hT
          refine (l3Has_at st 116 _ _ (by rfl) HT.out _ hl2).mono ?_
          rintro e w9 ⟨rfl, rfl⟩
          obtain ⟨T, hTe⟩ : ∃ T, T = S := ⟨_, rfl⟩
          have HTL := Lib.hid (show T.length = xs.length by rw [hTe]; exact HSL.out)
          have HTE := Lib.hid (show T = leastT (leastS xs (hasTo st 115 st.size)) (hasTo st 116 st.size) by rw [hTe, HSE.out, HT.out]; rfl)
          rw [← hTe] at ho
          clear hTe
          have hgw := (ho.lt g rfl).1
          cases hR : hasTo st 114 st.size with
          | true =>
            have HR := Lib.hid hR
            clear hR
            go_wp2
            go_loopw [9] (fun j wr => ∃ (k2 : Nat) (zs : List Int), k2 ≤ xs.length ∧ j = .int .i64 k2 ∧ Mix T (zipI (bits .or .i64) T (sameL T.length)) k2 zs ∧ wr.ownsRow w.heap.size 3 1 (.slice (some ⟨g, 0, none⟩) xs.length cap) xs.length (zs.map (Value.int .i64)) ∧ Below w.heap.size w wr)
              (fun j _ => xs.length - (intOf j).toNat)
            case atStart => exact ⟨0, _, Nat.zero_le _, rfl, Mix.zero _ _, ho, hB⟩
            case round =>
              clear ho hB
              obtain ⟨j, zs, hj, rfl, hmix, ho, hB⟩ := hrel
              by_cases hlj : j < xs.length
              · have hzl : zs.length = xs.length := hmix.1.trans HTL.out
                have hc1 := ho.cellAt j (by omega)
                have hf1 := ho.frozenAt j
                have hz1' : (zs.map (Value.int .i64))[j]? = some (.int .i64 (rowAt zs j)) := by rw [List.getElem?_map, rowAt_get (by omega)]; rfl
                rw [hz1', hmix.at] at hc1
                have hstep := mix_zip hmix (by rw [HTL.out]; exact hlj) (by rw [sameL_len, HTL.out]; exact hlj)
                rw [sameL_row _ _ (by rw [HTL.out]; exact hlj)] at hstep
                obtain ⟨u, hu⟩ : ∃ u, rowAt T j = u := ⟨_, rfl⟩
                rw [hu] at hc1 hstep
                have hj1 : ((j : Nat) : Int) < (xs.length : Int) := by omega
                have hpt := pt_wrap j (by omega)
                have HSTEP := Lib.hid (And.intro hstep hpt)
                clear hmix hz1' hstep hu hpt
                go_wp2_with (go_at_call 127; refine (l3Has_at st 114 _ _ (by rfl) HR.out _ hl2).mono ?_; rintro e w9 ⟨rfl, rfl⟩)
                go_region
                all_goals
                  go_wp2
                  go_roundw
                  case rel =>
                    refine ⟨j + 1, _, by omega, by go_num, HSTEP.out.1, ?_, hB.drew.setCell (by simp; omega) _⟩
                    have h := (ho.stored j (.int .i64 (bits .or .i64 u (wrap64 (2 ^ j))))).1
                    rw [← List.map_set, HSTEP.out.2] at h
                    rw [HSTEP.out.2]
                    exact h.drew
                  case measure => simp [intOf]; omega
              · have hfull : zs = zipI (bits .or .i64) T (sameL T.length) := Mix.full (xs := T) ((show j = T.length by have := HTL.out; omega) ▸ hmix) (by unfold zipI; rw [List.length_zipWith, sameL_len, Nat.min_self])
                have hfin : zs = leastL xs st := by rw [hfull]; unfold leastL; rw [← HTE.out, HR.out]; rfl
                rw [hfin] at ho
                clear hmix hfull hfin
                go_wp2
                go_ret2
                exact ⟨_, rfl, by rw [show (ifR true (leastL xs st)).length = xs.length from by show (leastL xs st).length = _; unfold leastL; rw [leastR_len, leastT_len, leastS_len]]; exact ho, hB⟩
          | false =>
            have HR := Lib.hid hR
            clear hR
            go_wp2
            go_loopw [9] (fun j wr => ∃ (k2 : Nat), k2 ≤ xs.length ∧ j = .int .i64 k2 ∧ wr.ownsRow w.heap.size 3 1 (.slice (some ⟨g, 0, none⟩) xs.length cap) xs.length (T.map (Value.int .i64)) ∧ Below w.heap.size w wr)
              (fun j _ => xs.length - (intOf j).toNat)
            case atStart => exact ⟨0, Nat.zero_le _, rfl, ho, hB⟩
            case round =>
              clear ho hB
              obtain ⟨j, hj, rfl, ho, hB⟩ := hrel
              by_cases hlj : j < xs.length
              · go_wp2_with (go_at_call 127; refine (l3Has_at st 114 _ _ (by rfl) HR.out _ hl2).mono ?_; rintro e w9 ⟨rfl, rfl⟩)
                go_roundw
                case rel => exact ⟨j + 1, by omega, by go_num, ho, hB⟩
                case measure => simp [intOf]; omega
              · have hfin : T = leastL xs st := by unfold leastL; rw [← HTE.out, HR.out]; rfl
                rw [hfin] at ho
                clear hfin
                go_wp2
                go_ret2
                exact ⟨_, rfl, by rw [show (ifR true (leastL xs st)).length = xs.length from by show (leastL xs st).length = _; unfold leastL; rw [leastR_len, leastT_len, leastS_len]]; exact ho, hB⟩

theorem kindLeast_any (ao : Option Addr) (ca : Nat) (xs : List Int) (st : ByteArray) (w : World) (hl : xs.length ≤ 1048576) (hl2 : st.size ≤ 1048576) (hx : Rd w ao xs) :
    Calls Try.prog 100 #[.slice ao xs.length ca, .string st] w (Gave w (ifR (leastB xs st) (leastL xs st)) (leastB xs st)) := by
  cases hp : leastB xs st with
  | false => exact kindLeast_no ao ca xs st w hl hl2 hp hx
  | true => exact kindLeast_yes ao ca xs st w hl2 hp hx
theorem leastL_len (xs : List Int) (st : ByteArray) : (leastL xs st).length = xs.length := by
  unfold leastL; rw [leastR_len, leastT_len, leastS_len]
end Go.Proofs.Ytgmjdkhegbdbjaa
