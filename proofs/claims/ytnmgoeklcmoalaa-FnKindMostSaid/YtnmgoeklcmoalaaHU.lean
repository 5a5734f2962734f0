/-
  The model's KindMost.
-/
import Derived.Test.YtnmgoeklcmoalaaHS
import Derived.Test.YtnmgoeklcmoalaaHG
namespace Go.Proofs.Ytnmgoeklcmoalaa
open Go.RowKit

theorem b_off : ∀ n : Fin 5, ∀ x : Fin 16, ∀ i : Fin n.val, x.val < 2 ^ n.val → bits .and .i64 (x.val : Int) (bits .andNot .i64 (2 ^ n.val - 1) (pt i.val)) = bits .andNot .i64 (x.val : Int) (pt i.val) := by decide +kernel
theorem off_at {n : Nat} {S : List Int} (h : Rl n S) (i : Nat) (hi : i < n) : (offI S)[i]? = some (bits .andNot .i64 (rowAt S i) (pt i)) := by
  obtain ⟨x, hx, hx2⟩ := h.row i
  rw [rowAt_get (by rw [h.off.len]; exact hi)]
  unfold offI bothL
  rw [zipAt _ _ _ _ (by rw [h.len]; exact hi) (by rw [(same_rl h).other.len]; exact hi)]
  congr 1
  unfold otherL
  rw [rowAt_map _ _ _ (by rw [sameL_len, h.len]; exact hi), sameL_len, h.len, sameL_at n i hi, hx]
  exact b_off ⟨n, by have := h.four; omega⟩ x ⟨i, hi⟩ hx2
theorem kindMost_no (ao : Option Addr) (ca : Nat) (xs : List Int) (st : ByteArray) (w : World) (hl : xs.length ≤ 1048576) (hl2 : st.size ≤ 1048576) (hp : mostB xs st = false) (hx : Rd w ao xs) :
    Calls Try.prog 33 #[.slice ao xs.length ca, .string st] w (Gave w [] false) := by
  have h1 := specRelIn_any ao ca xs w hl hx
  have hrst : isT.size ≤ 1048576 := by decide
  unfold mostB at hp
  cases hr : relIn xs with
  | false =>
    rw [hr] at h1
    have H1 := Lib.hid h1
    clear h1 hp hr
    go_enter Try.func33, Try.ntmps33
    go_wp2_with (go_at_call 28; refine H1.out.mono ?_; rintro e w1 ⟨rfl, hd⟩)
    go_ret2
    have hh : w.heap.size = w1.heap.size := by rw [hd.heap]
    exact ⟨_, rfl, by rw [hh]; exact row_lit0 w1, (hd.below _).alloc (by omega) _⟩
  | true =>
    have ht : textTo st isT st.size = false := by rw [hr] at hp; simpa using hp
    rw [hr] at h1
    have H1 := Lib.hid h1
    have HT := Lib.hid ht
    clear h1 hp hr ht
    go_enter Try.func33, Try.ntmps33
    go_wp2_with fail
    refine H1.out.mono ?_
    rintro e w1 ⟨rfl, hd⟩
    go_wp2_with fail
    refine (l3Text_any st isT w1 hl2 hrst).mono ?_
    rw [HT.out]
    rintro e w2 ⟨rfl, hd2⟩
    go_wp2
    go_ret2
    have hd3 := hd.trans hd2
    have hh : w.heap.size = w2.heap.size := by rw [hd3.heap]
    exact ⟨_, rfl, by rw [hh]; exact row_lit0 w2, (hd3.below _).alloc (by omega) _⟩


set_option maxHeartbeats 8000000 in
theorem kindMost_yes (ao : Option Addr) (ca : Nat) (xs : List Int) (st : ByteArray) (w : World) (hl2 : st.size ≤ 1048576) (hp : mostB xs st = true) (hx : Rd w ao xs) :
    Calls Try.prog 33 #[.slice ao xs.length ca, .string st] w (Gave w (ifR true (mostL xs st)) true) := by
  unfold mostB at hp
  rw [Bool.and_eq_true] at hp
  obtain ⟨hr, ht⟩ := hp
  obtain ⟨h1, h4⟩ := relIn_len hr
  have hri := specRelIn_any ao ca xs w (by omega) hx
  rw [hr] at hri
  have HRI := Lib.hid hri
  have HT := Lib.hid ht
  have HP := Lib.hid (Rl.of hr)
  have hrst : isT.size ≤ 1048576 := by decide
  clear hri ht hr
  obtain ⟨i0, hi, hz0, hz1, hz2⟩ := info_parts Try.info3
  obtain ⟨b0, off0, _, _, rfl, hbl0, _⟩ := hx.get 0 (by omega)
  go_enter Try.func33, Try.ntmps33
  go_wp2_with fail
  refine HRI.out.mono ?_
  rintro e w1 ⟨rfl, hd⟩
  go_wp2_with fail
  refine (l3Text_any st isT w1 hl2 hrst).mono ?_
  rw [HT.out]
  rintro e w2 ⟨rfl, hd2⟩
  have hd3 := hd.trans hd2
  have hx2 := hd3.rd hx
  have HH := Lib.hid (show w2.heap.size = w.heap.size by rw [hd3.heap])
  have hBw := hd3.below w.heap.size
  have HNEWS := Lib.hid (news_of hx2)
  clear hd hd2 HT HRI hd3
  go_wp2_with (at_builtin; refine wpList_append_own _ rfl (.tmp 17) (.tmp 18) 23 rfl w2.heap.size 3 i0 (.int .i64 0) 1 8 Try.underlying23 hi hz0 hz1 hz2 rfl (by decide) _ _ _ rfl (row_lit0 w2) ⟨b0, off0, none⟩ xs.length ca (xs.map (Value.int .i64)) rfl (by simp) HNEWS.out (by simp [Value.oneCell']) (by unfold maxLen; omega) (by omega) (by simp) ?_)
  intro v0 wa hown hgrow _
  have hB1 : Below w2.heap.size w2 wa := (below_one w2 (.cells #[] 3)).grown hgrow (by simp) (fun k hk => ((row_lit0 w2).lt k hk).1)
  obtain ⟨g, cap, rfl, hg1, hg2⟩ := own_form hown h1
  rw [HH.out] at hown hB1 hg1
  have hB := hBw.trans hB1
  clear hgrow HNEWS hbl0 hBw hB1
  cases hS : hasTo st 115 st.size with
  | false =>
    have HS := Lib.hid hS
    obtain ⟨S, hSe⟩ : ∃ S, S = xs := ⟨_, rfl⟩
    have HS := Lib.hid (And.intro (show Rl xs.length S by rw [hSe]; exact HP.out) (show S = mostS xs (hasTo st 115 st.size) by rw [hS, hSe]; rfl))
    have HS1 := Lib.hid hS
    have ho : wa.ownsRow w.heap.size 3 1 (.slice (some ⟨g, 0, none⟩) xs.length cap) xs.length (S.map (Value.int .i64)) := by rw [hSe]; exact hown
    clear hSe hown hS
    go_wp2_with fail
    refine (l3Has_at st 115 _ _ (by rfl) HS1.out _ hl2).mono ?_
    rintro e w9 ⟨rfl, rfl⟩
    have hgw := (ho.lt g rfl).1
    cases hR : hasTo st 105 st.size with
    | true =>
      have HR := Lib.hid hR
      clear hR
      go_wp2
      go_loopw [7] (fun j wr => ∃ (k2 : Nat) (zs : List Int), k2 ≤ xs.length ∧ j = .int .i64 k2 ∧ Mix S (offI S) k2 zs ∧ wr.ownsRow w.heap.size 3 1 (.slice (some ⟨g, 0, none⟩) xs.length cap) xs.length (zs.map (Value.int .i64)) ∧ Below w.heap.size w wr)
        (fun j _ => xs.length - (intOf j).toNat)
      case atStart => exact ⟨0, _, Nat.zero_le _, rfl, Mix.zero _ _, ho, hB⟩
      case round =>
        clear ho hB
        obtain ⟨j, zs, hj, rfl, hmix, ho, hB⟩ := hrel
        by_cases hlj : j < xs.length
        · have hzl : zs.length = xs.length := hmix.1.trans HS.out.1.len
          have hc1 := ho.cellAt j (by omega)
          have hf1 := ho.frozenAt j
          have hz1' : (zs.map (Value.int .i64))[j]? = some (.int .i64 (rowAt zs j)) := by rw [List.getElem?_map, rowAt_get (by omega)]; rfl
          rw [hz1', hmix.at] at hc1
          have hstep := hmix.step (v := bits .andNot .i64 (rowAt S j) (pt j)) (by rw [HS.out.1.len]; exact hlj) (off_at HS.out.1 j hlj)
          obtain ⟨u, hu⟩ : ∃ u, rowAt S j = u := ⟨_, rfl⟩
          rw [hu] at hc1 hstep
          have hj1 : ((j : Nat) : Int) < (xs.length : Int) := by omega
          have hpt := pt_wrap j (by omega)
          have HSTEP := Lib.hid (And.intro hstep hpt)
          clear hmix hz1' hstep hu hpt
          go_wp2_with (go_at_call 70; refine (l3Has_at st 105 _ _ (by rfl) HR.out _ hl2).mono ?_; rintro e w9 ⟨rfl, rfl⟩)
          go_region
          all_goals
            go_wp2
            go_roundw
            case rel =>
              refine ⟨j + 1, _, by omega, by go_num, HSTEP.out.1, ?_, hB.drew.setCell (by simp; omega) _⟩
              have h := (ho.stored j (.int .i64 (bits .andNot .i64 u (wrap64 (2 ^ j))))).1
              rw [← List.map_set, HSTEP.out.2] at h
              rw [HSTEP.out.2]
              exact h.drew
            case measure => simp [intOf]; omega
        · obtain rfl : j = xs.length := by omega
          have hfull : zs = offI S := Mix.full (xs := S) (by rw [HS.out.1.len]; exact hmix) (by rw [HS.out.1.off.len, HS.out.1.len])
          have hfin : zs = mostL xs st := by rw [hfull]; unfold mostL; rw [← HS.out.2, HR.out]; rfl
          rw [hfin] at ho
          clear hmix hfull hfin
          go_wp2
          go_ret2
          exact ⟨_, rfl, by rw [show (ifR true (mostL xs st)).length = xs.length from (most_rl HP.out st).len]; exact ho, hB⟩
    | false =>
      have HR := Lib.hid hR
      clear hR
      go_wp2
      go_loopw [7] (fun j wr => ∃ (k2 : Nat), k2 ≤ xs.length ∧ j = .int .i64 k2 ∧ wr.ownsRow w.heap.size 3 1 (.slice (some ⟨g, 0, none⟩) xs.length cap) xs.length (S.map (Value.int .i64)) ∧ Below w.heap.size w wr)
        (fun j _ => xs.length - (intOf j).toNat)
      case atStart => exact ⟨0, Nat.zero_le _, rfl, ho, hB⟩
      case round =>
        clear ho hB
        obtain ⟨j, hj, rfl, ho, hB⟩ := hrel
        by_cases hlj : j < xs.length
        · go_wp2_with (go_at_call 70; refine (l3Has_at st 105 _ _ (by rfl) HR.out _ hl2).mono ?_; rintro e w9 ⟨rfl, rfl⟩)
          go_roundw
          case rel => exact ⟨j + 1, by omega, by go_num, ho, hB⟩
          case measure => simp [intOf]; omega
        · obtain rfl : j = xs.length := by omega
          have hfin : S = mostL xs st := by unfold mostL; rw [← HS.out.2, HR.out]; rfl
          rw [hfin] at ho
          clear hfin
          go_wp2
          go_ret2
          exact ⟨_, rfl, by rw [show (ifR true (mostL xs st)).length = xs.length from (most_rl HP.out st).len]; exact ho, hB⟩
  | true =>
    have HS1 := Lib.hid hS
    have hxa := hx.below hB
    go_wp2_with fail
    refine (l3Has_at st 115 _ _ (by rfl) HS1.out _ hl2).mono ?_
    rintro e w9 ⟨rfl, rfl⟩
    go_wp2_with fail
    refine (sTurn HP.out _ _ _ hxa).mono ?_
    rintro e wc ⟨vm, rfl, hm, hb2⟩
    obtain ⟨g2, cap2, rfl, _, _, hrt⟩ := GaveL.form hm (Rl.pos HP.out.turn)
    have hxc := hxa.below hb2
    have hB2 := hB.trans (hb2.mono hB.size)
    clear hm hb2 hxa
    go_wp2_with fail
    refine (sBoth HP.out HP.out.turn _ _ _ _ _ hxc hrt).mono ?_
    rintro e wd ⟨vd, rfl, hbo, hb3⟩
    obtain ⟨g3, cap3, rfl, hg31, hg32, _⟩ := GaveL.form hbo (Rl.pos (HP.out.both HP.out.turn))
    have hB3 := hB2.trans (hb3.mono hB2.size)
    have hbl : (bothL xs (turnL xs)).length = xs.length := (HP.out.both HP.out.turn).len
    have hbo2 := own_mono hbo hB2.size
    clear hb3 hB hB2 hxc hrt hbo hown hg1 hg2
    obtain ⟨S, hSe⟩ : ∃ S, S = bothL xs (turnL xs) := ⟨_, rfl⟩
    rw [hbl, ← hSe] at hbo2
    rw [hbl]
    have HS := Lib.hid (And.intro (show Rl xs.length S by rw [hSe]; exact HP.out.both HP.out.turn) (show S = mostS xs (hasTo st 115 st.size) by rw [hS, hSe]; rfl))
    clear hSe hS hbl
    have ho := hbo2
    have hB := hB3
    obtain ⟨g, hgg⟩ : ∃ g, g3 = g := ⟨_, rfl⟩
    obtain ⟨cap, hcc⟩ : ∃ c, cap3 = c := ⟨_, rfl⟩
    rw [hgg, hcc] at ho ⊢
    clear hbo2 hB3 hgg hcc hg31 hg32
    have hgw := (ho.lt g rfl).1
    cases hR : hasTo st 105 st.size with
    | true =>
      have HR := Lib.hid hR
      clear hR
      go_wp2
      go_loopw [7] (fun j wr => ∃ (k2 : Nat) (zs : List Int), k2 ≤ xs.length ∧ j = .int .i64 k2 ∧ Mix S (offI S) k2 zs ∧ wr.ownsRow w.heap.size 3 1 (.slice (some ⟨g, 0, none⟩) xs.length cap) xs.length (zs.map (Value.int .i64)) ∧ Below w.heap.size w wr)
        (fun j _ => xs.length - (intOf j).toNat)
      case atStart => exact ⟨0, _, Nat.zero_le _, rfl, Mix.zero _ _, ho, hB⟩
      case round =>
        clear ho hB
        obtain ⟨j, zs, hj, rfl, hmix, ho, hB⟩ := hrel
        by_cases hlj : j < xs.length
        · have hzl : zs.length = xs.length := hmix.1.trans HS.out.1.len
          have hc1 := ho.cellAt j (by omega)
          have hf1 := ho.frozenAt j
          have hz1' : (zs.map (Value.int .i64))[j]? = some (.int .i64 (rowAt zs j)) := by rw [List.getElem?_map, rowAt_get (by omega)]; rfl
          rw [hz1', hmix.at] at hc1
          have hstep := hmix.step (v := bits .andNot .i64 (rowAt S j) (pt j)) (by rw [HS.out.1.len]; exact hlj) (off_at HS.out.1 j hlj)
          obtain ⟨u, hu⟩ : ∃ u, rowAt S j = u := ⟨_, rfl⟩
          rw [hu] at hc1 hstep
          have hj1 : ((j : Nat) : Int) < (xs.length : Int) := by omega
          have hpt := pt_wrap j (by omega)
          have HSTEP := Lib.hid (And.intro hstep hpt)
          clear hmix hz1' hstep hu hpt
          go_wp2_with (go_at_call 70; refine (l3Has_at st 105 _ _ (by rfl) HR.out _ hl2).mono ?_; rintro e w9 ⟨rfl, rfl⟩)
          go_region
          all_goals
            go_wp2
            go_roundw
            case rel =>
              refine ⟨j + 1, _, by omega, by go_num, HSTEP.out.1, ?_, hB.drew.setCell (by simp; omega) _⟩
              have h := (ho.stored j (.int .i64 (bits .andNot .i64 u (wrap64 (2 ^ j))))).1
              rw [← List.map_set, HSTEP.out.2] at h
              rw [HSTEP.out.2]
              exact h.drew
            case measure => simp [intOf]; omega
        · obtain rfl : j = xs.length := by omega
          have hfull : zs = offI S := Mix.full (xs := S) (by rw [HS.out.1.len]; exact hmix) (by rw [HS.out.1.off.len, HS.out.1.len])
          have hfin : zs = mostL xs st := by rw [hfull]; unfold mostL; rw [← HS.out.2, HR.out]; rfl
          rw [hfin] at ho
          clear hmix hfull hfin
          go_wp2
          go_ret2
          exact ⟨_, rfl, by rw [show (ifR true (mostL xs st)).length = xs.length from (most_rl HP.out st).len]; exact ho, hB⟩
    | false =>
      have HR := Lib.hid hR
      clear hR
      go_wp2
      go_loopw [7] (fun j wr => ∃ (k2 : Nat), k2 ≤ xs.length ∧ j = .int .i64 k2 ∧ wr.ownsRow w.heap.size 3 1 (.slice (some ⟨g, 0, none⟩) xs.length cap) xs.length (S.map (Value.int .i64)) ∧ Below w.heap.size w wr)
        (fun j _ => xs.length - (intOf j).toNat)
      case atStart => exact ⟨0, Nat.zero_le _, rfl, ho, hB⟩
      case round =>
        clear ho hB
        obtain ⟨j, hj, rfl, ho, hB⟩ := hrel
        by_cases hlj : j < xs.length
        · go_wp2_with (go_at_call 70; refine (l3Has_at st 105 _ _ (by rfl) HR.out _ hl2).mono ?_; rintro e w9 ⟨rfl, rfl⟩)
          go_roundw
          case rel => exact ⟨j + 1, by omega, by go_num, ho, hB⟩
          case measure => simp [intOf]; omega
        · obtain rfl : j = xs.length := by omega
          have hfin : S = mostL xs st := by unfold mostL; rw [← HS.out.2, HR.out]; rfl
          rw [hfin] at ho
          clear hfin
          go_wp2
          go_ret2
          exact ⟨_, rfl, by rw [show (ifR true (mostL xs st)).length = xs.length from (most_rl HP.out st).len]; exact ho, hB⟩
theorem specKindMost_any (ao : Option Addr) (ca : Nat) (xs : List Int) (st : ByteArray) (w : World) (hl : xs.length ≤ 1048576) (hl2 : st.size ≤ 1048576) (hx : Rd w ao xs) :
    Calls Try.prog 33 #[.slice ao xs.length ca, .string st] w (Gave w (ifR (mostB xs st) (mostL xs st)) (mostB xs st)) := by
  cases hp : mostB xs st with
  | false => exact kindMost_no ao ca xs st w hl hl2 hp hx
  | true => exact kindMost_yes ao ca xs st w hl2 hp hx
end Go.Proofs.Ytnmgoeklcmoalaa
