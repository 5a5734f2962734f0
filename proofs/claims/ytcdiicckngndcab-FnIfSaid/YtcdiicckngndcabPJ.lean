/-
  The model's ProgTriple, ProgIf and ProgWhile; for lists of at most 2^20 numbers.
-/
import Derived.Test.YtcdiicckngndcabPI
namespace Go.Proofs.Ytcdiicckngndcab
open Go.RowKit

def triC (z : Int) (xs : List Int) (q : Int) : Bool := setB xs z && setB xs q && partB (imgA xs z) q
set_option maxHeartbeats 2000000 in
theorem specProgTriple_any (ao : Option Addr) (ca : Nat) (z : Int) (xs : List Int) (q : Int) (w : World) (hl : xs.length ≤ 1048576) (hx : Rd w ao xs) :
    Calls Try.prog 24 #[.int .i64 z, .slice ao xs.length ca, .int .i64 q] w fun e w' => e = .returned (.bool (triC z xs q)) ∧ Below w.heap.size w w' := by
  have h1 := fun w h => l6rSet_any ao ca xs z w hl h
  have h2 := fun w h => l6rSet_any ao ca xs q w hl h
  unfold triC
  cases hp : setB xs z with
  | false =>
    rw [hp] at h1
    have H1 := Lib.hid h1
    clear h1 h2 hp
    rw [Bool.false_and, Bool.false_and]
    go_enter Try.func24, Try.ntmps24
    go_wp2_with fail
    refine (H1.out _ hx).mono ?_
    rintro e w1 ⟨rfl, hd⟩
    go_wp2
    go_ret
    exact ⟨rfl, hd.below _⟩
  | true =>
    cases hq : setB xs q with
    | false =>
      rw [hp] at h1
      rw [hq] at h2
      have H1 := Lib.hid (And.intro h1 h2)
      clear h1 h2 hp hq
      rw [Bool.and_false, Bool.false_and]
      go_enter Try.func24, Try.ntmps24
      go_wp2_with fail
      refine (H1.out.1 _ hx).mono ?_
      rintro e w1 ⟨rfl, hd⟩
      go_wp2_with fail
      refine (H1.out.2 _ (hd.rd hx)).mono ?_
      rintro e w2 ⟨rfl, hd2⟩
      go_wp2
      go_ret
      exact ⟨rfl, (hd.trans hd2).below _⟩
    | true =>
      obtain ⟨R, hz⟩ := set_st2 hp
      rw [hp] at h1
      rw [hq] at h2
      have H1 := Lib.hid (And.intro h1 (And.intro h2 (fun w h => img_any R hz ao ca w h)))
      rw [Bool.and_self, Bool.true_and]
      obtain ⟨r, hr⟩ : ∃ r, imgA xs z = r := ⟨_, rfl⟩
      rw [hr] at H1 ⊢
      clear h1 h2 hp hq R hz hr
      go_enter Try.func24, Try.ntmps24
      go_wp2_with fail
      refine (H1.out.1 _ hx).mono ?_
      rintro e w1 ⟨rfl, hd⟩
      go_wp2_with fail
      refine (H1.out.2.1 _ (hd.rd hx)).mono ?_
      rintro e w2 ⟨rfl, hd2⟩
      have hd := hd.trans hd2
      clear hd2
      go_wp2_with fail
      refine (H1.out.2.2 _ (hd.rd hx)).mono ?_
      rintro e w3 ⟨rfl, hd3⟩
      go_wp2
      go_ret
      exact ⟨rfl, (hd.trans hd3).below _⟩

def ifC (z : Int) (xs ys : List Int) : Bool := twoIn xs ys && rowIn xs.length z
theorem ifC_set {z : Int} {xs ys : List Int} (h : twoIn xs ys = true) : ifC z xs ys = setB xs z := by
  obtain ⟨h1, _, _⟩ := twoIn_yes h
  unfold ifC setB
  rw [h, h1]
set_option maxRecDepth 100000 in
set_option maxHeartbeats 4000000 in
theorem specProgIf_any (z : Int) (ao bo : Option Addr) (ca cb : Nat) (xs ys : List Int) (w : World) (hl : xs.length ≤ 1048576) (hl2 : ys.length ≤ 1048576) (hx : Rd w ao xs) (hy : Rd w bo ys) :
    Calls Try.prog 27 #[.int .i64 z, .slice ao xs.length ca, .slice bo ys.length cb] w (Gave w (ifR (ifC z xs ys) (ifL z xs ys)) (ifC z xs ys)) := by
  have hx0 : Rd (w.alloc (.cells #[] 3)) ao xs := hx.below (below_one w _)
  have hy0 : Rd (w.alloc (.cells #[] 3)) bo ys := hy.below (below_one w _)
  have r0 := row_lit0 w
  have B0 := below_one w (.cells #[] 3)
  have h1 := l1Two_any ao bo ca cb xs ys _ hl hl2 hx0 hy0
  have h2 := fun w h => l6rSet_any ao ca xs z w hl h
  cases ht : twoIn xs ys with
  | false =>
    have hp : ifC z xs ys = false := by unfold ifC; rw [ht]; rfl
    rw [hp]
    rw [ht] at h1
    have H1 := Lib.hid h1
    clear h1 h2 ht hp hx hy hx0 hy0
    go_enter Try.func27, Try.ntmps27
    go_wp2_with fail
    refine H1.out.mono ?_
    rintro e w1 ⟨rfl, hd⟩
    go_wp2
    go_ret2
    exact ⟨_, rfl, hd.row r0, B0.trans (hd.below _)⟩
  | true =>
    rw [ifC_set ht]
    rw [ht] at h1
    cases hp : setB xs z with
    | false =>
      rw [hp] at h2
      have H1 := Lib.hid (And.intro h1 h2)
      clear h1 h2 ht hp hx hy hy0
      go_enter Try.func27, Try.ntmps27
      go_wp2_with fail
      refine H1.out.1.mono ?_
      rintro e w1 ⟨rfl, hd⟩
      go_wp2_with fail
      refine (H1.out.2 _ (hd.rd hx0)).mono ?_
      rintro e w2 ⟨rfl, hd2⟩
      have hd := hd.trans hd2
      clear hd2
      go_wp2
      go_ret2
      exact ⟨_, rfl, hd.row r0, B0.trans (hd.below _)⟩
    | true =>
      obtain ⟨R, hz⟩ := set_st2 hp
      obtain ⟨_, _, hn⟩ := twoIn_yes ht
      obtain ⟨i0, hi, hz0, hz1, hz2⟩ := info_parts Try.info3
      rw [hp] at h2
      have h4 := R.four
      have H1 := Lib.hid (And.intro h1 h2)
      have HV := Lib.hid (And.intro (fun k hk => bit_has R.four hz k hk) (And.intro (tell_take xs.length fun i => if hasB z i then rowAt xs i else rowAt ys i) (And.intro (if_len z xs ys) hn)))
      obtain ⟨L, hL⟩ : ∃ L, ifL z xs ys = L := ⟨_, rfl⟩
      rw [show (List.range xs.length).map (fun i => if hasB z i then rowAt xs i else rowAt ys i) = L from hL, hL] at HV
      rw [show ifR true (ifL z xs ys) = L from hL]
      clear h1 h2 ht hp R hz hn hL
      go_enter Try.func27, Try.ntmps27
      go_wp2_with fail
      refine H1.out.1.mono ?_
      rintro e w1 ⟨rfl, hd⟩
      go_wp2_with fail
      refine (H1.out.2 _ (hd.rd hx0)).mono ?_
      rintro e w2 ⟨rfl, hd2⟩
      have hd := hd.trans hd2
      have r1 := hd.row r0
      have B1 := B0.trans (hd.below w.heap.size)
      clear hd2 hd r0 B0 hx0 hy0
      go_wp2
      go_loopw [8, 9] (fun v i wr => ∃ k : Nat, k ≤ xs.length ∧ i = .int .i64 k ∧ wr.ownsRow w.heap.size 3 1 v k ((L.take k).map (Value.int .i64)) ∧ Below w.heap.size w wr)
        (fun _ i _ => xs.length - (intOf i).toNat)
      case atStart => exact ⟨0, Nat.zero_le _, rfl, r1, B1⟩
      case round =>
        clear r1 B1
        obtain ⟨k, hk, rfl, ho, hb⟩ := hrel
        by_cases hlt : k < xs.length
        · have hi1 : ((k : Nat) : Int) < (xs.length : Int) := by omega
          have hi2 : ((k : Nat) : Int) < (ys.length : Int) := by rw [← HV.out.2.2.2]; exact hi1
          have hbit := HV.out.1 k hlt
          have htk := HV.out.2.1 k hlt
          cases hq : hasB z k with
          | true =>
            rw [hq, if_pos rfl] at htk
            rw [hq] at hbit
            have hb2 : (bits .and .i64 (z / 2 ^ k) 1 == 1) = true := hbit
            obtain ⟨b, off, x, hxk, rfl, hbl, hc1⟩ := (hx.below hb).get k hlt
            rw [rowA hxk] at hc1
            have HX := Lib.hid htk
            clear hx hy hxk hbit htk hq hi2
            go_wp2_with (at_builtin; refine wpList_append_own _ rfl (.tmp 33) (.tmp 38) 23 rfl w.heap.size 3 i0 (.int .i64 0) 1 8 Try.underlying23 hi hz0 hz1 hz2 rfl (by decide) _ _ _ rfl (ho.alloc _) ⟨wr.heap.size, 0, none⟩ 1 1 [_] rfl rfl (cell_one_new _ _ _) (by simp [Value.oneCell']) (by unfold maxLen; omega) (by omega) (by have := hb.size; simp; omega) ?_)
            intro v' w3 hown' hgrow _
            have hb' := own_step' ho hb hb.size _ hgrow
            rw [← List.map_take, ← List.map_singleton (f := Value.int .i64), ← List.map_append, ← HX.out] at hown'
            clear ho hb hgrow hc1
            go_wp2
            go_roundw
            case rel => exact ⟨k + 1, by omega, by go_num, hown', hb'⟩
            case measure => simp [intOf]; omega
          | false =>
            rw [hq, if_neg Bool.false_ne_true] at htk
            rw [hq] at hbit
            have hb2 : (bits .and .i64 (z / 2 ^ k) 1 == 1) = false := hbit
            obtain ⟨b, off, x, hxk, rfl, hbl, hc1⟩ := (hy.below hb).get k (by rw [← HV.out.2.2.2]; exact hlt)
            rw [rowA hxk] at hc1
            have HX := Lib.hid htk
            clear hx hy hxk hbit htk hq
            go_wp2_with (at_builtin; refine wpList_append_own _ rfl (.tmp 40) (.tmp 45) 23 rfl w.heap.size 3 i0 (.int .i64 0) 1 8 Try.underlying23 hi hz0 hz1 hz2 rfl (by decide) _ _ _ rfl (ho.alloc _) ⟨wr.heap.size, 0, none⟩ 1 1 [_] rfl rfl (cell_one_new _ _ _) (by simp [Value.oneCell']) (by unfold maxLen; omega) (by omega) (by have := hb.size; simp; omega) ?_)
            intro v' w3 hown' hgrow _
            have hb' := own_step' ho hb hb.size _ hgrow
            rw [← List.map_take, ← List.map_singleton (f := Value.int .i64), ← List.map_append, ← HX.out] at hown'
            clear ho hb hgrow hc1
            go_wp2
            go_roundw
            case rel => exact ⟨k + 1, by omega, by go_num, hown', hb'⟩
            case measure => simp [intOf]; omega
        · have HK := Lib.hid (show k = xs.length by omega)
          have hi1 : ¬ ((k : Nat) : Int) < (xs.length : Int) := by omega
          rw [List.take_of_length_le (by rw [HV.out.2.2.1]; omega)] at ho
          have e : k = L.length := by rw [HV.out.2.2.1]; omega
          rw [e] at ho
          clear e
          have HO := Lib.hid ho
          clear ho
          go_wp2
          go_ret2
          exact ⟨_, rfl, HO.out, hb⟩

set_option maxHeartbeats 4000000 in
theorem specProgWhile_any (z : Int) (ao : Option Addr) (ca : Nat) (xs : List Int) (w : World) (hl : xs.length ≤ 1048576) (hx : Rd w ao xs) :
    Calls Try.prog 33 #[.int .i64 z, .slice ao xs.length ca] w (Gave w (ifR (setB xs z) (whileL z xs)) (setB xs z)) := by
  have h1 := l6rSet_any ao ca xs z w hl hx
  cases hp : setB xs z with
  | false =>
    rw [hp] at h1
    have H1 := Lib.hid h1
    clear h1 hp hx
    go_enter Try.func33, Try.ntmps33
    go_wp2_with (go_at_call 47; refine H1.out.mono ?_; rintro e w1 ⟨rfl, hd⟩)
    go_ret2
    have hh : w.heap.size = w1.heap.size := by rw [hd.heap]
    exact ⟨_, rfl, by rw [hh]; exact row_lit0 w1, (hd.below _).alloc (by omega) _⟩
  | true =>
    rw [hp] at h1
    obtain ⟨R, hz⟩ := set_st2 hp
    have h4 := R.four
    have U : Rl (wiL z xs).length (wiL z xs) := by rw [wi_len]; exact R.wi z
    have n1 : 1 ≤ (wiL z xs).length := U.one
    have hs1 := (R.wiStar z).len
    have n2 : 1 ≤ (starL (wiL z xs)).length := by rw [hs1]; exact R.one
    have HC := Lib.hid (And.intro h1 (And.intro (fun w h => l8Within_any R hz ao ca w h) (fun ao ca w h => starG U ao ca w h)))
    have HV := Lib.hid (And.intro (fun k (hk : k < xs.length) => (show (whileL z xs)[k]? = some (bits .andNot .i64 (rowAt (starL (wiL z xs)) k) z) by rw [rowAt_get (by rw [while_len]; exact hk), while_row R z k hk])) (And.intro (while_len z xs) hs1))
    obtain ⟨S, hS⟩ : ∃ S, starL (wiL z xs) = S := ⟨_, rfl⟩
    obtain ⟨U', hU⟩ : ∃ U', wiL z xs = U' := ⟨_, rfl⟩
    obtain ⟨L, hL⟩ : ∃ L, whileL z xs = L := ⟨_, rfl⟩
    rw [hS] at HC HV n2
    rw [hU] at HC n1
    rw [hL] at HV
    rw [show ifR true (whileL z xs) = L from hL]
    clear h1 hp R hz U hs1 hS hU hL
    go_enter Try.func33, Try.ntmps33
    go_wp2_with fail
    refine HC.out.1.mono ?_
    rintro e w1 ⟨rfl, hd⟩
    go_wp2_with fail
    refine (HC.out.2.1 _ (hd.rd hx)).mono ?_
    rintro e w2 ⟨v, rfl, o1, b1⟩
    obtain ⟨g1, q1, rfl, _, _, rd1⟩ := GaveL.form o1 n1
    have B2 := (hd.below _).trans (b1.mono (hd.below w.heap.size).size)
    clear o1 b1 hd
    go_wp2_with fail
    refine (HC.out.2.2 _ _ _ rd1).mono ?_
    rintro e w3 ⟨v, rfl, ho, b3⟩
    obtain ⟨g, cap, rfl, hg1, hg2, _⟩ := GaveL.form ho n2
    have ho := own_mono ho B2.size
    rw [HV.out.2.2] at ho
    rw [HV.out.2.2]
    have hB := B2.trans (b3.mono B2.size)
    have hgw := Nat.le_trans B2.size hg1
    clear b3 B2 rd1 hg1
    go_wp2
    go_loopw [7] (fun j wr => ∃ (k : Nat) (zs : List Int), k ≤ xs.length ∧ j = .int .i64 k ∧ Mix S L k zs ∧ wr.ownsRow w.heap.size 3 1 (.slice (some ⟨g, 0, none⟩) xs.length cap) xs.length (zs.map (Value.int .i64)) ∧ Below w.heap.size w wr)
      (fun j _ => xs.length - (intOf j).toNat)
    case atStart => exact ⟨0, _, Nat.zero_le _, rfl, Mix.zero _ _, ho, hB⟩
    case round =>
      clear ho hB
      obtain ⟨j, zs, hj, rfl, hmix, ho, hB⟩ := hrel
      by_cases hlj : j < xs.length
      · have hzl : zs.length = xs.length := hmix.1.trans HV.out.2.2
        have hc1 := ho.cellAt j (by omega)
        have hf1 := ho.frozenAt j
        have hz1' : (zs.map (Value.int .i64))[j]? = some (.int .i64 (rowAt zs j)) := by rw [List.getElem?_map, rowAt_get (by omega)]; rfl
        rw [hz1', hmix.at] at hc1
        have hstep := hmix.step (by rw [HV.out.2.2]; exact hlj) (HV.out.1 j hlj)
        obtain ⟨u, hu⟩ : ∃ u, rowAt S j = u := ⟨_, rfl⟩
        rw [hu] at hc1 hstep
        have hj1 : ((j : Nat) : Int) < (xs.length : Int) := by omega
        have HSTEP := Lib.hid hstep
        have hx2 : Rd wr ao xs := hx.below (hB.mono (Nat.le_refl _))
        clear hmix hz1' hstep hu
        go_wp2
        go_roundw
        case rel =>
          refine ⟨j + 1, _, by omega, by go_num, HSTEP.out, ?_, hB.setCell (by simp; omega) _⟩
          have h := (ho.stored j (.int .i64 (bits .andNot .i64 u z))).1
          rw [← List.map_set] at h
          exact h
        case measure => simp [intOf]; omega
      · obtain rfl : j = xs.length := by omega
        have hfull : zs = L := Mix.full (xs := S) (by rw [HV.out.2.2]; exact hmix) (by rw [HV.out.2.1, HV.out.2.2])
        rw [hfull] at ho
        have HO := Lib.hid ho
        clear hmix hfull ho
        go_wp2
        go_ret2
        exact ⟨_, rfl, by rw [HV.out.2.1]; exact HO.out, hB⟩
end Go.Proofs.Ytcdiicckngndcab
