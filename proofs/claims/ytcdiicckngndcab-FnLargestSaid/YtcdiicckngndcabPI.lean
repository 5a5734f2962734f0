/-
  The model's l8Surely, l8Within, ProgAfter, ProgBefore, ProgSurely, ProgTriple, ProgEnds, ProgKept, ProgLargest, ProgIf and ProgWhile; for lists of at most 2^20 numbers.
-/
import Derived.Test.YtcdiicckngndcabPA
import Derived.Test.YtcdiicckngndcabQA
import Derived.Test.YtcdiicckngndcabEN
namespace Go.Proofs.Ytcdiicckngndcab
open Go.RowKit

theorem img_any {xs : List Int} (R : Rl xs.length xs) {z : Int} (hz : St xs.length z) (ao : Option Addr) (ca : Nat) (w : World) (hx : Rd w ao xs) :
    Calls Try.prog 48 #[.slice ao xs.length ca, .int .i64 z] w fun e w' => e = .returned (.int .i64 (imgA xs z)) ∧ Dn w w' := by
  obtain ⟨u, rfl, _⟩ := hz
  exact l1Image_any ao ca xs u.val w u.isLt R.four hx

set_option maxHeartbeats 4000000 in
theorem l8Surely_any {xs : List Int} (R : Rl xs.length xs) {z : Int} (hz : St xs.length z) (ao : Option Addr) (ca : Nat) (w : World) (hx : Rd w ao xs) :
    Calls Try.prog 59 #[.slice ao xs.length ca, .int .i64 z] w fun e w' => e = .returned (.int .i64 (surA xs.length xs z)) ∧ Dn w w' := by
  have h1 := R.one
  have h4 := R.four
  have HE := Lib.hid (sur_eq R hz)
  have HS := Lib.hid (surTo_step xs z)
  have HP := Lib.hid (fun k (h : k < 4) => pt_wrapE k h)
  clear R hz
  go_enter Try.func59, Try.ntmps59
  go_wp2
  go_loopw [5, 6] (fun f i wr => ∃ k : Nat, k ≤ xs.length ∧ i = .int .i64 k ∧ f = .int .i64 (surTo xs z k) ∧ Dn w wr)
    (fun _ i _ => xs.length - (intOf i).toNat)
  case atStart => exact ⟨0, Nat.zero_le _, rfl, rfl, Dn.refl _⟩
  case round =>
    obtain ⟨k, hk, rfl, rfl, hd⟩ := hrel
    by_cases hlt : k < xs.length
    · obtain ⟨b, off, x, hxk, rfl, hbl, hc1⟩ := (hd.rd hx).get k hlt
      rw [rowA hxk] at hc1
      have hi1 : ((k : Nat) : Int) < (xs.length : Int) := by omega
      have hst := HS.out k
      have hpw := HP.out k (by omega)
      clear hx hxk
      cases hb : partB (rowAt xs k) z with
      | true =>
        rw [hb, if_pos rfl, ← hpw] at hst
        have HST := Lib.hid hst
        have hb2 : (bits .andNot .i64 (rowAt xs k) z == 0) = true := hb
        clear hb hst hpw
        go_wp2
        go_roundw
        case rel => exact ⟨k + 1, by omega, by go_num, by rw [HST.out], hd⟩
        case measure => simp [intOf]; omega
      | false =>
        rw [hb, if_neg Bool.false_ne_true] at hst
        have HST := Lib.hid hst
        have hb2 : (bits .andNot .i64 (rowAt xs k) z == 0) = false := hb
        clear hb hst hpw
        go_wp2
        go_roundw
        case rel => exact ⟨k + 1, by omega, by go_num, by rw [HST.out], hd⟩
        case measure => simp [intOf]; omega
    · obtain rfl : k = xs.length := by omega
      go_wp2
      go_ret
      exact ⟨by rw [HE.out]; rfl, hd⟩

theorem tell_take (n : Nat) (f : Nat → Int) (k : Nat) (hk : k < n) : ((List.range n).map f).take (k + 1) = ((List.range n).map f).take k ++ [f k] := by
  rw [List.take_add_one, List.getElem?_map, List.getElem?_range hk]
  rfl
theorem bP_mul : ∀ z y : Fin 16, ∀ k : Fin 4, IntKind.i64.wrap ((y.val : Int) * bits .and .i64 ((z.val : Int) / 2 ^ k.val) 1) = if hasB (z.val : Int) k.val then (y.val : Int) else 0 := by decide +kernel
theorem wi_val {n : Nat} {xs : List Int} (R : Rl n xs) {z : Int} (hz : St n z) (k : Nat) (hk : k < n) : IntKind.i64.wrap (rowAt xs k * bits .and .i64 (z / 2 ^ k) 1) = if hasB z k then rowAt xs k else 0 := by
  obtain ⟨u, rfl, _⟩ := hz
  obtain ⟨y, hy, _⟩ := R.row k
  rw [hy]
  exact bP_mul u y ⟨k, by have := R.four; omega⟩
theorem bit_has {n : Nat} (h4 : n ≤ 4) {z : Int} (hz : St n z) (k : Nat) (hk : k < n) : bitB z k = hasB z k := by
  obtain ⟨u, rfl, _⟩ := hz
  exact b_bit u ⟨k, by omega⟩

set_option maxHeartbeats 4000000 in
theorem l8Within_walk {xs : List Int} (R : Rl xs.length xs) {z : Int} (hz : St xs.length z) (ao : Option Addr) (ca : Nat) (w : World) (hx : Rd w ao xs) :
    Calls Try.prog 75 #[.int .i64 z, .slice ao xs.length ca] w fun e w' => ∃ v, e = .returned v ∧ w'.ownsRow w.heap.size 3 1 v xs.length ((wiL z xs).map (Value.int .i64)) ∧ Below w.heap.size w w' := by
  obtain ⟨i0, hi, hz0, hz1, hz2⟩ := info_parts Try.info3
  have h4 := R.four
  have HV := Lib.hid (And.intro (fun k hk => wi_val R hz k hk) (And.intro (tell_take xs.length fun i => if hasB z i then rowAt xs i else 0) (wi_len z xs)))
  obtain ⟨L, hL⟩ : ∃ L, wiL z xs = L := ⟨_, rfl⟩
  rw [show (List.range xs.length).map (fun i => if hasB z i then rowAt xs i else 0) = L from hL, hL] at HV
  rw [hL]
  clear R hz hL
  go_enter Try.func75, Try.ntmps75
  go_wp2
  go_loopw [5, 6] (fun v i wr => ∃ k : Nat, k ≤ xs.length ∧ i = .int .i64 k ∧ wr.ownsRow w.heap.size 3 1 v k ((L.take k).map (Value.int .i64)) ∧ Below w.heap.size w wr)
    (fun _ i _ => xs.length - (intOf i).toNat)
  case atStart => exact ⟨0, Nat.zero_le _, rfl, row_lit0 w, below_one _ _⟩
  case round =>
    obtain ⟨k, hk, rfl, ho, hb⟩ := hrel
    by_cases hlt : k < xs.length
    · obtain ⟨b, off, x, hxk, rfl, hbl, hc1⟩ := (hx.below hb).get k hlt
      rw [rowA hxk] at hc1
      have hi1 : ((k : Nat) : Int) < (xs.length : Int) := by omega
      have HX := Lib.hid (And.intro (HV.out.1 k hlt) (HV.out.2.1 k hlt))
      clear hx hxk
      go_wp2
      go_region_law (refine step_append_own rfl (.tmp 14) (.tmp 24) 23 rfl w.heap.size 3 i0 (.int .i64 0) 1 8 Try.underlying23 hi hz0 hz1 hz2 rfl (by decide) _ _ _ rfl (ho.alloc _).drew ⟨wr.heap.size, 0, none⟩ 1 1 [_] rfl rfl (cell_one_new _ _ _) (by simp [Value.oneCell']) (by unfold maxLen; omega) (by omega) (by have := hb.size; simp; omega) ?_; intro v' w1 hown' hgrow)
      all_goals
        have hb' := own_step ho hb hb.size _ hgrow
        rw [HX.out.1, ← List.map_singleton (f := Value.int .i64), ← List.map_append, ← HX.out.2] at hown'
        clear ho hb hgrow hc1
        go_wp2
        go_roundw
        case rel => exact ⟨k + 1, by omega, by go_num, hown', hb'⟩
        case measure => simp [intOf]; omega
    · go_wp2
      go_ret
      obtain rfl : k = xs.length := by omega
      rw [List.take_of_length_le (by rw [HV.out.2.2]; omega)] at ho
      exact ⟨_, rfl, ho, hb⟩
theorem l8Within_any {xs : List Int} (R : Rl xs.length xs) {z : Int} (hz : St xs.length z) (ao : Option Addr) (ca : Nat) (w : World) (hx : Rd w ao xs) :
    Calls Try.prog 75 #[.int .i64 z, .slice ao xs.length ca] w (GaveL w (wiL z xs)) := by
  refine (l8Within_walk R hz ao ca w hx).mono ?_
  rintro e w' ⟨v, rfl, ho, hb⟩
  exact ⟨v, rfl, by rw [wi_len]; exact ho, hb⟩
theorem lar_zero (n : Nat) (xs : List Int) (z : Int) : larTo n xs z 0 = z := by unfold larTo; rfl
theorem lar_succ (n : Nat) (xs : List Int) (z : Int) (k : Nat) : larTo n xs z (k + 1) = bits .and .i64 (larTo n xs z k) (surA n xs (larTo n xs z k)) := by rw [larTo]
theorem end_zero (n : Nat) (xs : List Int) : endTo n xs 0 = 0 := by unfold endTo; rfl
theorem end_succ (n : Nat) (xs : List Int) (k : Nat) : endTo n xs (k + 1) = surA n xs (endTo n xs k) := by rw [endTo]
theorem set_st2 {xs : List Int} {z : Int} (h : setB xs z = true) : Rl xs.length xs ∧ St xs.length z := by
  unfold setB at h
  rw [Bool.and_eq_true] at h
  have R := Rl.of h.1
  exact ⟨R, St.of R.four h.2⟩
def setJ (xs : List Int) (z m : Int) : Int := if setB xs z then m else 0

set_option maxHeartbeats 2000000 in
theorem specProgAfter_any (ao : Option Addr) (ca : Nat) (xs : List Int) (z : Int) (w : World) (hl : xs.length ≤ 1048576) (hx : Rd w ao xs) :
    Calls Try.prog 14 #[.slice ao xs.length ca, .int .i64 z] w fun e w' => e = .returned (.tuple #[.int .i64 (setJ xs z (imgA xs z)), .bool (setB xs z)]) ∧ Below w.heap.size w w' := by
  have h1 := l6rSet_any ao ca xs z w hl hx
  unfold setJ
  cases hp : setB xs z with
  | false =>
    rw [hp] at h1
    have H1 := Lib.hid h1
    clear h1 hp hx
    go_enter Try.func14, Try.ntmps14
    go_wp2_with fail
    refine H1.out.mono ?_
    rintro e w1 ⟨rfl, hd⟩
    go_wp2
    go_ret2
    exact ⟨rfl, hd.below _⟩
  | true =>
    rw [hp] at h1
    rw [if_pos rfl]
    obtain ⟨R, hz⟩ := set_st2 hp
    have H1 := Lib.hid h1
    have H2 := Lib.hid (fun wr h => img_any R hz ao ca wr h)
    obtain ⟨r, hr⟩ : ∃ r, imgA xs z = r := ⟨_, rfl⟩
    rw [hr] at H2 ⊢
    clear h1 hp R hz hr
    go_enter Try.func14, Try.ntmps14
    go_wp2_with fail
    refine H1.out.mono ?_
    rintro e w1 ⟨rfl, hd⟩
    go_wp2_with fail
    refine (H2.out _ (hd.rd hx)).mono ?_
    rintro e w3 ⟨rfl, hd3⟩
    go_wp2
    go_ret2
    exact ⟨rfl, (hd.trans hd3).below _⟩

set_option maxHeartbeats 2000000 in
theorem specProgBefore_any (ao : Option Addr) (ca : Nat) (xs : List Int) (z : Int) (w : World) (hl : xs.length ≤ 1048576) (hx : Rd w ao xs) :
    Calls Try.prog 19 #[.slice ao xs.length ca, .int .i64 z] w fun e w' => e = .returned (.tuple #[.int .i64 (setJ xs z (imgA (turnL xs) z)), .bool (setB xs z)]) ∧ Below w.heap.size w w' := by
  have h1 := l6rSet_any ao ca xs z w hl hx
  unfold setJ
  cases hp : setB xs z with
  | false =>
    rw [hp] at h1
    have H1 := Lib.hid h1
    clear h1 hp hx
    go_enter Try.func19, Try.ntmps19
    go_wp2_with fail
    refine H1.out.mono ?_
    rintro e w1 ⟨rfl, hd⟩
    go_wp2
    go_ret2
    exact ⟨rfl, hd.below _⟩
  | true =>
    rw [hp] at h1
    rw [if_pos rfl]
    obtain ⟨R, hz⟩ := set_st2 hp
    have H1 := Lib.hid h1
    have T : Rl (turnL xs).length (turnL xs) := (by rw [R.turn.len]; exact R.turn)
    have hz2 : St (turnL xs).length z := by rw [show (turnL xs).length = xs.length from R.turn.len]; exact hz
    have n1 : 1 ≤ (turnL xs).length := T.one
    have H2 := Lib.hid (And.intro (fun w h => sTurn R ao ca w h) (fun ao ca w h => img_any T hz2 ao ca w h))
    obtain ⟨t, ht⟩ : ∃ t, turnL xs = t := ⟨_, rfl⟩
    rw [ht] at H2 n1 ⊢
    obtain ⟨r, hr⟩ : ∃ r, imgA t z = r := ⟨_, rfl⟩
    rw [hr] at H2 ⊢
    clear h1 hp R hz hr T hz2 ht
    go_enter Try.func19, Try.ntmps19
    go_wp2_with fail
    refine H1.out.mono ?_
    rintro e w1 ⟨rfl, hd⟩
    go_wp2_with fail
    refine (H2.out.1 _ (hd.rd hx)).mono ?_
    rintro e w2 ⟨v, rfl, o1, b1⟩
    obtain ⟨gb, qb, rfl, _, _, rb⟩ := GaveL.form o1 n1
    clear o1
    go_wp2_with fail
    refine (H2.out.2 _ _ _ rb).mono ?_
    rintro e w3 ⟨rfl, hd3⟩
    go_wp2
    go_ret2
    exact ⟨rfl, (hd.below _).trans ((b1.trans (hd3.below _)).mono (hd.below w.heap.size).size)⟩

set_option maxHeartbeats 2000000 in
theorem specProgSurely_any (ao : Option Addr) (ca : Nat) (xs : List Int) (z : Int) (w : World) (hl : xs.length ≤ 1048576) (hx : Rd w ao xs) :
    Calls Try.prog 22 #[.slice ao xs.length ca, .int .i64 z] w fun e w' => e = .returned (.tuple #[.int .i64 (setJ xs z (surA xs.length xs z)), .bool (setB xs z)]) ∧ Below w.heap.size w w' := by
  have h1 := l6rSet_any ao ca xs z w hl hx
  unfold setJ
  cases hp : setB xs z with
  | false =>
    rw [hp] at h1
    have H1 := Lib.hid h1
    clear h1 hp hx
    go_enter Try.func22, Try.ntmps22
    go_wp2_with fail
    refine H1.out.mono ?_
    rintro e w1 ⟨rfl, hd⟩
    go_wp2
    go_ret2
    exact ⟨rfl, hd.below _⟩
  | true =>
    rw [hp] at h1
    rw [if_pos rfl]
    obtain ⟨R, hz⟩ := set_st2 hp
    have H1 := Lib.hid h1
    have H2 := Lib.hid (fun wr h => l8Surely_any R hz ao ca wr h)
    obtain ⟨r, hr⟩ : ∃ r, surA xs.length xs z = r := ⟨_, rfl⟩
    rw [hr] at H2 ⊢
    clear h1 hp R hz hr
    go_enter Try.func22, Try.ntmps22
    go_wp2_with fail
    refine H1.out.mono ?_
    rintro e w1 ⟨rfl, hd⟩
    go_wp2_with fail
    refine (H2.out _ (hd.rd hx)).mono ?_
    rintro e w3 ⟨rfl, hd3⟩
    go_wp2
    go_ret2
    exact ⟨rfl, (hd.trans hd3).below _⟩

theorem starG {xs : List Int} (R : Rl xs.length xs) (ao : Option Addr) (ca : Nat) (w : World) (hx : Rd w ao xs) : Calls Try.prog 74 #[.slice ao xs.length ca] w (GaveL w (starL xs)) := by
  refine (l2Star_any ao ca xs w R hx).mono ?_
  rintro e w' ⟨v, rfl, ho, hb⟩
  exact ⟨v, rfl, by rw [R.star.len]; exact ho, hb⟩

set_option maxHeartbeats 2000000 in
theorem specProgKept_any (ao : Option Addr) (ca : Nat) (xs : List Int) (z : Int) (w : World) (hl : xs.length ≤ 1048576) (hx : Rd w ao xs) :
    Calls Try.prog 39 #[.slice ao xs.length ca, .int .i64 z] w fun e w' => e = .returned (.tuple #[.int .i64 (setJ xs z (imgA (starL xs) z)), .bool (setB xs z)]) ∧ Below w.heap.size w w' := by
  have h1 := l6rSet_any ao ca xs z w hl hx
  unfold setJ
  cases hp : setB xs z with
  | false =>
    rw [hp] at h1
    have H1 := Lib.hid h1
    clear h1 hp hx
    go_enter Try.func39, Try.ntmps39
    go_wp2_with fail
    refine H1.out.mono ?_
    rintro e w1 ⟨rfl, hd⟩
    go_wp2
    go_ret2
    exact ⟨rfl, hd.below _⟩
  | true =>
    rw [hp] at h1
    rw [if_pos rfl]
    obtain ⟨R, hz⟩ := set_st2 hp
    have H1 := Lib.hid h1
    have T : Rl (starL xs).length (starL xs) := (by rw [R.star.len]; exact R.star)
    have hz2 : St (starL xs).length z := by rw [show (starL xs).length = xs.length from R.star.len]; exact hz
    have n1 : 1 ≤ (starL xs).length := T.one
    have H2 := Lib.hid (And.intro (fun w h => starG R ao ca w h) (fun ao ca w h => img_any T hz2 ao ca w h))
    obtain ⟨t, ht⟩ : ∃ t, starL xs = t := ⟨_, rfl⟩
    rw [ht] at H2 n1 ⊢
    obtain ⟨r, hr⟩ : ∃ r, imgA t z = r := ⟨_, rfl⟩
    rw [hr] at H2 ⊢
    clear h1 hp R hz hr T hz2 ht
    go_enter Try.func39, Try.ntmps39
    go_wp2_with fail
    refine H1.out.mono ?_
    rintro e w1 ⟨rfl, hd⟩
    go_wp2_with fail
    refine (H2.out.1 _ (hd.rd hx)).mono ?_
    rintro e w2 ⟨v, rfl, o1, b1⟩
    obtain ⟨gb, qb, rfl, _, _, rb⟩ := GaveL.form o1 n1
    clear o1
    go_wp2_with fail
    refine (H2.out.2 _ _ _ rb).mono ?_
    rintro e w3 ⟨rfl, hd3⟩
    go_wp2
    go_ret2
    exact ⟨rfl, (hd.below _).trans ((b1.trans (hd3.below _)).mono (hd.below w.heap.size).size)⟩

set_option maxHeartbeats 2000000 in
theorem specProgLargest_any (ao : Option Addr) (ca : Nat) (xs : List Int) (z : Int) (w : World) (hl : xs.length ≤ 1048576) (hx : Rd w ao xs) :
    Calls Try.prog 41 #[.slice ao xs.length ca, .int .i64 z] w fun e w' => e = .returned (.tuple #[.int .i64 (setJ xs z (surA xs.length (starL xs) z)), .bool (setB xs z)]) ∧ Below w.heap.size w w' := by
  have h1 := l6rSet_any ao ca xs z w hl hx
  unfold setJ
  cases hp : setB xs z with
  | false =>
    rw [hp] at h1
    have H1 := Lib.hid h1
    clear h1 hp hx
    go_enter Try.func41, Try.ntmps41
    go_wp2_with fail
    refine H1.out.mono ?_
    rintro e w1 ⟨rfl, hd⟩
    go_wp2
    go_ret2
    exact ⟨rfl, hd.below _⟩
  | true =>
    rw [hp] at h1
    rw [if_pos rfl]
    obtain ⟨R, hz⟩ := set_st2 hp
    have H1 := Lib.hid h1
    have h4 := R.four
    have HF := Lib.hid (lar_eq R hz)
    have HT := Lib.hid (fun k wr h => l8Surely_any R (lar_st R hz k) ao ca wr h)
    have HS := Lib.hid (lar_succ xs.length xs z)
    have HZ := Lib.hid (lar_zero xs.length xs z)
    obtain ⟨r, hr⟩ : ∃ r, surA xs.length (starL xs) z = r := ⟨_, rfl⟩
    obtain ⟨E, hE⟩ : ∃ E, larTo xs.length xs z = E := ⟨_, rfl⟩
    rw [hr] at HF ⊢
    rw [hE] at HF HT HS HZ
    clear h1 hp R hz hr hE
    go_enter Try.func41, Try.ntmps41
    go_wp2_with fail
    refine H1.out.mono ?_
    rintro e w1 ⟨rfl, hd⟩
    go_wp2
    go_loopw [1, 6] (fun f i wr => ∃ k : Nat, k ≤ xs.length + 1 ∧ i = .int .i64 k ∧ f = .int .i64 (E k) ∧ Dn w wr)
      (fun _ i _ => xs.length + 1 - (intOf i).toNat)
    case atStart => exact ⟨0, Nat.zero_le _, rfl, by rw [HZ.out], hd⟩
    case round =>
      clear hd
      obtain ⟨k, hk, rfl, rfl, hd⟩ := hrel
      by_cases hlt : k ≤ xs.length
      · have hi1 : ((k : Nat) : Int) ≤ (xs.length : Int) := by omega
        have hst := HS.out k
        obtain ⟨s, hs⟩ : ∃ s, surA xs.length xs (E k) = s := ⟨_, rfl⟩
        have H2 := HT.out k
        rw [hs] at hst H2
        have K := Lib.hid (And.intro hst H2)
        clear hst H2 hs
        go_wp2_with fail
        refine (K.out.2 _ (hd.rd hx)).mono ?_
        rintro e w3 ⟨rfl, hd3⟩
        have hd := hd.trans hd3
        clear hd3
        go_wp2
        go_roundw
        case rel => exact ⟨k + 1, by omega, by go_num, by rw [K.out.1], hd⟩
        case measure => simp [intOf]; omega
      · have HK := Lib.hid (show k = xs.length + 1 by omega)
        have hi1 : ¬ ((k : Nat) : Int) ≤ (xs.length : Int) := by omega
        go_wp2
        go_ret2
        exact ⟨by rw [← HF.out, ← HK.out]; rfl, hd.below _⟩

end Go.Proofs.Ytcdiicckngndcab
