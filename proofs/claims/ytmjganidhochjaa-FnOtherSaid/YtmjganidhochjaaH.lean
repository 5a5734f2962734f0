/-
  Contracts of the model's l1Two, RelEither, RelBoth, l1Other, RelOther, l1Below, RelBelow; for lists of at most 2^20 numbers.
-/
import Derived.Test.YtmjganidhochjaaG
namespace Go.Proofs.Ytmjganidhochjaa
open Go.RowKit

/-- two relations on as many points -/
def twoIn (xs ys : List Int) : Bool := relIn xs && relIn ys && decide (xs.length = ys.length)
def eitherL (xs ys : List Int) : List Int := zipI (bits .or .i64) xs ys
def bothL (xs ys : List Int) : List Int := zipI (bits .and .i64) xs ys

theorem twoIn_yes {xs ys : List Int} (h : twoIn xs ys = true) : relIn xs = true ∧ relIn ys = true ∧ xs.length = ys.length := by
  unfold twoIn at h
  rw [Bool.and_eq_true, Bool.and_eq_true] at h
  exact ⟨h.1.1, h.1.2, of_decide_eq_true h.2⟩

theorem l1Two_any (ao bo : Option Addr) (ca cb : Nat) (xs ys : List Int) (w : World) (hl : xs.length ≤ 1048576) (hl2 : ys.length ≤ 1048576) (hx : Rd w ao xs) (hy : Rd w bo ys) :
    Calls Try.prog 25 #[.slice ao xs.length ca, .slice bo ys.length cb] w fun e w' => e = .returned (.bool (twoIn xs ys)) ∧ Dn w w' := by
  have h1 := specRelIn_any ao ca xs w hl hx
  cases hp : relIn xs with
  | false =>
    rw [hp] at h1
    have H1 := Lib.hid h1
    have HP := Lib.hid hp
    clear h1 hp
    go_enter Try.func25, Try.ntmps25
    go_wp2_with (go_at_call 18; refine H1.out.mono ?_; rintro e w1 ⟨rfl, hd⟩)
    go_ret
    exact ⟨by simp [twoIn, HP.out], hd⟩
  | true =>
    rw [hp] at h1
    have H1 := Lib.hid h1
    have HP := Lib.hid hp
    clear h1 hp
    cases hq : relIn ys with
    | false =>
      have HQ := Lib.hid hq
      clear hq
      go_enter Try.func25, Try.ntmps25
      go_wp2_with fail
      refine H1.out.mono ?_
      rintro e w1 ⟨rfl, hd⟩
      go_wp2_with fail
      refine (specRelIn_any bo cb ys w1 hl2 (hd.rd hy)).mono ?_
      rw [HQ.out]
      rintro e w2 ⟨rfl, hd2⟩
      go_wp2
      go_ret
      exact ⟨by simp [twoIn, HQ.out], hd.trans hd2⟩
    | true =>
      have HQ := Lib.hid hq
      clear hq
      by_cases hn : xs.length = ys.length
      · have e1 : ((xs.length : Int) == (ys.length : Int)) = true := by simp [hn]
        have HN := Lib.hid hn
        clear hn
        go_enter Try.func25, Try.ntmps25
        go_wp2_with fail
        refine H1.out.mono ?_
        rintro e w1 ⟨rfl, hd⟩
        go_wp2_with fail
        refine (specRelIn_any bo cb ys w1 hl2 (hd.rd hy)).mono ?_
        rw [HQ.out]
        rintro e w2 ⟨rfl, hd2⟩
        go_wp2
        go_ret
        exact ⟨by simp [twoIn, HQ.out, HP.out, HN.out], hd.trans hd2⟩
      · have e1 : ((xs.length : Int) == (ys.length : Int)) = false := by simp; omega
        go_enter Try.func25, Try.ntmps25
        go_wp2_with fail
        refine H1.out.mono ?_
        rintro e w1 ⟨rfl, hd⟩
        go_wp2_with fail
        refine (specRelIn_any bo cb ys w1 hl2 (hd.rd hy)).mono ?_
        rw [HQ.out]
        rintro e w2 ⟨rfl, hd2⟩
        go_wp2
        go_ret
        exact ⟨by simp [twoIn, hn], hd.trans hd2⟩

/-- a list, or none -/
def ifR (b : Bool) (r : List Int) : List Int := if b then r else []

/-- what a call gives that answers a list of its own and a bool -/
def Gave (w : World) (r : List Int) (ok : Bool) (e : Ending) (w' : World) : Prop :=
  ∃ v, e = .returned (.tuple #[v, .bool ok]) ∧ w'.ownsRow w.heap.size 3 1 v r.length (r.map (Value.int .i64)) ∧ Below w.heap.size w w'

set_option maxHeartbeats 1000000 in
theorem specRelEither_any (ao bo : Option Addr) (ca cb : Nat) (xs ys : List Int) (w : World) (hl : xs.length ≤ 1048576) (hl2 : ys.length ≤ 1048576) (hx : Rd w ao xs) (hy : Rd w bo ys) :
    Calls Try.prog 12 #[.slice ao xs.length ca, .slice bo ys.length cb] w (Gave w (ifR (twoIn xs ys) (eitherL xs ys)) (twoIn xs ys)) := by
  have h1 := fun wz hbz => l1Two_any ao bo ca cb xs ys wz hl hl2 (hx.below hbz) (hy.below hbz)
  cases hp : twoIn xs ys with
  | false =>
    rw [hp] at h1
    have H1 := Lib.hid h1
    clear h1 hp
    go_enter Try.func12, Try.ntmps12
    go_wp2_with (go_at_call 25; refine (H1.out _ (below_one _ _)).mono ?_; rintro e w1 ⟨rfl, hd⟩)
    go_ret2
    exact ⟨.slice (some ⟨w.heap.size, 0, none⟩) 0 0, rfl, hd.row (row_lit0 w), (below_one _ _).trans (hd.below _)⟩
  | true =>
    rw [hp] at h1
    obtain ⟨hp1, hp2, hn⟩ := twoIn_yes hp
    have h4 := (relIn_len hp1).2
    have H1 := Lib.hid h1
    have HN := Lib.hid hn
    clear h1 hp hp1 hp2 hn
    obtain ⟨i0, hi, hz0, hz1, hz2⟩ := info_parts Try.info3
    go_enter Try.func12, Try.ntmps12
    go_wp2_with (go_at_call 25; refine (H1.out _ (below_one _ _)).mono ?_; rintro e w1 ⟨rfl, hd⟩)
    go_loopw [6, 7] (fun v i wr => ∃ k : Nat, k ≤ xs.length ∧ i = .int .i64 k ∧ wr.ownsRow w.heap.size 3 1 v k (((eitherL xs ys).take k).map (Value.int .i64)) ∧ Below w.heap.size w wr)
      (fun _ i _ => xs.length - (intOf i).toNat)
    case atStart => exact ⟨0, Nat.zero_le _, rfl, hd.row (row_lit0 w), (below_one _ _).trans (hd.below _)⟩
    case round =>
      obtain ⟨k, hk, rfl, ho, hb⟩ := hrel
      by_cases hlt : k < xs.length
      · have hlt2 : k < ys.length := by rw [← HN.out]; exact hlt
        obtain ⟨b, off, x, hxk, rfl, hbl, hc1⟩ := (hx.below hb).get k hlt
        obtain ⟨b2, off2, y, hyk, rfl, hbl2, hc2⟩ := (hy.below hb).get k hlt2
        have hi1 : ((k : Nat) : Int) < (xs.length : Int) := by omega
        have hi2 : ((k : Nat) : Int) < (ys.length : Int) := by omega
        have HX := Lib.hid hxk
        have HY := Lib.hid hyk
        clear hx hy hxk hyk hd
        go_wp2
        go_region_law (refine step_append_own rfl (.tmp 20) (.tmp 30) 23 rfl w.heap.size 3 i0 (.int .i64 0) 1 8 Try.underlying23 hi hz0 hz1 hz2 rfl (by decide) _ _ _ rfl (ho.alloc _).drew ⟨wr.heap.size, 0, none⟩ 1 1 [.int .i64 (bits .or .i64 x y)] rfl rfl (cell_one_new _ _ _) (by simp [Value.oneCell']) (by unfold maxLen; omega) (by omega) (by have := hb.size; simp; omega) ?_; intro v' w1 hown' hgrow)
        all_goals
          have hb' := own_step ho hb hb.size _ hgrow
          rw [← List.map_singleton (f := Value.int .i64), ← List.map_append, eitherL, ← zip_take _ _ _ _ _ _ HX.out HY.out] at hown'
          clear ho hb hgrow hc1 hc2
          go_wp2
          go_roundw
          case rel => exact ⟨k + 1, by omega, by go_num, hown', hb'⟩
          case measure => simp [intOf]; omega
      · go_wp2
        go_ret2
        obtain rfl : k = xs.length := by omega
        have hz : (eitherL xs ys).length = xs.length := by unfold eitherL zipI; rw [List.length_zipWith, HN.out, Nat.min_self]
        rw [List.take_of_length_le (by omega)] at ho
        exact ⟨_, rfl, by rw [show (ifR true (eitherL xs ys)).length = xs.length from hz]; exact ho, hb⟩

/-- all points but those of a row -/
def otherL (xs : List Int) : List Int := xs.map fun x => bits .andNot .i64 (2 ^ xs.length - 1) x

theorem other_take (xs : List Int) (k : Nat) (x : Int) (h : xs[k]? = some x) : (otherL xs).take (k + 1) = (otherL xs).take k ++ [bits .andNot .i64 (2 ^ xs.length - 1) x] := by
  have h2 : (otherL xs)[k]? = some (bits .andNot .i64 (2 ^ xs.length - 1) x) := by unfold otherL; rw [List.getElem?_map, h]; rfl
  rw [List.take_add_one, h2]
  rfl

theorem wrap_top (n : Nat) (h1 : 1 ≤ n) (h2 : n ≤ 4) : IntKind.i64.wrap (IntKind.i64.wrap (2 ^ n) - 1) = 2 ^ n - 1 := by
  rcases (by omega : n = 1 ∨ n = 2 ∨ n = 3 ∨ n = 4) with rfl | rfl | rfl | rfl <;> decide +kernel

set_option maxHeartbeats 1000000 in
theorem l1Other_any (ao : Option Addr) (ca : Nat) (xs : List Int) (w : World) (h1 : 1 ≤ xs.length) (h4 : xs.length ≤ 4) (hx : Rd w ao xs) :
    Calls Try.prog 19 #[.slice ao xs.length ca] w fun e w' => ∃ v, e = .returned v ∧
      w'.ownsRow w.heap.size 3 1 v xs.length ((otherL xs).map (Value.int .i64)) ∧ Below w.heap.size w w' := by
  obtain ⟨i0, hi, hz0, hz1, hz2⟩ := info_parts Try.info3
  go_enter Try.func19, Try.ntmps19
  go_wp2
  go_loopw [3, 4] (fun v i wr => ∃ k : Nat, k ≤ xs.length ∧ i = .int .i64 k ∧ wr.ownsRow w.heap.size 3 1 v k (((otherL xs).take k).map (Value.int .i64)) ∧ Below w.heap.size w wr)
    (fun _ i _ => xs.length - (intOf i).toNat)
  case atStart => exact ⟨0, Nat.zero_le _, rfl, row_lit0 w, below_one _ _⟩
  case round =>
    obtain ⟨k, hk, rfl, ho, hb⟩ := hrel
    by_cases hlt : k < xs.length
    · obtain ⟨b, off, x, hxk, rfl, hbl, hc1⟩ := (hx.below hb).get k hlt
      have hi1 : ((k : Nat) : Int) < (xs.length : Int) := by omega
      have HX := Lib.hid hxk
      clear hx hxk
      go_wp2
      go_region_law (refine step_append_own rfl (.tmp 12) (.tmp 22) 23 rfl w.heap.size 3 i0 (.int .i64 0) 1 8 Try.underlying23 hi hz0 hz1 hz2 rfl (by decide) _ _ _ rfl (ho.alloc _).drew ⟨wr.heap.size, 0, none⟩ 1 1 [_] rfl rfl (cell_one_new _ _ _) (by simp [Value.oneCell']) (by unfold maxLen; omega) (by omega) (by have := hb.size; simp; omega) ?_; intro v' w1 hown' hgrow)
      all_goals
        have hb' := own_step ho hb hb.size _ hgrow
        rw [← List.map_singleton (f := Value.int .i64), ← List.map_append, wrap_top _ h1 h4, ← other_take _ _ _ HX.out] at hown'
        clear ho hb hgrow hc1
        go_wp2
        go_roundw
        case rel => exact ⟨k + 1, by omega, by go_num, hown', hb'⟩
        case measure => simp [intOf]; omega
    · go_wp2
      go_ret
      obtain rfl : k = xs.length := by omega
      rw [List.take_of_length_le (by unfold otherL; simp)] at ho
      exact ⟨_, rfl, ho, hb⟩

theorem specRelOther_any (ao : Option Addr) (ca : Nat) (xs : List Int) (w : World) (hl : xs.length ≤ 1048576) (hx : Rd w ao xs) :
    Calls Try.prog 7 #[.slice ao xs.length ca] w (Gave w (ifR (relIn xs) (otherL xs)) (relIn xs)) := by
  have h1 := specRelIn_any ao ca xs w hl hx
  cases hp : relIn xs with
  | false =>
    rw [hp] at h1
    have H1 := Lib.hid h1
    clear h1 hp
    go_enter Try.func7, Try.ntmps7
    go_wp2_with (go_at_call 18; refine H1.out.mono ?_; rintro e w1 ⟨rfl, hd⟩)
    go_ret2
    have hh : w.heap.size = w1.heap.size := by rw [hd.heap]
    exact ⟨_, rfl, by rw [hh]; exact row_lit0 w1, (hd.below _).alloc (by omega) _⟩
  | true =>
    rw [hp] at h1
    have h4 := relIn_len hp
    have H1 := Lib.hid h1
    clear h1 hp
    go_enter Try.func7, Try.ntmps7
    go_wp2_with fail
    refine H1.out.mono ?_
    rintro e w1 ⟨rfl, hd⟩
    go_wp2_with fail
    refine (l1Other_any ao ca xs w1 h4.1 h4.2 (hd.rd hx)).mono ?_
    rintro e w2 ⟨v, rfl, ho, hb⟩
    go_wp2
    go_ret2
    have hh : w1.heap.size = w.heap.size := by rw [hd.heap]
    rw [hh] at ho hb
    have hz : (otherL xs).length = xs.length := by unfold otherL; simp
    exact ⟨v, rfl, by rw [show (ifR true (otherL xs)).length = xs.length from hz]; exact ho, (hd.below _).trans hb⟩
end Go.Proofs.Ytmjganidhochjaa
