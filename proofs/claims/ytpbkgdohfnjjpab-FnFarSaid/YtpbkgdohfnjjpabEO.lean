/-
  Distances: the program's and the model's CompFar; for lists of at most 2^20 numbers.
-/
import Derived.Test.YtpbkgdohfnjjpabEH
import Derived.Test.YtpbkgdohfnjjpabEN
namespace Go.Proofs.Ytpbkgdohfnjjpab
open Go.RowKit

theorem fieldPow (v : Value) (a : Int) (w : World) : Sem.run Try.prog (Instr.field 55 (.agg #[v, .int .i64 a]) 0) w = .ok v w := by kernel_rfl
theorem isPointE_any (x n : Int) (w : World) :
    Calls Try.prog 53 #[.int .i64 x, .int .i64 n] w fun e w' => e = .returned (.bool (decide (0 ≤ x ∧ x < n))) ∧ w = w' := by
  go_enter Try.func53, Try.ntmps53
  by_cases h : 0 ≤ x
  · by_cases h2 : x < n
    · go_wp2
      go_ret
      exact ⟨by simp [h, h2], rfl⟩
    · go_wp2
      go_ret
      exact ⟨by simp [h2], rfl⟩
  · go_wp2
    go_ret
    exact ⟨by simp; omega, rfl⟩
/-- a point among n -/
def ptIn (x : Int) (n : Nat) : Bool := decide (0 ≤ x ∧ x < n)
theorem isPointP (x : Int) (n : Nat) (w : World) :
    Calls Try.prog 53 #[.int .i64 x, .int .i64 n] w fun e w' => e = .returned (.bool (ptIn x n)) ∧ w = w' := isPointE_any x n w
theorem ptIn_eq (x : Int) (n : Nat) : inB x 0 ((n : Int) - 1) = ptIn x n := by
  unfold inB ptIn
  by_cases h : 0 ≤ x ∧ x < n
  · rw [decide_eq_true h, decide_eq_true (by omega)]
  · rw [decide_eq_false h, decide_eq_false (by omega)]
/-- the distance, as CompFar tells it -/
def farR (xs : List Int) (x y : Int) : Option Nat := if relIn xs && ptIn x xs.length && ptIn y xs.length then farO xs x.toNat y.toNat else none
def FarGave (xs : List Int) (x y : Int) (w : World) (e : Ending) (w' : World) : Prop :=
  e = .returned (.tuple #[.int .i64 (((farR xs x y).getD 0 : Nat) : Int), .bool (farR xs x y).isSome]) ∧ Below w.heap.size w w'
theorem farR_bad {xs : List Int} {x y : Int} (h : (relIn xs && ptIn x xs.length && ptIn y xs.length) = false) : farR xs x y = none := by
  unfold farR
  rw [h]
  rfl

set_option maxHeartbeats 4000000 in
theorem implFar_yes (ao : Option Addr) (ca : Nat) (xs : List Int) (x y : Nat) (w : World) (hp : relIn xs = true) (hxl : x < xs.length) (hyl : y < xs.length) (hx : Rd w ao xs) :
    Calls Try.prog 19 #[.slice ao xs.length ca, .int .i64 x, .int .i64 y] w (FarGave xs x y w) := by
  have h4 := (relIn_len hp).2
  have hpx : ptIn (x : Int) xs.length = true := decide_eq_true (by omega)
  have hpy : ptIn (y : Int) xs.length = true := decide_eq_true (by omega)
  have hfar : farR xs x y = farO xs x y := by
    unfold farR
    rw [hp, hpx, hpy]
    rfl
  have R := Lib.hid (And.intro (Rl.of hp) hfar)
  have HP := Lib.hid hp
  clear hp hfar
  go_enter Try.func19, Try.ntmps19
  go_wp2_with fail
  refine (relationFrom_yes _ _ _ _ HP.out hx).mono ?_
  rintro e w1 ⟨rfl, hb⟩
  have x1 := RelAt.new w1 xs
  have p0 := x1.cell0
  have B1 := hb.alloc hb.size (.cells #[.int .i64 xs.length, .int .i64 (rowAt xs 0), .int .i64 (rowAt xs 1), .int .i64 (rowAt xs 2), .int .i64 (rowAt xs 3)] 50)
  clear hb hx
  go_wp2_with (go_at_call 53; refine (isPointP _ _ _).mono ?_; rintro e w' ⟨rfl, rfl⟩)
  refine (powersOf_any R.out.1 _).mono ?_
  rintro e w2 ⟨v, m, a, hr, rfl, ho, hb2⟩
  obtain ⟨g, cap, rfl, _, _⟩ := pow_form ho (by omega)
  have hm := new_le R.out.1 m hr.new
  have B2 := B1.trans (hb2.mono B1.size)
  have ho2 := own_mono ho (Nat.zero_le _)
  have HR := Lib.hid hr
  clear hb2 B1 hr ho x1 p0 hpx hpy
  have hF := fun w => fieldPow (.slice (some ⟨g, 0, none⟩) (m + 1) cap) a w
  go_wp2
  go_loopw [37, 10, 11] (fun i _ _ W => ∃ j : Nat, j ≤ m + 1 ∧ i = .int .i64 j ∧ (∀ t, t < j → hB (powL xs t) x y = false) ∧ W.ownsRow 0 50 5 (.slice (some ⟨g, 0, none⟩) (m + 1) cap) (m + 1) (powC xs (m + 1)) ∧ Below w.heap.size w W)
    (fun i _ _ _ => m + 1 - (intOf i).toNat)
  case atStart => exact ⟨0, Nat.zero_le _, rfl, fun t ht => by omega, ho2, B2⟩
  case round =>
    clear ho2 B2 hF
    obtain ⟨j, hj, rfl, hne, ho, hB7⟩ := hrel
    have HNE := Lib.hid hne
    clear hne
    by_cases hlt : j < m + 1
    · obtain ⟨c0, c1, c2, c3, c4⟩ := pow_cells ho j hlt
      obtain ⟨Q, hQ⟩ : ∃ Q, powL xs j = Q := ⟨_, rfl⟩
      rw [hQ] at c0 c1 c2 c3 c4
      have hrow := (RelAt.new wr Q).row x (by omega)
      have hx4 : (x : Int) < 4 := by omega
      have hi1 : (j : Int) < (m : Int) + 1 := by omega
      have hi2 : (j : Int) < ((m + 1 : Nat) : Int) := by omega
      have hgW := (ho.lt g rfl).2
      obtain ⟨s, hs⟩ : ∃ s, rowAt Q x = s := ⟨_, rfl⟩
      rw [hs] at hrow
      have HQ := Lib.hid (And.intro hQ hs)
      clear hQ hs
      cases hb : hasB s y with
      | true =>
        have HB := Lib.hid hb
        go_wp2_with (go_at_call 54; refine (has_any _ y (by omega) _).mono ?_; rintro e w' ⟨rfl, rfl⟩)
        go_ret2
        refine ⟨?_, hB7.alloc hB7.size _⟩
        have hk : hB (powL xs j) x y = true := by unfold hB; rw [HQ.out.1, HQ.out.2]; exact HB.out
        rw [R.out.2, far_some R.out.1 x y hxl hyl j hk HNE.out]
        rfl
      | false =>
        have HB := Lib.hid hb
        go_wp2_with (go_at_call 54; refine (has_any _ y (by omega) _).mono ?_; rintro e w' ⟨rfl, rfl⟩)
        go_roundw
        case rel =>
          refine ⟨j + 1, by omega, by go_num, ?_, ho.alloc _, hB7.alloc hB7.size _⟩
          intro t ht
          by_cases e : t = j
          · subst e
            unfold hB
            rw [HQ.out.1, HQ.out.2]
            exact HB.out
          · exact HNE.out t (by omega)
        case measure => simp [intOf]; omega
    · obtain rfl : j = m + 1 := by omega
      clear hlt
      go_wp2
      go_ret2
      refine ⟨?_, hB7⟩
      rw [R.out.2, far_none' x y HR.out (fun t ht => HNE.out t (by omega))]
      rfl
end Go.Proofs.Ytpbkgdohfnjjpab
