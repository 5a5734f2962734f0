/-
  Contracts of the model's l1Two, RelEither, RelBoth, l1Other, RelOther, l1Below, RelBelow; for lists of at most 2^20 numbers.
-/
import Derived.Test.YtebkeebgjjmdbaaGreatDoorG
namespace Go.Proofs.YtebkeebgjjmdbaaGreatDoor
open Go.RowKit

/-- two relations on as many points -/
def twoIn (xs ys : List Int) : Bool := relIn xs && relIn ys && decide (xs.length = ys.length)
def eitherL (xs ys : List Int) : List Int := zipI (bits .or .i64) xs ys
def bothL (xs ys : List Int) : List Int := zipI (bits .and .i64) xs ys

theorem twoIn_yes {xs ys : List Int} (h : twoIn xs ys = true) : relIn xs = true ∧ relIn ys = true ∧ xs.length = ys.length := by
  unfold twoIn at h
  rw [Bool.and_eq_true, Bool.and_eq_true] at h
  exact ⟨h.1.1, h.1.2, of_decide_eq_true h.2⟩

/-- a list, or none -/
def ifR (b : Bool) (r : List Int) : List Int := if b then r else []

/-- what a call gives that answers a list of its own and a bool -/
def Gave (w : World) (r : List Int) (ok : Bool) (e : Ending) (w' : World) : Prop :=
  ∃ v, e = .returned (.tuple #[v, .bool ok]) ∧ w'.ownsRow w.heap.size 3 1 v r.length (r.map (Value.int .i64)) ∧ Below w.heap.size w w'

/-- all points but those of a row -/
def otherL (xs : List Int) : List Int := xs.map fun x => bits .andNot .i64 (2 ^ xs.length - 1) x

theorem other_take (xs : List Int) (k : Nat) (x : Int) (h : xs[k]? = some x) : (otherL xs).take (k + 1) = (otherL xs).take k ++ [bits .andNot .i64 (2 ^ xs.length - 1) x] := by
  have h2 : (otherL xs)[k]? = some (bits .andNot .i64 (2 ^ xs.length - 1) x) := by unfold otherL; rw [List.getElem?_map, h]; rfl
  rw [List.take_add_one, h2]
  rfl

theorem wrap_top (n : Nat) (h1 : 1 ≤ n) (h2 : n ≤ 4) : IntKind.i64.wrap (IntKind.i64.wrap (2 ^ n) - 1) = 2 ^ n - 1 := by
  rcases (by omega : n = 1 ∨ n = 2 ∨ n = 3 ∨ n = 4) with rfl | rfl | rfl | rfl <;> decide +kernel

set_option maxHeartbeats 1000000 in
theorem l1Other_any (ao : Option Addr) (ca : Nat) (xs : List Int) (w : World) (h1 : 1 ≤ xs.length) (h4 : xs.length ≤ 4) (hx : Rd w ao xs) :
    Calls Tryz.prog 57 #[.slice ao xs.length ca] w fun e w' => ∃ v, e = .returned v ∧
      w'.ownsRow w.heap.size 3 1 v xs.length ((otherL xs).map (Value.int .i64)) ∧ Below w.heap.size w w' := by
  obtain ⟨i0, hi, hz0, hz1, hz2⟩ := info_parts Tryz.info3
  go_enter Tryz.func57, Tryz.ntmps57
  go_wp2
  go_loopw [3, 4] (fun v i wr => ∃ k : Nat, k ≤ xs.length ∧ i = .int .i64 k ∧ wr.ownsRow w.heap.size 3 1 v k (((otherL xs).take k).map (Value.int .i64)) ∧ Below w.heap.size w wr)
    (fun _ i _ => xs.length - (intOf i).toNat)
  case atStart => exact ⟨0, Nat.zero_le _, rfl, row_lit0 w, below_one _ _⟩
  case round =>
    obtain ⟨k, hk, rfl, ho, hb⟩ := hrel
    by_cases hlt : k < xs.length
    · obtain ⟨b, off, x, hxk, rfl, hbl, hc1⟩ := (hx.below hb).get k hlt
      have hi1 : ((k : Nat) : Int) < (xs.length : Int) := by omega
      have HX := Lib.hid hxk
      clear hx hxk
      go_wp2
      go_region_law (refine step_append_own rfl (.tmp 12) (.tmp 22) 23 rfl w.heap.size 3 i0 (.int .i64 0) 1 8 Tryz.underlying23 hi hz0 hz1 hz2 rfl (by decide) _ _ _ rfl (ho.alloc _).drew ⟨wr.heap.size, 0, none⟩ 1 1 [_] rfl rfl (cell_one_new _ _ _) (by simp [Value.oneCell']) (by unfold maxLen; omega) (by omega) (by have := hb.size; simp; omega) ?_; intro v' w1 hown' hgrow)
      all_goals
        have hb' := own_step ho hb hb.size _ hgrow
        rw [← List.map_singleton (f := Value.int .i64), ← List.map_append, wrap_top _ h1 h4, ← other_take _ _ _ HX.out] at hown'
        clear ho hb hgrow hc1
        go_wp2
        go_roundw
        case rel => exact ⟨k + 1, by omega, by go_num, hown', hb'⟩
        case measure => simp [intOf]; omega
    · go_wp2
      go_ret
      obtain rfl : k = xs.length := by omega
      rw [List.take_of_length_le (by unfold otherL; simp)] at ho
      exact ⟨_, rfl, ho, hb⟩

end Go.Proofs.YtebkeebgjjmdbaaGreatDoor
