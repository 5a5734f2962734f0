/-
  The iterator of a relation's pairs: its contract as a range over a function asks it; for relations of at most 4 points.
-/
import Derived.RangeFuncNested
import Derived.RangeFuncBound
import Derived.RangeFuncCalls
import Derived.RangeFuncLeaves
import Derived.Shelf.Abstract
import Derived.Shelf.RegionOpen
import Derived.WalkKit
import Derived.OwnWalkIn
import Derived.TacticsInMore
import Derived.LoopNIn
import Derived.LoopIn
import Derived.Test.YtcdiicckngndcabT
namespace Go.Proofs.Ytcdiicckngndcab
open Go.RowKit Go.Shelf
attribute [local go_sem] Oper.semAt_some

/-- whether a set has a point, as the program asks it -/
def hasB (s : Int) (j : Nat) : Bool := bits .and .i64 s (pt j) != 0

theorem has_any (s : Int) (j : Nat) (h : j < 4) (w : World) : Calls Try.prog 99 #[.int .i64 s, .int .i64 j] w fun e w' => e = .returned (.bool (hasB s j)) ∧ w = w' := by
  go_enter Try.func99, Try.ntmps99
  go_wp2_with (go_at_call 102; refine (onePoint_any j h _).mono ?_; rintro e w1 ⟨rfl, rfl⟩)
  go_ret
  exact ⟨rfl, rfl⟩

/-- all pairs of n points, in the order of lists -/
def allP (n : Nat) : List (Fin n × Fin n) := (List.finRange n).flatMap fun x => (List.finRange n).map fun y => (x, y)
/-- the pairs that a relation has, among the first m -/
def pairsTo (n : Nat) (xs : List Int) (m : Nat) : List (Fin n × Fin n) := ((allP n).take m).filter fun p => hasB (rowAt xs p.1.val) p.2.val
theorem allP_at : ∀ n : Fin 5, ∀ i j : Fin n.val, (allP n.val)[i.val * n.val + j.val]? = some (i, j) := by decide +kernel
theorem allP_len : ∀ n : Fin 5, (allP n.val).length = n.val * n.val := by decide +kernel
theorem pairsTo_step (n : Nat) (h4 : n ≤ 4) (xs : List Int) (i j : Fin n) :
    pairsTo n xs (i.val * n + j.val + 1) = pairsTo n xs (i.val * n + j.val) ++ (if hasB (rowAt xs i.val) j.val then [(i, j)] else []) := by
  have h := allP_at ⟨n, by omega⟩ i j
  unfold pairsTo
  rw [List.take_add_one, h, List.filter_append]
  congr 1
  by_cases hb : hasB (rowAt xs i.val) j.val = true <;> simp [hb]
theorem pairsTo_le (n : Nat) (xs : List Int) (m : Nat) : (pairsTo n xs m).length ≤ m := by
  unfold pairsTo
  exact Nat.le_trans (List.length_filter_le _ _) (by simp; omega)
/-- the pairs of a relation -/
def pairsOf (xs : List Int) : List (Fin xs.length × Fin xs.length) := pairsTo xs.length xs (xs.length * xs.length)

/-- block B lies as it lay -/
def KeepB (B : Nat) (W W' : World) : Prop := W'.heap[B]? = W.heap[B]?
theorem KeepB.t {B : Nat} {a b c : World} (h : KeepB B a b) (k : KeepB B b c) : KeepB B a c := Eq.trans k h
theorem KeepB.b {B : Nat} {w : World} (hB : B < w.heap.size) (W : World) (l : Nat) (o o' : Obj) (hl : w.heap.size ≤ l) (_ : W.heap[l]? = some o) (_ : o.isCells = false) (_ : o.isWalk = false) : KeepB B W (W.putObj l o') :=
  World.putObj_heap_other (by omega)
theorem RelAt.keep {W W' : World} {B : Nat} {xs : List Int} (h : RelAt W B xs) (k : KeepB B W W') : RelAt W' B xs := Eq.trans k h

abbrev encP {n : Nat} (p : Fin n × Fin n) : Array Value := #[.int .i64 (p.1.val : Int), .int .i64 (p.2.val : Int)]

set_option maxRecDepth 100000 in
set_option maxHeartbeats 4000000 in
theorem pairs1_in (n : Nat) (_hn : 1 ≤ n) (l B : Nat) (xs : List Int) (_h1 : 1 ≤ xs.length) (h4 : xs.length ≤ 4) (J Jx : List (Fin xs.length × Fin xs.length) → World → Prop)
    (hY : ∀ pre x W, J pre W → pre.length < xs.length * xs.length → YieldAt Fence.wide (n - 1) Try.prog l (encP x) W fun e W' =>
      (e = .returned (.bool true) ∧ J (pre ++ [x]) W' ∧ KeepB B W W') ∨ (e = .returned (.bool false) ∧ Jx (pre ++ [x]) W'))
    (W : World) (hr : RelAt W B xs) (h0 : J [] W) :
    CallsIn Fence.wide n Try.prog 98 #[.func (.yield l) #[] #[], .pointer (some ⟨B, 0, none⟩)] W fun e W' => (∃ v, e = .returned v) ∧
      ((∃ ys, ys = pairsOf xs ∧ J ys W') ∨ (∃ pre, True ∧ Jx pre W')) := by
  refine callsIn_of_wp Try.func98 rfl trivial ?_ rfl
  simp only [Try.ntmps98, List.size_toArray, List.length_cons, List.length_nil, Nat.reduceAdd, Nat.reduceSub, Array.replicate_succ, Array.replicate_zero, List.push_toArray, List.append_toArray, List.nil_append, List.cons_append]
  have hc0 := hr.cell0
  gi_wp2
  gi_loopw [7, 3] (fun i _ wr => ∃ k : Nat, k ≤ xs.length ∧ i = .int .i64 k ∧ J (pairsTo xs.length xs (k * xs.length)) wr ∧ RelAt wr B xs)
    (fun i _ _ => xs.length - (intOf i).toNat)
  case atStart => exact ⟨0, Nat.zero_le _, rfl, by simpa [pairsTo] using h0, hr⟩
  case round =>
    clear hc0 hr h0
    obtain ⟨i, hi, rfl, hJs, hr⟩ := hrel
    have hc0 := hr.cell0
    obtain ⟨wo, rfl⟩ : ∃ wo : World, wo = wr := ⟨_, rfl⟩
    by_cases hlt : i < xs.length
    · gi_wp2
      gi_loopw [12, 4] (fun j _ wr => ∃ k : Nat, k ≤ xs.length ∧ j = .int .i64 k ∧ J (pairsTo xs.length xs (i * xs.length + k)) wr ∧ RelAt wr B xs)
        (fun j _ _ => xs.length - (intOf j).toNat)
      case atStart => exact ⟨0, Nat.zero_le _, rfl, hJs, hr⟩
      case round =>
        clear hc0 hr hJs
        obtain ⟨j, hj, rfl, hJs, hr⟩ := hrel
        have hc0 := hr.cell0
        have hc1 := hr.row i (by omega)
        have hq : (i : Int) < 4 := by omega
        by_cases hlj : j < xs.length
        · have hst := pairsTo_step xs.length h4 xs ⟨i, hlt⟩ ⟨j, hlj⟩
          have HST := Lib.hid hst
          clear hst
          have hmul : i * xs.length + j < xs.length * xs.length := by
            have h1 : i * xs.length + xs.length ≤ xs.length * xs.length := by
              have := Nat.mul_le_mul_right xs.length (show i + 1 ≤ xs.length by omega)
              rw [Nat.succ_mul] at this
              exact this
            omega
          cases hb : hasB (rowAt xs i) j with
          | false =>
            gi_wp2_with (refine ⟨trivial, ?_⟩; gi_at_call 99; refine (callsIn_wide.2 (has_any _ j (by omega) _)).mono ?_; rintro e w2 ⟨rfl, rfl⟩)
            refine ⟨fun _ h => (by cases h), ?_⟩
            gi_wp2
            go_roundw
            case rel => exact ⟨j + 1, by omega, by go_num, by have := HST.out; rw [hb] at this; simp only [Bool.false_eq_true, if_false, List.append_nil] at this; rw [← Nat.add_assoc, this]; exact hJs, hr⟩
            case measure => simp [intOf]; omega
          | true =>
            obtain ⟨fn, tmps, assign, body, hy, hR⟩ := hY _ (⟨i, hlt⟩, ⟨j, hlj⟩) wr hJs (Nat.lt_of_le_of_lt (pairsTo_le _ _ _) hmul)
            dsimp only [encP] at hy
            gi_wp2_with (refine ⟨trivial, ?_⟩; gi_at_call 99; refine (callsIn_wide.2 (has_any _ j (by omega) _)).mono ?_; rintro e w2 ⟨rfl, rfl⟩)
            refine hR.mono ?_
            have hst := HST.out
            rw [hb, if_pos rfl] at hst
            rw [← hst]
            have HS2 := Lib.hid hst
            clear hst
            rintro e W3 (⟨rfl, hJ3, hk3⟩ | ⟨rfl, hJx3⟩)
            · have hr3 := hr.keep hk3
              clear hr hc0 hc1
              have hc0 := hr3.cell0
              gi_wp2
              go_roundw
              case rel => exact ⟨j + 1, by omega, by go_num, by rw [← Nat.add_assoc]; exact hJ3, hr3⟩
              case measure => simp [intOf]; omega
            · gi_wp2
              refine bodyPost_ret (results_none rfl _ _ _) rfl ?_
              exact ⟨⟨_, rfl⟩, .inr ⟨_, trivial, hJx3⟩⟩
        · obtain rfl : j = xs.length := by omega
          gi_wp2
          go_roundw
          case rel => exact ⟨i + 1, by omega, by go_num, by rw [Nat.succ_mul]; exact hJs, hr⟩
          case measure => simp [intOf]; omega
    · obtain rfl : i = xs.length := by omega
      gi_wp2
      go_end0
      exact ⟨⟨_, rfl⟩, .inl ⟨_, rfl, hJs⟩⟩

/-- the iterator as a range over a function asks it -/
theorem pairs_stops (n : Nat) (hn : 1 ≤ n) (B : Nat) (xs : List Int) (h1 : 1 ≤ xs.length) (h4 : xs.length ≤ 4) (w : World) (hr : RelAt w B xs) :
    SeqStopsK Fence.wide n Try.prog 98 #[.pointer (some ⟨B, 0, none⟩)] (encP (n := xs.length)) (KeepB B) (fun ys => ys = pairsOf xs) (fun _ => True) (xs.length * xs.length) w := fun l J Jx W hW _ _ hY h0 =>
  pairs1_in n hn l B xs h1 h4 J Jx hY W (hr.below hW hr.lt) h0

theorem pairs_any (xs : List Int) (w : World) :
    Calls Try.prog 83 #[relOf xs] w fun e w' => e = .returned (.func (.func 98) #[] #[.pointer (some ⟨w.heap.size, 0, none⟩)]) ∧
      w.alloc (.cells #[.int .i64 xs.length, .int .i64 (rowAt xs 0), .int .i64 (rowAt xs 1), .int .i64 (rowAt xs 2), .int .i64 (rowAt xs 3)] 47) = w' := by
  go_enter Try.func83, Try.ntmps83
  go_wp2
  go_ret
  exact ⟨rfl, rfl⟩
end Go.Proofs.Ytcdiicckngndcab
