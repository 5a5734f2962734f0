/-
  The ends of a relation's pairs: contracts of the model's l1Image and RelEnds; for lists of at most 2^20 numbers.
-/
import Derived.RangeFuncNested
import Derived.RangeFuncBound
import Derived.RangeFuncCalls
import Derived.RangeFuncLeaves
import Derived.Shelf.Abstract
import Derived.Shelf.RegionOpen
import Derived.WalkKit
import Derived.OwnWalkIn
import Derived.TacticsInMore
import Derived.LoopNIn
import Derived.LoopIn
import Derived.Test.YthdnpcpimggjnaaGreatDoorT
namespace Go.Proofs.YthdnpcpimggjnaaGreatDoor
open Go.RowKit Go.Shelf
attribute [local go_sem] Oper.semAt_some

/-- whether a set has a point, as the program asks it -/
def hasB (s : Int) (j : Nat) : Bool := bits .and .i64 s (pt j) != 0

theorem has_any (s : Int) (j : Nat) (h : j < 4) (w : World) : Calls Tryz.prog 236 #[.int .i64 s, .int .i64 j] w fun e w' => e = .returned (.bool (hasB s j)) ∧ w = w' := by
  go_enter Tryz.func236, Tryz.ntmps236
  go_wp2_with (go_at_call 195; refine (onePoint_any j h _).mono ?_; rintro e w1 ⟨rfl, rfl⟩)
  go_ret
  exact ⟨rfl, rfl⟩

/-- all pairs of n points, in the order of lists -/
def allP (n : Nat) : List (Fin n × Fin n) := (List.finRange n).flatMap fun x => (List.finRange n).map fun y => (x, y)
/-- the pairs that a relation has, among the first m -/
def pairsTo (n : Nat) (xs : List Int) (m : Nat) : List (Fin n × Fin n) := ((allP n).take m).filter fun p => hasB (rowAt xs p.1.val) p.2.val
theorem allP_at : ∀ n : Fin 5, ∀ i j : Fin n.val, (allP n.val)[i.val * n.val + j.val]? = some (i, j) := by decide +kernel
theorem allP_len : ∀ n : Fin 5, (allP n.val).length = n.val * n.val := by decide +kernel
theorem pairsTo_step (n : Nat) (h4 : n ≤ 4) (xs : List Int) (i j : Fin n) :
    pairsTo n xs (i.val * n + j.val + 1) = pairsTo n xs (i.val * n + j.val) ++ (if hasB (rowAt xs i.val) j.val then [(i, j)] else []) := by
  have h := allP_at ⟨n, by omega⟩ i j
  unfold pairsTo
  rw [List.take_add_one, h, List.filter_append]
  congr 1
  by_cases hb : hasB (rowAt xs i.val) j.val = true <;> simp [hb]
theorem pairsTo_le (n : Nat) (xs : List Int) (m : Nat) : (pairsTo n xs m).length ≤ m := by
  unfold pairsTo
  exact Nat.le_trans (List.length_filter_le _ _) (by simp; omega)
/-- the pairs of a relation -/
def pairsOf (xs : List Int) : List (Fin xs.length × Fin xs.length) := pairsTo xs.length xs (xs.length * xs.length)

/-- block B lies as it lay -/
def KeepB (B : Nat) (W W' : World) : Prop := W'.heap[B]? = W.heap[B]?
theorem KeepB.t {B : Nat} {a b c : World} (h : KeepB B a b) (k : KeepB B b c) : KeepB B a c := Eq.trans k h
theorem KeepB.b {B : Nat} {w : World} (hB : B < w.heap.size) (W : World) (l : Nat) (o o' : Obj) (hl : w.heap.size ≤ l) (_ : W.heap[l]? = some o) (_ : o.isCells = false) (_ : o.isWalk = false) : KeepB B W (W.putObj l o') :=
  World.putObj_heap_other (by omega)
theorem RelAt.keep {W W' : World} {B : Nat} {xs : List Int} (h : RelAt W B xs) (k : KeepB B W W') : RelAt W' B xs := Eq.trans k h

abbrev encP {n : Nat} (p : Fin n × Fin n) : Array Value := #[.int .i64 (p.1.val : Int), .int .i64 (p.2.val : Int)]

set_option maxRecDepth 100000 in
set_option maxHeartbeats 4000000 in
theorem pairs1_in (n : Nat) (_hn : 1 ≤ n) (l B : Nat) (xs : List Int) (_h1 : 1 ≤ xs.length) (h4 : xs.length ≤ 4) (J Jx : List (Fin xs.length × Fin xs.length) → World → Prop)
    (hY : ∀ pre x W, J pre W → pre.length < xs.length * xs.length → YieldAt Fence.wide (n - 1) Tryz.prog l (encP x) W fun e W' =>
      (e = .returned (.bool true) ∧ J (pre ++ [x]) W' ∧ KeepB B W W') ∨ (e = .returned (.bool false) ∧ Jx (pre ++ [x]) W'))
    (W : World) (hr : RelAt W B xs) (h0 : J [] W) :
    CallsIn Fence.wide n Tryz.prog 240 #[.func (.yield l) #[] #[], .pointer (some ⟨B, 0, none⟩)] W fun e W' => (∃ v, e = .returned v) ∧
      ((∃ ys, ys = pairsOf xs ∧ J ys W') ∨ (∃ pre, True ∧ Jx pre W')) := by
  refine callsIn_of_wp Tryz.func240 rfl trivial ?_ rfl
  simp only [Tryz.ntmps240, List.size_toArray, List.length_cons, List.length_nil, Nat.reduceAdd, Nat.reduceSub, Array.replicate_succ, Array.replicate_zero, List.push_toArray, List.append_toArray, List.nil_append, List.cons_append]
  have hc0 := hr.cell0
  gi_wp2
  gi_loopw [7, 3] (fun i _ wr => ∃ k : Nat, k ≤ xs.length ∧ i = .int .i64 k ∧ J (pairsTo xs.length xs (k * xs.length)) wr ∧ RelAt wr B xs)
    (fun i _ _ => xs.length - (intOf i).toNat)
  case atStart => exact ⟨0, Nat.zero_le _, rfl, by simpa [pairsTo] using h0, hr⟩
  case round =>
    clear hc0 hr h0
    obtain ⟨i, hi, rfl, hJs, hr⟩ := hrel
    have hc0 := hr.cell0
    obtain ⟨wo, rfl⟩ : ∃ wo : World, wo = wr := ⟨_, rfl⟩
    by_cases hlt : i < xs.length
    · gi_wp2
      gi_loopw [12, 4] (fun j _ wr => ∃ k : Nat, k ≤ xs.length ∧ j = .int .i64 k ∧ J (pairsTo xs.length xs (i * xs.length + k)) wr ∧ RelAt wr B xs)
        (fun j _ _ => xs.length - (intOf j).toNat)
      case atStart => exact ⟨0, Nat.zero_le _, rfl, hJs, hr⟩
      case round =>
        clear hc0 hr hJs
        obtain ⟨j, hj, rfl, hJs, hr⟩ := hrel
        have hc0 := hr.cell0
        have hc1 := hr.row i (by omega)
        have hq : (i : Int) < 4 := by omega
        by_cases hlj : j < xs.length
        · have hst := pairsTo_step xs.length h4 xs ⟨i, hlt⟩ ⟨j, hlj⟩
          have HST := Lib.hid hst
          clear hst
          have hmul : i * xs.length + j < xs.length * xs.length := by
            have h1 : i * xs.length + xs.length ≤ xs.length * xs.length := by
              have := Nat.mul_le_mul_right xs.length (show i + 1 ≤ xs.length by omega)
              rw [Nat.succ_mul] at this
              exact this
            omega
          cases hb : hasB (rowAt xs i) j with
          | false =>
            gi_wp2_with (refine ⟨trivial, ?_⟩; gi_at_call 236; refine (callsIn_wide.2 (has_any _ j (by omega) _)).mono ?_; rintro e w2 ⟨rfl, rfl⟩)
            refine ⟨fun _ h => (by cases h), ?_⟩
            gi_wp2
            go_roundw
            case rel => exact ⟨j + 1, by omega, by go_num, by have := HST.out; rw [hb] at this; simp only [Bool.false_eq_true, if_false, List.append_nil] at this; rw [← Nat.add_assoc, this]; exact hJs, hr⟩
            case measure => simp [intOf]; omega
          | true =>
            obtain ⟨fn, tmps, assign, body, hy, hR⟩ := hY _ (⟨i, hlt⟩, ⟨j, hlj⟩) wr hJs (Nat.lt_of_le_of_lt (pairsTo_le _ _ _) hmul)
            dsimp only [encP] at hy
            gi_wp2_with (refine ⟨trivial, ?_⟩; gi_at_call 236; refine (callsIn_wide.2 (has_any _ j (by omega) _)).mono ?_; rintro e w2 ⟨rfl, rfl⟩)
            refine hR.mono ?_
            have hst := HST.out
            rw [hb, if_pos rfl] at hst
            rw [← hst]
            have HS2 := Lib.hid hst
            clear hst
            rintro e W3 (⟨rfl, hJ3, hk3⟩ | ⟨rfl, hJx3⟩)
            · have hr3 := hr.keep hk3
              clear hr hc0 hc1
              have hc0 := hr3.cell0
              gi_wp2
              go_roundw
              case rel => exact ⟨j + 1, by omega, by go_num, by rw [← Nat.add_assoc]; exact hJ3, hr3⟩
              case measure => simp [intOf]; omega
            · gi_wp2
              refine bodyPost_ret (results_none rfl _ _ _) rfl ?_
              exact ⟨⟨_, rfl⟩, .inr ⟨_, trivial, hJx3⟩⟩
        · obtain rfl : j = xs.length := by omega
          gi_wp2
          go_roundw
          case rel => exact ⟨i + 1, by omega, by go_num, by rw [Nat.succ_mul]; exact hJs, hr⟩
          case measure => simp [intOf]; omega
    · obtain rfl : i = xs.length := by omega
      gi_wp2
      go_end0
      exact ⟨⟨_, rfl⟩, .inl ⟨_, rfl, hJs⟩⟩

/-- the iterator as a range over a function asks it -/
theorem pairs_stops (n : Nat) (hn : 1 ≤ n) (B : Nat) (xs : List Int) (h1 : 1 ≤ xs.length) (h4 : xs.length ≤ 4) (w : World) (hr : RelAt w B xs) :
    SeqStopsK Fence.wide n Tryz.prog 240 #[.pointer (some ⟨B, 0, none⟩)] (encP (n := xs.length)) (KeepB B) (fun ys => ys = pairsOf xs) (fun _ => True) (xs.length * xs.length) w := fun l J Jx W hW _ _ hY h0 =>
  pairs1_in n hn l B xs h1 h4 J Jx hY W (hr.below hW hr.lt) h0

theorem pairs_any (xs : List Int) (w : World) :
    Calls Tryz.prog 177 #[relOf xs] w fun e w' => e = .returned (.func (.func 240) #[] #[.pointer (some ⟨w.heap.size, 0, none⟩)]) ∧
      w.alloc (.cells #[.int .i64 xs.length, .int .i64 (rowAt xs 0), .int .i64 (rowAt xs 1), .int .i64 (rowAt xs 2), .int .i64 (rowAt xs 3)] 36) = w' := by
  go_enter Tryz.func177, Tryz.ntmps177
  go_wp2
  go_ret
  exact ⟨rfl, rfl⟩
end Go.Proofs.YthdnpcpimggjnaaGreatDoor

namespace Go.Proofs.YthdnpcpimggjnaaGreatDoor
open Go.RowKit Go.Shelf
attribute [local go_sem] Oper.semAt_some

theorem relAt_own {α : Type} (b : Nat) (f : α → List Int) : Own (fun (s : α) W => RelAt W b (f s)) := by
  intro s W W' row hs hg hr
  refine (hg.block b hs.lt ?_).trans hs
  intro e
  obtain ⟨o, ho, hc⟩ := hr b e.symm
  rw [hs] at ho
  simp only [Option.some.injEq] at ho
  rw [← ho] at hc
  exact absurd hc (by simp [Obj.isCells])

/-- pairs turned, one by one -/
def turnAcc (n : Nat) (pre : List (Fin n × Fin n)) : List Int := pre.foldl (fun zs p => addPair zs p.2.val p.1.val) (List.replicate n 0)
theorem turnAcc_snoc (n : Nat) (pre : List (Fin n × Fin n)) (p : Fin n × Fin n) : turnAcc n (pre ++ [p]) = addPair (turnAcc n pre) p.2.val p.1.val := by
  unfold turnAcc
  rw [List.foldl_append]
  rfl
theorem turnAcc_len (n : Nat) (pre : List (Fin n × Fin n)) : (turnAcc n pre).length = n := by
  have h : ∀ (l : List (Fin n × Fin n)) (zs : List Int), (l.foldl (fun zs p => addPair zs p.2.val p.1.val) zs).length = zs.length := by
    intro l
    induction l with
    | nil => intro zs; rfl
    | cons p r ih => intro zs; rw [List.foldl_cons, ih, addPair_len]
  unfold turnAcc
  rw [h]
  simp

theorem zero_new (w : World) (n : Nat) : RelAt (w.alloc (.cells #[.int .i64 n, .int .i64 0, .int .i64 0, .int .i64 0, .int .i64 0] 36)) w.heap.size (List.replicate n 0) := by
  have h := RelAt.new w (List.replicate n 0)
  have hz : ∀ i, rowAt (List.replicate n 0) i = 0 := by
    intro i
    unfold rowAt
    rw [List.getD_eq_getElem?_getD, List.getElem?_replicate]
    split <;> rfl
  rw [hz, hz, hz, hz, List.length_replicate] at h
  exact h

theorem put5_all (w : World) (b : Nat) (v0 v1 v2 v3 v4 : Value) :
    KeepsOthers w (((((w.setCell ⟨b, 0, none⟩ v0).setCell ⟨b, 1, none⟩ v1).setCell ⟨b, 2, none⟩ v2).setCell ⟨b, 3, none⟩ v3).setCell ⟨b, 4, none⟩ v4) ∧
    (∀ B, B ≠ b → (((((w.setCell ⟨b, 0, none⟩ v0).setCell ⟨b, 1, none⟩ v1).setCell ⟨b, 2, none⟩ v2).setCell ⟨b, 3, none⟩ v3).setCell ⟨b, 4, none⟩ v4).heap[B]? = w.heap[B]?) ∧
    (∀ B, B ≤ b → Below B w (((((w.setCell ⟨b, 0, none⟩ v0).setCell ⟨b, 1, none⟩ v1).setCell ⟨b, 2, none⟩ v2).setCell ⟨b, 3, none⟩ v3).setCell ⟨b, 4, none⟩ v4)) := by
  refine ⟨((((KeepsOthers.setCell _ _ _).trans (KeepsOthers.setCell _ _ _)).trans (KeepsOthers.setCell _ _ _)).trans (KeepsOthers.setCell _ _ _)).trans (KeepsOthers.setCell _ _ _), ?_, ?_⟩
  · intro B hB
    exact (Below.heap_setCell _ ⟨b, 4, none⟩ _ B hB).trans ((Below.heap_setCell _ ⟨b, 3, none⟩ _ B hB).trans ((Below.heap_setCell _ ⟨b, 2, none⟩ _ B hB).trans ((Below.heap_setCell _ ⟨b, 1, none⟩ _ B hB).trans (Below.heap_setCell _ ⟨b, 0, none⟩ _ B hB))))
  · intro B hB
    exact (((((Below.refl B w).setCell (p := ⟨b, 0, none⟩) hB v0).setCell (p := ⟨b, 1, none⟩) hB v1).setCell (p := ⟨b, 2, none⟩) hB v2).setCell (p := ⟨b, 3, none⟩) hB v3).setCell (p := ⟨b, 4, none⟩) hB v4
theorem keepsO_below {w w' : World} (h : Below w.heap.size w w') : KeepsOthers w w' :=
  ⟨h.size, fun k _ hk _ => (h.block k (Array.getElem?_eq_some_iff.1 hk).1).trans hk⟩

set_option maxRecDepth 100000 in
set_option maxHeartbeats 4000000 in
theorem turned_in (xs : List Int) (w : World) (h1 : 1 ≤ xs.length) (h4 : xs.length ≤ 4) :
    CallsIn Fence.wide 6 Tryz.prog 110 #[relOf xs] w fun e w' => e = .returned (relOf (turnAcc xs.length (pairsOf xs))) ∧ Below w.heap.size w w' := by
  refine callsIn_of_wp_marks Tryz.func110 rfl trivial ?_ rfl
  simp only [Tryz.ntmps110, List.size_toArray, List.length_cons, List.length_nil, Nat.reduceAdd, Nat.reduceSub, Array.replicate_succ, Array.replicate_zero, List.push_toArray, List.append_toArray, List.nil_append, List.cons_append]
  have x1 := ((RelAt.new w xs).alloc (.cells #[.int .i64 0, .int .i64 0, .int .i64 0, .int .i64 0, .int .i64 0] 36)).alloc (.cells #[.int .i64 xs.length, .int .i64 0, .int .i64 0, .int .i64 0, .int .i64 0] 36)
  have p0 := x1.cell0
  have p1 := x1.cell1
  have p2 := x1.cell2
  have p3 := x1.cell3
  have p4 := x1.cell4
  gi_wp2_with (refine ⟨trivial, ?_⟩; gi_at_call 177; refine (callsIn_wide.2 (pairs_any xs _)).mono ?_; rintro e w2 ⟨rfl, rfl⟩)
  clear x1 p0 p1 p2 p3 p4
  have z1 := ((rel_zero (w.alloc (.cells #[.int .i64 xs.length, .int .i64 (rowAt xs 0), .int .i64 (rowAt xs 1), .int .i64 (rowAt xs 2), .int .i64 (rowAt xs 3)] 36))).alloc (.cells #[.int .i64 xs.length, .int .i64 0, .int .i64 0, .int .i64 0, .int .i64 0] 36)).alloc (.cells #[.int .i64 xs.length, .int .i64 (rowAt xs 0), .int .i64 (rowAt xs 1), .int .i64 (rowAt xs 2), .int .i64 (rowAt xs 3)] 36)
  have a1 := (zero_new ((w.alloc (.cells #[.int .i64 xs.length, .int .i64 (rowAt xs 0), .int .i64 (rowAt xs 1), .int .i64 (rowAt xs 2), .int .i64 (rowAt xs 3)] 36)).alloc (.cells #[.int .i64 0, .int .i64 0, .int .i64 0, .int .i64 0, .int .i64 0] 36)) xs.length).alloc (.cells #[.int .i64 xs.length, .int .i64 (rowAt xs 0), .int .i64 (rowAt xs 1), .int .i64 (rowAt xs 2), .int .i64 (rowAt xs 3)] 36)
  have i1 := RelAt.new (((w.alloc (.cells #[.int .i64 xs.length, .int .i64 (rowAt xs 0), .int .i64 (rowAt xs 1), .int .i64 (rowAt xs 2), .int .i64 (rowAt xs 3)] 36)).alloc (.cells #[.int .i64 0, .int .i64 0, .int .i64 0, .int .i64 0, .int .i64 0] 36)).alloc (.cells #[.int .i64 xs.length, .int .i64 0, .int .i64 0, .int .i64 0, .int .i64 0] 36)) xs
  have B0 := below_four w (.cells #[.int .i64 xs.length, .int .i64 (rowAt xs 0), .int .i64 (rowAt xs 1), .int .i64 (rowAt xs 2), .int .i64 (rowAt xs 3)] 36) (.cells #[.int .i64 0, .int .i64 0, .int .i64 0, .int .i64 0, .int .i64 0] 36) (.cells #[.int .i64 xs.length, .int .i64 0, .int .i64 0, .int .i64 0, .int .i64 0] 36) (.cells #[.int .i64 xs.length, .int .i64 (rowAt xs 0), .int .i64 (rowAt xs 1), .int .i64 (rowAt xs 2), .int .i64 (rowAt xs 3)] 36)
  have sz : w.heap.size + 1 + 1 + 1 + 1 = (((((w.alloc (.cells #[.int .i64 xs.length, .int .i64 (rowAt xs 0), .int .i64 (rowAt xs 1), .int .i64 (rowAt xs 2), .int .i64 (rowAt xs 3)] 36)).alloc (.cells #[.int .i64 0, .int .i64 0, .int .i64 0, .int .i64 0, .int .i64 0] 36)).alloc (.cells #[.int .i64 xs.length, .int .i64 0, .int .i64 0, .int .i64 0, .int .i64 0] 36)).alloc (.cells #[.int .i64 xs.length, .int .i64 (rowAt xs 0), .int .i64 (rowAt xs 1), .int .i64 (rowAt xs 2), .int .i64 (rowAt xs 3)] 36))).heap.size := by simp
  simp only [World.size_alloc] at z1 a1 i1
  obtain ⟨W0, hW0⟩ : ∃ W0, ((((w.alloc (.cells #[.int .i64 xs.length, .int .i64 (rowAt xs 0), .int .i64 (rowAt xs 1), .int .i64 (rowAt xs 2), .int .i64 (rowAt xs 3)] 36)).alloc (.cells #[.int .i64 0, .int .i64 0, .int .i64 0, .int .i64 0, .int .i64 0] 36)).alloc (.cells #[.int .i64 xs.length, .int .i64 0, .int .i64 0, .int .i64 0, .int .i64 0] 36)).alloc (.cells #[.int .i64 xs.length, .int .i64 (rowAt xs 0), .int .i64 (rowAt xs 1), .int .i64 (rowAt xs 2), .int .i64 (rowAt xs 3)] 36)) = W0 := ⟨_, rfl⟩
  rw [hW0] at z1 a1 i1 B0 sz ⊢
  clear hW0
  refine wpIn_rangeFunc_ownF (w0 := W0) rfl (by omega) (gf := 240) (lb := #[.pointer (some ⟨w.heap.size + 1 + 1 + 1, 0, none⟩)]) rfl trivial (enters_of Tryz.func240 (by kernel_rfl) rfl)
    (pairs_stops 5 (by omega) (w.heap.size + 1 + 1 + 1) xs h1 h4 W0 i1) KeepB.t (KeepB.b (by omega)) (Below.refl _ _) (fun _ => rfl)
    (fun pre W => (RelAt W (w.heap.size + 1 + 1) (turnAcc xs.length pre) ∧ RelAt W (w.heap.size + 1) [] ∧ RelAt W (w.heap.size + 1 + 1 + 1) xs) ∧ Below w.heap.size w W)
    (fun _ _ _ => False)
    (OwnFrom.and (Own.from (fun s A B row hs hg hr => ⟨relAt_own _ (turnAcc xs.length) s A B row hs.1 hg hr, relAt_own _ (fun _ => []) s A B row hs.2.1 hg hr, relAt_own _ (fun _ => xs) s A B row hs.2.2 hg hr⟩) _) (ownFrom_below (Nat.le_refl _) (by omega)))
    (fun _ _ _ _ _ hs _ _ => hs)
    ⟨⟨a1, z1, i1⟩, B0⟩
    (fun x => { tmps := #[relOf xs, .pointer (some ⟨w.heap.size, 0, none⟩), .pointer (some ⟨w.heap.size + 1, 0, none⟩), .pointer (some ⟨w.heap.size + 1 + 1, 0, none⟩), .int .i64 (x.1.val : Int), .int .i64 (x.2.val : Int), .pointer (some ⟨w.heap.size, 0, none⟩), .int .i64 xs.length, .agg #[.int .i64 xs.length, .int .i64 0, .int .i64 0, .int .i64 0, .int .i64 0], relOf xs, .func (.func 240) #[] #[.pointer (some ⟨w.heap.size + 1 + 1 + 1, 0, none⟩)], .int .i64 (x.1.val : Int), .int .i64 (x.2.val : Int), undef, undef, undef, undef, undef], defers := [] }) ?assign ?body ?done ?stop
  case assign =>
    intro l x W K hK
    gi_wp2
    exact hK
  case body =>
    rintro l pre x W ⟨⟨ha, hz, hi⟩, hB⟩ hlen
    have hln := turnAcc_len xs.length pre
    have p0 := ha.cell0
    have p1 := ha.cell1
    have p2 := ha.cell2
    have p3 := ha.cell3
    have p4 := ha.cell4
    have hx1 := x.1.isLt
    have hx2 := x.2.isLt
    have HL := Lib.hid hln
    clear hln
    gi_wp2_with (refine ⟨trivial, ?_⟩; gi_at_call 175; refine (CallsIn.inRound l (callsIn_wide.2 (withPair_any (turnAcc xs.length pre) x.2.val x.1.val _ (by rw [HL.out]; exact h4) (by rw [HL.out]; exact hx2) (by omega)))).mono ?_; rintro e w1 ⟨rfl, hb⟩; have ha1 := ha.below hb ha.lt; have q0 := ha1.cell0; have q1 := ha1.cell1; have q2 := ha1.cell2; have q3 := ha1.cell3; have q4 := ha1.cell4; have f0 := ha1.free 0; have f1 := ha1.free 1; have f2 := ha1.free 2; have f3 := ha1.free 3; have f4 := ha1.free 4; clear p0 p1 p2 p3 p4)
    have hput := ha1.put (addPair (turnAcc xs.length pre) x.2.val x.1.val)
    have P5 := put5_all w1 (w.heap.size + 1 + 1) (.int .i64 (addPair (turnAcc xs.length pre) x.2.val x.1.val).length) (.int .i64 (rowAt (addPair (turnAcc xs.length pre) x.2.val x.1.val) 0)) (.int .i64 (rowAt (addPair (turnAcc xs.length pre) x.2.val x.1.val) 1)) (.int .i64 (rowAt (addPair (turnAcc xs.length pre) x.2.val x.1.val) 2)) (.int .i64 (rowAt (addPair (turnAcc xs.length pre) x.2.val x.1.val) 3))
    refine ⟨(keepsO_below hb).trans P5.1, (P5.2.1 _ (by omega)).trans (hb.block _ hi.lt), ⟨?_, ((P5.2.1 _ (by omega)).trans (hb.block _ hz.lt)).trans hz, ((P5.2.1 _ (by omega)).trans (hb.block _ hi.lt)).trans hi⟩, (hB.trans (hb.mono hB.size)).trans (P5.2.2 _ (by omega))⟩
    rw [turnAcc_snoc]
    exact hput
  case done =>
    rintro D ys W hD rfl ⟨⟨ha, hz, hi⟩, hB⟩ hK
    have hln := turnAcc_len xs.length (pairsOf xs)
    have p0 := ha.cell0
    rw [hln] at p0
    have p1 := ha.cell1
    have p2 := ha.cell2
    have p3 := ha.cell3
    have p4 := ha.cell4
    have q0 := hz.cell0
    have q1 := hz.cell1
    have q2 := hz.cell2
    have q3 := hz.cell3
    have q4 := hz.cell4
    have f0 := hz.free 0
    have f1 := hz.free 1
    have f2 := hz.free 2
    have f3 := hz.free 3
    have f4 := hz.free 4
    have HL := Lib.hid hln
    clear hln
    gi_wp2
    have P5 := put5_all W (w.heap.size + 1) (.int .i64 xs.length) (.int .i64 (rowAt (turnAcc xs.length (pairsOf xs)) 0)) (.int .i64 (rowAt (turnAcc xs.length (pairsOf xs)) 1)) (.int .i64 (rowAt (turnAcc xs.length (pairsOf xs)) 2)) (.int .i64 (rowAt (turnAcc xs.length (pairsOf xs)) 3))
    have hput := hz.put (turnAcc xs.length (pairsOf xs))
    rw [HL.out] at hput
    obtain ⟨W5, hW5⟩ : ∃ W5, (((((W.setCell ⟨w.heap.size + 1, 0, none⟩ (.int .i64 xs.length)).setCell ⟨w.heap.size + 1, 1, none⟩ (.int .i64 (rowAt (turnAcc xs.length (pairsOf xs)) 0))).setCell ⟨w.heap.size + 1, 2, none⟩ (.int .i64 (rowAt (turnAcc xs.length (pairsOf xs)) 1))).setCell ⟨w.heap.size + 1, 3, none⟩ (.int .i64 (rowAt (turnAcc xs.length (pairsOf xs)) 2))).setCell ⟨w.heap.size + 1, 4, none⟩ (.int .i64 (rowAt (turnAcc xs.length (pairsOf xs)) 3))) = W5 := ⟨_, rfl⟩
    rw [hW5] at P5 hput ⊢
    have hK5 := P5.1.same D _ hK rfl
    refine ⟨by simp, .inl ⟨_, _, rfl, run_takeDeferred hK5, ?_⟩⟩
    have hr6 : RelAt (W5.putObj D (.deferred none)) (w.heap.size + 1) (turnAcc xs.length (pairsOf xs)) := (World.putObj_heap_other (by omega)).trans hput
    have c0 := hr6.cell0
    have c1 := hr6.cell1
    have c2 := hr6.cell2
    have c3 := hr6.cell3
    have c4 := hr6.cell4
    exact ⟨relOf (turnAcc xs.length (pairsOf xs)), by simp [results, Tryz.results110, go_sem, c0, c1, c2, c3, c4], rfl, (hB.trans (P5.2.2 _ (by omega))).trans (belowK_b (w := w) (Nat.le_refl _) W5 D _ _ (by omega) hK5 rfl rfl)⟩
  case stop =>
    rintro D c pre W _ _ h _
    exact h.elim
end Go.Proofs.YthdnpcpimggjnaaGreatDoor

namespace Go.Proofs.YthdnpcpimggjnaaGreatDoor
open Go.RowKit

theorem or16 : ∀ z : Fin 16, ∀ i : Fin 4, ∃ y : Fin 16, bits .or .i64 (z.val : Int) (pt i.val) = (y.val : Int) := by decide +kernel
theorem turn16 (n : Nat) (h4 : n ≤ 4) (pre : List (Fin n × Fin n)) : ∀ i, ∃ z : Fin 16, rowAt (turnAcc n pre) i = (z.val : Int) := by
  have h : ∀ (l : List (Fin n × Fin n)) (zs : List Int), zs.length = n → (∀ i, ∃ z : Fin 16, rowAt zs i = (z.val : Int)) → ∀ i, ∃ z : Fin 16, rowAt (l.foldl (fun zs p => addPair zs p.2.val p.1.val) zs) i = (z.val : Int) := by
    intro l
    induction l with
    | nil => intro zs _ hz; exact hz
    | cons p r ih =>
      intro zs hl hz
      rw [List.foldl_cons]
      refine ih _ (by rw [addPair_len, hl]) ?_
      intro i
      rw [addPair_at zs p.2.val p.1.val i (by rw [hl]; exact p.2.isLt)]
      by_cases e : i = p.2.val
      · rw [if_pos e]
        obtain ⟨z, hz2⟩ := hz p.2.val
        rw [hz2]
        exact or16 z ⟨p.1.val, by have := p.1.isLt; omega⟩
      · rw [if_neg e]
        exact hz i
  refine h pre _ (by simp) ?_
  intro i
  refine ⟨0, ?_⟩
  unfold rowAt
  rw [List.getD_eq_getElem?_getD, List.getElem?_replicate]
  split <;> rfl

theorem bitStep : ∀ z y : Fin 16, ∀ i j : Fin 4, bits .or .i64 (z.val : Int) (wrap64 (bits .and .i64 ((y.val : Int) / 2 ^ j.val) 1 * 2 ^ i.val)) = if hasB (y.val : Int) j.val then bits .or .i64 (z.val : Int) (pt i.val) else (z.val : Int) := by decide +kernel

theorem set_same (zs : List Int) (j : Nat) : zs.set j (rowAt zs j) = zs := by
  apply List.ext_getElem?
  intro k
  rw [List.getElem?_set]
  by_cases e : j = k
  · subst e
    rw [if_pos rfl]
    by_cases h : j < zs.length
    · rw [if_pos h, rowAt_get h]
    · rw [if_neg h, List.getElem?_eq_none (by omega)]
  · rw [if_neg e]

theorem turn_step (xs : List Int) (h4 : xs.length ≤ 4) (i j : Nat) (hi : i < xs.length) (hj : j < xs.length) :
    turnAcc xs.length (pairsTo xs.length xs (i * xs.length + (j + 1))) =
      (turnAcc xs.length (pairsTo xs.length xs (i * xs.length + j))).set j (if hasB (rowAt xs i) j then bits .or .i64 (rowAt (turnAcc xs.length (pairsTo xs.length xs (i * xs.length + j))) j) (pt i) else rowAt (turnAcc xs.length (pairsTo xs.length xs (i * xs.length + j))) j) := by
  have hst := pairsTo_step xs.length h4 xs ⟨i, hi⟩ ⟨j, hj⟩
  rw [← Nat.add_assoc, hst]
  by_cases hb : hasB (rowAt xs i) j = true
  · rw [if_pos hb, if_pos hb, turnAcc_snoc]
    rfl
  · rw [if_neg hb, if_neg hb, List.append_nil, set_same]

set_option maxHeartbeats 4000000 in
theorem l1Turned_any (ao : Option Addr) (cap : Nat) (xs : List Int) (w : World) (hp : relIn xs = true) (hx : Rd w ao xs) :
    Calls Tryz.prog 48 #[.slice ao xs.length cap] w fun e w' => ∃ v, e = .returned v ∧
      w'.ownsRow w.heap.size 3 1 v xs.length ((turnAcc xs.length (pairsOf xs)).map (Value.int .i64)) ∧ Below w.heap.size w w' := by
  obtain ⟨i0, hi, hz0, hz1, hz2⟩ := info_parts Tryz.info3
  have h4 := (relIn_len hp).2
  have HP := Lib.hid hp
  clear hp
  go_enter Tryz.func48, Tryz.ntmps48
  go_wp2_with (at_make; refine wpList_make_full _ rfl _ _ 23 rfl w.heap.size 3 i0 (.int .i64 0) 1 Tryz.underlying23 hi hz0 hz1 _ _ _ _ xs.length rfl rfl rfl rfl ?c1 ?c2 ?c3 ?_)
  case c1 => rw [hz2]; omega
  case c2 => unfold maxLen; omega
  case c3 => exact Nat.le_refl _
  intro w1 hown hgrow
  have hB : Below w.heap.size w w1 := (Below.refl _ _).grown hgrow (Nat.le_refl _) (by simp)
  rw [toList_madeCells_one] at hown
  have hown0 : w1.ownsRow w.heap.size 3 1 (.slice (some ⟨w.heap.size, 0, none⟩) xs.length xs.length) xs.length ((turnAcc xs.length (pairsTo xs.length xs 0)).map (Value.int .i64)) := by
    have : pairsTo xs.length xs 0 = [] := by simp [pairsTo]
    rw [this]
    simpa [turnAcc] using hown
  clear hgrow hown
  go_wp2
  go_loopw [4, 5] (fun i _ wr => ∃ k : Nat, k ≤ xs.length ∧ i = .int .i64 k ∧ wr.ownsRow w.heap.size 3 1 (.slice (some ⟨w.heap.size, 0, none⟩) xs.length xs.length) xs.length ((turnAcc xs.length (pairsTo xs.length xs (k * xs.length))).map (Value.int .i64)) ∧ Below w.heap.size w wr)
    (fun i _ _ => xs.length - (intOf i).toNat)
  case atStart => exact ⟨0, Nat.zero_le _, rfl, by rw [Nat.zero_mul]; exact hown0, hB⟩
  case round =>
    clear hown0 hB
    obtain ⟨i, hi2, rfl, ho, hB⟩ := hrel
    obtain ⟨wo, rfl⟩ : ∃ wo : World, wo = wr := ⟨_, rfl⟩
    by_cases hlt : i < xs.length
    · go_wp2
      go_loopw [5] (fun j wr => ∃ k : Nat, k ≤ xs.length ∧ j = .int .i64 k ∧ wr.ownsRow w.heap.size 3 1 (.slice (some ⟨w.heap.size, 0, none⟩) xs.length xs.length) xs.length ((turnAcc xs.length (pairsTo xs.length xs (i * xs.length + k))).map (Value.int .i64)) ∧ Below w.heap.size w wr)
        (fun j _ => xs.length - (intOf j).toNat)
      case atStart => exact ⟨0, Nat.zero_le _, rfl, ho, hB⟩
      case round =>
        clear ho hB
        obtain ⟨j, hj, rfl, ho, hB⟩ := hrel
        by_cases hlj : j < xs.length
        · obtain ⟨b, off, x, hxk, rfl, hbl, hc1⟩ := (hx.below hB).get i hlt
          obtain ⟨y, hy⟩ := row16 HP.out i
          obtain ⟨z, hz⟩ := turn16 xs.length h4 (pairsTo xs.length xs (i * xs.length + j)) j
          have hxy : x = (y.val : Int) := by
            have := rowAt_get hlt
            rw [hxk, hy] at this
            simpa using this
          rw [hxy] at hc1
          have hc2 := ho.cellAt j (by omega)
          have hf2 := ho.frozenAt j
          have hzk : ((turnAcc xs.length (pairsTo xs.length xs (i * xs.length + j))).map (Value.int .i64))[j]? = some (.int .i64 (z.val : Int)) := by
            rw [List.getElem?_map, rowAt_get (by rw [turnAcc_len]; exact hlj), hz]
            rfl
          rw [hzk] at hc2
          have hi1 : ((i : Nat) : Int) < (xs.length : Int) := by omega
          have hj1 : ((j : Nat) : Int) < (xs.length : Int) := by omega
          have hst := pairsTo_step xs.length h4 xs ⟨i, hlt⟩ ⟨j, hlj⟩
          have HST := Lib.hid (And.intro hst (And.intro hy hz))
          clear hx hxk hxy hy hz hzk hst
          go_wp2
          go_region
          all_goals
            go_wp2
            go_roundw
            case rel =>
              refine ⟨j + 1, by omega, by go_num, ?_, hB.drew.setCell (Nat.le_refl _) _⟩
              have h := (ho.stored j (.int .i64 (bits .or .i64 (z.val : Int) (wrap64 (bits .and .i64 ((y.val : Int) / 2 ^ j) 1 * 2 ^ i))))).1
              have hl : ((turnAcc xs.length (pairsTo xs.length xs (i * xs.length + j))).map (Value.int .i64)).set j (.int .i64 (bits .or .i64 (z.val : Int) (wrap64 (bits .and .i64 ((y.val : Int) / 2 ^ j) 1 * 2 ^ i)))) = (turnAcc xs.length (pairsTo xs.length xs (i * xs.length + (j + 1)))).map (Value.int .i64) := by
                rw [← List.map_set, turn_step xs h4 i j hlt hlj, HST.out.2.1, HST.out.2.2]
                rw [bitStep z y ⟨i, by omega⟩ ⟨j, by omega⟩]
              rw [hl] at h
              exact h.drew
            case measure => simp [intOf]; omega
        · obtain rfl : j = xs.length := by omega
          go_wp2
          go_roundw
          case rel => exact ⟨i + 1, by omega, by go_num, by rw [Nat.succ_mul]; exact ho, hB⟩
          case measure => simp [intOf]; omega
    · obtain rfl : i = xs.length := by omega
      go_wp2
      go_ret
      exact ⟨_, rfl, ho, hB⟩

/-- a relation turned -/
def turnL (xs : List Int) : List Int := turnAcc xs.length (pairsOf xs)
theorem turnL_len (xs : List Int) : (turnL xs).length = xs.length := turnAcc_len _ _

theorem turned_any (xs : List Int) (w : World) (h1 : 1 ≤ xs.length) (h4 : xs.length ≤ 4) :
    Calls Tryz.prog 110 #[relOf xs] w fun e w' => e = .returned (relOf (turnL xs)) ∧ Below w.heap.size w w' :=
  callsIn_wide.1 (turned_in xs w h1 h4)

theorem cf_turned (args : Array Value) (w : World) : Sem.run Tryz.prog (callFunc 110 args) w = .ok (.enter 110 args) w := by kernel_rfl

theorem implRelTurned_any (ao : Option Addr) (ca : Nat) (xs : List Int) (w : World) (hl : xs.length ≤ 1048576) (hx : Rd w ao xs) :
    Calls Tryz.prog 120 #[.slice ao xs.length ca] w (Gave w (ifR (relIn xs) (turnL xs)) (relIn xs)) := by
  cases hp : relIn xs with
  | false =>
    have h1 := Lib.hid (madeOfOne_no (.func (.func 110) #[] #[]) ao ca xs w hl hx hp)
    clear hp
    go_enter Tryz.func120, Tryz.ntmps120
    go_wp2_with (go_at_call 179; refine h1.out.mono ?_; rintro e w1 ⟨v, rfl, ho, hb⟩)
    go_ret2
    exact ⟨v, rfl, ho, hb⟩
  | true =>
    have h4 := relIn_len hp
    have h1 := Lib.hid (madeOfOne_yes 110 cf_turned turnL ao ca xs w hx hp (turnL_len xs) (fun w => turned_any xs w h4.1 h4.2))
    clear hp
    go_enter Tryz.func120, Tryz.ntmps120
    go_wp2_with (go_at_call 179; refine h1.out.mono ?_; rintro e w1 ⟨v, rfl, ho, hb⟩)
    go_ret2
    exact ⟨v, rfl, ho, hb⟩
end Go.Proofs.YthdnpcpimggjnaaGreatDoor

namespace Go.Proofs.YthdnpcpimggjnaaGreatDoor
open Go.RowKit

def endsS (n : Nat) (pre : List (Fin n × Fin n)) : Int := pre.foldl (fun s p => bits .or .i64 s (pt p.1.val)) 0
def endsT (n : Nat) (pre : List (Fin n × Fin n)) : Int := pre.foldl (fun s p => bits .or .i64 s (pt p.2.val)) 0
theorem endsS_snoc (n : Nat) (pre : List (Fin n × Fin n)) (p : Fin n × Fin n) : endsS n (pre ++ [p]) = bits .or .i64 (endsS n pre) (pt p.1.val) := by unfold endsS; rw [List.foldl_append]; rfl
theorem endsT_snoc (n : Nat) (pre : List (Fin n × Fin n)) (p : Fin n × Fin n) : endsT n (pre ++ [p]) = bits .or .i64 (endsT n pre) (pt p.2.val) := by unfold endsT; rw [List.foldl_append]; rfl
theorem fold16 {n : Nat} (h4 : n ≤ 4) (f : Fin n × Fin n → Fin n) (l : List (Fin n × Fin n)) : ∀ s : Fin 16, ∃ z : Fin 16, l.foldl (fun s p => bits .or .i64 s (pt (f p).val)) (s.val : Int) = (z.val : Int) := by
  induction l with
  | nil => intro s; exact ⟨s, rfl⟩
  | cons p r ih =>
    intro s
    rw [List.foldl_cons]
    obtain ⟨y, hy⟩ := or16 s ⟨(f p).val, by have := (f p).isLt; omega⟩
    rw [hy]
    exact ih y
theorem endsS16 (n : Nat) (h4 : n ≤ 4) (pre : List (Fin n × Fin n)) : ∃ z : Fin 16, endsS n pre = (z.val : Int) := fold16 h4 (fun p => p.1) pre 0
theorem endsT16 (n : Nat) (h4 : n ≤ 4) (pre : List (Fin n × Fin n)) : ∃ z : Fin 16, endsT n pre = (z.val : Int) := fold16 h4 (fun p => p.2) pre 0

theorem allP_row : ∀ n : Fin 5, ∀ i : Fin n.val, (allP n.val).take ((i.val + 1) * n.val) = (allP n.val).take (i.val * n.val) ++ (List.finRange n.val).map (fun j => (i, j)) := by decide +kernel
/-- the pairs of one row -/
def rowP (n : Nat) (i : Fin n) (y : Int) : List (Fin n × Fin n) := ((List.finRange n).map (fun j => (i, j))).filter fun p => hasB y p.2.val
theorem pairsTo_row (n : Nat) (h4 : n ≤ 4) (xs : List Int) (i : Fin n) : pairsTo n xs ((i.val + 1) * n) = pairsTo n xs (i.val * n) ++ rowP n i (rowAt xs i.val) := by
  have h := allP_row ⟨n, by omega⟩ i
  unfold pairsTo rowP
  rw [h, List.filter_append]
  congr 1
  apply List.filter_congr
  intro p hp
  rw [List.mem_map] at hp
  obtain ⟨j, _, rfl⟩ := hp
  rfl

theorem rowS : ∀ n : Fin 5, ∀ i : Fin n.val, ∀ y s : Fin 16, y.val < 2 ^ n.val → (rowP n.val i (y.val : Int)).foldl (fun s p => bits .or .i64 s (pt p.1.val)) (s.val : Int) = if (y.val : Int) = 0 then (s.val : Int) else bits .or .i64 (s.val : Int) (pt i.val) := by decide +kernel
theorem rowT : ∀ n : Fin 5, ∀ i : Fin n.val, ∀ y s : Fin 16, y.val < 2 ^ n.val → (rowP n.val i (y.val : Int)).foldl (fun s p => bits .or .i64 s (pt p.2.val)) (s.val : Int) = bits .or .i64 (s.val : Int) (y.val : Int) := by decide +kernel

theorem row_lt {xs : List Int} (h : relIn xs = true) {k : Nat} {y : Fin 16} (hk : k < xs.length) (hy : rowAt xs k = (y.val : Int)) : y.val < 2 ^ xs.length := by
  have hr := relIn_row h (rowAt_get hk)
  rw [hy] at hr
  unfold rowIn at hr
  rw [Bool.and_eq_true] at hr
  have h1 := of_decide_eq_true hr.2
  have h2 : ((2 ^ xs.length : Nat) : Int) = (2 : Int) ^ xs.length := by simp
  omega

theorem endsS_row {xs : List Int} (h : relIn xs = true) (i : Nat) (hi : i < xs.length) :
    endsS xs.length (pairsTo xs.length xs ((i + 1) * xs.length)) = if rowAt xs i = 0 then endsS xs.length (pairsTo xs.length xs (i * xs.length)) else bits .or .i64 (endsS xs.length (pairsTo xs.length xs (i * xs.length))) (pt i) := by
  have h4 := (relIn_len h).2
  obtain ⟨y, hy⟩ := row16 h i
  obtain ⟨s, hs⟩ := endsS16 xs.length h4 (pairsTo xs.length xs (i * xs.length))
  have hrow := pairsTo_row xs.length h4 xs ⟨i, hi⟩
  have e0 : endsS xs.length (pairsTo xs.length xs ((i + 1) * xs.length)) = (rowP xs.length ⟨i, hi⟩ (rowAt xs i)).foldl (fun s p => bits .or .i64 s (pt p.1.val)) (endsS xs.length (pairsTo xs.length xs (i * xs.length))) := by
    refine (congrArg (endsS xs.length) hrow).trans ?_
    unfold endsS
    rw [List.foldl_append]
  have e2 := rowS ⟨xs.length, by omega⟩ ⟨i, hi⟩ y s (row_lt h hi hy)
  rw [e0, hs, hy]
  exact e2
theorem endsT_row {xs : List Int} (h : relIn xs = true) (i : Nat) (hi : i < xs.length) :
    endsT xs.length (pairsTo xs.length xs ((i + 1) * xs.length)) = bits .or .i64 (endsT xs.length (pairsTo xs.length xs (i * xs.length))) (rowAt xs i) := by
  have h4 := (relIn_len h).2
  obtain ⟨y, hy⟩ := row16 h i
  obtain ⟨s, hs⟩ := endsT16 xs.length h4 (pairsTo xs.length xs (i * xs.length))
  have hrow := pairsTo_row xs.length h4 xs ⟨i, hi⟩
  have e0 : endsT xs.length (pairsTo xs.length xs ((i + 1) * xs.length)) = (rowP xs.length ⟨i, hi⟩ (rowAt xs i)).foldl (fun s p => bits .or .i64 s (pt p.2.val)) (endsT xs.length (pairsTo xs.length xs (i * xs.length))) := by
    refine (congrArg (endsT xs.length) hrow).trans ?_
    unfold endsT
    rw [List.foldl_append]
  have e2 := rowT ⟨xs.length, by omega⟩ ⟨i, hi⟩ y s (row_lt h hi hy)
  rw [e0, hs, hy]
  exact e2

/-- whether a set has a point, as the model asks it -/
def bitB (set : Int) (i : Nat) : Bool := bits .and .i64 (set / 2 ^ i) 1 == 1
/-- the rows of a set's points, joined -/
def imgTo (xs : List Int) (set : Int) (k : Nat) : Int := (List.range k).foldl (fun o i => if bitB set i then bits .or .i64 o (rowAt xs i) else o) 0
theorem imgTo_succ (xs : List Int) (set : Int) (k : Nat) : imgTo xs set (k + 1) = if bitB set k then bits .or .i64 (imgTo xs set k) (rowAt xs k) else imgTo xs set k := by
  unfold imgTo
  rw [List.range_succ, List.foldl_append]
  rfl
theorem full_has : ∀ n : Fin 5, ∀ i : Fin n.val, bitB (2 ^ n.val - 1) i.val = true := by decide +kernel
theorem img_full {xs : List Int} (h : relIn xs = true) (k : Nat) (hk : k ≤ xs.length) : imgTo xs (2 ^ xs.length - 1) k = endsT xs.length (pairsTo xs.length xs (k * xs.length)) := by
  have h4 := (relIn_len h).2
  induction k with
  | zero => simp [imgTo, endsT, pairsTo]
  | succ k ih =>
    rw [imgTo_succ, full_has ⟨xs.length, by omega⟩ ⟨k, (by omega : k < xs.length)⟩, if_pos rfl, ih (by omega), endsT_row h k (by omega)]

set_option maxHeartbeats 2000000 in
theorem l1Image_any (ao : Option Addr) (ca : Nat) (xs : List Int) (set : Nat) (w : World) (_hs : set < 16) (h4 : xs.length ≤ 4) (hx : Rd w ao xs) :
    Calls Tryz.prog 116 #[.slice ao xs.length ca, .int .i64 set] w fun e w' => e = .returned (.int .i64 (imgTo xs set xs.length)) ∧ Dn w w' := by
  go_enter Tryz.func116, Tryz.ntmps116
  go_wp2
  go_loopw [5, 6] (fun o i wr => ∃ k : Nat, k ≤ xs.length ∧ i = .int .i64 k ∧ o = .int .i64 (imgTo xs set k) ∧ Dn w wr)
    (fun _ i _ => xs.length - (intOf i).toNat)
  case atStart => exact ⟨0, Nat.zero_le _, rfl, rfl, Dn.refl _⟩
  case round =>
    obtain ⟨k, hk, rfl, rfl, hd⟩ := hrel
    by_cases hlt : k < xs.length
    · obtain ⟨b, off, x, hxk, rfl, hbl, hc1⟩ := (hd.rd hx).get k hlt
      have hxy : x = rowAt xs k := by
        have := rowAt_get hlt
        rw [hxk] at this
        simpa using this
      rw [hxy] at hc1
      have hi1 : ((k : Nat) : Int) < (xs.length : Int) := by omega
      have hsn := imgTo_succ xs set k
      have HS := Lib.hid hsn
      clear hx hxk hxy hsn
      cases hb : bitB set k with
      | true =>
        have hb2 : (bits .and .i64 ((set : Int) / 2 ^ k) 1 == 1) = true := hb
        have HB := Lib.hid hb
        clear hb
        go_wp2
        go_roundw
        case rel => exact ⟨k + 1, by omega, by go_num, by rw [HS.out, HB.out]; rfl, hd⟩
        case measure => simp [intOf]; omega
      | false =>
        have hb2 : (bits .and .i64 ((set : Int) / 2 ^ k) 1 == 1) = false := hb
        have HB := Lib.hid hb
        clear hb
        go_wp2
        go_roundw
        case rel => exact ⟨k + 1, by omega, by go_num, by rw [HS.out, HB.out]; rfl, hd⟩
        case measure => simp [intOf]; omega
    · go_wp2
      go_ret
      obtain rfl : k = xs.length := by omega
      exact ⟨rfl, hd⟩
end Go.Proofs.YthdnpcpimggjnaaGreatDoor
