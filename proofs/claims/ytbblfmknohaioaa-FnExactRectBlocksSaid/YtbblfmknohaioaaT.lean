/-
  Contracts of the program's sameOn and RelSame, and of the model's l1Same and RelSame; for any number.
-/
import Derived.Test.YtbblfmknohaioaaS
namespace Go.Proofs.Ytbblfmknohaioaa
open Go.RowKit

theorem RelAt.put {w : World} {b : Nat} {xs : List Int} (h : RelAt w b xs) (ys : List Int) :
    RelAt (((((w.setCell ⟨b, 0, none⟩ (.int .i64 ys.length)).setCell ⟨b, 1, none⟩ (.int .i64 (rowAt ys 0))).setCell ⟨b, 2, none⟩ (.int .i64 (rowAt ys 1))).setCell ⟨b, 3, none⟩ (.int .i64 (rowAt ys 2))).setCell ⟨b, 4, none⟩ (.int .i64 (rowAt ys 3))) b ys := by
  unfold RelAt
  have h1 := heap_setCell_same w b 0 _ _ (.int .i64 ys.length) h
  have h2 := heap_setCell_same _ b 1 _ _ (.int .i64 (rowAt ys 0)) h1
  have h3 := heap_setCell_same _ b 2 _ _ (.int .i64 (rowAt ys 1)) h2
  have h4 := heap_setCell_same _ b 3 _ _ (.int .i64 (rowAt ys 2)) h3
  have h5 := heap_setCell_same _ b 4 _ _ (.int .i64 (rowAt ys 3)) h4
  rw [h5]
  rfl

/-- each point related to itself -/
def sameL (n : Nat) : List Int := (List.range n).map pt
def sameAcc (n k : Nat) : List Int := (List.range k).foldl (fun zs i => addPair zs i i) (List.replicate n 0)
theorem sameAcc_succ (n k : Nat) : sameAcc n (k + 1) = addPair (sameAcc n k) k k := by unfold sameAcc; rw [List.range_succ, List.foldl_append]; rfl
theorem sameAcc_len (n k : Nat) : (sameAcc n k).length = n := by
  induction k with
  | zero => unfold sameAcc; simp
  | succ k ih => rw [sameAcc_succ, addPair_len, ih]
theorem sameAcc_all : ∀ n : Fin 5, sameAcc n.val n.val = sameL n.val := by decide +kernel

set_option maxHeartbeats 2000000 in
theorem sameOn_any (n : Nat) (w : World) (h1 : 1 ≤ n) (h4 : n ≤ 4) :
    Calls Try.prog 79 #[.int .i64 n] w fun e w' => e = .returned (relOf (sameL n)) ∧ Below w.heap.size w w' := by
  have z2 := (rel_zero w).alloc (.cells #[.int .i64 n, .int .i64 0, .int .i64 0, .int .i64 0, .int .i64 0] 47)
  have z3 : RelAt ((w.alloc (.cells #[.int .i64 0, .int .i64 0, .int .i64 0, .int .i64 0, .int .i64 0] 47)).alloc (.cells #[.int .i64 n, .int .i64 0, .int .i64 0, .int .i64 0, .int .i64 0] 47)) (w.heap.size + 1) (sameAcc n 0) := by
    have h := RelAt.new (w.alloc (.cells #[.int .i64 0, .int .i64 0, .int .i64 0, .int .i64 0, .int .i64 0] 47)) (sameAcc n 0)
    rw [sameAcc_len, World.size_alloc] at h
    have hz : ∀ i, rowAt (sameAcc n 0) i = 0 := by
      intro i
      unfold rowAt sameAcc
      simp [List.getElem?_replicate]
      split <;> rfl
    rw [hz, hz, hz, hz] at h
    exact h
  have B0 := below_two w (.cells #[.int .i64 0, .int .i64 0, .int .i64 0, .int .i64 0, .int .i64 0] 47) (.cells #[.int .i64 n, .int .i64 0, .int .i64 0, .int .i64 0, .int .i64 0] 47)
  go_enter Try.func79, Try.ntmps79
  go_wp2
  go_loopw [8, 4] (fun i _ wr => ∃ k : Nat, k ≤ n ∧ i = .int .i64 k ∧ RelAt wr w.heap.size [] ∧ RelAt wr (w.heap.size + 1) (sameAcc n k) ∧ Below w.heap.size w wr)
    (fun i _ _ => n - (intOf i).toNat)
  case atStart => exact ⟨0, Nat.zero_le _, rfl, z2, z3, B0⟩
  case round =>
    obtain ⟨k, hk, rfl, hz, hr, hB⟩ := hrel
    clear z2 z3 B0
    have hln := sameAcc_len n k
    have p0 := hr.cell0
    have p1 := hr.cell1
    have p2 := hr.cell2
    have p3 := hr.cell3
    have p4 := hr.cell4
    by_cases hlt : k < n
    · have HL := Lib.hid hln
      clear hln
      go_wp2_with fail
      refine (withPair_any (sameAcc n k) k k wr (by rw [HL.out]; exact h4) (by rw [HL.out]; exact hlt) (by omega)).mono ?_
      rintro e w1 ⟨rfl, hb⟩
      have hr1 := hr.below hb hr.lt
      have hz1 := hz.below hb hz.lt
      have hB1 := hB.trans (hb.mono hB.size)
      rw [← sameAcc_succ]
      have q0 := hr1.cell0
      have q1 := hr1.cell1
      have q2 := hr1.cell2
      have q3 := hr1.cell3
      have q4 := hr1.cell4
      have f0 := hr1.free 0
      have f1 := hr1.free 1
      have f2 := hr1.free 2
      have f3 := hr1.free 3
      have f4 := hr1.free 4
      have hput := hr1.put (sameAcc n (k + 1))
      have hzo := fun (W : World) (j : Nat) (v : Value) (h : RelAt W w.heap.size []) => h.other (p := ⟨w.heap.size + 1, j, none⟩) (by simp) v
      have bc := fun (W : World) (j : Nat) (v : Value) (h : Below w.heap.size w W) => h.setCell (p := ⟨w.heap.size + 1, j, none⟩) (Nat.le_succ _) v
      clear hr hz hb hB p0 p1 p2 p3 p4
      have HP := Lib.hid hput
      clear hput
      go_wp2
      go_roundw
      case rel => exact ⟨k + 1, by omega, by go_num, hzo _ _ _ (hzo _ _ _ (hzo _ _ _ (hzo _ _ _ (hzo _ _ _ hz1)))), HP.out, bc _ _ _ (bc _ _ _ (bc _ _ _ (bc _ _ _ (bc _ _ _ hB1))))⟩
      case measure => simp [intOf]; omega
    · obtain rfl : k = n := by omega
      have hall : sameAcc k k = sameL k := sameAcc_all ⟨k, by omega⟩
      rw [hln] at p0
      have HA := Lib.hid hall
      have HL := Lib.hid hln
      clear hall hln
      have q0 := hz.cell0
      have q1 := hz.cell1
      have q2 := hz.cell2
      have q3 := hz.cell3
      have q4 := hz.cell4
      have f0 := hz.free 0
      have f1 := hz.free 1
      have f2 := hz.free 2
      have f3 := hz.free 3
      have f4 := hz.free 4
      have bb := fun (W : World) (j : Nat) (v : Value) (h : Below w.heap.size w W) => h.setCell (p := ⟨w.heap.size, j, none⟩) (Nat.le_refl _) v
      go_wp2
      refine bodyPost_ret (v := relOf (sameAcc k k)) (by simp [results, Try.results79, go_sem, q0, q1, q2, q3, q4, HL.out]) rfl ⟨by rw [HA.out], ?_⟩
      exact bb _ _ _ (bb _ _ _ (bb _ _ _ (bb _ _ _ (bb _ _ _ hB))))

theorem sameL_len (n : Nat) : (sameL n).length = n := by unfold sameL; simp
theorem same_take (n k : Nat) (h : k < n) : (sameL n).take (k + 1) = (sameL n).take k ++ [pt k] := by
  have h2 : (sameL n)[k]? = some (pt k) := by unfold sameL; simp [h]
  rw [List.take_add_one, h2]
  rfl

end Go.Proofs.Ytbblfmknohaioaa
