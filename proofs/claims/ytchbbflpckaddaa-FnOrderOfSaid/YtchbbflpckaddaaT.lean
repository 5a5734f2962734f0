/-
  Contracts of the program's sameOn and RelSame, and of the model's l1Same and RelSame; for any number.
-/
import Derived.Test.YtchbbflpckaddaaS
namespace Go.Proofs.Ytchbbflpckaddaa
open Go.RowKit

theorem RelAt.put {w : World} {b : Nat} {xs : List Int} (h : RelAt w b xs) (ys : List Int) :
    RelAt (((((w.setCell ⟨b, 0, none⟩ (.int .i64 ys.length)).setCell ⟨b, 1, none⟩ (.int .i64 (rowAt ys 0))).setCell ⟨b, 2, none⟩ (.int .i64 (rowAt ys 1))).setCell ⟨b, 3, none⟩ (.int .i64 (rowAt ys 2))).setCell ⟨b, 4, none⟩ (.int .i64 (rowAt ys 3))) b ys := by
  unfold RelAt
  have h1 := heap_setCell_same w b 0 _ _ (.int .i64 ys.length) h
  have h2 := heap_setCell_same _ b 1 _ _ (.int .i64 (rowAt ys 0)) h1
  have h3 := heap_setCell_same _ b 2 _ _ (.int .i64 (rowAt ys 1)) h2
  have h4 := heap_setCell_same _ b 3 _ _ (.int .i64 (rowAt ys 2)) h3
  have h5 := heap_setCell_same _ b 4 _ _ (.int .i64 (rowAt ys 3)) h4
  rw [h5]
  rfl

/-- each point related to itself -/
def sameL (n : Nat) : List Int := (List.range n).map pt
def sameAcc (n k : Nat) : List Int := (List.range k).foldl (fun zs i => addPair zs i i) (List.replicate n 0)
theorem sameAcc_succ (n k : Nat) : sameAcc n (k + 1) = addPair (sameAcc n k) k k := by unfold sameAcc; rw [List.range_succ, List.foldl_append]; rfl
theorem sameAcc_len (n k : Nat) : (sameAcc n k).length = n := by
  induction k with
  | zero => unfold sameAcc; simp
  | succ k ih => rw [sameAcc_succ, addPair_len, ih]
theorem sameAcc_all : ∀ n : Fin 5, sameAcc n.val n.val = sameL n.val := by decide +kernel

set_option maxHeartbeats 2000000 in
theorem sameOn_any (n : Nat) (w : World) (h1 : 1 ≤ n) (h4 : n ≤ 4) :
    Calls Try.prog 73 #[.int .i64 n] w fun e w' => e = .returned (relOf (sameL n)) ∧ Below w.heap.size w w' := by
  have z2 := (rel_zero w).alloc (.cells #[.int .i64 n, .int .i64 0, .int .i64 0, .int .i64 0, .int .i64 0] 43)
  have z3 : RelAt ((w.alloc (.cells #[.int .i64 0, .int .i64 0, .int .i64 0, .int .i64 0, .int .i64 0] 43)).alloc (.cells #[.int .i64 n, .int .i64 0, .int .i64 0, .int .i64 0, .int .i64 0] 43)) (w.heap.size + 1) (sameAcc n 0) := by
    have h := RelAt.new (w.alloc (.cells #[.int .i64 0, .int .i64 0, .int .i64 0, .int .i64 0, .int .i64 0] 43)) (sameAcc n 0)
    rw [sameAcc_len, World.size_alloc] at h
    have hz : ∀ i, rowAt (sameAcc n 0) i = 0 := by
      intro i
      unfold rowAt sameAcc
      simp [List.getElem?_replicate]
      split <;> rfl
    rw [hz, hz, hz, hz] at h
    exact h
  have B0 := below_two w (.cells #[.int .i64 0, .int .i64 0, .int .i64 0, .int .i64 0, .int .i64 0] 43) (.cells #[.int .i64 n, .int .i64 0, .int .i64 0, .int .i64 0, .int .i64 0] 43)
  go_enter Try.func73, Try.ntmps73
  go_wp2
  go_loopw [8, 4] (fun i _ wr => ∃ k : Nat, k ≤ n ∧ i = .int .i64 k ∧ RelAt wr w.heap.size [] ∧ RelAt wr (w.heap.size + 1) (sameAcc n k) ∧ Below w.heap.size w wr)
    (fun i _ _ => n - (intOf i).toNat)
  case atStart => exact ⟨0, Nat.zero_le _, rfl, z2, z3, B0⟩
  case round =>
    obtain ⟨k, hk, rfl, hz, hr, hB⟩ := hrel
    clear z2 z3 B0
    have hln := sameAcc_len n k
    have p0 := hr.cell0
    have p1 := hr.cell1
    have p2 := hr.cell2
    have p3 := hr.cell3
    have p4 := hr.cell4
    by_cases hlt : k < n
    · have HL := Lib.hid hln
      clear hln
      go_wp2_with fail
      refine (withPair_any (sameAcc n k) k k wr (by rw [HL.out]; exact h4) (by rw [HL.out]; exact hlt) (by omega)).mono ?_
      rintro e w1 ⟨rfl, hb⟩
      have hr1 := hr.below hb hr.lt
      have hz1 := hz.below hb hz.lt
      have hB1 := hB.trans (hb.mono hB.size)
      rw [← sameAcc_succ]
      have q0 := hr1.cell0
      have q1 := hr1.cell1
      have q2 := hr1.cell2
      have q3 := hr1.cell3
      have q4 := hr1.cell4
      have f0 := hr1.free 0
      have f1 := hr1.free 1
      have f2 := hr1.free 2
      have f3 := hr1.free 3
      have f4 := hr1.free 4
      have hput := hr1.put (sameAcc n (k + 1))
      have hzo := fun (W : World) (j : Nat) (v : Value) (h : RelAt W w.heap.size []) => h.other (p := ⟨w.heap.size + 1, j, none⟩) (by simp) v
      have bc := fun (W : World) (j : Nat) (v : Value) (h : Below w.heap.size w W) => h.setCell (p := ⟨w.heap.size + 1, j, none⟩) (Nat.le_succ _) v
      clear hr hz hb hB p0 p1 p2 p3 p4
      have HP := Lib.hid hput
      clear hput
      go_wp2
      go_roundw
      case rel => exact ⟨k + 1, by omega, by go_num, hzo _ _ _ (hzo _ _ _ (hzo _ _ _ (hzo _ _ _ (hzo _ _ _ hz1)))), HP.out, bc _ _ _ (bc _ _ _ (bc _ _ _ (bc _ _ _ (bc _ _ _ hB1))))⟩
      case measure => simp [intOf]; omega
    · obtain rfl : k = n := by omega
      have hall : sameAcc k k = sameL k := sameAcc_all ⟨k, by omega⟩
      rw [hln] at p0
      have HA := Lib.hid hall
      have HL := Lib.hid hln
      clear hall hln
      have q0 := hz.cell0
      have q1 := hz.cell1
      have q2 := hz.cell2
      have q3 := hz.cell3
      have q4 := hz.cell4
      have f0 := hz.free 0
      have f1 := hz.free 1
      have f2 := hz.free 2
      have f3 := hz.free 3
      have f4 := hz.free 4
      have bb := fun (W : World) (j : Nat) (v : Value) (h : Below w.heap.size w W) => h.setCell (p := ⟨w.heap.size, j, none⟩) (Nat.le_refl _) v
      go_wp2
      refine bodyPost_ret (v := relOf (sameAcc k k)) (by simp [results, Try.results73, go_sem, q0, q1, q2, q3, q4, HL.out]) rfl ⟨by rw [HA.out], ?_⟩
      exact bb _ _ _ (bb _ _ _ (bb _ _ _ (bb _ _ _ (bb _ _ _ hB))))

theorem sameL_len (n : Nat) : (sameL n).length = n := by unfold sameL; simp
theorem same_take (n k : Nat) (h : k < n) : (sameL n).take (k + 1) = (sameL n).take k ++ [pt k] := by
  have h2 : (sameL n)[k]? = some (pt k) := by unfold sameL; simp [h]
  rw [List.take_add_one, h2]
  rfl

set_option maxHeartbeats 2000000 in
theorem l1Same_any (n : Nat) (w : World) (h1 : 1 ≤ n) (h4 : n ≤ 4) :
    Calls Try.prog 114 #[.int .i64 n] w fun e w' => ∃ v, e = .returned v ∧
      w'.ownsRow w.heap.size 3 1 v n ((sameL n).map (Value.int .i64)) ∧ Below w.heap.size w w' := by
  obtain ⟨i0, hi, hz0, hz1, hz2⟩ := info_parts Try.info3
  go_enter Try.func114, Try.ntmps114
  go_wp2
  go_loopw [3, 4] (fun v i wr => ∃ k : Nat, k ≤ n ∧ i = .int .i64 k ∧ wr.ownsRow w.heap.size 3 1 v k (((sameL n).take k).map (Value.int .i64)) ∧ Below w.heap.size w wr)
    (fun _ i _ => n - (intOf i).toNat)
  case atStart => exact ⟨0, Nat.zero_le _, rfl, row_lit0 w, below_one _ _⟩
  case round =>
    obtain ⟨k, hk, rfl, ho, hb⟩ := hrel
    by_cases hlt : k < n
    · have hpt : wrap64 (2 ^ k) = pt k := by
        rcases (by omega : k = 0 ∨ k = 1 ∨ k = 2 ∨ k = 3) with rfl | rfl | rfl | rfl <;> decide +kernel
      have HPT := Lib.hid hpt
      clear hpt
      go_wp2_with (at_builtin; refine wpList_append_own _ rfl (.tmp 11) (.tmp 14) 23 rfl w.heap.size 3 i0 (.int .i64 0) 1 8 Try.underlying23 hi hz0 hz1 hz2 rfl (by decide) _ _ _ rfl (ho.alloc _) ⟨wr.heap.size, 0, none⟩ 1 1 [_] rfl rfl (cell_one_new _ _ _) (by simp [Value.oneCell']) (by unfold maxLen; omega) (by omega) (by have := hb.size; simp; omega) ?_)
      intro v' w1 hown' hgrow _
      have hb' := own_step' ho hb hb.size _ hgrow
      rw [HPT.out, ← List.map_take, ← List.map_singleton (f := Value.int .i64), ← List.map_append, ← same_take n k hlt] at hown'
      clear ho hb hgrow
      go_wp2
      go_roundw
      case rel => exact ⟨k + 1, by omega, by go_num, hown', hb'⟩
      case measure => simp [intOf]; omega
    · go_wp2
      go_ret
      obtain rfl : k = n := by omega
      rw [List.take_of_length_le (by rw [sameL_len]; exact Nat.le_refl _)] at ho
      exact ⟨_, rfl, ho, hb⟩

theorem implRelSame_any (n : Int) (w : World) :
    Calls Try.prog 35 #[.int .i64 n] w (Gave w (ifR (inB n 1 4) (sameL n.toNat)) (inB n 1 4)) := by
  cases hp : inB n 1 4 with
  | false =>
    go_enter Try.func35, Try.ntmps35
    go_wp2_with (go_at_call 72; refine (isCount_any _ _).mono ?_; rintro e w1 ⟨rfl, rfl⟩)
    go_ret2
    exact ⟨.slice none 0 0, rfl, World.ownsRow_nil _ _ _ _, Below.refl _ _⟩
  | true =>
    have hb : 1 ≤ n ∧ n ≤ 4 := by unfold inB at hp; exact of_decide_eq_true hp
    obtain ⟨k, rfl⟩ : ∃ k : Nat, n = (k : Int) := ⟨n.toNat, by omega⟩
    have hb1 : 1 ≤ k := by omega
    have hb4 : k ≤ 4 := by omega
    clear hb
    go_enter Try.func35, Try.ntmps35
    go_wp2_with fail
    refine (isCount_any _ _).mono ?_
    rintro e w1 ⟨rfl, rfl⟩
    go_wp2_with fail
    refine (sameOn_any k _ hb1 hb4).mono ?_
    rintro e w2 ⟨rfl, hb2⟩
    go_wp2_with fail
    refine (list_any (sameL k) w2 (by rw [sameL_len]; exact hb4)).mono ?_
    rintro e w3 ⟨v, rfl, ho, hb3⟩
    go_wp2
    go_ret2
    exact ⟨v, rfl, own_mono ho hb2.size, hb2.trans (hb3.mono hb2.size)⟩
end Go.Proofs.Ytchbbflpckaddaa
