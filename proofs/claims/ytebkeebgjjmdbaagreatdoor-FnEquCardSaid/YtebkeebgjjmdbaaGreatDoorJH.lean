/-
  Kernels, of the program and of the model; EquKernel.
-/
import Derived.Test.YtebkeebgjjmdbaaGreatDoorJA
namespace Go.Proofs.YtebkeebgjjmdbaaGreatDoor
open Go.RowKit

/-- the kernel: points with the same row -/
def kerL (xs : List Int) : List Int := testR xs.length fun i j => decide (rowAt xs i = rowAt xs j)
theorem kerL_len (xs : List Int) : (kerL xs).length = xs.length := testAcc_len _ _ _
theorem ptb_or : ∀ z : Fin 16, ∀ j : Fin 4, bits .or .i64 (z.val : Int) (wrap64 (2 ^ j.val)) = bits .or .i64 (z.val : Int) (pt j.val) := by decide +kernel
theorem test16 (n : Nat) (h4 : n ≤ 4) (f : Nat → Nat → Bool) (m i : Nat) : ∃ z : Fin 16, rowAt (testAcc n f m) i = (z.val : Int) := by
  rcases Nat.eq_zero_or_pos n with e | e
  · subst e
    refine ⟨0, ?_⟩
    have : testAcc 0 f m = [] := List.length_eq_zero_iff.1 (testAcc_len 0 f m)
    rw [this]
    rfl
  · obtain ⟨y, hy, _⟩ := (testR_fold e h4 (testTo n f m)).1.row i
    exact ⟨y, hy⟩

set_option maxHeartbeats 4000000 in
theorem kernel_any (xs : List Int) (w : World) (h4 : xs.length ≤ 4) :
    Calls Tryz.prog 27 #[relOf xs] w fun e w' => e = .returned (relOf (kerL xs)) ∧ Below w.heap.size w w' := by
  have x0 := ((RelAt.new w xs).alloc (.cells #[.int .i64 0, .int .i64 0, .int .i64 0, .int .i64 0, .int .i64 0] 36)).alloc (.cells #[.int .i64 xs.length, .int .i64 0, .int .i64 0, .int .i64 0, .int .i64 0] 36)
  have z2 := (rel_zero (w.alloc (.cells #[.int .i64 xs.length, .int .i64 (rowAt xs 0), .int .i64 (rowAt xs 1), .int .i64 (rowAt xs 2), .int .i64 (rowAt xs 3)] 36))).alloc (.cells #[.int .i64 xs.length, .int .i64 0, .int .i64 0, .int .i64 0, .int .i64 0] 36)
  have z3 := zero_new ((w.alloc (.cells #[.int .i64 xs.length, .int .i64 (rowAt xs 0), .int .i64 (rowAt xs 1), .int .i64 (rowAt xs 2), .int .i64 (rowAt xs 3)] 36)).alloc (.cells #[.int .i64 0, .int .i64 0, .int .i64 0, .int .i64 0, .int .i64 0] 36)) xs.length
  simp only [World.size_alloc] at z2 z3
  have B0 := below_three w (.cells #[.int .i64 xs.length, .int .i64 (rowAt xs 0), .int .i64 (rowAt xs 1), .int .i64 (rowAt xs 2), .int .i64 (rowAt xs 3)] 36) (.cells #[.int .i64 0, .int .i64 0, .int .i64 0, .int .i64 0, .int .i64 0] 36) (.cells #[.int .i64 xs.length, .int .i64 0, .int .i64 0, .int .i64 0, .int .i64 0] 36)
  rw [← testAcc_zero xs.length (fun i j => decide (rowAt xs i = rowAt xs j))] at z3
  have hfr : kerL xs = testAcc xs.length (fun i j => decide (rowAt xs i = rowAt xs j)) (xs.length * xs.length) := rfl
  obtain ⟨f, hf⟩ : ∃ f : Nat → Nat → Bool, (fun i j => decide (rowAt xs i = rowAt xs j)) = f := ⟨_, rfl⟩
  rw [hf] at z3 hfr
  have hfe : ∀ i j, f i j = decide (rowAt xs i = rowAt xs j) := fun i j => by rw [← hf]
  rw [hfr]
  have H := Lib.hid hfe
  clear hf hfr hfe
  go_enter Tryz.func27, Tryz.ntmps27
  go_wp2
  go_loopw [11, 4] (fun i _ wr => ∃ k : Nat, k ≤ xs.length ∧ i = .int .i64 k ∧ RelAt wr w.heap.size xs ∧ RelAt wr (w.heap.size + 1) [] ∧ RelAt wr (w.heap.size + 1 + 1) (testAcc xs.length f (k * xs.length)) ∧ Below w.heap.size w wr)
    (fun i _ _ => xs.length - (intOf i).toNat)
  case atStart => exact ⟨0, Nat.zero_le _, rfl, x0, z2, by rw [Nat.zero_mul]; exact z3, B0⟩
  case round =>
    obtain ⟨i, hi, rfl, hx, hz, hr, hB⟩ := hrel
    clear x0 z2 z3 B0
    obtain ⟨wo, rfl⟩ : ∃ wo : World, wo = wr := ⟨_, rfl⟩
    have c0 := hx.cell0
    by_cases hlt : i < xs.length
    · go_wp2
      go_loopw [16, 5] (fun j _ wr => ∃ k : Nat, k ≤ xs.length ∧ j = .int .i64 k ∧ RelAt wr w.heap.size xs ∧ RelAt wr (w.heap.size + 1) [] ∧ RelAt wr (w.heap.size + 1 + 1) (testAcc xs.length f (i * xs.length + k)) ∧ Below w.heap.size w wr)
        (fun j _ _ => xs.length - (intOf j).toNat)
      case atStart => exact ⟨0, Nat.zero_le _, rfl, hx, hz, hr, hB⟩
      case round =>
        clear hx hz hr hB c0
        obtain ⟨j, hj, rfl, hx, hz, hr, hB⟩ := hrel
        by_cases hlj : j < xs.length
        · have c1 := hx.row i (by omega)
          have c2 := hx.row j (by omega)
          have hi4 : ((i : Nat) : Int) < 4 := by omega
          have hj4 : ((j : Nat) : Int) < 4 := by omega
          have hst := testAcc_step xs.length h4 f i j hlt hlj
          have hfe := H.out i j
          obtain ⟨a, ha⟩ : ∃ a, rowAt xs i = a := ⟨_, rfl⟩
          obtain ⟨c, hc⟩ : ∃ c, rowAt xs j = c := ⟨_, rfl⟩
          rw [ha] at c1 hfe
          rw [hc] at c2 hfe
          clear ha hc
          by_cases e : a = c
          · rw [hfe, decide_eq_true e, if_pos rfl] at hst
            subst e
            have HST := Lib.hid hst
            have hln := testAcc_len xs.length f (i * xs.length + j)
            have HL := Lib.hid hln
            clear hst hfe hln
            go_wp2
            go_quiet (fail)
            have hx' := hx.drewN nq
            have hr' := hr.drewN nq
            have hz' := hz.drewN nq
            have hB' := below_drewN hB nq
            obtain ⟨wq, hwq⟩ : ∃ wq, wr.drewN nq = wq := ⟨_, rfl⟩
            rw [hwq] at hx' hr' hz' hB' ⊢
            clear hwq
            have p0 := hr'.cell0
            have p1 := hr'.cell1
            have p2 := hr'.cell2
            have p3 := hr'.cell3
            have p4 := hr'.cell4
            go_wp2_with fail
            refine (withPair_any (testAcc xs.length f (i * xs.length + j)) i j wq (by rw [HL.out]; exact h4) (by rw [HL.out]; exact hlt) (by omega)).mono ?_
            rintro e w1 ⟨rfl, hb⟩
            have hx1 := hx'.below hb hx'.lt
            have hr1 := hr'.below hb hr'.lt
            have hz1 := hz'.below hb hz'.lt
            have hB1 := hB'.trans (hb.mono hB'.size)
            rw [← HST.out]
            have q0 := hr1.cell0
            have q1 := hr1.cell1
            have q2 := hr1.cell2
            have q3 := hr1.cell3
            have q4 := hr1.cell4
            have f0 := hr1.free 0
            have f1 := hr1.free 1
            have f2 := hr1.free 2
            have f3 := hr1.free 3
            have f4 := hr1.free 4
            have hput := hr1.put (testAcc xs.length f (i * xs.length + (j + 1)))
            have hxo := fun (W : World) (j : Nat) (v : Value) (h : RelAt W w.heap.size xs) => h.other (p := ⟨w.heap.size + 1 + 1, j, none⟩) (by show w.heap.size ≠ w.heap.size + 1 + 1; omega) v
            have hzo := fun (W : World) (j : Nat) (v : Value) (h : RelAt W (w.heap.size + 1) []) => h.other (p := ⟨w.heap.size + 1 + 1, j, none⟩) (by show w.heap.size + 1 ≠ w.heap.size + 1 + 1; omega) v
            have bc := fun (W : World) (j : Nat) (v : Value) (h : Below w.heap.size w W) => h.setCell (p := ⟨w.heap.size + 1 + 1, j, none⟩) (by show w.heap.size ≤ w.heap.size + 1 + 1; omega) v
            clear hx' hr' hz' hb hB' p0 p1 p2 p3 p4 hx hr hz hB c1 c2
            have HP := Lib.hid hput
            clear hput
            go_wp2
            go_roundw
            case rel => exact ⟨j + 1, by omega, by go_num, hxo _ _ _ (hxo _ _ _ (hxo _ _ _ (hxo _ _ _ (hxo _ _ _ hx1)))), hzo _ _ _ (hzo _ _ _ (hzo _ _ _ (hzo _ _ _ (hzo _ _ _ hz1)))), HP.out, bc _ _ _ (bc _ _ _ (bc _ _ _ (bc _ _ _ (bc _ _ _ hB1))))⟩
            case measure => simp [intOf]; omega
          · rw [hfe, decide_eq_false e, if_neg (by simp)] at hst
            have he : (a == c) = false := by simp [e]
            have HST := Lib.hid hst
            clear hst hfe e
            go_wp2
            go_quiet (fail)
            go_wp2
            go_roundw
            case rel => exact ⟨j + 1, by omega, by go_num, hx.drewN _, hz.drewN _, by rw [HST.out]; exact hr.drewN _, below_drewN hB _⟩
            case measure => simp [intOf]; omega
        · obtain rfl : j = xs.length := by omega
          go_wp2
          go_roundw
          case rel => exact ⟨i + 1, by omega, by go_num, hx, hz, by rw [Nat.succ_mul]; exact hr, hB⟩
          case measure => simp [intOf]; omega
    · obtain rfl : i = xs.length := by omega
      have hln := testAcc_len xs.length f (xs.length * xs.length)
      have p0 := hr.cell0
      rw [hln] at p0
      have p1 := hr.cell1
      have p2 := hr.cell2
      have p3 := hr.cell3
      have p4 := hr.cell4
      have HL := Lib.hid hln
      clear hln c0
      have q0 := hz.cell0
      have q1 := hz.cell1
      have q2 := hz.cell2
      have q3 := hz.cell3
      have q4 := hz.cell4
      have f0 := hz.free 0
      have f1 := hz.free 1
      have f2 := hz.free 2
      have f3 := hz.free 3
      have f4 := hz.free 4
      have bb := fun (W : World) (j : Nat) (v : Value) (h : Below w.heap.size w W) => h.setCell (p := ⟨w.heap.size + 1, j, none⟩) (Nat.le_succ _) v
      go_wp2
      refine bodyPost_ret (v := relOf (testAcc xs.length f (xs.length * xs.length))) (by simp [results, Tryz.results27, go_sem, q0, q1, q2, q3, q4, HL.out]) rfl ⟨rfl, ?_⟩
      exact bb _ _ _ (bb _ _ _ (bb _ _ _ (bb _ _ _ (bb _ _ _ hB))))

theorem cf_kernel (args : Array Value) (w : World) : Sem.run Tryz.prog (callFunc 27 args) w = .ok (.enter 27 args) w := by kernel_rfl
theorem implEquKernel_any (ao : Option Addr) (ca : Nat) (xs : List Int) (w : World) (hl : xs.length ≤ 1048576) (hx : Rd w ao xs) :
    Calls Tryz.prog 10 #[.slice ao xs.length ca] w (Gave w (ifR (relIn xs) (kerL xs)) (relIn xs)) := by
  cases hp : relIn xs with
  | false =>
    have HC := Lib.hid (madeOfOne_no (.func (.func 27) #[] #[]) ao ca xs w hl hx hp)
    clear hx hp
    go_enter Tryz.func10, Tryz.ntmps10
    go_wp2_with fail
    refine HC.out.mono ?_
    rintro e w1 ⟨v, rfl, ho, hb⟩
    go_wp2
    go_ret2
    exact ⟨v, rfl, ho, hb⟩
  | true =>
    have h4 := (relIn_len hp).2
    have HC := Lib.hid (madeOfOne_yes 27 cf_kernel kerL ao ca xs w hx hp (kerL_len xs) (fun w => kernel_any xs w h4))
    clear hx hp
    go_enter Tryz.func10, Tryz.ntmps10
    go_wp2_with fail
    refine HC.out.mono ?_
    rintro e w1 ⟨v, rfl, ho, hb⟩
    go_wp2
    go_ret2
    exact ⟨v, rfl, ho, hb⟩

theorem ker_rl {n : Nat} {a : List Int} (R : Rl n a) : Rl n (kerL a) := by
  unfold kerL
  rw [R.len]
  exact Rl.test R.one R.four _
theorem hB_ker {n : Nat} {a : List Int} (R : Rl n a) (i j : Nat) (hi : i < n) (hj : j < n) : hB (kerL a) i j = decide (rowAt a i = rowAt a j) := by
  unfold kerL
  rw [R.len]
  exact hB_test R.one R.four _ i j hi hj
end Go.Proofs.YtebkeebgjjmdbaaGreatDoor
