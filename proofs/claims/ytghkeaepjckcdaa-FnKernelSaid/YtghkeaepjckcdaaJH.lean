/-
  Kernels, of the program and of the model; EquKernel.
-/
import Derived.Test.YtghkeaepjckcdaaJE
namespace Go.Proofs.Ytghkeaepjckcdaa
open Go.RowKit

/-- the kernel: points with the same row -/
def kerL (xs : List Int) : List Int := testR xs.length fun i j => decide (rowAt xs i = rowAt xs j)
theorem kerL_len (xs : List Int) : (kerL xs).length = xs.length := testAcc_len _ _ _
theorem ptb_or : ∀ z : Fin 16, ∀ j : Fin 4, bits .or .i64 (z.val : Int) (wrap64 (2 ^ j.val)) = bits .or .i64 (z.val : Int) (pt j.val) := by decide +kernel
theorem test16 (n : Nat) (h4 : n ≤ 4) (f : Nat → Nat → Bool) (m i : Nat) : ∃ z : Fin 16, rowAt (testAcc n f m) i = (z.val : Int) := by
  rcases Nat.eq_zero_or_pos n with e | e
  · subst e
    refine ⟨0, ?_⟩
    have : testAcc 0 f m = [] := List.length_eq_zero_iff.1 (testAcc_len 0 f m)
    rw [this]
    rfl
  · obtain ⟨y, hy, _⟩ := (testR_fold e h4 (testTo n f m)).1.row i
    exact ⟨y, hy⟩

set_option maxHeartbeats 4000000 in
theorem kernel_any (xs : List Int) (w : World) (h4 : xs.length ≤ 4) :
    Calls Try.prog 34 #[relOf xs] w fun e w' => e = .returned (relOf (kerL xs)) ∧ Below w.heap.size w w' := by
  have x0 := ((RelAt.new w xs).alloc (.cells #[.int .i64 0, .int .i64 0, .int .i64 0, .int .i64 0, .int .i64 0] 41)).alloc (.cells #[.int .i64 xs.length, .int .i64 0, .int .i64 0, .int .i64 0, .int .i64 0] 41)
  have z2 := (rel_zero (w.alloc (.cells #[.int .i64 xs.length, .int .i64 (rowAt xs 0), .int .i64 (rowAt xs 1), .int .i64 (rowAt xs 2), .int .i64 (rowAt xs 3)] 41))).alloc (.cells #[.int .i64 xs.length, .int .i64 0, .int .i64 0, .int .i64 0, .int .i64 0] 41)
  have z3 := zero_new ((w.alloc (.cells #[.int .i64 xs.length, .int .i64 (rowAt xs 0), .int .i64 (rowAt xs 1), .int .i64 (rowAt xs 2), .int .i64 (rowAt xs 3)] 41)).alloc (.cells #[.int .i64 0, .int .i64 0, .int .i64 0, .int .i64 0, .int .i64 0] 41)) xs.length
  simp only [World.size_alloc] at z2 z3
  have B0 := below_three w (.cells #[.int .i64 xs.length, .int .i64 (rowAt xs 0), .int .i64 (rowAt xs 1), .int .i64 (rowAt xs 2), .int .i64 (rowAt xs 3)] 41) (.cells #[.int .i64 0, .int .i64 0, .int .i64 0, .int .i64 0, .int .i64 0] 41) (.cells #[.int .i64 xs.length, .int .i64 0, .int .i64 0, .int .i64 0, .int .i64 0] 41)
  rw [← testAcc_zero xs.length (fun i j => decide (rowAt xs i = rowAt xs j))] at z3
  have hfr : kerL xs = testAcc xs.length (fun i j => decide (rowAt xs i = rowAt xs j)) (xs.length * xs.length) := rfl
  obtain ⟨f, hf⟩ : ∃ f : Nat → Nat → Bool, (fun i j => decide (rowAt xs i = rowAt xs j)) = f := ⟨_, rfl⟩
  rw [hf] at z3 hfr
  have hfe : ∀ i j, f i j = decide (rowAt xs i = rowAt xs j) := fun i j => by rw [← hf]
  rw [hfr]
  have H := Lib.hid hfe
  clear hf hfr hfe
  go_enter Try.func34, Try.ntmps34
  go_wp2
  go_loopw [11, 4] (fun i _ wr => ∃ k : Nat, k ≤ xs.length ∧ i = .int .i64 k ∧ RelAt wr w.heap.size xs ∧ RelAt wr (w.heap.size + 1) [] ∧ RelAt wr (w.heap.size + 1 + 1) (testAcc xs.length f (k * xs.length)) ∧ Below w.heap.size w wr)
    (fun i _ _ => xs.length - (intOf i).toNat)
  case atStart => exact ⟨0, Nat.zero_le _, rfl, x0, z2, by rw [Nat.zero_mul]; exact z3, B0⟩
  case round =>
    obtain ⟨i, hi, rfl, hx, hz, hr, hB⟩ := hrel
    clear x0 z2 z3 B0
    obtain ⟨wo, rfl⟩ : ∃ wo : World, wo = wr := ⟨_, rfl⟩
    have c0 := hx.cell0
    by_cases hlt : i < xs.length
    · go_wp2
      go_loopw [16, 5] (fun j _ wr => ∃ k : Nat, k ≤ xs.length ∧ j = .int .i64 k ∧ RelAt wr w.heap.size xs ∧ RelAt wr (w.heap.size + 1) [] ∧ RelAt wr (w.heap.size + 1 + 1) (testAcc xs.length f (i * xs.length + k)) ∧ Below w.heap.size w wr)
        (fun j _ _ => xs.length - (intOf j).toNat)
      case atStart => exact ⟨0, Nat.zero_le _, rfl, hx, hz, hr, hB⟩
      case round =>
        clear hx hz hr hB c0
        obtain ⟨j, hj, rfl, hx, hz, hr, hB⟩ := hrel
        by_cases hlj : j < xs.length
        · have c1 := hx.row i (by omega)
          have c2 := hx.row j (by omega)
          have hi4 : ((i : Nat) : Int) < 4 := by omega
          have hj4 : ((j : Nat) : Int) < 4 := by omega
          have hst := testAcc_step xs.length h4 f i j hlt hlj
          have hfe := H.out i j
          obtain ⟨a, ha⟩ : ∃ a, rowAt xs i = a := ⟨_, rfl⟩
          obtain ⟨c, hc⟩ : ∃ c, rowAt xs j = c := ⟨_, rfl⟩
          rw [ha] at c1 hfe
          rw [hc] at c2 hfe
          clear ha hc
          by_cases e : a = c
          · rw [hfe, decide_eq_true e, if_pos rfl] at hst
            subst e
            have HST := Lib.hid hst
            have hln := testAcc_len xs.length f (i * xs.length + j)
            have HL := Lib.hid hln
            clear hst hfe hln
            go_wp2
            go_quiet (fail)
            have hx' := hx.drewN nq
            have hr' := hr.drewN nq
            have hz' := hz.drewN nq
            have hB' := below_drewN hB nq
            obtain ⟨wq, hwq⟩ : ∃ wq, wr.drewN nq = wq := ⟨_, rfl⟩
            rw [hwq] at hx' hr' hz' hB' ⊢
            clear hwq
            have p0 := hr'.cell0
            have p1 := hr'.cell1
            have p2 := hr'.cell2
            have p3 := hr'.cell3
            have p4 := hr'.cell4
            go_wp2_with fail
            refine (withPair_any (testAcc xs.length f (i * xs.length + j)) i j wq (by rw [HL.out]; exact h4) (by rw [HL.out]; exact hlt) (by omega)).mono ?_
            rintro e w1 ⟨rfl, hb⟩
            have hx1 := hx'.below hb hx'.lt
            have hr1 := hr'.below hb hr'.lt
            have hz1 := hz'.below hb hz'.lt
            have hB1 := hB'.trans (hb.mono hB'.size)
            rw [← HST.out]
            have q0 := hr1.cell0
            have q1 := hr1.cell1
            have q2 := hr1.cell2
            have q3 := hr1.cell3
            have q4 := hr1.cell4
            have f0 := hr1.free 0
            have f1 := hr1.free 1
            have f2 := hr1.free 2
            have f3 := hr1.free 3
            have f4 := hr1.free 4
            have hput := hr1.put (testAcc xs.length f (i * xs.length + (j + 1)))
            have hxo := fun (W : World) (j : Nat) (v : Value) (h : RelAt W w.heap.size xs) => h.other (p := ⟨w.heap.size + 1 + 1, j, none⟩) (by show w.heap.size ≠ w.heap.size + 1 + 1; omega) v
            have hzo := fun (W : World) (j : Nat) (v : Value) (h : RelAt W (w.heap.size + 1) []) => h.other (p := ⟨w.heap.size + 1 + 1, j, none⟩) (by show w.heap.size + 1 ≠ w.heap.size + 1 + 1; omega) v
            have bc := fun (W : World) (j : Nat) (v : Value) (h : Below w.heap.size w W) => h.setCell (p := ⟨w.heap.size + 1 + 1, j, none⟩) (by show w.heap.size ≤ w.heap.size + 1 + 1; omega) v
            clear hx' hr' hz' hb hB' p0 p1 p2 p3 p4 hx hr hz hB c1 c2
            have HP := Lib.hid hput
            clear hput
            go_wp2
            go_roundw
            case rel => exact ⟨j + 1, by omega, by go_num, hxo _ _ _ (hxo _ _ _ (hxo _ _ _ (hxo _ _ _ (hxo _ _ _ hx1)))), hzo _ _ _ (hzo _ _ _ (hzo _ _ _ (hzo _ _ _ (hzo _ _ _ hz1)))), HP.out, bc _ _ _ (bc _ _ _ (bc _ _ _ (bc _ _ _ (bc _ _ _ hB1))))⟩
            case measure => simp [intOf]; omega
          · rw [hfe, decide_eq_false e, if_neg (by simp)] at hst
            have he : (a == c) = false := by simp [e]
            have HST := Lib.hid hst
            clear hst hfe e
            go_wp2
            go_quiet (fail)
            go_wp2
            go_roundw
            case rel => exact ⟨j + 1, by omega, by go_num, hx.drewN _, hz.drewN _, by rw [HST.out]; exact hr.drewN _, below_drewN hB _⟩
            case measure => simp [intOf]; omega
        · obtain rfl : j = xs.length := by omega
          go_wp2
          go_roundw
          case rel => exact ⟨i + 1, by omega, by go_num, hx, hz, by rw [Nat.succ_mul]; exact hr, hB⟩
          case measure => simp [intOf]; omega
    · obtain rfl : i = xs.length := by omega
      have hln := testAcc_len xs.length f (xs.length * xs.length)
      have p0 := hr.cell0
      rw [hln] at p0
      have p1 := hr.cell1
      have p2 := hr.cell2
      have p3 := hr.cell3
      have p4 := hr.cell4
      have HL := Lib.hid hln
      clear hln c0
      have q0 := hz.cell0
      have q1 := hz.cell1
      have q2 := hz.cell2
      have q3 := hz.cell3
      have q4 := hz.cell4
      have f0 := hz.free 0
      have f1 := hz.free 1
      have f2 := hz.free 2
      have f3 := hz.free 3
      have f4 := hz.free 4
      have bb := fun (W : World) (j : Nat) (v : Value) (h : Below w.heap.size w W) => h.setCell (p := ⟨w.heap.size + 1, j, none⟩) (Nat.le_succ _) v
      go_wp2
      refine bodyPost_ret (v := relOf (testAcc xs.length f (xs.length * xs.length))) (by simp [results, Try.results34, go_sem, q0, q1, q2, q3, q4, HL.out]) rfl ⟨rfl, ?_⟩
      exact bb _ _ _ (bb _ _ _ (bb _ _ _ (bb _ _ _ (bb _ _ _ hB))))

theorem cf_kernel (args : Array Value) (w : World) : Sem.run Try.prog (callFunc 34 args) w = .ok (.enter 34 args) w := by kernel_rfl
theorem implEquKernel_any (ao : Option Addr) (ca : Nat) (xs : List Int) (w : World) (hl : xs.length ≤ 1048576) (hx : Rd w ao xs) :
    Calls Try.prog 9 #[.slice ao xs.length ca] w (Gave w (ifR (relIn xs) (kerL xs)) (relIn xs)) := by
  cases hp : relIn xs with
  | false =>
    have HC := Lib.hid (madeOfOne_no (.func (.func 34) #[] #[]) ao ca xs w hl hx hp)
    clear hx hp
    go_enter Try.func9, Try.ntmps9
    go_wp2_with fail
    refine HC.out.mono ?_
    rintro e w1 ⟨v, rfl, ho, hb⟩
    go_wp2
    go_ret2
    exact ⟨v, rfl, ho, hb⟩
  | true =>
    have h4 := (relIn_len hp).2
    have HC := Lib.hid (madeOfOne_yes 34 cf_kernel kerL ao ca xs w hx hp (kerL_len xs) (fun w => kernel_any xs w h4))
    clear hx hp
    go_enter Try.func9, Try.ntmps9
    go_wp2_with fail
    refine HC.out.mono ?_
    rintro e w1 ⟨v, rfl, ho, hb⟩
    go_wp2
    go_ret2
    exact ⟨v, rfl, ho, hb⟩

set_option maxHeartbeats 4000000 in
theorem l4Kernel_any (ao : Option Addr) (cap : Nat) (xs : List Int) (w : World) (hp : relIn xs = true) (hx : Rd w ao xs) :
    Calls Try.prog 36 #[.slice ao xs.length cap] w fun e w' => ∃ v, e = .returned v ∧
      w'.ownsRow w.heap.size 3 1 v xs.length ((kerL xs).map (Value.int .i64)) ∧ Below w.heap.size w w' := by
  obtain ⟨i0, hi, hz0, hz1, hz2⟩ := info_parts Try.info3
  have h4 := (relIn_len hp).2
  have hfr : kerL xs = testAcc xs.length (fun i j => decide (rowAt xs i = rowAt xs j)) (xs.length * xs.length) := rfl
  obtain ⟨f, hf⟩ : ∃ f : Nat → Nat → Bool, (fun i j => decide (rowAt xs i = rowAt xs j)) = f := ⟨_, rfl⟩
  rw [hf] at hfr
  have hfe : ∀ i j, f i j = decide (rowAt xs i = rowAt xs j) := fun i j => by rw [← hf]
  rw [hfr]
  have H := Lib.hid hfe
  clear hp hf hfr hfe
  go_enter Try.func36, Try.ntmps36
  go_wp2_with (at_make; refine wpList_make_full _ rfl _ _ 23 rfl w.heap.size 3 i0 (.int .i64 0) 1 Try.underlying23 hi hz0 hz1 _ _ _ _ xs.length rfl rfl rfl rfl ?c1 ?c2 ?c3 ?_)
  case c1 => rw [hz2]; omega
  case c2 => unfold maxLen; omega
  case c3 => exact Nat.le_refl _
  intro w1 hown hgrow
  have hB : Below w.heap.size w w1 := (Below.refl _ _).grown hgrow (Nat.le_refl _) (by simp)
  rw [toList_madeCells_one] at hown
  have hown0 : w1.ownsRow w.heap.size 3 1 (.slice (some ⟨w.heap.size, 0, none⟩) xs.length xs.length) xs.length ((testAcc xs.length f 0).map (Value.int .i64)) := by
    rw [testAcc_zero]
    simpa using hown
  clear hgrow hown
  go_wp2
  go_loopw [4, 5] (fun i _ wr => ∃ k : Nat, k ≤ xs.length ∧ i = .int .i64 k ∧ wr.ownsRow w.heap.size 3 1 (.slice (some ⟨w.heap.size, 0, none⟩) xs.length xs.length) xs.length ((testAcc xs.length f (k * xs.length)).map (Value.int .i64)) ∧ Below w.heap.size w wr)
    (fun i _ _ => xs.length - (intOf i).toNat)
  case atStart => exact ⟨0, Nat.zero_le _, rfl, by rw [Nat.zero_mul]; exact hown0, hB⟩
  case round =>
    clear hown0 hB
    obtain ⟨i, hi2, rfl, ho, hB⟩ := hrel
    obtain ⟨wo, rfl⟩ : ∃ wo : World, wo = wr := ⟨_, rfl⟩
    by_cases hlt : i < xs.length
    · go_wp2
      go_loopw [5] (fun j wr => ∃ k : Nat, k ≤ xs.length ∧ j = .int .i64 k ∧ wr.ownsRow w.heap.size 3 1 (.slice (some ⟨w.heap.size, 0, none⟩) xs.length xs.length) xs.length ((testAcc xs.length f (i * xs.length + k)).map (Value.int .i64)) ∧ Below w.heap.size w wr)
        (fun j _ => xs.length - (intOf j).toNat)
      case atStart => exact ⟨0, Nat.zero_le _, rfl, ho, hB⟩
      case round =>
        clear ho hB
        obtain ⟨j, hj, rfl, ho, hB⟩ := hrel
        by_cases hlj : j < xs.length
        · obtain ⟨b, off, x, hxk, rfl, hbl, hc1⟩ := (hx.below hB).get i hlt
          obtain ⟨b', off', y, hyk, hbo, hbl', hc2⟩ := (hx.below hB).get j hlj
          simp only [Option.some.injEq, Addr.mk.injEq, and_true] at hbo
          obtain ⟨rfl, rfl⟩ := hbo
          have hxe : rowAt xs i = x := by have := rowAt_get hlt; rw [hxk] at this; exact (Option.some.inj this).symm
          have hye : rowAt xs j = y := by have := rowAt_get hlj; rw [hyk] at this; exact (Option.some.inj this).symm
          have hi1 : ((i : Nat) : Int) < (xs.length : Int) := by omega
          have hj1 : ((j : Nat) : Int) < (xs.length : Int) := by omega
          have hst := testAcc_step xs.length h4 f i j hlt hlj
          have hfe := H.out i j
          rw [hxe, hye] at hfe
          by_cases e : x = y
          · obtain ⟨z, hz⟩ := test16 xs.length h4 f (i * xs.length + j) i
            have hc3 := ho.cellAt i (by omega)
            have hf3 := ho.frozenAt i
            have hzk : ((testAcc xs.length f (i * xs.length + j)).map (Value.int .i64))[i]? = some (.int .i64 (z.val : Int)) := by
              rw [List.getElem?_map, rowAt_get (by rw [testAcc_len]; exact hlt), hz]
              rfl
            rw [hzk] at hc3
            rw [hfe, decide_eq_true e, if_pos rfl] at hst
            unfold addPair at hst
            rw [hz, ← ptb_or z ⟨j, by omega⟩] at hst
            have hs2 := (ho.stored i (.int .i64 (bits .or .i64 (z.val : Int) (wrap64 (2 ^ j))))).1
            rw [← List.map_set, ← hst] at hs2
            subst e
            have HO := Lib.hid (And.intro hs2 hB)
            have hfz : ∀ m, (wr.drewN m).frozen? ⟨w.heap.size, i, none⟩ = false := fun _ => hf3
            clear hst hfe hzk hz hs2 ho hB hx hxk hyk hxe hye
            go_wp2
            go_quiet (fail)
            go_wp2
            go_region
            all_goals
              go_wp2
              go_roundw
              case rel => exact ⟨j + 1, by omega, by go_num, HO.out.1, (below_drewN HO.out.2 nq).drew.setCell (p := ⟨w.heap.size, i, none⟩) (Nat.le_refl _) _⟩
              case measure => simp [intOf]; omega
          · rw [hfe, decide_eq_false e, if_neg (by simp)] at hst
            have he : (x == y) = false := by simp [e]
            have HST := Lib.hid (And.intro hst (And.intro ho hB))
            clear hst hfe e hxk hyk hxe hye hx ho hB
            go_wp2
            go_quiet (fail)
            go_wp2
            go_roundw
            case rel => exact ⟨j + 1, by omega, by go_num, by rw [HST.out.1]; exact (Dn.drewN wr nq).row HST.out.2.1, below_drewN HST.out.2.2 _⟩
            case measure => simp [intOf]; omega
        · obtain rfl : j = xs.length := by omega
          go_wp2
          go_roundw
          case rel => exact ⟨i + 1, by omega, by go_num, by rw [Nat.succ_mul]; exact ho, hB⟩
          case measure => simp [intOf]; omega
    · obtain rfl : i = xs.length := by omega
      go_wp2
      go_ret
      exact ⟨_, rfl, ho, hB⟩

theorem specEquKernel_any (ao : Option Addr) (ca : Nat) (xs : List Int) (w : World) (hl : xs.length ≤ 1048576) (hx : Rd w ao xs) :
    Calls Try.prog 10 #[.slice ao xs.length ca] w (Gave w (ifR (relIn xs) (kerL xs)) (relIn xs)) := by
  have h1 := specRelIn_any ao ca xs w hl hx
  cases hp : relIn xs with
  | false =>
    rw [hp] at h1
    have H1 := Lib.hid h1
    clear h1 hp hx
    go_enter Try.func10, Try.ntmps10
    go_wp2_with fail
    refine H1.out.mono ?_
    rintro e w1 ⟨rfl, hd⟩
    have hb := hd.below w.heap.size
    have hr := own_mono (row_lit0 w1) hb.size
    go_wp2
    go_ret2
    exact ⟨_, rfl, hr, hb.alloc hb.size _⟩
  | true =>
    rw [hp] at h1
    have H1 := Lib.hid h1
    have HC := Lib.hid (fun wr h => l4Kernel_any ao ca xs wr hp h)
    have hln := kerL_len xs
    have HLN := Lib.hid hln
    clear h1 hp hln
    go_enter Try.func10, Try.ntmps10
    go_wp2_with fail
    refine H1.out.mono ?_
    rintro e w1 ⟨rfl, hd⟩
    have hb := hd.below w.heap.size
    have hx1 := hd.rd hx
    clear hd hx
    go_wp2_with fail
    refine (HC.out _ hx1).mono ?_
    rintro e w2 ⟨v, rfl, ho, hb2⟩
    have hr := own_mono ho hb.size
    go_wp2
    go_ret2
    exact ⟨v, rfl, by rw [show (ifR true (kerL xs)).length = xs.length from HLN.out]; exact hr, hb.trans (hb2.mono hb.size)⟩
end Go.Proofs.Ytghkeaepjckcdaa
