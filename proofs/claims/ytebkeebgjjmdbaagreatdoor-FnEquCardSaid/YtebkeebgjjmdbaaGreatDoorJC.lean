/-
  Linked points read: their equivalence; the numbers of their classes. Kernels, of the program and of the model.
-/
import Derived.Test.YtebkeebgjjmdbaaGreatDoorJB
import Derived.LaidEqlPtr
namespace Go.Proofs.YtebkeebgjjmdbaaGreatDoor
open Go.RowKit

theorem Tryz.info74 : (Tryz.prog.info? 74).map (fun i => (i.zero.isSome, i.size, i.bytes)) = some (true, 2, 16) := by kernel_rfl
/-- pointers to linked points compared -/
theorem ptr_same (a : Addr) (w : World) : (binOp .eql 70 (.pointer (some a)) (.pointer (some a))).run Tryz.prog w = .ok (.bool true) w := by
  obtain ⟨j, hj, _⟩ := Option.map_eq_some_iff.1 Tryz.info74
  exact run_eql_ptr_same w a Tryz.underlying70 hj
theorem ptr_other {B n : Nat} {ps : List Nat} {w : World} (h : LinkW w B n ps) (i j : Nat) (hi : i < n) (hj : j < n) (hne : i ≠ j) :
    (binOp .eql 70 (.pointer (some ⟨B + 1 + i, 0, none⟩)) (.pointer (some ⟨B + 1 + j, 0, none⟩))).run Tryz.prog w = .ok (.bool false) w := by
  obtain ⟨k, hk, hs⟩ := Option.map_eq_some_iff.1 Tryz.info74
  simp only [Prod.mk.injEq] at hs
  exact run_eql_ptr_other w Tryz.underlying70 hk (by rw [hs.2.1]; decide) (by intro e; injection e with e1; omega) (h.node i hi) (h.node j hj)

theorem testAcc_full (n : Nat) (f : Nat → Nat → Bool) : testAcc n f (n * n) = testR n f := rfl

set_option maxHeartbeats 4000000 in
theorem equivalence_any {B n : Nat} {ps : List Nat} (hF : Fo ps) (h4 : n ≤ 4) (w : World) (h : LinkW w B n ps) (hB0 : B + 1 + n ≤ w.heap.size) :
    Calls Tryz.prog 24 #[.slice (some ⟨B, 0, none⟩) n n] w fun e w' => e = .returned (relOf (forestR n ps)) ∧ Below w.heap.size w w' := by
  have hL := fun (i : Nat) (hi : i < n) (wr : World) (hb : Below w.heap.size w wr) => least_any hF h4 i hi wr (h.below hb hB0)
  have hR := fun (i : Nat) (hi : i < n) (wr : World) (hb : Below w.heap.size w wr) => (h.below hb hB0).row i hi
  have hE := fun (i j : Nat) (hi : i < n) (hj : j < n) (wr : World) (hb : Below w.heap.size w wr) (m : Nat) (hne : rt ps i ≠ rt ps j) => ptr_other ((h.below hb hB0).drewN m) (rt ps i) (rt ps j) (by have := hF.rle i (by omega); omega) (by have := hF.rle j (by omega); omega) hne
  have z2 := (rel_zero w).alloc (.cells #[.int .i64 n, .int .i64 0, .int .i64 0, .int .i64 0, .int .i64 0] 36)
  have z3 := zero_new (w.alloc (.cells #[.int .i64 0, .int .i64 0, .int .i64 0, .int .i64 0, .int .i64 0] 36)) n
  simp only [World.size_alloc] at z3
  have B0 := below_two w (.cells #[.int .i64 0, .int .i64 0, .int .i64 0, .int .i64 0, .int .i64 0] 36) (.cells #[.int .i64 n, .int .i64 0, .int .i64 0, .int .i64 0, .int .i64 0] 36)
  rw [← testAcc_zero n (fun i j => decide (rt ps i = rt ps j))] at z3
  have hfr : forestR n ps = testAcc n (fun i j => decide (rt ps i = rt ps j)) (n * n) := rfl
  obtain ⟨f, hf⟩ : ∃ f : Nat → Nat → Bool, (fun i j => decide (rt ps i = rt ps j)) = f := ⟨_, rfl⟩
  rw [hf] at z3 hfr
  have hfe : ∀ i j, f i j = decide (rt ps i = rt ps j) := fun i j => by rw [← hf]
  rw [hfr]
  have H := Lib.hid (And.intro hL (And.intro hR (And.intro hfe hE)))
  clear hL hR hE h hF hf hfr hfe
  go_enter Tryz.func24, Tryz.ntmps24
  go_wp2
  go_loopw [11, 4] (fun i _ wr => ∃ k : Nat, k ≤ n ∧ i = .int .i64 k ∧ RelAt wr w.heap.size [] ∧ RelAt wr (w.heap.size + 1) (testAcc n f (k * n)) ∧ Below w.heap.size w wr)
    (fun i _ _ => n - (intOf i).toNat)
  case atStart => exact ⟨0, Nat.zero_le _, rfl, z2, by rw [Nat.zero_mul]; exact z3, B0⟩
  case round =>
    obtain ⟨i, hi, rfl, hz, hr, hB⟩ := hrel
    clear z2 z3 B0
    obtain ⟨wo, rfl⟩ : ∃ wo : World, wo = wr := ⟨_, rfl⟩
    by_cases hlt : i < n
    · go_wp2
      go_loopw [16, 5] (fun j _ wr => ∃ k : Nat, k ≤ n ∧ j = .int .i64 k ∧ RelAt wr w.heap.size [] ∧ RelAt wr (w.heap.size + 1) (testAcc n f (i * n + k)) ∧ Below w.heap.size w wr)
        (fun j _ _ => n - (intOf j).toNat)
      case atStart => exact ⟨0, Nat.zero_le _, rfl, hz, hr, hB⟩
      case round =>
        clear hz hr hB
        obtain ⟨j, hj, rfl, hz, hr, hB⟩ := hrel
        by_cases hlj : j < n
        · have c1 := H.out.2.1 i hlt wr hB
          have c2 := H.out.2.1 j hlj wr hB
          have q1 := fun m => quiet_eq (H.out.1 i hlt (wr.drewN m) (below_drewN hB m))
          have q2 := fun m => quiet_eq (H.out.1 j hlj (wr.drewN m) (below_drewN hB m))
          have hst := testAcc_step n h4 f i j hlt hlj
          have hfe := H.out.2.2.1 i j
          have hne := fun m => H.out.2.2.2 i j hlt hlj wr hB m
          have hi1 : ((i : Nat) : Int) < (n : Int) := by omega
          have hj1 : ((j : Nat) : Int) < (n : Int) := by omega
          have hpe : (rt ps i = rt ps j) ↔ (⟨B + 1 + rt ps i, 0, none⟩ : Addr) = ⟨B + 1 + rt ps j, 0, none⟩ := by simp
          obtain ⟨pi, hpi⟩ : ∃ p, (⟨B + 1 + i, 0, none⟩ : Addr) = p := ⟨_, rfl⟩
          obtain ⟨pj, hpj⟩ : ∃ p, (⟨B + 1 + j, 0, none⟩ : Addr) = p := ⟨_, rfl⟩
          obtain ⟨ri, hri⟩ : ∃ p, (⟨B + 1 + rt ps i, 0, none⟩ : Addr) = p := ⟨_, rfl⟩
          obtain ⟨rj, hrj⟩ : ∃ p, (⟨B + 1 + rt ps j, 0, none⟩ : Addr) = p := ⟨_, rfl⟩
          rw [hri, hrj] at hpe hne
          rw [hpi, hri] at q1
          rw [hpj, hrj] at q2
          rw [hpi] at c1
          rw [hpj] at c2
          have Q1 := Lib.hid q1
          have Q2 := Lib.hid q2
          clear hpi hpj hri hrj q1 q2
          by_cases e : ri = rj
          · rw [hfe, decide_eq_true (hpe.2 e), if_pos rfl] at hst
            subst e
            have hE := fun m => ptr_same ri (wr.drewN m)
            have HST := Lib.hid hst
            clear hne
            have hln := testAcc_len n f (i * n + j)
            have HL := Lib.hid hln
            clear hst hfe hpe hln
            go_wp2
            go_quiet (first | (go_at_call 41; with_reducible exact Q1.out _) | (go_at_call 41; with_reducible exact Q2.out _))
            have hr' := hr.drewN nq
            have hz' := hz.drewN nq
            have hB' := below_drewN hB nq
            obtain ⟨wq, hwq⟩ : ∃ wq, wr.drewN nq = wq := ⟨_, rfl⟩
            rw [hwq] at hr' hz' hB' ⊢
            clear hwq
            have p0 := hr'.cell0
            have p1 := hr'.cell1
            have p2 := hr'.cell2
            have p3 := hr'.cell3
            have p4 := hr'.cell4
            go_wp2_with fail
            refine (withPair_any (testAcc n f (i * n + j)) i j wq (by rw [HL.out]; exact h4) (by rw [HL.out]; exact hlt) (by omega)).mono ?_
            rintro e w1 ⟨rfl, hb⟩
            have hr1 := hr'.below hb hr'.lt
            have hz1 := hz'.below hb hz'.lt
            have hB1 := hB'.trans (hb.mono hB'.size)
            rw [← HST.out]
            have q0 := hr1.cell0
            have q1 := hr1.cell1
            have q2 := hr1.cell2
            have q3 := hr1.cell3
            have q4 := hr1.cell4
            have f0 := hr1.free 0
            have f1 := hr1.free 1
            have f2 := hr1.free 2
            have f3 := hr1.free 3
            have f4 := hr1.free 4
            have hput := hr1.put (testAcc n f (i * n + (j + 1)))
            have hzo := fun (W : World) (j : Nat) (v : Value) (h : RelAt W w.heap.size []) => h.other (p := ⟨w.heap.size + 1, j, none⟩) (by simp) v
            have bc := fun (W : World) (j : Nat) (v : Value) (h : Below w.heap.size w W) => h.setCell (p := ⟨w.heap.size + 1, j, none⟩) (Nat.le_succ _) v
            clear hr' hz' hb hB' p0 p1 p2 p3 p4 hr hz hB c1 c2 hE
            have HP := Lib.hid hput
            clear hput
            go_wp2
            go_roundw
            case rel => exact ⟨j + 1, by omega, by go_num, hzo _ _ _ (hzo _ _ _ (hzo _ _ _ (hzo _ _ _ (hzo _ _ _ hz1)))), HP.out, bc _ _ _ (bc _ _ _ (bc _ _ _ (bc _ _ _ (bc _ _ _ hB1))))⟩
            case measure => simp [intOf]; omega
          · rw [hfe, decide_eq_false (fun h => e (hpe.1 h)), if_neg (by simp)] at hst
            have hE := fun m => hne m (fun h => e (hpe.1 h))
            have HST := Lib.hid hst
            clear hst hfe hpe hne
            go_wp2
            go_quiet (first | (go_at_call 41; with_reducible exact Q1.out _) | (go_at_call 41; with_reducible exact Q2.out _))
            go_wp2
            go_roundw
            case rel => exact ⟨j + 1, by omega, by go_num, hz.drewN _, by rw [HST.out]; exact hr.drewN _, below_drewN hB _⟩
            case measure => simp [intOf]; omega
        · obtain rfl : j = n := by omega
          go_wp2
          go_roundw
          case rel => exact ⟨i + 1, by omega, by go_num, hz, by rw [Nat.succ_mul]; exact hr, hB⟩
          case measure => simp [intOf]; omega
    · obtain rfl : i = n := by omega
      have hln := testAcc_len i f (i * i)
      have p0 := hr.cell0
      rw [hln] at p0
      have p1 := hr.cell1
      have p2 := hr.cell2
      have p3 := hr.cell3
      have p4 := hr.cell4
      have HL := Lib.hid hln
      clear hln
      have q0 := hz.cell0
      have q1 := hz.cell1
      have q2 := hz.cell2
      have q3 := hz.cell3
      have q4 := hz.cell4
      have f0 := hz.free 0
      have f1 := hz.free 1
      have f2 := hz.free 2
      have f3 := hz.free 3
      have f4 := hz.free 4
      have bb := fun (W : World) (j : Nat) (v : Value) (h : Below w.heap.size w W) => h.setCell (p := ⟨w.heap.size, j, none⟩) (Nat.le_refl _) v
      go_wp2
      refine bodyPost_ret (v := relOf (testAcc i f (i * i))) (by simp [results, Tryz.results24, go_sem, q0, q1, q2, q3, q4, HL.out]) rfl ⟨rfl, ?_⟩
      exact bb _ _ _ (bb _ _ _ (bb _ _ _ (bb _ _ _ (bb _ _ _ hB))))
end Go.Proofs.YtebkeebgjjmdbaaGreatDoor
