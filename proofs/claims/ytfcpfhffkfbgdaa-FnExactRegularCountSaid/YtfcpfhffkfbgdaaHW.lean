/-
  The program's relationsOn, as a range over a function asks it.
-/
import Derived.Test.YtfcpfhffkfbgdaaHV
import Derived.Test.YtfcpfhffkfbgdaaV
import Derived.Test.YtfcpfhffkfbgdaaAD
namespace Go.Proofs.Ytfcpfhffkfbgdaa
open Go.RowKit Go.Shelf
theorem wr9 : IntKind.i64.wrap 9 = 9 := by decide
theorem wr16 : IntKind.i64.wrap 16 = 16 := by decide
theorem wr512 : IntKind.i64.wrap 512 = 512 := by decide
attribute [local go_sem] Oper.semAt_some wr0 wr1 wr2 wr3 wr4 wr6 wr7 wr8 wr9 wr16 wr512

theorem relationsOn_any (n : Int) (w : World) : Calls Try.prog 78 #[.int .i64 n] w fun e w' => e = .returned (.func (.func 97) #[] #[.pointer (some ⟨w.heap.size, 0, none⟩)]) ∧ w.alloc (.cells #[.int .i64 n] 3) = w' := by
  have hmf : ∀ (fn : Fn) (first cap : Array Value) (w : World), Sem.run Try.prog (Instr.makeFunc fn first cap) w = .ok (.func fn first cap) w := fun _ _ _ _ => rfl
  go_enter Try.func78, Try.ntmps78
  go_wp2
  go_ret
  exact ⟨rfl, rfl⟩
theorem points_still (m : Nat) (h1 : 1 ≤ m) (h3 : m ≤ 4) (w : World) : Calls Try.prog 94 #[.int .i64 m] w fun e w' => e = .returned (.int .i64 ((2 ^ m - 1 : Nat) : Int)) ∧ w' = w :=
  (allPoints_any m h1 h3 w).mono fun _ _ h => ⟨h.1, h.2.symm⟩
/-- calls within the wide fence -/
theorem wide_calls {P : Program} {n : Nat} : ∀ f args w R, Calls P f args w R → (Fence.wide.depth.isSome = true → 1 ≤ n) ∧ CallsIn Fence.wide (n - 1) P f args w R :=
  fun _ _ _ _ h => ⟨(fun h => Bool.noConfusion h), callsIn_wide.2 h⟩
/-- the first k rows of the relation that a number tells, the others being empty -/
def codeTo (m c k : Nat) : List Int := (codeR m c).take k ++ List.replicate (m - k) 0
abbrev encC (N m : Nat) (c : Nat) : Array Value := #[relOf (codeR m (c % N))]
theorem codeTo_len (m c k : Nat) (hk : k ≤ m) : (codeTo m c k).length = m := by
  unfold codeTo
  rw [List.length_append, List.length_take, codeR_len, List.length_replicate]
  omega
theorem codeTo_step (m c k : Nat) (hk : k < m) : (codeTo m c k).set k (codeW m c k) = codeTo m c (k + 1) := by
  unfold codeTo
  have hl : ((codeR m c).take k).length = k := by rw [List.length_take, codeR_len]; omega
  rw [List.set_append_right _ _ (by omega), hl, Nat.sub_self, codeR_take m c k hk, show m - k = (m - (k + 1)) + 1 by omega, List.replicate_succ, List.set_cons_zero, List.append_assoc]
  rfl
theorem codeTo_end (m c : Nat) : codeTo m c m = codeR m c := by
  unfold codeTo
  rw [Nat.sub_self, List.replicate_zero, List.append_nil, List.take_of_length_le (by rw [codeR_len]; exact Nat.le_refl _)]
theorem codeTo_at {m c k b j : Nat} {w : World} {v : Int} (hz : RelAt w b (codeTo m c k)) (hk : k < m) (h4 : k < 4) (hj : j = 1 + k) (hv : v = codeW m c k) : RelAt (w.setCell ⟨b, j, none⟩ (.int .i64 v)).drew b (codeTo m c (k + 1)) := by
  subst hj
  subst hv
  have h := hz.set k (by rw [codeTo_len m c k (by omega)]; exact hk) h4 (codeW m c k)
  rw [codeTo_step m c k hk] at h
  exact h
theorem grown_of_below {w w' : World} (h : Below w.heap.size w w') : w.grownBy w' none :=
  ⟨h.os, h.tape, h.output, h.size, fun k hk _ => h.block k hk⟩
theorem abides_below {β : Type} {B : Nat} {J : β → World → Prop} (hJ : AbidesFrom B J) {s : β} {w w' : World} (hs : J s w) (h : Below w.heap.size w w') : J s w' :=
  hJ s w w' none hs (grown_of_below h) (fun _ e => by cases e)
theorem range_snoc (c : Nat) : List.range (c + 1) = List.range c ++ [c] := List.range_succ


set_option maxRecDepth 100000 in
set_option maxHeartbeats 8000000 in
theorem rels1_in1 (n : Nat) (_hn : 1 ≤ n) (l B : Nat) (J Jx : List Nat → World → Prop) (W0 : World) (hJ : AbidesFrom W0.heap.size J)
    (hY : ∀ pre x W, J pre W → pre.length < 2 → YieldAt Fence.wide (n - 1) Try.prog l (encC 2 1 x) W fun e W' =>
      (e = .returned (.bool true) ∧ J (pre ++ [x]) W' ∧ KeepB B W W') ∨ (e = .returned (.bool false) ∧ Jx (pre ++ [x]) W'))
    (W : World) (hr : Boxed W B 3 (.int .i64 1)) (h0 : J [] W) (ns : List Nat) (hns : ns = List.range 2) :
    CallsIn Fence.wide n Try.prog 97 #[.func (.yield l) #[] #[], .pointer (some ⟨B, 0, none⟩)] W fun e W' => (∃ v, e = .returned v) ∧
      ((∃ ys, ys = ns ∧ J ys W') ∨ (∃ pre, True ∧ Jx pre W')) := by
  have HN := Lib.hid hns
  clear hns
  refine callsIn_of_wp Try.func97 rfl trivial ?_ rfl
  simp only [Try.ntmps97, List.size_toArray, List.length_cons, List.length_nil, Nat.reduceAdd, Nat.reduceSub, Array.replicate_succ, Array.replicate_zero, List.push_toArray, List.append_toArray, List.nil_append, List.cons_append]
  have hc0 := hr.cell
  have hmo : Try.prog.follows .mixedOrders = true := by kernel_rfl
  gi_wp2
  gi_loopw [10, 3, 4] (fun i _ _ wr => ∃ c : Nat, c ≤ 2 ∧ i = .int .i64 c ∧ J (List.range c) wr ∧ Boxed wr B 3 (.int .i64 1))
    (fun i _ _ _ => 2 - (intOf i).toNat)
  case atStart => exact ⟨0, Nat.zero_le _, rfl, h0, hr⟩
  case round =>
    clear hc0 hr h0
    obtain ⟨c, hc, rfl, hJs, hr⟩ := hrel
    have hc0 := hr.cell
    obtain ⟨wo, rfl⟩ : ∃ wo : World, wo = wr := ⟨_, rfl⟩
    by_cases hlt : c < 2
    · have hi1 : (c : Int) < 2 := by omega
      have z1 := zero_new wo 1
      have b1 := hr.alloc (.cells #[.int .i64 1, .int .i64 0, .int .i64 0, .int .i64 0, .int .i64 0] 44)
      have B1 := below_one wo (.cells #[.int .i64 1, .int .i64 0, .int .i64 0, .int .i64 0, .int .i64 0] 44)
      have hc1 := b1.cell
      have hbl := hr.lt
      have HJ := Lib.hid hJs
      clear hJs
      gi_wp2
      gi_loopw [16, 5] (fun j _ wr => ∃ k : Nat, k ≤ 1 ∧ j = .int .i64 k ∧ RelAt wr wo.heap.size (codeTo 1 c k) ∧ Boxed wr B 3 (.int .i64 1) ∧ Below wo.heap.size wo wr)
        (fun j _ _ => 1 - (intOf j).toNat)
      case atStart => exact ⟨0, Nat.zero_le _, rfl, z1, b1, B1⟩
      case round =>
        clear z1 b1 B1 hc1 hc0
        obtain ⟨k, hk, rfl, hz, hb, hB⟩ := hrel
        have hc0 := hb.cell
        by_cases hlj : k < 1
        · obtain rfl : k = 0 := by omega
          all_goals
            have f1 := hz.free 1
            have e1 := hz.cell1
            gi_wp2
            refine wpIn_region_loads_then 11 (by assumption) (by kernel_rfl) (fun _ => trivial) wide_calls rfl ?_
            simp only [List.take_succ_cons, List.take_zero, List.drop_succ_cons, List.drop_zero]
            repeat still_step
            still_call (points_still 1 (by omega) (by omega) _)
            repeat still_step
            refine wpStill_nil ?_
            gi_wp2
            go_roundw
            case rel =>
              first
                | exact ⟨0 + 1, by omega, by first | rfl | go_num, codeTo_at hz (by omega) (by omega) rfl (by simp [codeW]), (Below.heap_setCell wr ⟨wo.heap.size, 1, none⟩ _ B (Nat.ne_of_lt hbl)).trans hb, (hB.setCell (p := ⟨wo.heap.size, 1, none⟩) (Nat.le_refl _) _).drew⟩
            case measure => simp [intOf]
        · obtain rfl : k = 1 := by omega
          rw [codeTo_end] at hz
          have hJ2 := abides_below hJ HJ.out hB
          have p0 := hz.cell0
          have p1 := hz.cell1
          have p2 := hz.cell2
          have p3 := hz.cell3
          have p4 := hz.cell4
          obtain ⟨fn, tmps, assign, body, hy, hR⟩ := hY _ c wr hJ2 (by rw [List.length_range]; exact hlt)
          dsimp only [encC] at hy
          rw [Nat.mod_eq_of_lt hlt] at hy
          have HJ2 := Lib.hid hJ2
          clear hJ2
          gi_wp2
          refine hR.mono ?_
          rintro e W3 (⟨rfl, hJ3, hk3⟩ | ⟨rfl, hJx3⟩)
          · have hr3 : Boxed W3 B 3 (.int .i64 1) := Eq.trans hk3 hb
            rw [← range_snoc] at hJ3
            clear hr hb hc0 hz p0 p1 p2 p3 p4
            have hc0 := hr3.cell
            have HJ3 := Lib.hid hJ3
            clear hJ3
            gi_wp2
            go_roundw
            case rel => exact ⟨c + 1, by omega, by go_num, HJ3.out, hr3⟩
            case measure => simp [intOf]; omega
          · gi_wp2
            refine bodyPost_ret (results_none rfl _ _ _) rfl ?_
            exact ⟨⟨_, rfl⟩, .inr ⟨_, trivial, hJx3⟩⟩
    · obtain rfl : c = 2 := by omega
      rw [← HN.out] at hJs
      have HJ := Lib.hid hJs
      clear hJs
      gi_wp2
      go_end0
      exact ⟨⟨_, rfl⟩, .inl ⟨_, rfl, HJ.out⟩⟩

set_option maxRecDepth 100000 in
set_option maxHeartbeats 8000000 in
theorem rels1_in2 (n : Nat) (_hn : 1 ≤ n) (l B : Nat) (J Jx : List Nat → World → Prop) (W0 : World) (hJ : AbidesFrom W0.heap.size J)
    (hY : ∀ pre x W, J pre W → pre.length < 16 → YieldAt Fence.wide (n - 1) Try.prog l (encC 16 2 x) W fun e W' =>
      (e = .returned (.bool true) ∧ J (pre ++ [x]) W' ∧ KeepB B W W') ∨ (e = .returned (.bool false) ∧ Jx (pre ++ [x]) W'))
    (W : World) (hr : Boxed W B 3 (.int .i64 2)) (h0 : J [] W) (ns : List Nat) (hns : ns = List.range 16) :
    CallsIn Fence.wide n Try.prog 97 #[.func (.yield l) #[] #[], .pointer (some ⟨B, 0, none⟩)] W fun e W' => (∃ v, e = .returned v) ∧
      ((∃ ys, ys = ns ∧ J ys W') ∨ (∃ pre, True ∧ Jx pre W')) := by
  have HN := Lib.hid hns
  clear hns
  refine callsIn_of_wp Try.func97 rfl trivial ?_ rfl
  simp only [Try.ntmps97, List.size_toArray, List.length_cons, List.length_nil, Nat.reduceAdd, Nat.reduceSub, Array.replicate_succ, Array.replicate_zero, List.push_toArray, List.append_toArray, List.nil_append, List.cons_append]
  have hc0 := hr.cell
  have hmo : Try.prog.follows .mixedOrders = true := by kernel_rfl
  gi_wp2
  gi_loopw [10, 3, 4] (fun i _ _ wr => ∃ c : Nat, c ≤ 16 ∧ i = .int .i64 c ∧ J (List.range c) wr ∧ Boxed wr B 3 (.int .i64 2))
    (fun i _ _ _ => 16 - (intOf i).toNat)
  case atStart => exact ⟨0, Nat.zero_le _, rfl, h0, hr⟩
  case round =>
    clear hc0 hr h0
    obtain ⟨c, hc, rfl, hJs, hr⟩ := hrel
    have hc0 := hr.cell
    obtain ⟨wo, rfl⟩ : ∃ wo : World, wo = wr := ⟨_, rfl⟩
    by_cases hlt : c < 16
    · have hi1 : (c : Int) < 16 := by omega
      have z1 := zero_new wo 2
      have b1 := hr.alloc (.cells #[.int .i64 2, .int .i64 0, .int .i64 0, .int .i64 0, .int .i64 0] 44)
      have B1 := below_one wo (.cells #[.int .i64 2, .int .i64 0, .int .i64 0, .int .i64 0, .int .i64 0] 44)
      have hc1 := b1.cell
      have hbl := hr.lt
      have HJ := Lib.hid hJs
      clear hJs
      gi_wp2
      gi_loopw [16, 5] (fun j _ wr => ∃ k : Nat, k ≤ 2 ∧ j = .int .i64 k ∧ RelAt wr wo.heap.size (codeTo 2 c k) ∧ Boxed wr B 3 (.int .i64 2) ∧ Below wo.heap.size wo wr)
        (fun j _ _ => 2 - (intOf j).toNat)
      case atStart => exact ⟨0, Nat.zero_le _, rfl, z1, b1, B1⟩
      case round =>
        clear z1 b1 B1 hc1 hc0
        obtain ⟨k, hk, rfl, hz, hb, hB⟩ := hrel
        have hc0 := hb.cell
        by_cases hlj : k < 2
        · rcases (by omega : k = 0 ∨ k = 1) with rfl | rfl
          all_goals
            have f1 := hz.free 1
            have e1 := hz.cell1
            have f2 := hz.free 2
            have e2 := hz.cell2
            gi_wp2
            refine wpIn_region_loads_then 11 (by assumption) (by kernel_rfl) (fun _ => trivial) wide_calls rfl ?_
            simp only [List.take_succ_cons, List.take_zero, List.drop_succ_cons, List.drop_zero]
            repeat still_step
            still_call (points_still 2 (by omega) (by omega) _)
            repeat still_step
            refine wpStill_nil ?_
            gi_wp2
            go_roundw
            case rel =>
              first
                | exact ⟨0 + 1, by omega, by first | rfl | go_num, codeTo_at hz (by omega) (by omega) rfl (by simp [codeW]), (Below.heap_setCell wr ⟨wo.heap.size, 1, none⟩ _ B (Nat.ne_of_lt hbl)).trans hb, (hB.setCell (p := ⟨wo.heap.size, 1, none⟩) (Nat.le_refl _) _).drew⟩
                | exact ⟨1 + 1, by omega, by first | rfl | go_num, codeTo_at hz (by omega) (by omega) rfl (by simp [codeW]), (Below.heap_setCell wr ⟨wo.heap.size, 2, none⟩ _ B (Nat.ne_of_lt hbl)).trans hb, (hB.setCell (p := ⟨wo.heap.size, 2, none⟩) (Nat.le_refl _) _).drew⟩
            case measure => simp [intOf]
        · obtain rfl : k = 2 := by omega
          rw [codeTo_end] at hz
          have hJ2 := abides_below hJ HJ.out hB
          have p0 := hz.cell0
          have p1 := hz.cell1
          have p2 := hz.cell2
          have p3 := hz.cell3
          have p4 := hz.cell4
          obtain ⟨fn, tmps, assign, body, hy, hR⟩ := hY _ c wr hJ2 (by rw [List.length_range]; exact hlt)
          dsimp only [encC] at hy
          rw [Nat.mod_eq_of_lt hlt] at hy
          have HJ2 := Lib.hid hJ2
          clear hJ2
          gi_wp2
          refine hR.mono ?_
          rintro e W3 (⟨rfl, hJ3, hk3⟩ | ⟨rfl, hJx3⟩)
          · have hr3 : Boxed W3 B 3 (.int .i64 2) := Eq.trans hk3 hb
            rw [← range_snoc] at hJ3
            clear hr hb hc0 hz p0 p1 p2 p3 p4
            have hc0 := hr3.cell
            have HJ3 := Lib.hid hJ3
            clear hJ3
            gi_wp2
            go_roundw
            case rel => exact ⟨c + 1, by omega, by go_num, HJ3.out, hr3⟩
            case measure => simp [intOf]; omega
          · gi_wp2
            refine bodyPost_ret (results_none rfl _ _ _) rfl ?_
            exact ⟨⟨_, rfl⟩, .inr ⟨_, trivial, hJx3⟩⟩
    · obtain rfl : c = 16 := by omega
      rw [← HN.out] at hJs
      have HJ := Lib.hid hJs
      clear hJs
      gi_wp2
      go_end0
      exact ⟨⟨_, rfl⟩, .inl ⟨_, rfl, HJ.out⟩⟩

set_option maxRecDepth 100000 in
set_option maxHeartbeats 8000000 in
theorem rels1_in3 (n : Nat) (_hn : 1 ≤ n) (l B : Nat) (J Jx : List Nat → World → Prop) (W0 : World) (hJ : AbidesFrom W0.heap.size J)
    (hY : ∀ pre x W, J pre W → pre.length < 512 → YieldAt Fence.wide (n - 1) Try.prog l (encC 512 3 x) W fun e W' =>
      (e = .returned (.bool true) ∧ J (pre ++ [x]) W' ∧ KeepB B W W') ∨ (e = .returned (.bool false) ∧ Jx (pre ++ [x]) W'))
    (W : World) (hr : Boxed W B 3 (.int .i64 3)) (h0 : J [] W) (ns : List Nat) (hns : ns = List.range 512) :
    CallsIn Fence.wide n Try.prog 97 #[.func (.yield l) #[] #[], .pointer (some ⟨B, 0, none⟩)] W fun e W' => (∃ v, e = .returned v) ∧
      ((∃ ys, ys = ns ∧ J ys W') ∨ (∃ pre, True ∧ Jx pre W')) := by
  have HN := Lib.hid hns
  clear hns
  refine callsIn_of_wp Try.func97 rfl trivial ?_ rfl
  simp only [Try.ntmps97, List.size_toArray, List.length_cons, List.length_nil, Nat.reduceAdd, Nat.reduceSub, Array.replicate_succ, Array.replicate_zero, List.push_toArray, List.append_toArray, List.nil_append, List.cons_append]
  have hc0 := hr.cell
  have hmo : Try.prog.follows .mixedOrders = true := by kernel_rfl
  gi_wp2
  gi_loopw [10, 3, 4] (fun i _ _ wr => ∃ c : Nat, c ≤ 512 ∧ i = .int .i64 c ∧ J (List.range c) wr ∧ Boxed wr B 3 (.int .i64 3))
    (fun i _ _ _ => 512 - (intOf i).toNat)
  case atStart => exact ⟨0, Nat.zero_le _, rfl, h0, hr⟩
  case round =>
    clear hc0 hr h0
    obtain ⟨c, hc, rfl, hJs, hr⟩ := hrel
    have hc0 := hr.cell
    obtain ⟨wo, rfl⟩ : ∃ wo : World, wo = wr := ⟨_, rfl⟩
    by_cases hlt : c < 512
    · have hi1 : (c : Int) < 512 := by omega
      have z1 := zero_new wo 3
      have b1 := hr.alloc (.cells #[.int .i64 3, .int .i64 0, .int .i64 0, .int .i64 0, .int .i64 0] 44)
      have B1 := below_one wo (.cells #[.int .i64 3, .int .i64 0, .int .i64 0, .int .i64 0, .int .i64 0] 44)
      have hc1 := b1.cell
      have hbl := hr.lt
      have HJ := Lib.hid hJs
      clear hJs
      gi_wp2
      gi_loopw [16, 5] (fun j _ wr => ∃ k : Nat, k ≤ 3 ∧ j = .int .i64 k ∧ RelAt wr wo.heap.size (codeTo 3 c k) ∧ Boxed wr B 3 (.int .i64 3) ∧ Below wo.heap.size wo wr)
        (fun j _ _ => 3 - (intOf j).toNat)
      case atStart => exact ⟨0, Nat.zero_le _, rfl, z1, b1, B1⟩
      case round =>
        clear z1 b1 B1 hc1 hc0
        obtain ⟨k, hk, rfl, hz, hb, hB⟩ := hrel
        have hc0 := hb.cell
        by_cases hlj : k < 3
        · rcases (by omega : k = 0 ∨ k = 1 ∨ k = 2) with rfl | rfl | rfl
          all_goals
            have f1 := hz.free 1
            have e1 := hz.cell1
            have f2 := hz.free 2
            have e2 := hz.cell2
            have f3 := hz.free 3
            have e3 := hz.cell3
            gi_wp2
            refine wpIn_region_loads_then 11 (by assumption) (by kernel_rfl) (fun _ => trivial) wide_calls rfl ?_
            simp only [List.take_succ_cons, List.take_zero, List.drop_succ_cons, List.drop_zero]
            repeat still_step
            still_call (points_still 3 (by omega) (by omega) _)
            repeat still_step
            refine wpStill_nil ?_
            gi_wp2
            go_roundw
            case rel =>
              first
                | exact ⟨0 + 1, by omega, by first | rfl | go_num, codeTo_at hz (by omega) (by omega) rfl (by simp [codeW]), (Below.heap_setCell wr ⟨wo.heap.size, 1, none⟩ _ B (Nat.ne_of_lt hbl)).trans hb, (hB.setCell (p := ⟨wo.heap.size, 1, none⟩) (Nat.le_refl _) _).drew⟩
                | exact ⟨1 + 1, by omega, by first | rfl | go_num, codeTo_at hz (by omega) (by omega) rfl (by simp [codeW]), (Below.heap_setCell wr ⟨wo.heap.size, 2, none⟩ _ B (Nat.ne_of_lt hbl)).trans hb, (hB.setCell (p := ⟨wo.heap.size, 2, none⟩) (Nat.le_refl _) _).drew⟩
                | exact ⟨2 + 1, by omega, by first | rfl | go_num, codeTo_at hz (by omega) (by omega) rfl (by simp [codeW]), (Below.heap_setCell wr ⟨wo.heap.size, 3, none⟩ _ B (Nat.ne_of_lt hbl)).trans hb, (hB.setCell (p := ⟨wo.heap.size, 3, none⟩) (Nat.le_refl _) _).drew⟩
            case measure => simp [intOf]
        · obtain rfl : k = 3 := by omega
          rw [codeTo_end] at hz
          have hJ2 := abides_below hJ HJ.out hB
          have p0 := hz.cell0
          have p1 := hz.cell1
          have p2 := hz.cell2
          have p3 := hz.cell3
          have p4 := hz.cell4
          obtain ⟨fn, tmps, assign, body, hy, hR⟩ := hY _ c wr hJ2 (by rw [List.length_range]; exact hlt)
          dsimp only [encC] at hy
          rw [Nat.mod_eq_of_lt hlt] at hy
          have HJ2 := Lib.hid hJ2
          clear hJ2
          gi_wp2
          refine hR.mono ?_
          rintro e W3 (⟨rfl, hJ3, hk3⟩ | ⟨rfl, hJx3⟩)
          · have hr3 : Boxed W3 B 3 (.int .i64 3) := Eq.trans hk3 hb
            rw [← range_snoc] at hJ3
            clear hr hb hc0 hz p0 p1 p2 p3 p4
            have hc0 := hr3.cell
            have HJ3 := Lib.hid hJ3
            clear hJ3
            gi_wp2
            go_roundw
            case rel => exact ⟨c + 1, by omega, by go_num, HJ3.out, hr3⟩
            case measure => simp [intOf]; omega
          · gi_wp2
            refine bodyPost_ret (results_none rfl _ _ _) rfl ?_
            exact ⟨⟨_, rfl⟩, .inr ⟨_, trivial, hJx3⟩⟩
    · obtain rfl : c = 512 := by omega
      rw [← HN.out] at hJs
      have HJ := Lib.hid hJs
      clear hJs
      gi_wp2
      go_end0
      exact ⟨⟨_, rfl⟩, .inl ⟨_, rfl, HJ.out⟩⟩
end Go.Proofs.Ytfcpfhffkfbgdaa
