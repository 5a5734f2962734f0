/-
  Relations counted by a test: the program's countOn, KindCount, RegularCount and RegularSquare.
-/
import Derived.Test.YtfcpfhffkfbgdaaHW
import Derived.Test.YtfcpfhffkfbgdaaTA
namespace Go.Proofs.Ytfcpfhffkfbgdaa
open Go.RowKit Go.Shelf
attribute [local go_sem] Oper.semAt_some

theorem rels_stops (m N : Nat) (h1 : 1 ≤ m) (h3 : m ≤ 3) (hN : N = 2 ^ (m * m)) (n : Nat) (hn : 1 ≤ n) (B : Nat) (w : World) (hr : Boxed w B 3 (.int .i64 m)) :
    SeqStopsK Fence.wide n Try.prog 97 #[.pointer (some ⟨B, 0, none⟩)] (encC N m) (KeepB B) (fun ys => ys = List.range N) (fun _ => True) N w := by
  rcases (by omega : m = 1 ∨ m = 2 ∨ m = 3) with rfl | rfl | rfl
  · obtain rfl : N = 2 := hN
    exact fun l J Jx W hW hJ _ hY h0 => rels1_in1 n hn l B J Jx W hJ hY W ((hW.block B hr.lt).trans hr) h0 _ rfl
  · obtain rfl : N = 16 := hN
    exact fun l J Jx W hW hJ _ hY h0 => rels1_in2 n hn l B J Jx W hJ hY W ((hW.block B hr.lt).trans hr) h0 _ rfl
  · obtain rfl : N = 512 := hN
    exact fun l J Jx W hW hJ _ hY h0 => rels1_in3 n hn l B J Jx W hJ hY W ((hW.block B hr.lt).trans hr) h0 _ rfl

/-- how many of those told by numbers meet a test -/
def cntL (m : Nat) (p : List Int → Bool) (pre : List Nat) : Nat := (pre.filter fun c => p (codeR m c)).length
theorem cntL_snoc (m : Nat) (p : List Int → Bool) (pre : List Nat) (c : Nat) : cntL m p (pre ++ [c]) = cntL m p pre + if p (codeR m c) then 1 else 0 := by
  unfold cntL
  rw [List.filter_append, List.length_append]
  congr 1
  cases h : p (codeR m c) <;> simp [h]
theorem cntL_le (m : Nat) (p : List Int → Bool) (pre : List Nat) : cntL m p pre ≤ pre.length := List.length_filter_le _ _
/-- how many of those that meet it have come -/
def cntM (N m : Nat) (p : List Int → Bool) (pre : List Nat) : Nat := cntL m p (pre.map (· % N))
theorem cntM_snoc (N m : Nat) (p : List Int → Bool) (pre : List Nat) (c : Nat) : cntM N m p (pre ++ [c]) = cntM N m p pre + if p (codeR m (c % N)) then 1 else 0 := by
  unfold cntM
  rw [List.map_append]
  exact cntL_snoc m p _ _
theorem cntM_le (N m : Nat) (p : List Int → Bool) (pre : List Nat) : cntM N m p pre ≤ pre.length := by
  unfold cntM
  exact Nat.le_trans (cntL_le m p _) (by simp)
theorem cntM_range (N m : Nat) (p : List Int → Bool) : cntM N m p (List.range N) = cntL m p (List.range N) := by
  unfold cntM
  congr 1
  exact (List.map_congr_left fun c hc => Nat.mod_eq_of_lt (List.mem_range.1 hc)).trans (List.map_id _)
def cntVal (N m : Nat) (p : List Int → Bool) (pre : List Nat) : Value := .int .i64 (cntM N m p pre : Nat)
theorem codeR_rlN {m N : Nat} (h1 : 1 ≤ m) (h3 : m ≤ 3) (hN : N = 2 ^ (m * m)) (c : Nat) : Rl (codeR m (c % N)).length (codeR m (c % N)) := by
  rw [codeR_len]
  exact codeR_rl h1 h3 (by rw [← hN]; exact Nat.mod_lt _ (by rw [hN]; exact Nat.pow_pos (by decide)))
theorem codeR_rlM {m N : Nat} (h1 : 1 ≤ m) (h3 : m ≤ 3) (hN : N = 2 ^ (m * m)) (c : Nat) : Rl m (codeR m (c % N)) :=
  codeR_rl h1 h3 (by rw [← hN]; exact Nat.mod_lt _ (by rw [hN]; exact Nat.pow_pos (by decide)))

set_option maxRecDepth 100000 in
set_option maxHeartbeats 8000000 in
theorem countOn_in0 (m N g : Nat) (p : List Int → Bool) (w : World) (hcf : ∀ args w, Sem.run Try.prog (callFunc g args) w = .ok (.enter g args) w) (h1 : 1 ≤ m) (h3 : m ≤ 3) (hN : N = 2 ^ (m * m)) (hN2 : N ≤ 512)
    (hg : ∀ c W, Below w.heap.size w W → Calls Try.prog g #[relOf (codeR m (c % N))] W fun e w' => e = .returned (.bool (p (codeR m (c % N)))) ∧ Below W.heap.size W w') :
    CallsIn Fence.wide 6 Try.prog 51 #[.int .i64 m, .func (.func g) #[] #[]] w fun e w' => e = .returned (.tuple #[.int .i64 (cntL m p (List.range N) : Nat), .bool true]) ∧ Below w.heap.size w w' := by
  have hST := fun B w (hr : Boxed w B 3 (.int .i64 m)) => rels_stops m N h1 h3 hN 5 (by omega) B w hr
  have HST := Lib.hid hST
  have HN := Lib.hid hN
  have HG := Lib.hid hg
  have hm1 : ¬ ((m : Int) < 1) := by omega
  have hm3 : ¬ ((m : Int) > 3) := by omega
  clear hST hN hg
  refine callsIn_of_wp_marks Try.func51 rfl trivial ?_ rfl
  simp only [Try.ntmps51, List.size_toArray, List.length_cons, List.length_nil, Nat.reduceAdd, Nat.reduceSub, Array.replicate_succ, Array.replicate_zero, List.push_toArray, List.append_toArray, List.nil_append, List.cons_append]
  gi_wp2_with fail
  refine ⟨trivial, ?_⟩
  refine (callsIn_wide.2 (relationsOn_any m _)).mono ?_
  rintro e w4 ⟨rfl, rfl⟩
  have b1 := ((Boxed.new w 56 (.func (.func g) #[] #[])).alloc (.cells #[.int .i64 0] 3)).alloc (.cells #[.int .i64 m] 3)
  have c1 := (Boxed.new (w.alloc (.cells #[.func (.func g) #[] #[]] 56)) 3 (.int .i64 0)).alloc (.cells #[.int .i64 m] 3)
  have n1 := Boxed.new ((w.alloc (.cells #[.func (.func g) #[] #[]] 56)).alloc (.cells #[.int .i64 0] 3)) 3 (.int .i64 m)
  have B0 : Below w.heap.size w (((w.alloc (.cells #[.func (.func g) #[] #[]] 56)).alloc (.cells #[.int .i64 0] 3)).alloc (.cells #[.int .i64 m] 3)) := below_three w _ _ _
  have sz : w.heap.size + 1 + 1 + 1 = (((w.alloc (.cells #[.func (.func g) #[] #[]] 56)).alloc (.cells #[.int .i64 0] 3)).alloc (.cells #[.int .i64 m] 3)).heap.size := by simp
  simp only [World.size_alloc] at b1 c1 n1
  gi_wp2
  obtain ⟨W0, hW0⟩ : ∃ W0, ((w.alloc (.cells #[.func (.func g) #[] #[]] 56)).alloc (.cells #[.int .i64 0] 3)).alloc (.cells #[.int .i64 m] 3) = W0 := ⟨_, rfl⟩
  rw [hW0] at b1 c1 n1 B0 sz ⊢
  clear hW0
  refine wpIn_rangeFunc_ownH (w0 := W0) rfl (by omega) (gf := 97) (lb := #[.pointer (some ⟨w.heap.size + 1 + 1, 0, none⟩)]) rfl trivial (enters_of Try.func97 (by kernel_rfl) rfl)
    (HST.out (w.heap.size + 1 + 1) W0 n1) KeepB.t (KeepB.b (by omega)) (Below.refl _ _) (fun _ => rfl)
    (fun pre W => (Boxed W w.heap.size 56 (.func (.func g) #[] #[]) ∧ Boxed W (w.heap.size + 1) 3 (cntVal N m p pre) ∧ Boxed W (w.heap.size + 1 + 1) 3 (.int .i64 m)) ∧ Below w.heap.size w W)
    (fun _ _ _ => False)
    (OwnFrom.and (Own.from (fun s A B row hs hg hr => ⟨boxed_own _ _ (fun _ => .func (.func g) #[] #[]) s A B row hs.1 hg hr, boxed_own _ _ (cntVal N m p) s A B row hs.2.1 hg hr, boxed_own _ _ (fun _ => .int .i64 m) s A B row hs.2.2 hg hr⟩) _) (ownFrom_below (Nat.le_refl _) (by omega)))
    (fun _ _ _ _ _ hs _ _ => hs)
    ⟨⟨b1, c1, n1⟩, B0⟩
    (fun x a' W => ∃ j, w.heap.size + 1 + 1 < j ∧ RelAt W j (codeR m (x % N)) ∧ a' = { tmps := #[.int .i64 m, .func (.func g) #[] #[], undef, .pointer (some ⟨w.heap.size, 0, none⟩), .int .i64 0, .bool false, .pointer (some ⟨w.heap.size + 1, 0, none⟩), .pointer (some ⟨j, 0, none⟩), .int .i64 m, .bool false, .bool false, .int .i64 m, .bool false, .bool false, .int .i64 m, .func (.func 97) #[] #[.pointer (some ⟨w.heap.size + 1 + 1, 0, none⟩)], relOf (codeR m (x % N)), undef, undef, undef, undef, undef, undef], defers := [] })
    (fun x a' _ X Y row hs hg hr => by obtain ⟨j, h1, h2, h3⟩ := hs; exact ⟨j, h1, relAt_own j (fun (_ : Unit) => codeR m (x % N)) () X Y row h2 hg (fun r e => (hr r e).2), h3⟩)
    ?assign ?body ?done ?stop
  case assign =>
    rintro l pre x W K ⟨⟨bt, bc, bn⟩, hB⟩ hK
    gi_wp2
    have hj := bn.lt
    exact hK _ _ ((KeepsOthers.alloc _ _).from _) (Below.heap_alloc W _ _ bn.lt) ⟨⟨bt.alloc _, bc.alloc _, bn.alloc _⟩, hB.alloc hB.size _⟩ ⟨W.heap.size, bn.lt, RelAt.new W (codeR m (x % N)), rfl⟩
  case body =>
    rintro l pre x a' W hl2 ⟨r, hr⟩ ⟨⟨bt, bc, bn⟩, hB⟩ ⟨j, hj, hrel, rfl⟩ hlt
    have p0 := hrel.cell0
    have p1 := hrel.cell1
    have p2 := hrel.cell2
    have p3 := hrel.cell3
    have p4 := hrel.cell4
    have pt := bt.cell
    have hle := cntM_le N m p pre
    have hsn := cntM_snoc N m p pre x
    have hcall := HG.out x W hB
    have hrl : relOf (codeR m (x % N)) = .agg #[.int .i64 m, .int .i64 (rowAt (codeR m (x % N)) 0), .int .i64 (rowAt (codeR m (x % N)) 1), .int .i64 (rowAt (codeR m (x % N)) 2), .int .i64 (rowAt (codeR m (x % N)) 3)] := by
      show Value.agg #[.int .i64 ((codeR m (x % N)).length : Nat), _, _, _, _] = _
      rw [codeR_len]
    rw [hrl] at hcall
    clear hrl
    have HB := Lib.hid (And.intro bt (And.intro bc bn))
    have HBB := Lib.hid hB
    clear hrel bt bc bn hB hr b1 c1 n1 B0 sz
    rw [codeR_len] at p0
    cases hk : p (codeR m (x % N)) with
    | false =>
      rw [hk] at hcall hsn
      rw [if_neg (by simp), Nat.add_zero] at hsn
      have HSN := Lib.hid hsn
      have HC := Lib.hid hcall
      clear hsn hcall hk
      gi_wp2_with fail
      refine ⟨trivial, ?_⟩
      refine (CallsIn.inRound l (callsIn_wide.2 HC.out)).mono ?_
      rintro e w5 ⟨rfl, hb5⟩
      gi_wp2
      obtain ⟨bt, bc, bn⟩ := HB.out
      exact ⟨(keepsO_below hb5).from _, hb5.block _ bn.lt, ⟨(hb5.block _ bt.lt).trans bt, by unfold cntVal; rw [HSN.out]; exact (hb5.block _ bc.lt).trans bc, (hb5.block _ bn.lt).trans bn⟩, HBB.out.trans (hb5.mono HBB.out.size)⟩
    | true =>
      rw [hk] at hcall hsn
      rw [if_pos rfl] at hsn
      have HSN := Lib.hid hsn
      have HC := Lib.hid hcall
      clear hsn hcall hk
      gi_wp2_with fail
      refine ⟨trivial, ?_⟩
      refine (CallsIn.inRound l (callsIn_wide.2 HC.out)).mono ?_
      rintro e w5 ⟨rfl, hb5⟩
      obtain ⟨bt, bc, bn⟩ := HB.out
      have bt5 : Boxed w5 _ _ _ := (hb5.block _ bt.lt).trans bt
      have bc5 : Boxed w5 _ _ _ := (hb5.block _ bc.lt).trans bc
      have bn5 : Boxed w5 _ _ _ := (hb5.block _ bn.lt).trans bn
      have q0 := bc5.cell
      have f0 := bc5.frozen
      unfold cntVal at q0
      clear p0 p1 p2 p3 p4 pt
      gi_wp2
      have e1 : ((cntM N m p pre + 1 : Nat) : Int) = (cntM N m p pre : Int) + 1 := by omega
      refine ⟨((keepsO_below hb5).trans (KeepsOthers.setCell _ _ _)).from _, (Below.heap_setCell w5 ⟨w.heap.size + 1, 0, none⟩ _ (w.heap.size + 1 + 1) (by simp)).trans (hb5.block _ bn.lt), ⟨bt5.other (by omega) _, ?_, bn5.other (by omega) _⟩, (HBB.out.trans (hb5.mono HBB.out.size)).setCell (p := ⟨w.heap.size + 1, 0, none⟩) (Nat.le_succ _) _⟩
      unfold cntVal
      rw [HSN.out, e1]
      exact bc5.set _
  case done =>
    rintro D ys W hD rfl ⟨⟨bt, bc, bn⟩, hB⟩ hK
    have pc := bc.cell
    unfold cntVal at pc
    rw [cntM_range] at pc
    gi_wp2
    refine ⟨by simp, .inl ⟨_, _, rfl, run_takeDeferred hK, ?_⟩⟩
    exact ⟨.tuple #[.int .i64 (cntL m p (List.range N) : Nat), .bool true], by simp [results, Try.results51, go_sem], rfl, hB.trans (belowK_b (w := w) (Nat.le_refl _) W D _ _ (by omega) hK rfl rfl)⟩
  case stop =>
    rintro D c pre W _ _ h _
    exact h.elim

theorem countOn_no (n : Int) (g : Nat) (caps : Array Value) (w : World) (hno : ¬ (1 ≤ n ∧ n ≤ 3)) :
    Calls Try.prog 51 #[.int .i64 n, .func (.func g) #[] caps] w fun e w' => e = .returned (.tuple #[.int .i64 0, .bool false]) ∧ Below w.heap.size w w' := by
  have B := below_one w (.cells #[.func (.func g) #[] caps] 56)
  go_enter Try.func51, Try.ntmps51
  by_cases hn1 : n < 1
  · go_wp2
    go_ret2
    exact ⟨rfl, B⟩
  · have hn3 : 3 < n := by omega
    go_wp2
    go_ret2
    exact ⟨rfl, B⟩
/-- how many relations on n points meet a test -/
def countP (n : Int) (p : List Int → Bool) : Int := if inB n 1 3 then (cntL n.toNat p (List.range (2 ^ (n.toNat * n.toNat))) : Nat) else 0
theorem inB_iff (n a b : Int) : inB n a b = true ↔ a ≤ n ∧ n ≤ b := by unfold inB; simp
theorem nat_of {n : Int} (h : inB n 1 3 = true) : ∃ m : Nat, n = (m : Int) ∧ 1 ≤ m ∧ m ≤ 3 := by
  rw [inB_iff] at h
  exact ⟨n.toNat, by omega, by omega, by omega⟩
theorem pow512 {m N : Nat} (h3 : m ≤ 3) (hN : N = 2 ^ (m * m)) : N ≤ 512 := by
  rw [hN]
  exact Nat.le_trans (Nat.pow_le_pow_right (by decide) (Nat.mul_le_mul h3 h3)) (by decide)
theorem countOn_any (n : Int) (g : Nat) (p : List Int → Bool) (w : World) (hcf : ∀ args w, Sem.run Try.prog (callFunc g args) w = .ok (.enter g args) w)
    (hg : ∀ m xs W, Rl m xs → Calls Try.prog g #[relOf xs] W fun e w' => e = .returned (.bool (p xs)) ∧ Below W.heap.size W w') :
    Calls Try.prog 51 #[.int .i64 n, .func (.func g) #[] #[]] w fun e w' => e = .returned (.tuple #[.int .i64 (countP n p), .bool (inB n 1 3)]) ∧ Below w.heap.size w w' := by
  unfold countP
  cases hb : inB n 1 3 with
  | false =>
    rw [if_neg (by simp)]
    exact countOn_no n _ _ w (fun h => by rw [(inB_iff n 1 3).2 h] at hb; cases hb)
  | true =>
    obtain ⟨m, rfl, h1, h3⟩ := nat_of hb
    rw [if_pos rfl, Int.toNat_natCast]
    exact callsIn_wide.1 (countOn_in0 m _ g p w hcf h1 h3 rfl (pow512 h3 rfl) (fun c W _ => hg m _ W (codeR_rlM h1 h3 rfl c)))

theorem cf_isRegular (args : Array Value) (w : World) : Sem.run Try.prog (callFunc 42 args) w = .ok (.enter 42 args) w := by kernel_rfl
theorem cf_isOwnSquare (args : Array Value) (w : World) : Sem.run Try.prog (callFunc 53 args) w = .ok (.enter 53 args) w := by kernel_rfl
theorem implRegularCount_any (n : Int) (w : World) : Calls Try.prog 25 #[.int .i64 n] w fun e w' => e = .returned (.tuple #[.int .i64 (countP n regB), .bool (inB n 1 3)]) ∧ Below w.heap.size w w' := by
  have H := Lib.hid (fun w => countOn_any n 42 regB w cf_isRegular (fun m xs W h => isRegularR h W))
  go_enter Try.func25, Try.ntmps25
  go_wp2_with fail
  refine (H.out _).mono ?_
  rintro e w1 ⟨rfl, hb⟩
  go_wp2
  go_ret2
  exact ⟨rfl, hb⟩
theorem implRegularSquare_any (n : Int) (w : World) : Calls Try.prog 27 #[.int .i64 n] w fun e w' => e = .returned (.tuple #[.int .i64 (countP n sqB), .bool (inB n 1 3)]) ∧ Below w.heap.size w w' := by
  have H := Lib.hid (fun w => countOn_any n 53 sqB w cf_isOwnSquare (fun m xs W h => isOwnSquareR h W))
  go_enter Try.func27, Try.ntmps27
  go_wp2_with fail
  refine (H.out _).mono ?_
  rintro e w1 ⟨rfl, hb⟩
  go_wp2
  go_ret2
  exact ⟨rfl, hb⟩
end Go.Proofs.Ytfcpfhffkfbgdaa
