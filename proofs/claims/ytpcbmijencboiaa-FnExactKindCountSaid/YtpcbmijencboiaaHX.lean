/-
  The program's KindCount.
-/
import Derived.Test.YtpcbmijencboiaaHW
namespace Go.Proofs.Ytpcbmijencboiaa
open Go.RowKit Go.Shelf
attribute [local go_sem] Oper.semAt_some

theorem rels_stops (m N : Nat) (h1 : 1 ≤ m) (h3 : m ≤ 3) (hN : N = 2 ^ (m * m)) (n : Nat) (hn : 1 ≤ n) (B : Nat) (w : World) (hr : Boxed w B 3 (.int .i64 m)) :
    SeqStopsK Fence.wide n Try.prog 76 #[.pointer (some ⟨B, 0, none⟩)] (encC N m) (KeepB B) (fun ys => ys = List.range N) (fun _ => True) N w := by
  rcases (by omega : m = 1 ∨ m = 2 ∨ m = 3) with rfl | rfl | rfl
  · obtain rfl : N = 2 := hN
    exact fun l J Jx W hW hJ _ hY h0 => rels1_in1 n hn l B J Jx W hJ hY W ((hW.block B hr.lt).trans hr) h0 _ rfl
  · obtain rfl : N = 16 := hN
    exact fun l J Jx W hW hJ _ hY h0 => rels1_in2 n hn l B J Jx W hJ hY W ((hW.block B hr.lt).trans hr) h0 _ rfl
  · obtain rfl : N = 512 := hN
    exact fun l J Jx W hW hJ _ hY h0 => rels1_in3 n hn l B J Jx W hJ hY W ((hW.block B hr.lt).trans hr) h0 _ rfl

/-- how many of those of all kinds have come -/
def cntM (N m : Nat) (st : ByteArray) (pre : List Nat) : Nat := countC m st (pre.map (· % N))
theorem cntM_snoc (N m : Nat) (st : ByteArray) (pre : List Nat) (c : Nat) : cntM N m st (pre ++ [c]) = cntM N m st pre + if allK (codeR m (c % N)) st then 1 else 0 := by
  unfold cntM
  rw [List.map_append]
  exact countC_snoc m st _ _
theorem cntM_le (N m : Nat) (st : ByteArray) (pre : List Nat) : cntM N m st pre ≤ pre.length := by
  unfold cntM
  exact Nat.le_trans (countC_le m st _) (by simp)
theorem cntM_range (N m : Nat) (st : ByteArray) : cntM N m st (List.range N) = countC m st (List.range N) := by
  unfold cntM
  congr 1
  exact (List.map_congr_left fun c hc => Nat.mod_eq_of_lt (List.mem_range.1 hc)).trans (List.map_id _)
def cntVal (N m : Nat) (st : ByteArray) (pre : List Nat) : Value := .int .i64 (cntM N m st pre : Nat)
theorem codeR_rlN {m N : Nat} (h1 : 1 ≤ m) (h3 : m ≤ 3) (hN : N = 2 ^ (m * m)) (c : Nat) : Rl (codeR m (c % N)).length (codeR m (c % N)) := by
  rw [codeR_len]
  exact codeR_rl h1 h3 (by rw [← hN]; exact Nat.mod_lt _ (by rw [hN]; exact Nat.pow_pos (by decide)))

set_option maxRecDepth 100000 in
set_option maxHeartbeats 8000000 in
theorem implCount_in (m N : Nat) (st : ByteArray) (w : World) (h1 : 1 ≤ m) (h3 : m ≤ 3) (hN : N = 2 ^ (m * m)) (hN2 : N ≤ 512) (hl : st.size ≤ 1048576) (ht : textTo st risat st.size = true) :
    CallsIn Fence.wide 6 Try.prog 18 #[.int .i64 m, .string st] w fun e w' => e = .returned (.tuple #[.int .i64 (countC m st (List.range N) : Nat), .bool true]) ∧ Below w.heap.size w w' := by
  have hRl := fun c => codeR_rlN h1 h3 hN c
  have hST := fun B w (hr : Boxed w B 3 (.int .i64 m)) => rels_stops m N h1 h3 hN 5 (by omega) B w hr
  have HRl := Lib.hid hRl
  have HST := Lib.hid hST
  have HT := Lib.hid ht
  have HN := Lib.hid hN
  have hm1 : ¬ ((m : Int) < 1) := by omega
  have hm3 : ¬ ((m : Int) > 3) := by omega
  clear hRl hST ht hN
  refine callsIn_of_wp_marks Try.func18 rfl trivial ?_ rfl
  simp only [Try.ntmps18, List.size_toArray, List.length_cons, List.length_nil, Nat.reduceAdd, Nat.reduceSub, Array.replicate_succ, Array.replicate_zero, List.push_toArray, List.append_toArray, List.nil_append, List.cons_append]
  gi_wp2_with fail
  refine ⟨trivial, ?_⟩
  refine (callsIn_wide.2 (kindTests_any _)).mono ?_
  rintro e w1 ⟨b, F, rfl, hbb, hF, hA, hb1⟩
  have HA := Lib.hid hA
  have HF := Lib.hid hF
  clear hA hF
  gi_wp2_with fail
  refine ⟨trivial, ?_⟩
  refine (callsIn_wide.2 (toldTests_any st risat b F w1 hl HF.out (fun c hc => by obtain ⟨g, caps, e, _⟩ := HA.out c hc; exact ⟨g, caps, e⟩))).mono ?_
  rintro e w2 ⟨v, rfl, ho, hb2⟩
  have B2 := hb1.trans (hb2.mono hb1.size)
  obtain ⟨ao, cap, rfl, hv⟩ := rdV_of_row ho
  have hq := fun c W (hW : Below w2.heap.size w2 W) => passes_any (HRl.out c) ao cap (toldL st risat F) (fun k => kindB (byt st k)) W (by rw [toldL_len HT.out]; exact hl) (hv.below hW) (fun k u hu => by
      obtain ⟨h1, rfl⟩ := toldL_get HT.out hu
      exact ((HA.out _ (letters_of HT.out k h1)).below hb2).below hW)
  have hlt : (toldL st risat F).length = st.size := toldL_len HT.out
  rw [hlt] at hq
  rw [hlt, HT.out]
  have HP := Lib.hid hq
  clear hq hv ho hlt hb2 hb1 HA HF hbb
  gi_wp2_with fail
  refine ⟨trivial, ?_⟩
  refine (callsIn_wide.2 (relationsOn_any m _)).mono ?_
  rintro e w4 ⟨rfl, rfl⟩
  have b1 := ((Boxed.new w2 55 (.slice ao st.size cap)).alloc (.cells #[.int .i64 0] 3)).alloc (.cells #[.int .i64 m] 3)
  have c1 := (Boxed.new (w2.alloc (.cells #[.slice ao st.size cap] 55)) 3 (.int .i64 0)).alloc (.cells #[.int .i64 m] 3)
  have n1 := Boxed.new ((w2.alloc (.cells #[.slice ao st.size cap] 55)).alloc (.cells #[.int .i64 0] 3)) 3 (.int .i64 m)
  have B0 : Below w2.heap.size w2 (((w2.alloc (.cells #[.slice ao st.size cap] 55)).alloc (.cells #[.int .i64 0] 3)).alloc (.cells #[.int .i64 m] 3)) := below_three w2 _ _ _
  have sz : w2.heap.size + 1 + 1 + 1 = (((w2.alloc (.cells #[.slice ao st.size cap] 55)).alloc (.cells #[.int .i64 0] 3)).alloc (.cells #[.int .i64 m] 3)).heap.size := by simp
  simp only [World.size_alloc] at b1 c1 n1
  have hw2 : w.heap.size ≤ w2.heap.size := B2.size
  gi_wp2
  obtain ⟨W0, hW0⟩ : ∃ W0, ((w2.alloc (.cells #[.slice ao st.size cap] 55)).alloc (.cells #[.int .i64 0] 3)).alloc (.cells #[.int .i64 m] 3) = W0 := ⟨_, rfl⟩
  rw [hW0] at b1 c1 n1 B0 sz ⊢
  clear hW0
  refine wpIn_rangeFunc_ownH (w0 := W0) rfl (by omega) (gf := 76) (lb := #[.pointer (some ⟨w2.heap.size + 1 + 1, 0, none⟩)]) rfl trivial (enters_of Try.func76 (by kernel_rfl) rfl)
    (HST.out (w2.heap.size + 1 + 1) W0 n1) KeepB.t (KeepB.b (by omega)) (Below.refl _ _) (fun _ => rfl)
    (fun pre W => (Boxed W w2.heap.size 55 (.slice ao st.size cap) ∧ Boxed W (w2.heap.size + 1) 3 (cntVal N m st pre) ∧ Boxed W (w2.heap.size + 1 + 1) 3 (.int .i64 m)) ∧ Below w2.heap.size w2 W)
    (fun _ _ _ => False)
    (OwnFrom.and (Own.from (fun s A B row hs hg hr => ⟨boxed_own _ _ (fun _ => .slice ao st.size cap) s A B row hs.1 hg hr, boxed_own _ _ (cntVal N m st) s A B row hs.2.1 hg hr, boxed_own _ _ (fun _ => .int .i64 m) s A B row hs.2.2 hg hr⟩) _) (ownFrom_below (Nat.le_refl _) (by omega)))
    (fun _ _ _ _ _ hs _ _ => hs)
    ⟨⟨b1, c1, n1⟩, B0⟩
    (fun x a' W => ∃ j, w2.heap.size + 1 + 1 < j ∧ RelAt W j (codeR m (x % N)) ∧ a' = { tmps := #[.int .i64 m, .string st, undef, undef, .int .i64 0, .bool false, .pointer (some ⟨w2.heap.size, 0, none⟩), .bool true, .pointer (some ⟨w2.heap.size + 1, 0, none⟩), .pointer (some ⟨j, 0, none⟩), .tuple #[.slice ao st.size cap, .bool true], .string st, .map (some b), .tuple #[.slice ao st.size cap, .bool true], .slice ao st.size cap, .bool true, .bool true, .bool false, .bool false, .int .i64 m, .bool (decide ((m : Int) < 1)), .bool (decide ((m : Int) < 1)), .bool (decide ((m : Int) < 1)), .int .i64 m, .bool (decide (3 < (m : Int))), .bool (decide ((m : Int) < 1) || decide (3 < (m : Int))), .int .i64 m, .func (.func 76) #[] #[.pointer (some ⟨w2.heap.size + 1 + 1, 0, none⟩)], relOf (codeR m (x % N)), undef, undef, undef, undef, undef, undef], defers := [] })
    (fun x a' _ X Y row hs hg hr => by obtain ⟨j, h1, h2, h3⟩ := hs; exact ⟨j, h1, relAt_own j (fun (_ : Unit) => codeR m (x % N)) () X Y row h2 hg (fun r e => (hr r e).2), h3⟩)
    ?assign ?body ?done ?stop
  case assign =>
    rintro l pre x W K ⟨⟨bt, bc, bn⟩, hB⟩ hK
    gi_wp2
    have hj := bn.lt
    exact hK _ _ ((KeepsOthers.alloc _ _).from _) (Below.heap_alloc W _ _ bn.lt) ⟨⟨bt.alloc _, bc.alloc _, bn.alloc _⟩, hB.alloc hB.size _⟩ ⟨W.heap.size, bn.lt, RelAt.new W (codeR m (x % N)), rfl⟩
  case body =>
    rintro l pre x a' W hl2 ⟨r, hr⟩ ⟨⟨bt, bc, bn⟩, hB⟩ ⟨j, hj, hrel, rfl⟩ hlt
    have p0 := hrel.cell0
    have p1 := hrel.cell1
    have p2 := hrel.cell2
    have p3 := hrel.cell3
    have p4 := hrel.cell4
    have pt := bt.cell
    have hsn := cntM_snoc N m st pre x
    have hcl : cntM N m st pre < 512 := Nat.lt_of_le_of_lt (cntM_le N m st pre) (by omega)
    have hcall := HP.out x W hB
    rw [show allTo (fun k => kindB (byt st k) (codeR m (x % N))) st.size = allK (codeR m (x % N)) st from rfl] at hcall
    have HB := Lib.hid (And.intro bt (And.intro bc bn))
    have HBB := Lib.hid hB
    clear bt bc bn hB
    cases hk : allK (codeR m (x % N)) st with
    | false =>
      rw [hk] at hcall hsn
      rw [if_neg (by simp), Nat.add_zero] at hsn
      have HSN := Lib.hid hsn
      have HC := Lib.hid hcall
      clear hsn hcall hk
      gi_wp2_with (refine ⟨trivial, ?_⟩; gi_at_call 43; refine (CallsIn.inRound l (callsIn_wide.2 HC.out)).mono ?_; rintro e w5 ⟨rfl, hb5⟩)
      obtain ⟨bt, bc, bn⟩ := HB.out
      exact ⟨(keepsO_below hb5).from _, hb5.block _ bn.lt, ⟨(hb5.block _ bt.lt).trans bt, by unfold cntVal; rw [HSN.out]; exact (hb5.block _ bc.lt).trans bc, (hb5.block _ bn.lt).trans bn⟩, HBB.out.trans (hb5.mono HBB.out.size)⟩
    | true =>
      rw [hk] at hcall hsn
      rw [if_pos rfl] at hsn
      have HSN := Lib.hid hsn
      have HC := Lib.hid hcall
      clear hsn hcall hk
      gi_wp2_with (refine ⟨trivial, ?_⟩; gi_at_call 43; refine (CallsIn.inRound l (callsIn_wide.2 HC.out)).mono ?_; rintro e w5 ⟨rfl, hb5⟩; obtain ⟨bt, bc, bn⟩ := HB.out; have bt5 : Boxed w5 _ _ _ := (hb5.block _ bt.lt).trans bt; have bc5 : Boxed w5 _ _ _ := (hb5.block _ bc.lt).trans bc; have bn5 : Boxed w5 _ _ _ := (hb5.block _ bn.lt).trans bn; have q0 := bc5.cell; have f0 := bc5.frozen; unfold cntVal at q0; clear p0 p1 p2 p3 p4 pt)
      have e1 : ((cntM N m st pre + 1 : Nat) : Int) = (cntM N m st pre : Int) + 1 := by omega
      refine ⟨((keepsO_below hb5).trans (KeepsOthers.setCell _ _ _)).from _, (Below.heap_setCell w5 ⟨w2.heap.size + 1, 0, none⟩ _ (w2.heap.size + 1 + 1) (by simp)).trans (hb5.block _ bn.lt), ⟨bt5.other (by omega) _, ?_, bn5.other (by omega) _⟩, (HBB.out.trans (hb5.mono HBB.out.size)).setCell (p := ⟨w2.heap.size + 1, 0, none⟩) (Nat.le_succ _) _⟩
      unfold cntVal
      rw [HSN.out, e1]
      exact bc5.set _
  case done =>
    rintro D ys W hD rfl ⟨⟨bt, bc, bn⟩, hB⟩ hK
    have pc := bc.cell
    unfold cntVal at pc
    rw [cntM_range] at pc
    gi_wp2
    refine ⟨by simp, .inl ⟨_, _, rfl, run_takeDeferred hK, ?_⟩⟩
    exact ⟨.tuple #[.int .i64 (countC m st (List.range N) : Nat), .bool true], by simp [results, Try.results18, go_sem], rfl, (B2.trans (hB.mono hw2)).trans (belowK_b (w := w) (Nat.le_refl _) W D _ _ (by omega) hK rfl rfl)⟩
  case stop =>
    rintro D c pre W _ _ h _
    exact h.elim

theorem implCount_no (n : Int) (st : ByteArray) (w : World) (hl : st.size ≤ 1048576) (hno : countB n st = false) :
    Calls Try.prog 18 #[.int .i64 n, .string st] w fun e w' => e = .returned (.tuple #[.int .i64 0, .bool false]) ∧ Below w.heap.size w w' := by
  unfold countB at hno
  have HNO := Lib.hid hno
  clear hno
  go_enter Try.func18, Try.ntmps18
  go_wp2_with fail
  refine (kindTests_any _).mono ?_
  rintro e w1 ⟨b, F, rfl, hbb, hF, hA, hb1⟩
  have HA := Lib.hid hA
  have HF := Lib.hid hF
  clear hA hF
  go_wp2_with fail
  refine (toldTests_any st risat b F w1 hl HF.out (fun c hc => by obtain ⟨g, caps, e, _⟩ := HA.out c hc; exact ⟨g, caps, e⟩)).mono ?_
  rintro e w2 ⟨v, rfl, ho, hb2⟩
  have B2 := hb1.trans (hb2.mono hb1.size)
  obtain ⟨ao, cap, rfl, hv⟩ := rdV_of_row ho
  obtain ⟨L, hL⟩ : ∃ L, (toldL st risat F).length = L := ⟨_, rfl⟩
  rw [hL]
  clear hb1 hb2 ho HA HF hbb hv hL
  cases ht : textTo st risat st.size with
  | false =>
    clear ht HNO
    go_wp2
    go_ret2
    exact ⟨rfl, B2.alloc B2.size _⟩
  | true =>
    have hn : ¬ (1 ≤ n ∧ n ≤ 3) := by
      have h := HNO.out
      rw [ht, Bool.and_true] at h
      intro hc
      simp [inB, hc.1, hc.2] at h
    clear ht HNO
    by_cases hn1 : n < 1
    · clear hn
      go_wp2
      go_ret2
      exact ⟨rfl, B2.alloc B2.size _⟩
    · have hn3 : 3 < n := by omega
      clear hn
      go_wp2
      go_ret2
      exact ⟨rfl, B2.alloc B2.size _⟩

theorem implKindCount_any (n : Int) (st : ByteArray) (w : World) (hl : st.size ≤ 1048576) :
    Calls Try.prog 18 #[.int .i64 n, .string st] w fun e w' => e = .returned (.tuple #[.int .i64 (countR n st), .bool (countB n st)]) ∧ Below w.heap.size w w' := by
  cases hb : countB n st with
  | false =>
    have e : countR n st = 0 := by unfold countR; rw [if_neg (by rw [hb]; simp)]
    rw [e]
    exact implCount_no n st w hl hb
  | true =>
    obtain ⟨h, ht⟩ := count_cases hb
    have e : countR n st = (countC n.toNat st (List.range (2 ^ (n.toNat * n.toNat))) : Nat) := by unfold countR; rw [if_pos hb]
    obtain ⟨m, rfl, h1, h3⟩ : ∃ m : Nat, n = (m : Int) ∧ 1 ≤ m ∧ m ≤ 3 := ⟨n.toNat, by omega, by omega, by omega⟩
    rw [Int.toNat_natCast] at e
    rw [e]
    obtain ⟨N, hN⟩ : ∃ N, N = 2 ^ (m * m) := ⟨_, rfl⟩
    rw [← hN]
    have hN2 : N ≤ 512 := by
      rw [hN]
      exact Nat.le_trans (Nat.pow_le_pow_right (by decide) (Nat.mul_le_mul h3 h3)) (by decide)
    exact callsIn_wide.1 (implCount_in m N st w h1 h3 hN hN2 hl ht)
end Go.Proofs.Ytpcbmijencboiaa
