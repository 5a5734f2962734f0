/-
  The program's KindCount.
-/
import Derived.Test.YtfcpfhffkfbgdaaTC
import Derived.Test.YtfcpfhffkfbgdaaHH
namespace Go.Proofs.Ytfcpfhffkfbgdaa
open Go.RowKit Go.Shelf
attribute [local go_sem] Oper.semAt_some

set_option maxRecDepth 100000 in
set_option maxHeartbeats 8000000 in
theorem countOn_in1 (m N g : Nat) (b : Nat) (p : List Int → Bool) (w : World) (hcf : ∀ args w, Sem.run Try.prog (callFunc g args) w = .ok (.enter g args) w) (h1 : 1 ≤ m) (h3 : m ≤ 3) (hN : N = 2 ^ (m * m)) (hN2 : N ≤ 512)
    (hg : ∀ c W, Below w.heap.size w W → Calls Try.prog g #[relOf (codeR m (c % N)), .pointer (some ⟨b, 0, none⟩)] W fun e w' => e = .returned (.bool (p (codeR m (c % N)))) ∧ Below W.heap.size W w') :
    CallsIn Fence.wide 6 Try.prog 51 #[.int .i64 m, .func (.func g) #[] #[.pointer (some ⟨b, 0, none⟩)]] w fun e w' => e = .returned (.tuple #[.int .i64 (cntL m p (List.range N) : Nat), .bool true]) ∧ Below w.heap.size w w' := by
  have hST := fun B w (hr : Boxed w B 3 (.int .i64 m)) => rels_stops m N h1 h3 hN 5 (by omega) B w hr
  have HST := Lib.hid hST
  have HN := Lib.hid hN
  have HG := Lib.hid hg
  have hm1 : ¬ ((m : Int) < 1) := by omega
  have hm3 : ¬ ((m : Int) > 3) := by omega
  clear hST hN hg
  refine callsIn_of_wp_marks Try.func51 rfl trivial ?_ rfl
  simp only [Try.ntmps51, List.size_toArray, List.length_cons, List.length_nil, Nat.reduceAdd, Nat.reduceSub, Array.replicate_succ, Array.replicate_zero, List.push_toArray, List.append_toArray, List.nil_append, List.cons_append]
  gi_wp2_with fail
  refine ⟨trivial, ?_⟩
  refine (callsIn_wide.2 (relationsOn_any m _)).mono ?_
  rintro e w4 ⟨rfl, rfl⟩
  have b1 := ((Boxed.new w 56 (.func (.func g) #[] #[.pointer (some ⟨b, 0, none⟩)])).alloc (.cells #[.int .i64 0] 3)).alloc (.cells #[.int .i64 m] 3)
  have c1 := (Boxed.new (w.alloc (.cells #[.func (.func g) #[] #[.pointer (some ⟨b, 0, none⟩)]] 56)) 3 (.int .i64 0)).alloc (.cells #[.int .i64 m] 3)
  have n1 := Boxed.new ((w.alloc (.cells #[.func (.func g) #[] #[.pointer (some ⟨b, 0, none⟩)]] 56)).alloc (.cells #[.int .i64 0] 3)) 3 (.int .i64 m)
  have B0 : Below w.heap.size w (((w.alloc (.cells #[.func (.func g) #[] #[.pointer (some ⟨b, 0, none⟩)]] 56)).alloc (.cells #[.int .i64 0] 3)).alloc (.cells #[.int .i64 m] 3)) := below_three w _ _ _
  have sz : w.heap.size + 1 + 1 + 1 = (((w.alloc (.cells #[.func (.func g) #[] #[.pointer (some ⟨b, 0, none⟩)]] 56)).alloc (.cells #[.int .i64 0] 3)).alloc (.cells #[.int .i64 m] 3)).heap.size := by simp
  simp only [World.size_alloc] at b1 c1 n1
  gi_wp2
  obtain ⟨W0, hW0⟩ : ∃ W0, ((w.alloc (.cells #[.func (.func g) #[] #[.pointer (some ⟨b, 0, none⟩)]] 56)).alloc (.cells #[.int .i64 0] 3)).alloc (.cells #[.int .i64 m] 3) = W0 := ⟨_, rfl⟩
  rw [hW0] at b1 c1 n1 B0 sz ⊢
  clear hW0
  refine wpIn_rangeFunc_ownH (w0 := W0) rfl (by omega) (gf := 97) (lb := #[.pointer (some ⟨w.heap.size + 1 + 1, 0, none⟩)]) rfl trivial (enters_of Try.func97 (by kernel_rfl) rfl)
    (HST.out (w.heap.size + 1 + 1) W0 n1) KeepB.t (KeepB.b (by omega)) (Below.refl _ _) (fun _ => rfl)
    (fun pre W => (Boxed W w.heap.size 56 (.func (.func g) #[] #[.pointer (some ⟨b, 0, none⟩)]) ∧ Boxed W (w.heap.size + 1) 3 (cntVal N m p pre) ∧ Boxed W (w.heap.size + 1 + 1) 3 (.int .i64 m)) ∧ Below w.heap.size w W)
    (fun _ _ _ => False)
    (OwnFrom.and (Own.from (fun s A B row hs hg hr => ⟨boxed_own _ _ (fun _ => .func (.func g) #[] #[.pointer (some ⟨b, 0, none⟩)]) s A B row hs.1 hg hr, boxed_own _ _ (cntVal N m p) s A B row hs.2.1 hg hr, boxed_own _ _ (fun _ => .int .i64 m) s A B row hs.2.2 hg hr⟩) _) (ownFrom_below (Nat.le_refl _) (by omega)))
    (fun _ _ _ _ _ hs _ _ => hs)
    ⟨⟨b1, c1, n1⟩, B0⟩
    (fun x a' W => ∃ j, w.heap.size + 1 + 1 < j ∧ RelAt W j (codeR m (x % N)) ∧ a' = { tmps := #[.int .i64 m, .func (.func g) #[] #[.pointer (some ⟨b, 0, none⟩)], undef, .pointer (some ⟨w.heap.size, 0, none⟩), .int .i64 0, .bool false, .pointer (some ⟨w.heap.size + 1, 0, none⟩), .pointer (some ⟨j, 0, none⟩), .int .i64 m, .bool false, .bool false, .int .i64 m, .bool false, .bool false, .int .i64 m, .func (.func 97) #[] #[.pointer (some ⟨w.heap.size + 1 + 1, 0, none⟩)], relOf (codeR m (x % N)), undef, undef, undef, undef, undef, undef], defers := [] })
    (fun x a' _ X Y row hs hg hr => by obtain ⟨j, h1, h2, h3⟩ := hs; exact ⟨j, h1, relAt_own j (fun (_ : Unit) => codeR m (x % N)) () X Y row h2 hg (fun r e => (hr r e).2), h3⟩)
    ?assign ?body ?done ?stop
  case assign =>
    rintro l pre x W K ⟨⟨bt, bc, bn⟩, hB⟩ hK
    gi_wp2
    have hj := bn.lt
    exact hK _ _ ((KeepsOthers.alloc _ _).from _) (Below.heap_alloc W _ _ bn.lt) ⟨⟨bt.alloc _, bc.alloc _, bn.alloc _⟩, hB.alloc hB.size _⟩ ⟨W.heap.size, bn.lt, RelAt.new W (codeR m (x % N)), rfl⟩
  case body =>
    rintro l pre x a' W hl2 ⟨r, hr⟩ ⟨⟨bt, bc, bn⟩, hB⟩ ⟨j, hj, hrel, rfl⟩ hlt
    have p0 := hrel.cell0
    have p1 := hrel.cell1
    have p2 := hrel.cell2
    have p3 := hrel.cell3
    have p4 := hrel.cell4
    have pt := bt.cell
    have hle := cntM_le N m p pre
    have hsn := cntM_snoc N m p pre x
    have hcall := HG.out x W hB
    have hrl : relOf (codeR m (x % N)) = .agg #[.int .i64 m, .int .i64 (rowAt (codeR m (x % N)) 0), .int .i64 (rowAt (codeR m (x % N)) 1), .int .i64 (rowAt (codeR m (x % N)) 2), .int .i64 (rowAt (codeR m (x % N)) 3)] := by
      show Value.agg #[.int .i64 ((codeR m (x % N)).length : Nat), _, _, _, _] = _
      rw [codeR_len]
    rw [hrl] at hcall
    clear hrl
    have HB := Lib.hid (And.intro bt (And.intro bc bn))
    have HBB := Lib.hid hB
    clear hrel bt bc bn hB hr b1 c1 n1 B0 sz
    rw [codeR_len] at p0
    cases hk : p (codeR m (x % N)) with
    | false =>
      rw [hk] at hcall hsn
      rw [if_neg (by simp), Nat.add_zero] at hsn
      have HSN := Lib.hid hsn
      have HC := Lib.hid hcall
      clear hsn hcall hk
      gi_wp2_with fail
      refine ⟨trivial, ?_⟩
      refine (CallsIn.inRound l (callsIn_wide.2 HC.out)).mono ?_
      rintro e w5 ⟨rfl, hb5⟩
      gi_wp2
      obtain ⟨bt, bc, bn⟩ := HB.out
      exact ⟨(keepsO_below hb5).from _, hb5.block _ bn.lt, ⟨(hb5.block _ bt.lt).trans bt, by unfold cntVal; rw [HSN.out]; exact (hb5.block _ bc.lt).trans bc, (hb5.block _ bn.lt).trans bn⟩, HBB.out.trans (hb5.mono HBB.out.size)⟩
    | true =>
      rw [hk] at hcall hsn
      rw [if_pos rfl] at hsn
      have HSN := Lib.hid hsn
      have HC := Lib.hid hcall
      clear hsn hcall hk
      gi_wp2_with fail
      refine ⟨trivial, ?_⟩
      refine (CallsIn.inRound l (callsIn_wide.2 HC.out)).mono ?_
      rintro e w5 ⟨rfl, hb5⟩
      obtain ⟨bt, bc, bn⟩ := HB.out
      have bt5 : Boxed w5 _ _ _ := (hb5.block _ bt.lt).trans bt
      have bc5 : Boxed w5 _ _ _ := (hb5.block _ bc.lt).trans bc
      have bn5 : Boxed w5 _ _ _ := (hb5.block _ bn.lt).trans bn
      have q0 := bc5.cell
      have f0 := bc5.frozen
      unfold cntVal at q0
      clear p0 p1 p2 p3 p4 pt
      gi_wp2
      have e1 : ((cntM N m p pre + 1 : Nat) : Int) = (cntM N m p pre : Int) + 1 := by omega
      refine ⟨((keepsO_below hb5).trans (KeepsOthers.setCell _ _ _)).from _, (Below.heap_setCell w5 ⟨w.heap.size + 1, 0, none⟩ _ (w.heap.size + 1 + 1) (by simp)).trans (hb5.block _ bn.lt), ⟨bt5.other (by omega) _, ?_, bn5.other (by omega) _⟩, (HBB.out.trans (hb5.mono HBB.out.size)).setCell (p := ⟨w.heap.size + 1, 0, none⟩) (Nat.le_succ _) _⟩
      unfold cntVal
      rw [HSN.out, e1]
      exact bc5.set _
  case done =>
    rintro D ys W hD rfl ⟨⟨bt, bc, bn⟩, hB⟩ hK
    have pc := bc.cell
    unfold cntVal at pc
    rw [cntM_range] at pc
    gi_wp2
    refine ⟨by simp, .inl ⟨_, _, rfl, run_takeDeferred hK, ?_⟩⟩
    exact ⟨.tuple #[.int .i64 (cntL m p (List.range N) : Nat), .bool true], by simp [results, Try.results51, go_sem], rfl, hB.trans (belowK_b (w := w) (Nat.le_refl _) W D _ _ (by omega) hK rfl rfl)⟩
  case stop =>
    rintro D c pre W _ _ h _
    exact h.elim

theorem cf_count1 (args : Array Value) (w : World) : Sem.run Try.prog (callFunc 59 args) w = .ok (.enter 59 args) w := by kernel_rfl
/-- whether a relation passes the tests that a box holds -/
theorem kindCount1_any {n : Nat} {xs : List Int} (_R : Rl n xs) (s : Bool) (b : Nat) (ao : Option Addr) (L cap : Nat) (w : World) (hb : Boxed w b 60 (.slice ao L cap))
    (hp : ∀ W, Below w.heap.size w W → Calls Try.prog 60 #[relOf xs, .slice ao L cap] W fun e w' => e = .returned (.bool s) ∧ Below W.heap.size W w') :
    Calls Try.prog 59 #[relOf xs, .pointer (some ⟨b, 0, none⟩)] w fun e w' => e = .returned (.bool s) ∧ Below w.heap.size w w' := by
  have B1 := below_one w (.cells #[.int .i64 xs.length, .int .i64 (rowAt xs 0), .int .i64 (rowAt xs 1), .int .i64 (rowAt xs 2), .int .i64 (rowAt xs 3)] 44)
  have H := Lib.hid (hp _ B1)
  have x1 := RelAt.new w xs
  have p0 := x1.cell0
  have p1 := x1.cell1
  have p2 := x1.cell2
  have p3 := x1.cell3
  have p4 := x1.cell4
  have q0 := (hb.alloc (.cells #[.int .i64 xs.length, .int .i64 (rowAt xs 0), .int .i64 (rowAt xs 1), .int .i64 (rowAt xs 2), .int .i64 (rowAt xs 3)] 44)).cell
  clear hp hb x1
  go_enter Try.func59, Try.ntmps59
  go_wp2_with fail
  refine H.out.mono ?_
  rintro e w2 ⟨rfl, hb2⟩
  go_wp2
  go_ret
  exact ⟨rfl, B1.trans (hb2.mono B1.size)⟩

set_option maxHeartbeats 4000000 in
theorem implCount_yes (n : Int) (st : ByteArray) (w : World) (hl : st.size ≤ 1048576) (ht : textTo st risat st.size = true) :
    Calls Try.prog 29 #[.int .i64 n, .string st] w fun e w' => e = .returned (.tuple #[.int .i64 (countP n fun r => allK r st), .bool (inB n 1 3)]) ∧ Below w.heap.size w w' := by
  have HT := Lib.hid ht
  clear ht
  go_enter Try.func29, Try.ntmps29
  go_wp2_with fail
  refine (kindTests_any _).mono ?_
  rintro e w1 ⟨b, F, rfl, hbb, hF, hA, hb1⟩
  have HA := Lib.hid hA
  have HF := Lib.hid hF
  clear hA hF
  go_wp2_with fail
  refine (toldTests_any st risat b F w1 hl HF.out (fun c hc => by obtain ⟨g, caps, e, _⟩ := HA.out c hc; exact ⟨g, caps, e⟩)).mono ?_
  rintro e w2 ⟨v, rfl, ho, hb2⟩
  have B2 := hb1.trans (hb2.mono hb1.size)
  obtain ⟨ao, cap, rfl, hv⟩ := rdV_of_row ho
  have hlt : (toldL st risat F).length = st.size := toldL_len HT.out
  have hq := fun m (xs : List Int) W (R : Rl m xs) (hW : Below w2.heap.size w2 W) => passes_any R.self ao cap (toldL st risat F) (fun k => kindB (byt st k)) W (by rw [hlt]; exact hl) (hv.below hW) (fun k u hu => by
      obtain ⟨h1, rfl⟩ := toldL_get HT.out hu
      exact ((HA.out _ (letters_of HT.out k h1)).below hb2).below hW)
  rw [hlt] at hq
  rw [hlt, HT.out]
  have x3 := Boxed.new w2 60 (.slice ao st.size cap)
  have B3 := below_one w2 (.cells #[.slice ao st.size cap] 60)
  have hc : ∀ W, Below (w2.heap.size + 1) (w2.alloc (.cells #[.slice ao st.size cap] 60)) W → ∀ m xs, Rl m xs → Calls Try.prog 59 #[relOf xs, .pointer (some ⟨w2.heap.size, 0, none⟩)] W fun e w' => e = .returned (.bool (allK xs st)) ∧ Below W.heap.size W w' := fun W hW m xs R =>
    kindCount1_any R (allK xs st) w2.heap.size ao st.size cap W ((hW.block _ (Nat.lt_succ_self _)).trans x3) (fun V hV => hq m xs V R (B3.trans ((hW.mono (Nat.le_succ _)).trans (hV.mono (Nat.le_trans (Nat.le_succ _) (by have := hW.size; simp at this; omega))))))
  have hn : inB n 1 3 = true → ∃ m : Nat, n = (m : Int) ∧ 1 ≤ m ∧ m ≤ 3 := nat_of
  have hcount : Calls Try.prog 51 #[.int .i64 n, .func (.func 59) #[] #[.pointer (some ⟨w2.heap.size, 0, none⟩)]] (w2.alloc (.cells #[.slice ao st.size cap] 60)) fun e w' => e = .returned (.tuple #[.int .i64 (countP n fun r => allK r st), .bool (inB n 1 3)]) ∧ Below (w2.alloc (.cells #[.slice ao st.size cap] 60)).heap.size (w2.alloc (.cells #[.slice ao st.size cap] 60)) w' := by
    unfold countP
    cases hb : inB n 1 3 with
    | false =>
      rw [if_neg (by simp)]
      exact countOn_no n _ _ _ (fun h => by rw [(inB_iff n 1 3).2 h] at hb; cases hb)
    | true =>
      obtain ⟨m, rfl, h1, h3⟩ := nat_of hb
      rw [if_pos rfl, Int.toNat_natCast]
      exact callsIn_wide.1 (countOn_in1 m _ 59 w2.heap.size (fun r => allK r st) _ cf_count1 h1 h3 rfl (pow512 h3 rfl) (fun c W hW => hc W (by rw [World.size_alloc] at hW; exact hW) m _ (codeR_rlM h1 h3 rfl c)))
  have HC := Lib.hid hcount
  have hmf : ∀ (fn : Fn) (first cap : Array Value) (w : World), Sem.run Try.prog (Instr.makeFunc fn first cap) w = .ok (.func fn first cap) w := fun _ _ _ _ => rfl
  clear hq hv ho hlt hb2 hb1 HA HF hbb hc hn hcount x3 B3
  go_wp2_with fail
  refine HC.out.mono ?_
  rintro e w4 ⟨rfl, hb4⟩
  go_wp2
  go_ret2
  have B3 := B2.alloc B2.size (.cells #[.slice ao st.size cap] 60)
  exact ⟨rfl, B3.trans (hb4.mono B3.size)⟩

theorem implCount_no (n : Int) (st : ByteArray) (w : World) (hl : st.size ≤ 1048576) (hno : textTo st risat st.size = false) :
    Calls Try.prog 29 #[.int .i64 n, .string st] w fun e w' => e = .returned (.tuple #[.int .i64 0, .bool false]) ∧ Below w.heap.size w w' := by
  have HT := Lib.hid hno
  clear hno
  go_enter Try.func29, Try.ntmps29
  go_wp2_with fail
  refine (kindTests_any _).mono ?_
  rintro e w1 ⟨b, F, rfl, hbb, hF, hA, hb1⟩
  have HA := Lib.hid hA
  have HF := Lib.hid hF
  clear hA hF
  go_wp2_with fail
  refine (toldTests_any st risat b F w1 hl HF.out (fun c hc => by obtain ⟨g, caps, e, _⟩ := HA.out c hc; exact ⟨g, caps, e⟩)).mono ?_
  rintro e w2 ⟨v, rfl, ho, hb2⟩
  have B2 := hb1.trans (hb2.mono hb1.size)
  obtain ⟨ao, cap, rfl, hv⟩ := rdV_of_row ho
  obtain ⟨L, hL⟩ : ∃ L, (toldL st risat F).length = L := ⟨_, rfl⟩
  rw [hL, HT.out]
  clear hb1 hb2 ho HA HF hbb hv hL
  go_wp2
  go_ret2
  exact ⟨rfl, B2.alloc B2.size _⟩

theorem implKindCount_any (n : Int) (st : ByteArray) (w : World) (hl : st.size ≤ 1048576) :
    Calls Try.prog 29 #[.int .i64 n, .string st] w fun e w' => e = .returned (.tuple #[.int .i64 (countR n st), .bool (countB n st)]) ∧ Below w.heap.size w w' := by
  cases ht : textTo st risat st.size with
  | false =>
    have e1 : countB n st = false := by unfold countB; rw [ht, Bool.and_false]
    have e2 : countR n st = 0 := by unfold countR; rw [if_neg (by rw [e1]; simp)]
    rw [e1, e2]
    exact implCount_no n st w hl ht
  | true =>
    have e1 : countB n st = inB n 1 3 := by unfold countB; rw [ht, Bool.and_true]
    have e2 : countR n st = countP n fun r => allK r st := by
      unfold countR countP
      rw [e1]
      rfl
    rw [e1, e2]
    exact implCount_yes n st w hl ht
end Go.Proofs.Ytfcpfhffkfbgdaa
