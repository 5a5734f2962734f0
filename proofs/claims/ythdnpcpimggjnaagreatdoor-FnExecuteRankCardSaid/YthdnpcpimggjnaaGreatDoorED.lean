/-
  The program's composition: relation.then, CompOf; for relations of at most 4 points.
-/
import Derived.StillTailTactics
import Derived.TacticsIn
import Derived.OrdersIn
import Derived.RangeFuncCalls
import Derived.Test.YthdnpcpimggjnaaGreatDoorEB
namespace Go.Proofs.YthdnpcpimggjnaaGreatDoor
open Go

section
variable {F : Fence} {n : Nat} {P : Program} {ops : Array Oper} {md : Region.Mode} {w : World}

theorem wpIn_of_stillF {o : Oper} {a : Act} {K : Act → Prop} {K' : Act → World → Prop} {Q' : Exit → Act → World → Prop} (hfn : ∀ f, F.fn f)
    (hcall : ∀ f args w R, Calls P f args w R → (F.depth.isSome = true → 1 ≤ n) ∧ CallsIn F (n - 1) P f args w R) (hd : ∀ ev : Operand → Value, o.semAt F.round ev = execOp ev o)
    (h : ∀ a, K a → K' a w) (hh : o.still P a w K) : o.wpIn F n P a w K' Q' := by
  unfold Oper.still at hh
  unfold Oper.wpIn
  refine ⟨fun f _ => hfn f, ?_⟩
  rw [hd]
  generalize (execOp a.eval o).run P w = r at *
  cases r with
  | ok x w' =>
    cases x <;> simp only [Oper.stillUpon] at hh <;> simp only [Oper.uponIn]
    case enter f args =>
      obtain ⟨rfl, v, hc, hn⟩ := hh
      refine ⟨(hcall _ _ _ _ hc).1, (hcall _ _ _ _ hc).2.mono ?_⟩
      rintro e w'' ⟨rfl, rfl⟩
      exact h _ hn
    all_goals (obtain ⟨rfl, h2⟩ := hh; exact h _ h2)
  | halt x w' => simp only [Oper.stillUpon] at hh

theorem wpOpIn_of_stillF {i : Nat} {a : Act} {K : Act → Prop} {K' : Act → World → Prop} {Q' : Exit → Act → World → Prop} (hfn : ∀ f, F.fn f)
    (hcall : ∀ f args w R, Calls P f args w R → (F.depth.isSome = true → 1 ≤ n) ∧ CallsIn F (n - 1) P f args w R) (hd : ∀ (i : Nat) (o : Oper), ops[i]? = some o → ∀ ev : Operand → Value, o.semAt F.round ev = execOp ev o)
    (h : ∀ a, K a → K' a w) (hh : stOp P ops w i K a) : wpOpIn F n P ops Q' i K' a w := by
  unfold stOp at hh
  unfold wpOpIn
  split
  · rename_i ho; simp only [ho] at hh; exact h _ hh
  · rename_i o ho
    simp only [ho] at hh
    split
    · rename_i hw; simp only [hw, if_true] at hh; exact wpIn_of_stillF hfn hcall (hd _ _ ho) h hh
    · rename_i hw; simp only [hw] at hh; exact ⟨fun f _ => hfn f, h _ hh⟩

theorem wpAnyIn_of_headF {m g : Nat} {L : Array Bool → Act → Prop} {Q' : Exit → Act → World → Prop} (hfn : ∀ f, F.fn f)
    (hcall : ∀ f args w R, Calls P f args w R → (F.depth.isSome = true → 1 ≤ n) ∧ CallsIn F (n - 1) P f args w R) (hd : ∀ (i : Nat) (o : Oper), ops[i]? = some o → ∀ ev : Operand → Value, o.semAt F.round ev = execOp ev o)
    (hL : ∀ listed a, L listed a → wpAnyIn F n P md ops Q' g listed a w) :
    ∀ (f : Nat) (listed : Array Bool) (a : Act), wpAnyL P md ops w m L f listed a → wpAnyIn F n P md ops Q' (f + g) listed a w
  | 0, listed, a, h => by rw [Nat.zero_add]; exact hL _ _ h
  | f + 1, listed, a, h => by
    rw [show f + 1 + g = (f + g) + 1 by omega]
    exact ⟨fun h0 => absurd h0 h.1, fun i hi => wpOpIn_of_stillF hfn hcall hd (fun a' h' => wpAnyIn_of_headF hfn hcall hd hL f _ a' h') (h.2 i hi).2⟩

theorem wpAnyIn_of_seqF {Q' : Exit → Act → World → Prop} : ∀ (l : List Oper) (k : Nat) (listed : Array Bool) (a : Act) (w : World), (∀ j, l[j]? = ops[k + j]?) →
    Region.seqB md ops l.length k listed = true → wpListIn F n P ops Q' l a w → wpAnyIn F n P md ops Q' l.length listed a w
  | [], _, _, _, _, _, hB, h => ⟨by simpa [Region.seqB] using hB, h⟩
  | o :: l, k, listed, a, w, hl, hB, h => by
    have h0 : ops[k]? = some o := by simpa using (hl 0).symm
    simp only [List.length_cons, Region.seqB, Bool.and_eq_true, decide_eq_true_eq] at hB
    refine ⟨fun h1 => (by rw [hB.1] at h1; cases h1), fun i hi => ?_⟩
    rw [hB.1] at hi
    have hik : i = k := by simpa using hi
    subst hik
    have hw : wpOpIn F n P ops Q' i (wpListIn F n P ops Q' l) a w := by unfold wpOpIn; simp only [h0]; exact h
    exact wpOpIn_mono (fun a' w' h' => wpAnyIn_of_seqF l (i + 1) _ a' w' (fun j => by have := hl (j + 1); simpa [Nat.add_assoc, Nat.add_comm 1 j] using this) hB.2 h') hw

theorem wpIn_region_loads_then {id : Nat} {Q : Exit → Act → World → Prop} {a : Act} {w : World} {l : List Oper} (m : Nat) (hm : P.follows .mixedOrders = true) (hB : Region.lexTailB .any l.toArray m = true)
    (hfn : ∀ f, F.fn f) (hcall : ∀ f args w R, Calls P f args w R → (F.depth.isSome = true → 1 ≤ n) ∧ CallsIn F (n - 1) P f args w R)
    (hd : l.all (fun o => match o.op with | .defer _ => false | _ => true) = true)
    (h : wpStill P l.toArray w.drew (fun a' => wpListIn F n P l.toArray Q (l.drop m) a' w.drew) (l.take m) a) : (Code.region id l.toArray true).wpIn F n P Q a w := by
  have hd' : ∀ (i : Nat) (o : Oper), l.toArray[i]? = some o → ∀ ev : Operand → Value, o.semAt F.round ev = execOp ev o := by
    intro i o ho ev
    have h1 := List.all_eq_true.1 hd o (List.mem_of_getElem? (by simpa using ho))
    exact Oper.semAt_eq _ _ _ (fun c hc => by rw [hc] at h1; cases h1)
  simp only [Region.lexTailB, Bool.and_eq_true, decide_eq_true_eq] at hB
  obtain ⟨⟨⟨⟨hsel, hn⟩, hs⟩, hc⟩, hlex⟩ := hB
  have hn' : m < l.length := by simpa using hn
  have htl : (l.take m).length = m := by simp; omega
  have hdl : (l.drop m).length = l.toArray.size - m := by simp
  have inv0 : HeadInv .any l.toArray m (Array.replicate l.toArray.size false) :=
    ⟨by simp, fun j oj _ hl => (by rw [getD_replicate_false] at hl; cases hl), fun t _ ht => getD_in (by simpa using ht) (getD_replicate_false _ _)⟩
  have H := wpAnyL_lex (md := .any) (g := l.toArray.size - m) hsel hs hc hn (l.take m) 0 _ a (fun j hj => by
    have hj' : j < m := by rw [htl] at hj; exact hj
    simp [hj']) (by simpa using htl) inv0 (by rw [htl]; exact hlex) h
  refine wpIn_region_any hm ?_
  have := wpAnyIn_of_headF (Q' := Q) (g := l.toArray.size - m) hfn hcall hd' (fun listed a' hL => by
    have := wpAnyIn_of_seqF (md := .any) (Q' := Q) (l.drop m) m listed a' w.drew (fun j => by simp [List.getElem?_drop]) (by rw [hdl]; exact hL.1) hL.2
    rwa [hdl] at this) _ _ _ H
  rw [htl, show m + (l.toArray.size - m) = l.toArray.size by omega] at this
  exact this
end

/-- the fence of a round in the wide one -/
theorem wide_round_calls {P : Program} {n l : Nat} : ∀ f args w R, Calls P f args w R → ((Fence.wide.inRound l).depth.isSome = true → 1 ≤ n) ∧ CallsIn (Fence.wide.inRound l) (n - 1) P f args w R :=
  fun _ _ _ _ h => ⟨(fun h => Bool.noConfusion h), CallsIn.inRound l (callsIn_wide.2 h)⟩
end Go.Proofs.YthdnpcpimggjnaaGreatDoor

namespace Go.Proofs.YthdnpcpimggjnaaGreatDoor
open Go.RowKit Go.Shelf
attribute [local go_sem] Oper.semAt_some

theorem below_five (w : World) (o p q r s : Obj) : Below w.heap.size w (((((w.alloc o).alloc p).alloc q).alloc r).alloc s) := (below_four w o p q r).alloc (by simp; omega) _


set_option maxRecDepth 100000 in
set_option maxHeartbeats 8000000 in
theorem then_in (xs ys : List Int) (w : World) (h1 : 1 ≤ xs.length) (h4 : xs.length ≤ 4) :
    CallsIn Fence.wide 6 Tryz.prog 112 #[relOf xs, relOf ys] w fun e w' => e = .returned (relOf (thenAcc xs.length ys (pairsOf xs))) ∧ Below w.heap.size w w' := by
  refine callsIn_of_wp_marks Tryz.func112 rfl trivial ?_ rfl
  simp only [Tryz.ntmps112, List.size_toArray, List.length_cons, List.length_nil, Nat.reduceAdd, Nat.reduceSub, Array.replicate_succ, Array.replicate_zero, List.push_toArray, List.append_toArray, List.nil_append, List.cons_append]
  have x1 := (((RelAt.new w xs).alloc (.cells #[.int .i64 ys.length, .int .i64 (rowAt ys 0), .int .i64 (rowAt ys 1), .int .i64 (rowAt ys 2), .int .i64 (rowAt ys 3)] 36)).alloc (.cells #[.int .i64 0, .int .i64 0, .int .i64 0, .int .i64 0, .int .i64 0] 36)).alloc (.cells #[.int .i64 xs.length, .int .i64 0, .int .i64 0, .int .i64 0, .int .i64 0] 36)
  have p0 := x1.cell0
  have p1 := x1.cell1
  have p2 := x1.cell2
  have p3 := x1.cell3
  have p4 := x1.cell4
  gi_wp2_with (refine ⟨trivial, ?_⟩; gi_at_call 177; refine (callsIn_wide.2 (pairs_any xs _)).mono ?_; rintro e w2 ⟨rfl, rfl⟩)
  clear x1 p0 p1 p2 p3 p4
  have y1 := (((RelAt.new (w.alloc (.cells #[.int .i64 xs.length, .int .i64 (rowAt xs 0), .int .i64 (rowAt xs 1), .int .i64 (rowAt xs 2), .int .i64 (rowAt xs 3)] 36)) ys).alloc (.cells #[.int .i64 0, .int .i64 0, .int .i64 0, .int .i64 0, .int .i64 0] 36)).alloc (.cells #[.int .i64 xs.length, .int .i64 0, .int .i64 0, .int .i64 0, .int .i64 0] 36)).alloc (.cells #[.int .i64 xs.length, .int .i64 (rowAt xs 0), .int .i64 (rowAt xs 1), .int .i64 (rowAt xs 2), .int .i64 (rowAt xs 3)] 36)
  have z1 := ((rel_zero ((w.alloc (.cells #[.int .i64 xs.length, .int .i64 (rowAt xs 0), .int .i64 (rowAt xs 1), .int .i64 (rowAt xs 2), .int .i64 (rowAt xs 3)] 36)).alloc (.cells #[.int .i64 ys.length, .int .i64 (rowAt ys 0), .int .i64 (rowAt ys 1), .int .i64 (rowAt ys 2), .int .i64 (rowAt ys 3)] 36))).alloc (.cells #[.int .i64 xs.length, .int .i64 0, .int .i64 0, .int .i64 0, .int .i64 0] 36)).alloc (.cells #[.int .i64 xs.length, .int .i64 (rowAt xs 0), .int .i64 (rowAt xs 1), .int .i64 (rowAt xs 2), .int .i64 (rowAt xs 3)] 36)
  have a1 := (zero_new (((w.alloc (.cells #[.int .i64 xs.length, .int .i64 (rowAt xs 0), .int .i64 (rowAt xs 1), .int .i64 (rowAt xs 2), .int .i64 (rowAt xs 3)] 36)).alloc (.cells #[.int .i64 ys.length, .int .i64 (rowAt ys 0), .int .i64 (rowAt ys 1), .int .i64 (rowAt ys 2), .int .i64 (rowAt ys 3)] 36)).alloc (.cells #[.int .i64 0, .int .i64 0, .int .i64 0, .int .i64 0, .int .i64 0] 36)) xs.length).alloc (.cells #[.int .i64 xs.length, .int .i64 (rowAt xs 0), .int .i64 (rowAt xs 1), .int .i64 (rowAt xs 2), .int .i64 (rowAt xs 3)] 36)
  have i1 := RelAt.new ((((w.alloc (.cells #[.int .i64 xs.length, .int .i64 (rowAt xs 0), .int .i64 (rowAt xs 1), .int .i64 (rowAt xs 2), .int .i64 (rowAt xs 3)] 36)).alloc (.cells #[.int .i64 ys.length, .int .i64 (rowAt ys 0), .int .i64 (rowAt ys 1), .int .i64 (rowAt ys 2), .int .i64 (rowAt ys 3)] 36)).alloc (.cells #[.int .i64 0, .int .i64 0, .int .i64 0, .int .i64 0, .int .i64 0] 36)).alloc (.cells #[.int .i64 xs.length, .int .i64 0, .int .i64 0, .int .i64 0, .int .i64 0] 36)) xs
  have B0 := below_five w (.cells #[.int .i64 xs.length, .int .i64 (rowAt xs 0), .int .i64 (rowAt xs 1), .int .i64 (rowAt xs 2), .int .i64 (rowAt xs 3)] 36) (.cells #[.int .i64 ys.length, .int .i64 (rowAt ys 0), .int .i64 (rowAt ys 1), .int .i64 (rowAt ys 2), .int .i64 (rowAt ys 3)] 36) (.cells #[.int .i64 0, .int .i64 0, .int .i64 0, .int .i64 0, .int .i64 0] 36) (.cells #[.int .i64 xs.length, .int .i64 0, .int .i64 0, .int .i64 0, .int .i64 0] 36) (.cells #[.int .i64 xs.length, .int .i64 (rowAt xs 0), .int .i64 (rowAt xs 1), .int .i64 (rowAt xs 2), .int .i64 (rowAt xs 3)] 36)
  have sz : w.heap.size + 1 + 1 + 1 + 1 + 1 = (((((w.alloc (.cells #[.int .i64 xs.length, .int .i64 (rowAt xs 0), .int .i64 (rowAt xs 1), .int .i64 (rowAt xs 2), .int .i64 (rowAt xs 3)] 36)).alloc (.cells #[.int .i64 ys.length, .int .i64 (rowAt ys 0), .int .i64 (rowAt ys 1), .int .i64 (rowAt ys 2), .int .i64 (rowAt ys 3)] 36)).alloc (.cells #[.int .i64 0, .int .i64 0, .int .i64 0, .int .i64 0, .int .i64 0] 36)).alloc (.cells #[.int .i64 xs.length, .int .i64 0, .int .i64 0, .int .i64 0, .int .i64 0] 36)).alloc (.cells #[.int .i64 xs.length, .int .i64 (rowAt xs 0), .int .i64 (rowAt xs 1), .int .i64 (rowAt xs 2), .int .i64 (rowAt xs 3)] 36)).heap.size := by simp
  simp only [World.size_alloc] at y1 z1 a1 i1
  obtain ⟨W0, hW0⟩ : ∃ W0, (((((w.alloc (.cells #[.int .i64 xs.length, .int .i64 (rowAt xs 0), .int .i64 (rowAt xs 1), .int .i64 (rowAt xs 2), .int .i64 (rowAt xs 3)] 36)).alloc (.cells #[.int .i64 ys.length, .int .i64 (rowAt ys 0), .int .i64 (rowAt ys 1), .int .i64 (rowAt ys 2), .int .i64 (rowAt ys 3)] 36)).alloc (.cells #[.int .i64 0, .int .i64 0, .int .i64 0, .int .i64 0, .int .i64 0] 36)).alloc (.cells #[.int .i64 xs.length, .int .i64 0, .int .i64 0, .int .i64 0, .int .i64 0] 36)).alloc (.cells #[.int .i64 xs.length, .int .i64 (rowAt xs 0), .int .i64 (rowAt xs 1), .int .i64 (rowAt xs 2), .int .i64 (rowAt xs 3)] 36)) = W0 := ⟨_, rfl⟩
  rw [hW0] at y1 z1 a1 i1 B0 sz ⊢
  clear hW0
  refine wpIn_rangeFunc_ownF (w0 := W0) rfl (by omega) (gf := 240) (lb := #[.pointer (some ⟨w.heap.size + 1 + 1 + 1 + 1, 0, none⟩)]) rfl trivial (enters_of Tryz.func240 (by kernel_rfl) rfl)
    (pairs_stops 5 (by omega) (w.heap.size + 1 + 1 + 1 + 1) xs h1 h4 W0 i1) KeepB.t (KeepB.b (by omega)) (Below.refl _ _) (fun _ => rfl)
    (fun pre W => (RelAt W (w.heap.size + 1 + 1 + 1) (thenAcc xs.length ys pre) ∧ RelAt W (w.heap.size + 1) ys ∧ RelAt W (w.heap.size + 1 + 1) [] ∧ RelAt W (w.heap.size + 1 + 1 + 1 + 1) xs) ∧ Below w.heap.size w W)
    (fun _ _ _ => False)
    (OwnFrom.and (Own.from (fun s A B row hs hg hr => ⟨relAt_own _ (thenAcc xs.length ys) s A B row hs.1 hg hr, relAt_own _ (fun _ => ys) s A B row hs.2.1 hg hr, relAt_own _ (fun _ => []) s A B row hs.2.2.1 hg hr, relAt_own _ (fun _ => xs) s A B row hs.2.2.2 hg hr⟩) _) (ownFrom_below (Nat.le_refl _) (by omega)))
    (fun _ _ _ _ _ hs _ _ => hs)
    ⟨⟨a1, y1, z1, i1⟩, B0⟩
    (fun x => { tmps := #[relOf xs, relOf ys, .pointer (some ⟨w.heap.size, 0, none⟩), .pointer (some ⟨w.heap.size + 1, 0, none⟩), .pointer (some ⟨w.heap.size + 1 + 1, 0, none⟩), .pointer (some ⟨w.heap.size + 1 + 1 + 1, 0, none⟩), .int .i64 (x.1.val : Int), .int .i64 (x.2.val : Int), .pointer (some ⟨w.heap.size, 0, none⟩), .int .i64 xs.length, .agg #[.int .i64 xs.length, .int .i64 0, .int .i64 0, .int .i64 0, .int .i64 0], relOf xs, .func (.func 240) #[] #[.pointer (some ⟨w.heap.size + 1 + 1 + 1 + 1, 0, none⟩)], .int .i64 (x.1.val : Int), .int .i64 (x.2.val : Int), undef, undef, undef, undef, undef, undef, undef, undef, undef, undef, undef, undef], defers := [] }) ?assign ?body ?done ?stop
  case assign =>
    intro l x W K hK
    gi_wp2
    exact hK
  case body =>
    rintro l pre x W ⟨⟨ha, hy, hz, hi⟩, hB⟩ hlen
    have hln := thenAcc_len xs.length ys pre
    have hx1 := x.1.isLt
    have hx2 := x.2.isLt
    have c1 := ha.row x.1.val (by omega)
    have c2 := hy.row x.2.val (by omega)
    have hq1 : ((x.1.val : Nat) : Int) < 4 := by omega
    have hq2 : ((x.2.val : Nat) : Int) < 4 := by omega
    have f1 := ha.free (1 + x.1.val)
    have hset := ha.set x.1.val (by rw [hln]; exact hx1) (by omega) (bits .or .i64 (rowAt (thenAcc xs.length ys pre) x.1.val) (rowAt ys x.2.val))
    rw [← thenAcc_snoc] at hset
    have HS := Lib.hid hset
    clear hset hln
    have hmo : Tryz.prog.follows .mixedOrders = true := by kernel_rfl
    obtain ⟨s1, hs1⟩ : ∃ s, rowAt (thenAcc xs.length ys pre) x.1.val = s := ⟨_, rfl⟩
    obtain ⟨s2, hs2⟩ : ∃ s, rowAt ys x.2.val = s := ⟨_, rfl⟩
    rw [hs1] at c1
    rw [hs2] at c2
    rw [hs1, hs2] at HS
    gi_wp2
    refine wpIn_region_loads_then 11 (by assumption) (by kernel_rfl) (fun _ => trivial) wide_round_calls rfl ?_
    simp only [List.take_succ_cons, List.take_zero, List.drop_succ_cons, List.drop_zero]
    repeat still_step
    refine wpStill_nil ?_
    gi_wp2
    exact ⟨(KeepsOthers.drew W).trans (KeepsOthers.setCell _ _ _), Below.heap_setCell W.drew ⟨w.heap.size + 1 + 1 + 1, 1 + x.1.val, none⟩ _ (w.heap.size + 1 + 1 + 1 + 1) (by simp), ⟨HS.out, hy.other (p := ⟨w.heap.size + 1 + 1 + 1, 1 + x.1.val, none⟩) (by simp) _, hz.other (p := ⟨w.heap.size + 1 + 1 + 1, 1 + x.1.val, none⟩) (by simp) _, hi.other (p := ⟨w.heap.size + 1 + 1 + 1, 1 + x.1.val, none⟩) (by simp) _⟩, hB.drew.setCell (by simp; omega) _⟩
  case done =>
    rintro D qs W hD rfl ⟨⟨ha, hy, hz, hi⟩, hB⟩ hK
    have hln := thenAcc_len xs.length ys (pairsOf xs)
    have p0 := ha.cell0
    rw [hln] at p0
    have p1 := ha.cell1
    have p2 := ha.cell2
    have p3 := ha.cell3
    have p4 := ha.cell4
    have q0 := hz.cell0
    have q1 := hz.cell1
    have q2 := hz.cell2
    have q3 := hz.cell3
    have q4 := hz.cell4
    have f0 := hz.free 0
    have f1 := hz.free 1
    have f2 := hz.free 2
    have f3 := hz.free 3
    have f4 := hz.free 4
    have HL := Lib.hid hln
    clear hln
    gi_wp2
    have P5 := put5_all W (w.heap.size + 1 + 1) (.int .i64 xs.length) (.int .i64 (rowAt (thenAcc xs.length ys (pairsOf xs)) 0)) (.int .i64 (rowAt (thenAcc xs.length ys (pairsOf xs)) 1)) (.int .i64 (rowAt (thenAcc xs.length ys (pairsOf xs)) 2)) (.int .i64 (rowAt (thenAcc xs.length ys (pairsOf xs)) 3))
    have hput := hz.put (thenAcc xs.length ys (pairsOf xs))
    rw [HL.out] at hput
    obtain ⟨W5, hW5⟩ : ∃ W5, (((((W.setCell ⟨w.heap.size + 1 + 1, 0, none⟩ (.int .i64 xs.length)).setCell ⟨w.heap.size + 1 + 1, 1, none⟩ (.int .i64 (rowAt (thenAcc xs.length ys (pairsOf xs)) 0))).setCell ⟨w.heap.size + 1 + 1, 2, none⟩ (.int .i64 (rowAt (thenAcc xs.length ys (pairsOf xs)) 1))).setCell ⟨w.heap.size + 1 + 1, 3, none⟩ (.int .i64 (rowAt (thenAcc xs.length ys (pairsOf xs)) 2))).setCell ⟨w.heap.size + 1 + 1, 4, none⟩ (.int .i64 (rowAt (thenAcc xs.length ys (pairsOf xs)) 3))) = W5 := ⟨_, rfl⟩
    rw [hW5] at P5 hput ⊢
    have hK5 := P5.1.same D _ hK rfl
    refine ⟨by simp, .inl ⟨_, _, rfl, run_takeDeferred hK5, ?_⟩⟩
    have hr6 : RelAt (W5.putObj D (.deferred none)) (w.heap.size + 1 + 1) (thenAcc xs.length ys (pairsOf xs)) := (World.putObj_heap_other (by omega)).trans hput
    have c0 := hr6.cell0
    have c1 := hr6.cell1
    have c2 := hr6.cell2
    have c3 := hr6.cell3
    have c4 := hr6.cell4
    exact ⟨relOf (thenAcc xs.length ys (pairsOf xs)), by simp [results, Tryz.results112, go_sem, c0, c1, c2, c3, c4], rfl, (hB.trans (P5.2.2 _ (by omega))).trans (belowK_b (w := w) (Nat.le_refl _) W5 D _ _ (by omega) hK5 rfl rfl)⟩
  case stop =>
    rintro D c pre W _ _ h _
    exact h.elim

theorem then_any {n : Nat} {xs ys : List Int} (h : Rl n xs) (k : Rl n ys) (w : World) :
    Calls Tryz.prog 112 #[relOf xs, relOf ys] w fun e w' => e = .returned (relOf (compL xs ys)) ∧ Below w.heap.size w w' := by
  obtain rfl := h.len
  have := callsIn_wide.1 (then_in xs ys w h.one h.four)
  rw [thenAcc_eq h k] at this
  exact this

theorem cf_then (args : Array Value) (w : World) : Sem.run Tryz.prog (callFunc 112 args) w = .ok (.enter 112 args) w := by kernel_rfl
theorem two_rl {xs ys : List Int} (h : twoIn xs ys = true) : Rl xs.length xs ∧ Rl xs.length ys := by
  obtain ⟨h1, h2, h3⟩ := twoIn_yes h
  exact ⟨Rl.of h1, h3 ▸ Rl.of h2⟩

theorem implCompOf_any (ao bo : Option Addr) (ca cb : Nat) (xs ys : List Int) (w : World) (hl : xs.length ≤ 1048576) (hl2 : ys.length ≤ 1048576) (hx : Rd w ao xs) (hy : Rd w bo ys) :
    Calls Tryz.prog 152 #[.slice ao xs.length ca, .slice bo ys.length cb] w (Gave w (ifR (twoIn xs ys) (compL xs ys)) (twoIn xs ys)) := by
  cases hp : twoIn xs ys with
  | false =>
    have h1 := Lib.hid (madeOfTwo_no (.func (.func 112) #[] #[]) ao bo ca cb xs ys w hl hl2 hx hy hp)
    clear hp
    go_enter Tryz.func152, Tryz.ntmps152
    go_wp2_with (go_at_call 209; refine h1.out.mono ?_; rintro e w1 ⟨v, rfl, ho, hb⟩)
    go_ret2
    exact ⟨v, rfl, ho, hb⟩
  | true =>
    obtain ⟨r1, r2⟩ := two_rl hp
    have h1 := Lib.hid (madeOfTwo_yes 112 cf_then compL ao bo ca cb xs ys w hx hy hp (compL_len _ _) (fun w => then_any r1 r2 w))
    clear hp r1 r2
    go_enter Tryz.func152, Tryz.ntmps152
    go_wp2_with (go_at_call 209; refine h1.out.mono ?_; rintro e w1 ⟨v, rfl, ho, hb⟩)
    go_ret2
    exact ⟨v, rfl, ho, hb⟩

end Go.Proofs.YthdnpcpimggjnaaGreatDoor
