/-
  The program's RelPairs; for lists of at most 2^20 numbers.
-/
import Derived.Test.YtnmgoeklcmoalaaFB
namespace Go.Proofs.Ytnmgoeklcmoalaa
open Go.RowKit Go.Shelf
attribute [local go_sem] Oper.semAt_some

theorem Own2.sameC {w w' : World} {lo hi n : Nat} {v : Value} {r : Nat → List Int} {gs : Nat → Nat} (h : Own2 w lo hi v n r gs) (hs : hi ≤ w'.heap.size)
    (hb : ∀ (k : Nat) (cur : Array Value) (e : TypeId), w.heap[k]? = some (Obj.cells cur e (0, 0)) → (e = 3 ∨ e = 23) → w'.heap[k]? = w.heap[k]?) : Own2 w' lo hi v n r gs := by
  have key : ∀ (e : TypeId) (size m : Nat) (u : Value) (us : List Value), (e = 3 ∨ e = 23) → w.ownsRow lo e size u m us → ∀ k, u.ownBlock = some k → w'.heap[k]? = w.heap[k]? := by
    intro e size m u us he ho k hk
    rcases ho.2 with ⟨rfl, _⟩ | ⟨g, cap, cur, rfl, _, hh, _⟩
    · cases hk
    · cases hk
      exact hb g cur e hh he
  exact ⟨own_same h.row (key _ _ _ _ _ (.inr rfl) h.row), h.top, hs, h.apart, fun j hj => ⟨(h.rows j hj).1, (h.rows j hj).2.same hs (key _ _ _ _ _ (.inl rfl) (h.rows j hj).2.row)⟩⟩
theorem Own2.setBox {w : World} {lo hi n B : Nat} {v u : Value} {r : Nat → List Int} {gs : Nat → Nat} (h : Own2 w lo hi v n r gs) (hB : Boxed w B 25 u) (x : Value) : Own2 (w.setCell ⟨B, 0, none⟩ x) lo hi v n r gs :=
  h.sameC (Nat.le_trans h.size (by simp)) fun k cur e hk he => Below.heap_setCell w ⟨B, 0, none⟩ x k (by
    rintro rfl
    have := (show w.heap[k]? = _ from hB).symm.trans hk
    simp at this
    rcases he with rfl | rfl
    · exact absurd this.2 (by decide)
    · exact absurd this.2 (by decide))
theorem own2_own {α : Type} (lo B : Nat) (n : α → Nat) (r : α → Nat → List Int) : Own (fun (s : α) W => ∃ v gs, Boxed W B 25 v ∧ Own2 W lo W.heap.size v (n s) (r s) gs) := by
  rintro s X Y row ⟨v, gs, hv, ho⟩ hg hrow
  refine ⟨v, gs, hv.kept hg (fun e' => ?_), (ho.sameC hg.size fun k cur e hk he => hg.block k (Array.getElem?_eq_some_iff.1 hk).1 fun e' => ?_).hi⟩
  · obtain ⟨o, ho, hc⟩ := hrow B e'.symm
    rw [show X.heap[B]? = _ from hv] at ho; cases ho; cases hc
  · obtain ⟨o, ho, hc⟩ := hrow k e'.symm
    rw [hk] at ho; cases ho; cases hc
theorem Own2.putObj {w : World} {lo hi n l : Nat} {v : Value} {r : Nat → List Int} {gs : Nat → Nat} (h : Own2 w lo hi v n r gs) {o : Obj} (o' : Obj) (hl : w.heap[l]? = some o) (ho : o.isCells = false) : Own2 (w.putObj l o') lo hi v n r gs :=
  h.sameC (Nat.le_trans h.size (by simp [World.putObj])) fun k cur e hk he => World.putObj_heap_other (by
    rintro rfl
    rw [hk] at hl; cases hl; cases ho)

set_option maxRecDepth 100000 in
set_option maxHeartbeats 8000000 in
theorem implPairs_in (ao : Option Addr) (ca : Nat) (xs : List Int) (w : World) (hp : relIn xs = true) (hx : Rd w ao xs) :
    CallsIn Fence.wide 6 Try.prog 23 #[.slice ao xs.length ca] w (Gave2 w (pairsOf xs).length (PR (pairsOf xs)) true) := by
  obtain ⟨i0, hi, hz0, hz1, hz2⟩ := info_parts Try.info223
  obtain ⟨h1, h4⟩ := relIn_len hp
  have HP := Lib.hid hp
  clear hp
  refine callsIn_of_wp_marks Try.func23 rfl trivial ?_ rfl
  simp only [Try.ntmps23, List.size_toArray, List.length_cons, List.length_nil, Nat.reduceAdd, Nat.reduceSub, Array.replicate_succ, Array.replicate_zero, List.push_toArray, List.append_toArray, List.nil_append, List.cons_append]
  gi_wp2_with fail
  refine ⟨trivial, ?_⟩
  refine (callsIn_wide.2 (relationFrom_yes _ _ _ _ HP.out hx)).mono ?_
  rintro e w1 ⟨rfl, hb⟩
  have x1 := ((RelAt.new w1 xs).alloc (.cells #[] 23)).alloc (.cells #[.slice (some ⟨w1.heap.size + 1, 0, none⟩) 0 0] 25)
  have p0 := x1.cell0
  have p1 := x1.cell1
  have p2 := x1.cell2
  have p3 := x1.cell3
  have p4 := x1.cell4
  gi_wp2_with fail
  refine ⟨trivial, ?_⟩
  refine (callsIn_wide.2 (pairs_any xs _)).mono ?_
  rintro e w2 ⟨rfl, rfl⟩
  clear p0 p1 p2 p3 p4 x1
  gi_wp2
  have hw1 := hb.size
  have s1 := (Boxed.new ((w1.alloc (.cells #[.int .i64 xs.length, .int .i64 (rowAt xs 0), .int .i64 (rowAt xs 1), .int .i64 (rowAt xs 2), .int .i64 (rowAt xs 3)] 47)).alloc (.cells #[] 23)) 25 (.slice (some ⟨w1.heap.size + 1, 0, none⟩) 0 0)).alloc (.cells #[.int .i64 xs.length, .int .i64 (rowAt xs 0), .int .i64 (rowAt xs 1), .int .i64 (rowAt xs 2), .int .i64 (rowAt xs 3)] 47)
  have o1 : ((((w1.alloc (.cells #[.int .i64 xs.length, .int .i64 (rowAt xs 0), .int .i64 (rowAt xs 1), .int .i64 (rowAt xs 2), .int .i64 (rowAt xs 3)] 47)).alloc (.cells #[] 23)).alloc (.cells #[.slice (some ⟨w1.heap.size + 1, 0, none⟩) 0 0] 25)).alloc (.cells #[.int .i64 xs.length, .int .i64 (rowAt xs 0), .int .i64 (rowAt xs 1), .int .i64 (rowAt xs 2), .int .i64 (rowAt xs 3)] 47)).ownsRow w.heap.size 23 1 (.slice (some ⟨w1.heap.size + 1, 0, none⟩) 0 0) 0 [] := by
    have := World.ownsRow_lit (base := w.heap.size) (e := 23) (size := 1) (w1.alloc (.cells #[.int .i64 xs.length, .int .i64 (rowAt xs 0), .int .i64 (rowAt xs 1), .int .i64 (rowAt xs 2), .int .i64 (rowAt xs 3)] 47)) #[] 0 (by simp; omega) (by unfold maxLen; omega) rfl
    rw [World.size_alloc] at this
    exact (this.alloc _).alloc _
  have i1 := RelAt.new (((w1.alloc (.cells #[.int .i64 xs.length, .int .i64 (rowAt xs 0), .int .i64 (rowAt xs 1), .int .i64 (rowAt xs 2), .int .i64 (rowAt xs 3)] 47)).alloc (.cells #[] 23)).alloc (.cells #[.slice (some ⟨w1.heap.size + 1, 0, none⟩) 0 0] 25)) xs
  have B0 := hb.trans ((below_four w1 (.cells #[.int .i64 xs.length, .int .i64 (rowAt xs 0), .int .i64 (rowAt xs 1), .int .i64 (rowAt xs 2), .int .i64 (rowAt xs 3)] 47) (.cells #[] 23) (.cells #[.slice (some ⟨w1.heap.size + 1, 0, none⟩) 0 0] 25) (.cells #[.int .i64 xs.length, .int .i64 (rowAt xs 0), .int .i64 (rowAt xs 1), .int .i64 (rowAt xs 2), .int .i64 (rowAt xs 3)] 47)).mono hb.size)
  have sz : w1.heap.size + 1 + 1 + 1 + 1 = ((((w1.alloc (.cells #[.int .i64 xs.length, .int .i64 (rowAt xs 0), .int .i64 (rowAt xs 1), .int .i64 (rowAt xs 2), .int .i64 (rowAt xs 3)] 47)).alloc (.cells #[] 23)).alloc (.cells #[.slice (some ⟨w1.heap.size + 1, 0, none⟩) 0 0] 25)).alloc (.cells #[.int .i64 xs.length, .int .i64 (rowAt xs 0), .int .i64 (rowAt xs 1), .int .i64 (rowAt xs 2), .int .i64 (rowAt xs 3)] 47)).heap.size := by simp
  simp only [World.size_alloc] at i1 s1
  obtain ⟨W0, hW0⟩ : ∃ W0, ((((w1.alloc (.cells #[.int .i64 xs.length, .int .i64 (rowAt xs 0), .int .i64 (rowAt xs 1), .int .i64 (rowAt xs 2), .int .i64 (rowAt xs 3)] 47)).alloc (.cells #[] 23)).alloc (.cells #[.slice (some ⟨w1.heap.size + 1, 0, none⟩) 0 0] 25)).alloc (.cells #[.int .i64 xs.length, .int .i64 (rowAt xs 0), .int .i64 (rowAt xs 1), .int .i64 (rowAt xs 2), .int .i64 (rowAt xs 3)] 47)) = W0 := ⟨_, rfl⟩
  rw [hW0] at s1 o1 i1 B0 sz ⊢
  clear hW0 hb
  refine wpIn_rangeFunc_ownF (w0 := W0) rfl (by omega) (gf := 97) (lb := #[.pointer (some ⟨w1.heap.size + 1 + 1 + 1, 0, none⟩)]) rfl trivial (enters_of Try.func97 (by kernel_rfl) rfl)
    (pairs_stops 5 (by omega) (w1.heap.size + 1 + 1 + 1) xs h1 h4 W0 i1) KeepB.t (KeepB.b (by omega)) (Below.refl _ _) (fun _ => rfl)
    (fun pre W => ((∃ v gs, Boxed W (w1.heap.size + 1 + 1) 25 v ∧ Own2 W w.heap.size W.heap.size v pre.length (PR pre) gs) ∧ RelAt W (w1.heap.size + 1 + 1 + 1) xs) ∧ Below w.heap.size w W)
    (fun _ _ _ => False)
    (OwnFrom.and (Own.from (fun s A B row hs hg hr => ⟨own2_own w.heap.size (w1.heap.size + 1 + 1) (fun pre => pre.length) (fun pre => PR pre) s A B row hs.1 hg hr, relAt_own _ (fun _ => xs) s A B row hs.2 hg hr⟩) _) (ownFrom_below (Nat.le_refl _) (by omega)))
    (fun _ _ _ _ _ hs _ _ => hs)
    ⟨⟨⟨_, fun _ => 0, s1, Own2.empty o1⟩, i1⟩, B0⟩
    (fun x => { tmps := #[.slice ao xs.length ca, undef, .slice none 0 0, .bool false, .pointer (some ⟨w1.heap.size, 0, none⟩), .bool true, .pointer (some ⟨w1.heap.size + 1 + 1, 0, none⟩), .int .i64 (x.1.val : Int), .int .i64 (x.2.val : Int), .tuple #[relOf xs, .bool true], .slice ao xs.length ca, .tuple #[relOf xs, .bool true], relOf xs, .bool true, .bool true, .bool false, .slice (some ⟨w1.heap.size + 1, 0, none⟩) 0 0, relOf xs, .func (.func 97) #[] #[.pointer (some ⟨w1.heap.size + 1 + 1 + 1, 0, none⟩)], .int .i64 (x.1.val : Int), .int .i64 (x.2.val : Int), undef, undef, undef, undef, undef, undef, undef], defers := [] }) ?assign ?body ?done ?stop
  case assign =>
    intro l x W K hK
    gi_wp2
    exact hK
  case body =>
    rintro l pre x W ⟨⟨⟨v, gs, hv, ho⟩, hi3⟩, hB⟩ hlen
    obtain ⟨va, vc, rfl, _⟩ := ho.rd
    have hle : pre.length ≤ 16 := by
      have : xs.length * xs.length ≤ 4 * 4 := Nat.mul_le_mul h4 h4
      omega
    have p0 := hv.cell
    have f0 := hv.frozen
    have h6 := cell_one_new (W.alloc (.cells #[.int .i64 (x.1.val : Int), .int .i64 (x.2.val : Int)] 3)) (sl2 W.heap.size) 23
    rw [World.size_alloc] at h6
    have H6 := Lib.hid h6
    clear h6
    gi_wp2_with (gi_at_builtin; refine wpListIn_append_own _ rfl (.tmp 21) (.tmp 25) 25 rfl w.heap.size 23 i0 (.slice none 0 0) 1 24 Try.underlying25 hi hz0 hz1 hz2 rfl (by decide) _ _ _ rfl ((ho.row.alloc _).alloc _) ⟨W.heap.size + 1, 0, none⟩ 1 1 [_] rfl rfl H6.out (by simp [Value.oneCell']) (by unfold maxLen; omega) (by omega) (by have := hB.size; simp; omega) ?_)
    intro v' w6 hown' hgrow _
    have hpush := ho.push hB.size (x.1.val : Int) (x.2.val : Int) hown' hgrow (r' := PR (pre ++ [x])) (fun t ht => PR_old pre _ t ht) (PR_new pre _)
    have E := Boxed.appended (hv.alloc (.cells #[.int .i64 (x.1.val : Int), .int .i64 (x.2.val : Int)] 3)) (by decide) (ho.row.alloc (.cells #[.int .i64 (x.1.val : Int), .int .i64 (x.2.val : Int)] 3)) (n₀ := w.heap.size) (by have := hB.size; simp; omega) (by omega) hown' hgrow
    have hkeep : w6.heap[w1.heap.size + 1 + 1 + 1]? = W.heap[w1.heap.size + 1 + 1 + 1]? := by
      have hlt := hi3.lt
      refine (hgrow.block _ (by simp; omega) fun e => ?_).trans ((Below.heap_alloc _ _ _ (by simp; omega)).trans (Below.heap_alloc _ _ _ hlt))
      rcases ho.row.2 with ⟨he, _⟩ | ⟨g, cap, cur, he, _, hh, _⟩
      · rw [he] at e
        simp [Value.ownBlock] at e
      · rw [he] at e
        simp only [Value.ownBlock, Option.some.injEq] at e
        rw [← e, show W.heap[w1.heap.size + 1 + 1 + 1]? = _ from hi3] at hh
        simp at hh
    obtain ⟨g', cap', rfl⟩ := ownsRow_succ hown'
    have q0 := E.1.cell
    have q1 := E.1.frozen
    gi_wp2
    refine ⟨(KeepsOthers.alloc W _).trans E.2.2.2.1, ?_, ⟨⟨_, fun j => if j = pre.length then W.heap.size else gs j, E.2.1, ?_⟩, ?_⟩, (hB.alloc hB.size _).trans E.2.2.2.2⟩
    · exact (Below.heap_setCell w6 ⟨w1.heap.size + 1 + 1, 0, none⟩ _ _ (by simp)).trans hkeep
    · rw [List.length_append]
      exact (hpush.setBox E.1 _).hi
    · exact ((Below.heap_setCell w6 ⟨w1.heap.size + 1 + 1, 0, none⟩ _ _ (by simp)).trans hkeep).trans hi3
  case done =>
    rintro D ys W hD rfl ⟨⟨⟨v, gs, hv, ho⟩, hi3⟩, hB⟩ hK
    obtain ⟨va, vc, rfl, _⟩ := ho.rd
    have p0 := hv.cell
    gi_wp2
    refine ⟨by simp, .inl ⟨_, _, rfl, run_takeDeferred hK, ?_⟩⟩
    have ho2 : Own2 (W.putObj D (.deferred none)) w.heap.size (W.putObj D (.deferred none)).heap.size (.slice va (pairsOf xs).length vc) (pairsOf xs).length (PR (pairsOf xs)) gs := (ho.putObj (.deferred none) hK rfl).hi
    exact ⟨.tuple #[.slice va (pairsOf xs).length vc, .bool true], by simp [results, Try.results23, go_sem], _, gs, rfl, ho2, hB.trans (belowK_b (w := w) (Nat.le_refl _) W D _ _ (by omega) hK rfl rfl)⟩
  case stop =>
    rintro D c pre W _ _ h _
    exact h.elim

theorem implRelPairs_any (ao : Option Addr) (ca : Nat) (xs : List Int) (w : World) (hl : xs.length ≤ 1048576) (hx : Rd w ao xs) :
    Calls Try.prog 23 #[.slice ao xs.length ca] w (Gave2 w (ifPn xs) (PR (pairsOf xs)) (relIn xs)) := by
  cases hp : relIn xs with
  | false =>
    have hn : ifPn xs = 0 := by unfold ifPn; rw [hp]; rfl
    have HP := Lib.hid hp
    rw [hn]
    clear hp hn
    go_enter Try.func23, Try.ntmps23
    go_wp2_with (go_at_call 42; refine (relationFrom_no _ _ _ _ hl HP.out hx).mono ?_; rintro e w1 ⟨rfl, hb⟩)
    go_ret2
    exact ⟨.slice none 0 0, fun _ => 0, rfl, Own2.empty (World.ownsRow_nil _ _ _ _), hb.alloc hb.size _⟩
  | true =>
    have hn : ifPn xs = (pairsOf xs).length := by unfold ifPn; rw [hp]; rfl
    rw [hn]
    exact callsIn_wide.1 (implPairs_in ao ca xs w hp hx)
end Go.Proofs.Ytnmgoeklcmoalaa
