/-
  Contracts of the program's turned and RelTurned, and of the model's l1Turned and RelTurned; for lists of at most 2^20 numbers.
-/
import Derived.Test.YtcdiicckngndcabU
namespace Go.Proofs.Ytcdiicckngndcab
open Go.RowKit Go.Shelf
attribute [local go_sem] Oper.semAt_some

theorem relAt_own {α : Type} (b : Nat) (f : α → List Int) : Own (fun (s : α) W => RelAt W b (f s)) := by
  intro s W W' row hs hg hr
  refine (hg.block b hs.lt ?_).trans hs
  intro e
  obtain ⟨o, ho, hc⟩ := hr b e.symm
  rw [hs] at ho
  simp only [Option.some.injEq] at ho
  rw [← ho] at hc
  exact absurd hc (by simp [Obj.isCells])

/-- pairs turned, one by one -/
def turnAcc (n : Nat) (pre : List (Fin n × Fin n)) : List Int := pre.foldl (fun zs p => addPair zs p.2.val p.1.val) (List.replicate n 0)
theorem turnAcc_snoc (n : Nat) (pre : List (Fin n × Fin n)) (p : Fin n × Fin n) : turnAcc n (pre ++ [p]) = addPair (turnAcc n pre) p.2.val p.1.val := by
  unfold turnAcc
  rw [List.foldl_append]
  rfl
theorem turnAcc_len (n : Nat) (pre : List (Fin n × Fin n)) : (turnAcc n pre).length = n := by
  have h : ∀ (l : List (Fin n × Fin n)) (zs : List Int), (l.foldl (fun zs p => addPair zs p.2.val p.1.val) zs).length = zs.length := by
    intro l
    induction l with
    | nil => intro zs; rfl
    | cons p r ih => intro zs; rw [List.foldl_cons, ih, addPair_len]
  unfold turnAcc
  rw [h]
  simp

theorem zero_new (w : World) (n : Nat) : RelAt (w.alloc (.cells #[.int .i64 n, .int .i64 0, .int .i64 0, .int .i64 0, .int .i64 0] 47)) w.heap.size (List.replicate n 0) := by
  have h := RelAt.new w (List.replicate n 0)
  have hz : ∀ i, rowAt (List.replicate n 0) i = 0 := by
    intro i
    unfold rowAt
    rw [List.getD_eq_getElem?_getD, List.getElem?_replicate]
    split <;> rfl
  rw [hz, hz, hz, hz, List.length_replicate] at h
  exact h

theorem put5_all (w : World) (b : Nat) (v0 v1 v2 v3 v4 : Value) :
    KeepsOthers w (((((w.setCell ⟨b, 0, none⟩ v0).setCell ⟨b, 1, none⟩ v1).setCell ⟨b, 2, none⟩ v2).setCell ⟨b, 3, none⟩ v3).setCell ⟨b, 4, none⟩ v4) ∧
    (∀ B, B ≠ b → (((((w.setCell ⟨b, 0, none⟩ v0).setCell ⟨b, 1, none⟩ v1).setCell ⟨b, 2, none⟩ v2).setCell ⟨b, 3, none⟩ v3).setCell ⟨b, 4, none⟩ v4).heap[B]? = w.heap[B]?) ∧
    (∀ B, B ≤ b → Below B w (((((w.setCell ⟨b, 0, none⟩ v0).setCell ⟨b, 1, none⟩ v1).setCell ⟨b, 2, none⟩ v2).setCell ⟨b, 3, none⟩ v3).setCell ⟨b, 4, none⟩ v4)) := by
  refine ⟨((((KeepsOthers.setCell _ _ _).trans (KeepsOthers.setCell _ _ _)).trans (KeepsOthers.setCell _ _ _)).trans (KeepsOthers.setCell _ _ _)).trans (KeepsOthers.setCell _ _ _), ?_, ?_⟩
  · intro B hB
    exact (Below.heap_setCell _ ⟨b, 4, none⟩ _ B hB).trans ((Below.heap_setCell _ ⟨b, 3, none⟩ _ B hB).trans ((Below.heap_setCell _ ⟨b, 2, none⟩ _ B hB).trans ((Below.heap_setCell _ ⟨b, 1, none⟩ _ B hB).trans (Below.heap_setCell _ ⟨b, 0, none⟩ _ B hB))))
  · intro B hB
    exact (((((Below.refl B w).setCell (p := ⟨b, 0, none⟩) hB v0).setCell (p := ⟨b, 1, none⟩) hB v1).setCell (p := ⟨b, 2, none⟩) hB v2).setCell (p := ⟨b, 3, none⟩) hB v3).setCell (p := ⟨b, 4, none⟩) hB v4
theorem keepsO_below {w w' : World} (h : Below w.heap.size w w') : KeepsOthers w w' :=
  ⟨h.size, fun k _ hk _ => (h.block k (Array.getElem?_eq_some_iff.1 hk).1).trans hk⟩

set_option maxRecDepth 100000 in
set_option maxHeartbeats 4000000 in
theorem turned_in (xs : List Int) (w : World) (h1 : 1 ≤ xs.length) (h4 : xs.length ≤ 4) :
    CallsIn Fence.wide 6 Try.prog 50 #[relOf xs] w fun e w' => e = .returned (relOf (turnAcc xs.length (pairsOf xs))) ∧ Below w.heap.size w w' := by
  refine callsIn_of_wp_marks Try.func50 rfl trivial ?_ rfl
  simp only [Try.ntmps50, List.size_toArray, List.length_cons, List.length_nil, Nat.reduceAdd, Nat.reduceSub, Array.replicate_succ, Array.replicate_zero, List.push_toArray, List.append_toArray, List.nil_append, List.cons_append]
  have x1 := ((RelAt.new w xs).alloc (.cells #[.int .i64 0, .int .i64 0, .int .i64 0, .int .i64 0, .int .i64 0] 47)).alloc (.cells #[.int .i64 xs.length, .int .i64 0, .int .i64 0, .int .i64 0, .int .i64 0] 47)
  have p0 := x1.cell0
  have p1 := x1.cell1
  have p2 := x1.cell2
  have p3 := x1.cell3
  have p4 := x1.cell4
  gi_wp2_with (refine ⟨trivial, ?_⟩; gi_at_call 83; refine (callsIn_wide.2 (pairs_any xs _)).mono ?_; rintro e w2 ⟨rfl, rfl⟩)
  clear x1 p0 p1 p2 p3 p4
  have z1 := ((rel_zero (w.alloc (.cells #[.int .i64 xs.length, .int .i64 (rowAt xs 0), .int .i64 (rowAt xs 1), .int .i64 (rowAt xs 2), .int .i64 (rowAt xs 3)] 47))).alloc (.cells #[.int .i64 xs.length, .int .i64 0, .int .i64 0, .int .i64 0, .int .i64 0] 47)).alloc (.cells #[.int .i64 xs.length, .int .i64 (rowAt xs 0), .int .i64 (rowAt xs 1), .int .i64 (rowAt xs 2), .int .i64 (rowAt xs 3)] 47)
  have a1 := (zero_new ((w.alloc (.cells #[.int .i64 xs.length, .int .i64 (rowAt xs 0), .int .i64 (rowAt xs 1), .int .i64 (rowAt xs 2), .int .i64 (rowAt xs 3)] 47)).alloc (.cells #[.int .i64 0, .int .i64 0, .int .i64 0, .int .i64 0, .int .i64 0] 47)) xs.length).alloc (.cells #[.int .i64 xs.length, .int .i64 (rowAt xs 0), .int .i64 (rowAt xs 1), .int .i64 (rowAt xs 2), .int .i64 (rowAt xs 3)] 47)
  have i1 := RelAt.new (((w.alloc (.cells #[.int .i64 xs.length, .int .i64 (rowAt xs 0), .int .i64 (rowAt xs 1), .int .i64 (rowAt xs 2), .int .i64 (rowAt xs 3)] 47)).alloc (.cells #[.int .i64 0, .int .i64 0, .int .i64 0, .int .i64 0, .int .i64 0] 47)).alloc (.cells #[.int .i64 xs.length, .int .i64 0, .int .i64 0, .int .i64 0, .int .i64 0] 47)) xs
  have B0 := below_four w (.cells #[.int .i64 xs.length, .int .i64 (rowAt xs 0), .int .i64 (rowAt xs 1), .int .i64 (rowAt xs 2), .int .i64 (rowAt xs 3)] 47) (.cells #[.int .i64 0, .int .i64 0, .int .i64 0, .int .i64 0, .int .i64 0] 47) (.cells #[.int .i64 xs.length, .int .i64 0, .int .i64 0, .int .i64 0, .int .i64 0] 47) (.cells #[.int .i64 xs.length, .int .i64 (rowAt xs 0), .int .i64 (rowAt xs 1), .int .i64 (rowAt xs 2), .int .i64 (rowAt xs 3)] 47)
  have sz : w.heap.size + 1 + 1 + 1 + 1 = (((((w.alloc (.cells #[.int .i64 xs.length, .int .i64 (rowAt xs 0), .int .i64 (rowAt xs 1), .int .i64 (rowAt xs 2), .int .i64 (rowAt xs 3)] 47)).alloc (.cells #[.int .i64 0, .int .i64 0, .int .i64 0, .int .i64 0, .int .i64 0] 47)).alloc (.cells #[.int .i64 xs.length, .int .i64 0, .int .i64 0, .int .i64 0, .int .i64 0] 47)).alloc (.cells #[.int .i64 xs.length, .int .i64 (rowAt xs 0), .int .i64 (rowAt xs 1), .int .i64 (rowAt xs 2), .int .i64 (rowAt xs 3)] 47))).heap.size := by simp
  simp only [World.size_alloc] at z1 a1 i1
  obtain ⟨W0, hW0⟩ : ∃ W0, ((((w.alloc (.cells #[.int .i64 xs.length, .int .i64 (rowAt xs 0), .int .i64 (rowAt xs 1), .int .i64 (rowAt xs 2), .int .i64 (rowAt xs 3)] 47)).alloc (.cells #[.int .i64 0, .int .i64 0, .int .i64 0, .int .i64 0, .int .i64 0] 47)).alloc (.cells #[.int .i64 xs.length, .int .i64 0, .int .i64 0, .int .i64 0, .int .i64 0] 47)).alloc (.cells #[.int .i64 xs.length, .int .i64 (rowAt xs 0), .int .i64 (rowAt xs 1), .int .i64 (rowAt xs 2), .int .i64 (rowAt xs 3)] 47)) = W0 := ⟨_, rfl⟩
  rw [hW0] at z1 a1 i1 B0 sz ⊢
  clear hW0
  refine wpIn_rangeFunc_ownF (w0 := W0) rfl (by omega) (gf := 98) (lb := #[.pointer (some ⟨w.heap.size + 1 + 1 + 1, 0, none⟩)]) rfl trivial (enters_of Try.func98 (by kernel_rfl) rfl)
    (pairs_stops 5 (by omega) (w.heap.size + 1 + 1 + 1) xs h1 h4 W0 i1) KeepB.t (KeepB.b (by omega)) (Below.refl _ _) (fun _ => rfl)
    (fun pre W => (RelAt W (w.heap.size + 1 + 1) (turnAcc xs.length pre) ∧ RelAt W (w.heap.size + 1) [] ∧ RelAt W (w.heap.size + 1 + 1 + 1) xs) ∧ Below w.heap.size w W)
    (fun _ _ _ => False)
    (OwnFrom.and (Own.from (fun s A B row hs hg hr => ⟨relAt_own _ (turnAcc xs.length) s A B row hs.1 hg hr, relAt_own _ (fun _ => []) s A B row hs.2.1 hg hr, relAt_own _ (fun _ => xs) s A B row hs.2.2 hg hr⟩) _) (ownFrom_below (Nat.le_refl _) (by omega)))
    (fun _ _ _ _ _ hs _ _ => hs)
    ⟨⟨a1, z1, i1⟩, B0⟩
    (fun x => { tmps := #[relOf xs, .pointer (some ⟨w.heap.size, 0, none⟩), .pointer (some ⟨w.heap.size + 1, 0, none⟩), .pointer (some ⟨w.heap.size + 1 + 1, 0, none⟩), .int .i64 (x.1.val : Int), .int .i64 (x.2.val : Int), .pointer (some ⟨w.heap.size, 0, none⟩), .int .i64 xs.length, .agg #[.int .i64 xs.length, .int .i64 0, .int .i64 0, .int .i64 0, .int .i64 0], relOf xs, .func (.func 98) #[] #[.pointer (some ⟨w.heap.size + 1 + 1 + 1, 0, none⟩)], .int .i64 (x.1.val : Int), .int .i64 (x.2.val : Int), undef, undef, undef, undef, undef], defers := [] }) ?assign ?body ?done ?stop
  case assign =>
    intro l x W K hK
    gi_wp2
    exact hK
  case body =>
    rintro l pre x W ⟨⟨ha, hz, hi⟩, hB⟩ hlen
    have hln := turnAcc_len xs.length pre
    have p0 := ha.cell0
    have p1 := ha.cell1
    have p2 := ha.cell2
    have p3 := ha.cell3
    have p4 := ha.cell4
    have hx1 := x.1.isLt
    have hx2 := x.2.isLt
    have HL := Lib.hid hln
    clear hln
    gi_wp2_with (refine ⟨trivial, ?_⟩; gi_at_call 84; refine (CallsIn.inRound l (callsIn_wide.2 (withPair_any (turnAcc xs.length pre) x.2.val x.1.val _ (by rw [HL.out]; exact h4) (by rw [HL.out]; exact hx2) (by omega)))).mono ?_; rintro e w1 ⟨rfl, hb⟩; have ha1 := ha.below hb ha.lt; have q0 := ha1.cell0; have q1 := ha1.cell1; have q2 := ha1.cell2; have q3 := ha1.cell3; have q4 := ha1.cell4; have f0 := ha1.free 0; have f1 := ha1.free 1; have f2 := ha1.free 2; have f3 := ha1.free 3; have f4 := ha1.free 4; clear p0 p1 p2 p3 p4)
    have hput := ha1.put (addPair (turnAcc xs.length pre) x.2.val x.1.val)
    have P5 := put5_all w1 (w.heap.size + 1 + 1) (.int .i64 (addPair (turnAcc xs.length pre) x.2.val x.1.val).length) (.int .i64 (rowAt (addPair (turnAcc xs.length pre) x.2.val x.1.val) 0)) (.int .i64 (rowAt (addPair (turnAcc xs.length pre) x.2.val x.1.val) 1)) (.int .i64 (rowAt (addPair (turnAcc xs.length pre) x.2.val x.1.val) 2)) (.int .i64 (rowAt (addPair (turnAcc xs.length pre) x.2.val x.1.val) 3))
    refine ⟨(keepsO_below hb).trans P5.1, (P5.2.1 _ (by omega)).trans (hb.block _ hi.lt), ⟨?_, ((P5.2.1 _ (by omega)).trans (hb.block _ hz.lt)).trans hz, ((P5.2.1 _ (by omega)).trans (hb.block _ hi.lt)).trans hi⟩, (hB.trans (hb.mono hB.size)).trans (P5.2.2 _ (by omega))⟩
    rw [turnAcc_snoc]
    exact hput
  case done =>
    rintro D ys W hD rfl ⟨⟨ha, hz, hi⟩, hB⟩ hK
    have hln := turnAcc_len xs.length (pairsOf xs)
    have p0 := ha.cell0
    rw [hln] at p0
    have p1 := ha.cell1
    have p2 := ha.cell2
    have p3 := ha.cell3
    have p4 := ha.cell4
    have q0 := hz.cell0
    have q1 := hz.cell1
    have q2 := hz.cell2
    have q3 := hz.cell3
    have q4 := hz.cell4
    have f0 := hz.free 0
    have f1 := hz.free 1
    have f2 := hz.free 2
    have f3 := hz.free 3
    have f4 := hz.free 4
    have HL := Lib.hid hln
    clear hln
    gi_wp2
    have P5 := put5_all W (w.heap.size + 1) (.int .i64 xs.length) (.int .i64 (rowAt (turnAcc xs.length (pairsOf xs)) 0)) (.int .i64 (rowAt (turnAcc xs.length (pairsOf xs)) 1)) (.int .i64 (rowAt (turnAcc xs.length (pairsOf xs)) 2)) (.int .i64 (rowAt (turnAcc xs.length (pairsOf xs)) 3))
    have hput := hz.put (turnAcc xs.length (pairsOf xs))
    rw [HL.out] at hput
    obtain ⟨W5, hW5⟩ : ∃ W5, (((((W.setCell ⟨w.heap.size + 1, 0, none⟩ (.int .i64 xs.length)).setCell ⟨w.heap.size + 1, 1, none⟩ (.int .i64 (rowAt (turnAcc xs.length (pairsOf xs)) 0))).setCell ⟨w.heap.size + 1, 2, none⟩ (.int .i64 (rowAt (turnAcc xs.length (pairsOf xs)) 1))).setCell ⟨w.heap.size + 1, 3, none⟩ (.int .i64 (rowAt (turnAcc xs.length (pairsOf xs)) 2))).setCell ⟨w.heap.size + 1, 4, none⟩ (.int .i64 (rowAt (turnAcc xs.length (pairsOf xs)) 3))) = W5 := ⟨_, rfl⟩
    rw [hW5] at P5 hput ⊢
    have hK5 := P5.1.same D _ hK rfl
    refine ⟨by simp, .inl ⟨_, _, rfl, run_takeDeferred hK5, ?_⟩⟩
    have hr6 : RelAt (W5.putObj D (.deferred none)) (w.heap.size + 1) (turnAcc xs.length (pairsOf xs)) := (World.putObj_heap_other (by omega)).trans hput
    have c0 := hr6.cell0
    have c1 := hr6.cell1
    have c2 := hr6.cell2
    have c3 := hr6.cell3
    have c4 := hr6.cell4
    exact ⟨relOf (turnAcc xs.length (pairsOf xs)), by simp [results, Try.results50, go_sem, c0, c1, c2, c3, c4], rfl, (hB.trans (P5.2.2 _ (by omega))).trans (belowK_b (w := w) (Nat.le_refl _) W5 D _ _ (by omega) hK5 rfl rfl)⟩
  case stop =>
    rintro D c pre W _ _ h _
    exact h.elim
end Go.Proofs.Ytcdiicckngndcab
