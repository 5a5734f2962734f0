/-
  The points of a relation's pairs linked: linkedBy.
-/
import Derived.Test.YtebkeebgjjmdbaaGreatDoorJC
import Derived.Test.YtebkeebgjjmdbaaGreatDoorAD
namespace Go.Proofs.YtebkeebgjjmdbaaGreatDoor
open Go.RowKit Go.Shelf
attribute [local go_sem] Oper.semAt_some

theorem LinkW.drew {w : World} {B n : Nat} {ps : List Nat} (h : LinkW w B n ps) : LinkW w.drew B n ps := ⟨h.row, h.node⟩
theorem linkW_ownFrom {β : Type} {B n C : Nat} (f : β → List Nat) (h1 : 1 ≤ n) (hC : B + 1 + n ≤ C) : OwnFrom C (fun (s : β) W => LinkW W B n (f s)) := by
  intro s W W' row hs hg hr
  have hlt := hs.lt (n - 1) (by omega)
  refine hs.keep fun k hk1 hk2 => hg.block k (by omega) ?_
  intro e
  have := (hr k e.symm).1
  omega


set_option maxRecDepth 100000 in
set_option maxHeartbeats 8000000 in
theorem linkedBy_in (xs : List Int) (w : World) (h1 : 1 ≤ xs.length) (h4 : xs.length ≤ 4) :
    CallsIn Fence.wide 6 Tryz.prog 18 #[relOf xs] w fun e w' => e = .returned (.slice (some ⟨w.heap.size + 1, 0, none⟩) xs.length xs.length) ∧ LinkW w' (w.heap.size + 1) xs.length (linkAcc (pairsOf xs)) ∧ w.heap.size + 2 + xs.length ≤ w'.heap.size ∧ Below w.heap.size w w' := by
  refine callsIn_of_wp_marks Tryz.func18 rfl trivial ?_ rfl
  simp only [Tryz.ntmps18, List.size_toArray, List.length_cons, List.length_nil, Nat.reduceAdd, Nat.reduceSub, Array.replicate_succ, Array.replicate_zero, List.push_toArray, List.append_toArray, List.nil_append, List.cons_append]
  have x1 := RelAt.new w xs
  have p0 := x1.cell0
  gi_wp2_with fail
  refine ⟨trivial, ?_⟩
  refine (callsIn_wide.2 (unlinked_any xs.length h4 _)).mono ?_
  rintro e w1 ⟨rfl, hL, hs, hb⟩
  simp only [World.size_alloc] at hL hs
  have hs2 : w.heap.size + 2 + xs.length ≤ w1.heap.size := by omega
  clear hs
  have x2 := (x1.below hb x1.lt).alloc (.cells #[.slice (some ⟨w.heap.size + 1, 0, none⟩) xs.length xs.length] 42)
  have B1 : Below w.heap.size w w1 := (below_one _ _).trans (hb.mono (by simp))
  have q0 := x2.cell0
  have q1 := x2.cell1
  have q2 := x2.cell2
  have q3 := x2.cell3
  have q4 := x2.cell4
  clear hb x1 p0
  gi_wp2_with fail
  refine ⟨trivial, ?_⟩
  refine (callsIn_wide.2 (pairs_any xs _)).mono ?_
  rintro e w3 ⟨rfl, rfl⟩
  clear q0 q1 q2 q3 q4 x2
  gi_wp2
  have a1 := (hL.below (below_one w1 (.cells #[.slice (some ⟨w.heap.size + 1, 0, none⟩) xs.length xs.length] 42)) (by omega)).below (below_one (w1.alloc (.cells #[.slice (some ⟨w.heap.size + 1, 0, none⟩) xs.length xs.length] 42)) (.cells #[.int .i64 xs.length, .int .i64 (rowAt xs 0), .int .i64 (rowAt xs 1), .int .i64 (rowAt xs 2), .int .i64 (rowAt xs 3)] 36)) (by simp; omega)
  have b1 := (Boxed.new w1 42 (.slice (some ⟨w.heap.size + 1, 0, none⟩) xs.length xs.length)).alloc (.cells #[.int .i64 xs.length, .int .i64 (rowAt xs 0), .int .i64 (rowAt xs 1), .int .i64 (rowAt xs 2), .int .i64 (rowAt xs 3)] 36)
  have i1 := RelAt.new (w1.alloc (.cells #[.slice (some ⟨w.heap.size + 1, 0, none⟩) xs.length xs.length] 42)) xs
  have B0 := (B1.alloc (by omega) (.cells #[.slice (some ⟨w.heap.size + 1, 0, none⟩) xs.length xs.length] 42)).alloc (by simp; omega) (.cells #[.int .i64 xs.length, .int .i64 (rowAt xs 0), .int .i64 (rowAt xs 1), .int .i64 (rowAt xs 2), .int .i64 (rowAt xs 3)] 36)
  have sz : w1.heap.size + 1 + 1 = ((w1.alloc (.cells #[.slice (some ⟨w.heap.size + 1, 0, none⟩) xs.length xs.length] 42)).alloc (.cells #[.int .i64 xs.length, .int .i64 (rowAt xs 0), .int .i64 (rowAt xs 1), .int .i64 (rowAt xs 2), .int .i64 (rowAt xs 3)] 36)).heap.size := by simp
  simp only [World.size_alloc] at i1
  obtain ⟨W0, hW0⟩ : ∃ W0, (w1.alloc (.cells #[.slice (some ⟨w.heap.size + 1, 0, none⟩) xs.length xs.length] 42)).alloc (.cells #[.int .i64 xs.length, .int .i64 (rowAt xs 0), .int .i64 (rowAt xs 1), .int .i64 (rowAt xs 2), .int .i64 (rowAt xs 3)] 36) = W0 := ⟨_, rfl⟩
  rw [hW0] at a1 b1 i1 B0 sz ⊢
  clear hW0 hL B1
  refine wpIn_rangeFunc_ownF (w0 := W0) rfl (by omega) (gf := 60) (lb := #[.pointer (some ⟨w1.heap.size + 1, 0, none⟩)]) rfl trivial (enters_of Tryz.func60 (by kernel_rfl) rfl)
    (pairs_stops 5 (by omega) (w1.heap.size + 1) xs h1 h4 W0 i1) KeepB.t (KeepB.b (by omega)) (Below.refl _ _) (fun _ => rfl)
    (fun pre W => (LinkW W (w.heap.size + 1) xs.length (linkAcc pre) ∧ (Boxed W w1.heap.size 42 (.slice (some ⟨w.heap.size + 1, 0, none⟩) xs.length xs.length) ∧ RelAt W (w1.heap.size + 1) xs)) ∧ Below w.heap.size w W)
    (fun _ _ _ => False)
    (OwnFrom.and (OwnFrom.and (linkW_ownFrom linkAcc h1 (by omega)) (Own.from (fun s A B row hs hg hr => ⟨boxed_own _ _ (fun _ => .slice (some ⟨w.heap.size + 1, 0, none⟩) xs.length xs.length) s A B row hs.1 hg hr, relAt_own _ (fun _ => xs) s A B row hs.2 hg hr⟩) _)) (ownFrom_below (Nat.le_refl _) (by omega)))
    (fun _ _ _ _ _ hs _ _ => hs)
    ⟨⟨a1, b1, i1⟩, B0⟩
    (fun x => { tmps := #[relOf xs, .pointer (some ⟨w.heap.size, 0, none⟩), .slice none 0 0, .pointer (some ⟨w1.heap.size, 0, none⟩), .int .i64 (x.1.val : Int), .int .i64 (x.2.val : Int), .pointer (some ⟨w.heap.size, 0, none⟩), .int .i64 xs.length, .slice (some ⟨w.heap.size + 1, 0, none⟩) xs.length xs.length, relOf xs, .func (.func 60) #[] #[.pointer (some ⟨w1.heap.size + 1, 0, none⟩)], .int .i64 (x.1.val : Int), .int .i64 (x.2.val : Int), undef, undef, undef, undef, undef, undef, undef, undef, undef, undef], defers := [] }) ?assign ?body ?done ?stop
  case assign =>
    intro l x W K hK
    gi_wp2
    exact hK
  case body =>
    rintro l pre x W ⟨⟨hl, hbx, hi⟩, hB⟩ hlen
    have hF := Fo.acc h4 pre
    have hx1 := x.1.isLt
    have hx2 := x.2.isLt
    have c1 := hl.row x.1.val hx1
    have c2 := hl.row x.2.val hx2
    have pz := hbx.cell
    have hj1 : ((x.1.val : Nat) : Int) < (xs.length : Int) := by omega
    have hj2 : ((x.2.val : Nat) : Int) < (xs.length : Int) := by omega
    have hmo : Tryz.prog.follows .mixedOrders = true := by kernel_rfl
    have HJ := Lib.hid (join_any hF h4 x.1.val x.2.val hx1 hx2 W.drew hl.drew)
    have HL := Lib.hid (And.intro hl (And.intro hbx (And.intro hi (And.intro hB hF))))
    clear hl hbx hi hB hF
    gi_wp2
    refine wpIn_region_loads_then 8 (by assumption) (by kernel_rfl) (fun _ => trivial) wide_round_calls rfl ?_
    simp only [List.take_succ_cons, List.take_zero, List.drop_succ_cons, List.drop_zero]
    repeat still_step
    refine wpStill_nil ?_
    gi_wp2_with fail
    refine ⟨trivial, ?_⟩
    refine (CallsIn.inRound l (callsIn_wide.2 HJ.out)).mono ?_
    rintro e w2 ⟨rfl, m, rfl⟩
    clear c1 c2 pz
    gi_wp2
    obtain ⟨hl, hbx, hi, hB, hF⟩ := HL.out
    have hblk := fun k hk => (joinW_block (W.drewN (1 + m)) (w.heap.size + 1) xs.length hF h4 x.1.val x.2.val hx1 hx2 k hk)
    refine ⟨KeepsOthers.trans (⟨Nat.le_refl _, fun _ _ h _ => h⟩ : KeepsOthers W (W.drewN (1 + m))) (joinW_others _ _ _ _ _), hblk (w1.heap.size + 1) (by omega), ⟨?_, (hblk w1.heap.size (by omega)).trans hbx, (hblk (w1.heap.size + 1) (by omega)).trans hi⟩, joinW_below _ _ _ _ _ _ _ (by omega) (below_drewN hB (1 + m))⟩
    rw [linkAcc_snoc]
    exact (hl.drewN (1 + m)).join hF h4 x.1.val x.2.val hx1 hx2
  case done =>
    rintro D ys W hD rfl ⟨⟨hl, hbx, hi⟩, hB⟩ hK
    have pz := hbx.cell
    gi_wp2
    refine ⟨by simp, .inl ⟨_, _, rfl, run_takeDeferred hK, ?_⟩⟩
    have hlt := hi.lt
    exact ⟨.slice (some ⟨w.heap.size + 1, 0, none⟩) xs.length xs.length, by simp [results, Tryz.results18, go_sem], rfl, hl.keep (fun k _ hk => World.putObj_heap_other (by omega)), by simp; omega, hB.trans (belowK_b (w := w) (Nat.le_refl _) W D _ _ (by omega) hK rfl rfl)⟩
  case stop =>
    rintro D c pre W _ _ h _
    exact h.elim
/-- the forest of a relation's pairs -/
def linkS (xs : List Int) : List Nat := linkAcc (pairsOf xs)
theorem linkS_fo {n : Nat} {xs : List Int} (h : Rl n xs) : Fo (linkS xs) := Fo.acc (by rw [h.len]; exact h.four) _
theorem linkedBy_any {n : Nat} {xs : List Int} (h : Rl n xs) (w : World) :
    Calls Tryz.prog 18 #[relOf xs] w fun e w' => e = .returned (.slice (some ⟨w.heap.size + 1, 0, none⟩) n n) ∧ LinkW w' (w.heap.size + 1) n (linkS xs) ∧ w.heap.size + 2 + n ≤ w'.heap.size ∧ Below w.heap.size w w' := by
  obtain rfl := h.len
  exact callsIn_wide.1 (linkedBy_in xs w h.one h.four)
end Go.Proofs.YtebkeebgjjmdbaaGreatDoor
