/-
  Contracts of the program's RelNamed; for lists of at most 2^20 numbers.
-/
import Derived.Test.YtebkeebgjjmdbabAA
import Derived.Test.YtebkeebgjjmdbabAD
namespace Go.Proofs.Ytebkeebgjjmdbab
open Go.RowKit Go.Shelf
attribute [local go_sem] Oper.semAt_some

theorem implRelNamed_no1 (ao bo : Option Addr) (ca cb : Nat) (xs ps : List Int) (w : World) (hl : xs.length ≤ 1048576) (hp : relIn xs = false) (hx : Rd w ao xs) :
    Calls Try.prog 5 #[.slice ao xs.length ca, .slice bo ps.length cb] w (Gave w [] false) := by
  have HP := Lib.hid hp
  clear hp
  go_enter Try.func5, Try.ntmps5
  go_wp2_with (go_at_call 13; refine (relationFrom_no _ _ _ _ hl HP.out (hx.below (below_one _ _))).mono ?_; rintro e w1 ⟨rfl, hb⟩)
  go_ret2
  exact ⟨.slice none 0 0, rfl, World.ownsRow_nil _ _ _ _, ((below_one _ _).trans (hb.mono (by simp))).alloc (by have := hb.size; simp at this; omega) _⟩

theorem implRelNamed_no2 (ao bo : Option Addr) (ca cb : Nat) (xs ps : List Int) (w : World) (hl2 : ps.length ≤ 1048576) (hp : relIn xs = true) (hq : eachB xs.length ps = false) (hx : Rd w ao xs) (hy : Rd w bo ps) :
    Calls Try.prog 5 #[.slice ao xs.length ca, .slice bo ps.length cb] w (Gave w [] false) := by
  have h4 := (relIn_len hp).2
  have HP := Lib.hid hp
  have HQ := Lib.hid hq
  clear hp hq
  go_enter Try.func5, Try.ntmps5
  go_wp2_with fail
  refine (relationFrom_yes _ _ _ _ HP.out (hx.below (below_one _ _))).mono ?_
  rintro e w1 ⟨rfl, hb⟩
  have hbox : w1.cell? ⟨w.heap.size, 0, none⟩ = some (.slice bo ps.length cb) := (hb.cell (p := ⟨w.heap.size, 0, none⟩) (by simp)).trans (by simp)
  have hs1 : w.heap.size + 1 ≤ w1.heap.size := by have := hb.size; simpa using this
  have hbox2 : (w1.alloc (.cells #[.int .i64 xs.length, .int .i64 (rowAt xs 0), .int .i64 (rowAt xs 1), .int .i64 (rowAt xs 2), .int .i64 (rowAt xs 3)] 39)).cell? ⟨w.heap.size, 0, none⟩ = some (.slice bo ps.length cb) := by
    rw [World.cell?_of_block (w := w1) (Below.heap_alloc w1 _ w.heap.size (by omega)), hbox]
  have B1 : Below w.heap.size w (w1.alloc (.cells #[.int .i64 xs.length, .int .i64 (rowAt xs 0), .int .i64 (rowAt xs 1), .int .i64 (rowAt xs 2), .int .i64 (rowAt xs 3)] 39)) := ((below_one _ _).trans (hb.mono (by simp))).alloc (by omega) _
  have hc0 := (RelAt.new w1 xs).cell0
  clear hb hbox
  go_wp2_with fail
  refine (hasEachOnce_any bo cb xs.length ps _ h4 hl2 (hy.below B1)).mono ?_
  rw [HQ.out]
  rintro e w2 ⟨rfl, rfl⟩
  go_wp2
  go_ret2
  exact ⟨.slice none 0 0, rfl, World.ownsRow_nil _ _ _ _, B1⟩


set_option maxRecDepth 100000 in
set_option maxHeartbeats 8000000 in
theorem implRelNamed_in (ao bo : Option Addr) (ca cb : Nat) (xs ps : List Int) (w : World) (hl2 : ps.length ≤ 1048576) (hp : relIn xs = true) (hq : eachB xs.length ps = true) (hx : Rd w ao xs) (hy : Rd w bo ps) :
    CallsIn Fence.wide 6 Try.prog 5 #[.slice ao xs.length ca, .slice bo ps.length cb] w (Gave w (namedAcc xs.length ps (pairsOf xs)) true) := by
  obtain ⟨h1, h4⟩ := relIn_len hp
  have HP := Lib.hid hp
  have HQ := Lib.hid hq
  clear hp hq
  refine callsIn_of_wp_marks Try.func5 rfl trivial ?_ rfl
  simp only [Try.ntmps5, List.size_toArray, List.length_cons, List.length_nil, Nat.reduceAdd, Nat.reduceSub, Array.replicate_succ, Array.replicate_zero, List.push_toArray, List.append_toArray, List.nil_append, List.cons_append]
  gi_wp2_with fail
  refine ⟨trivial, ?_⟩
  refine (callsIn_wide.2 (relationFrom_yes _ _ _ _ HP.out (hx.below (below_one _ _)))).mono ?_
  rintro e w1 ⟨rfl, hb⟩
  have hbox : w1.cell? ⟨w.heap.size, 0, none⟩ = some (.slice bo ps.length cb) := (hb.cell (p := ⟨w.heap.size, 0, none⟩) (by simp)).trans (by simp)
  have hs1 : w.heap.size + 1 ≤ w1.heap.size := by have := hb.size; simpa using this
  have hbox2 : (w1.alloc (.cells #[.int .i64 xs.length, .int .i64 (rowAt xs 0), .int .i64 (rowAt xs 1), .int .i64 (rowAt xs 2), .int .i64 (rowAt xs 3)] 39)).cell? ⟨w.heap.size, 0, none⟩ = some (.slice bo ps.length cb) := by
    rw [World.cell?_of_block (w := w1) (Below.heap_alloc w1 _ w.heap.size (by omega)), hbox]
  have B1 : Below w.heap.size w (w1.alloc (.cells #[.int .i64 xs.length, .int .i64 (rowAt xs 0), .int .i64 (rowAt xs 1), .int .i64 (rowAt xs 2), .int .i64 (rowAt xs 3)] 39)) := ((below_one _ _).trans (hb.mono (by simp))).alloc (by omega) _
  have x1 := RelAt.new w1 xs
  have hbox1 : Boxed w1 w.heap.size 23 (.slice bo ps.length cb) := (hb.block w.heap.size (by simp)).trans (Boxed.new w 23 (.slice bo ps.length cb))
  have hc0 := x1.cell0
  clear hb hbox
  gi_wp2_with fail
  refine ⟨trivial, ?_⟩
  refine (callsIn_wide.2 (hasEachOnce_any bo cb xs.length ps _ h4 hl2 (hy.below B1))).mono ?_
  rw [HQ.out]
  rintro e w2 ⟨rfl, rfl⟩
  have x2 := x1.alloc (.cells #[.int .i64 xs.length, .int .i64 0, .int .i64 0, .int .i64 0, .int .i64 0] 39)
  have p0 := x2.cell0
  have p1 := x2.cell1
  have p2 := x2.cell2
  have p3 := x2.cell3
  have p4 := x2.cell4
  gi_wp2_with fail
  refine ⟨trivial, ?_⟩
  refine (callsIn_wide.2 (pairs_any xs _)).mono ?_
  rintro e w3 ⟨rfl, rfl⟩
  clear p0 p1 p2 p3 p4 x2 hc0 hbox2
  gi_wp2
  have a1 := (zero_new (w1.alloc (.cells #[.int .i64 xs.length, .int .i64 (rowAt xs 0), .int .i64 (rowAt xs 1), .int .i64 (rowAt xs 2), .int .i64 (rowAt xs 3)] 39)) xs.length).alloc (.cells #[.int .i64 xs.length, .int .i64 (rowAt xs 0), .int .i64 (rowAt xs 1), .int .i64 (rowAt xs 2), .int .i64 (rowAt xs 3)] 39)
  have i1 := RelAt.new ((w1.alloc (.cells #[.int .i64 xs.length, .int .i64 (rowAt xs 0), .int .i64 (rowAt xs 1), .int .i64 (rowAt xs 2), .int .i64 (rowAt xs 3)] 39)).alloc (.cells #[.int .i64 xs.length, .int .i64 0, .int .i64 0, .int .i64 0, .int .i64 0] 39)) xs
  have b1 := ((hbox1.alloc (.cells #[.int .i64 xs.length, .int .i64 (rowAt xs 0), .int .i64 (rowAt xs 1), .int .i64 (rowAt xs 2), .int .i64 (rowAt xs 3)] 39)).alloc (.cells #[.int .i64 xs.length, .int .i64 0, .int .i64 0, .int .i64 0, .int .i64 0] 39)).alloc (.cells #[.int .i64 xs.length, .int .i64 (rowAt xs 0), .int .i64 (rowAt xs 1), .int .i64 (rowAt xs 2), .int .i64 (rowAt xs 3)] 39)
  have B0 := (B1.alloc (by simp; omega) (.cells #[.int .i64 xs.length, .int .i64 0, .int .i64 0, .int .i64 0, .int .i64 0] 39)).alloc (by simp; omega) (.cells #[.int .i64 xs.length, .int .i64 (rowAt xs 0), .int .i64 (rowAt xs 1), .int .i64 (rowAt xs 2), .int .i64 (rowAt xs 3)] 39)
  have sz : w1.heap.size + 1 + 1 + 1 = ((((w1.alloc (.cells #[.int .i64 xs.length, .int .i64 (rowAt xs 0), .int .i64 (rowAt xs 1), .int .i64 (rowAt xs 2), .int .i64 (rowAt xs 3)] 39)).alloc (.cells #[.int .i64 xs.length, .int .i64 0, .int .i64 0, .int .i64 0, .int .i64 0] 39)).alloc (.cells #[.int .i64 xs.length, .int .i64 (rowAt xs 0), .int .i64 (rowAt xs 1), .int .i64 (rowAt xs 2), .int .i64 (rowAt xs 3)] 39))).heap.size := by simp
  simp only [World.size_alloc] at a1 i1
  obtain ⟨W0, hW0⟩ : ∃ W0, (((w1.alloc (.cells #[.int .i64 xs.length, .int .i64 (rowAt xs 0), .int .i64 (rowAt xs 1), .int .i64 (rowAt xs 2), .int .i64 (rowAt xs 3)] 39)).alloc (.cells #[.int .i64 xs.length, .int .i64 0, .int .i64 0, .int .i64 0, .int .i64 0] 39)).alloc (.cells #[.int .i64 xs.length, .int .i64 (rowAt xs 0), .int .i64 (rowAt xs 1), .int .i64 (rowAt xs 2), .int .i64 (rowAt xs 3)] 39)) = W0 := ⟨_, rfl⟩
  rw [hW0] at a1 i1 b1 B0 sz ⊢
  clear hW0 x1 B1 hbox1
  have hpl : ps.length = xs.length := (eachB_in HQ.out).1
  have HPL := Lib.hid hpl
  clear hpl
  refine wpIn_rangeFunc_ownF (w0 := W0) rfl (by omega) (gf := 31) (lb := #[.pointer (some ⟨w1.heap.size + 1 + 1, 0, none⟩)]) rfl trivial (enters_of Try.func31 (by kernel_rfl) rfl)
    (pairs_stops 5 (by omega) (w1.heap.size + 1 + 1) xs h1 h4 W0 i1) KeepB.t (KeepB.b (by omega)) (Below.refl _ _) (fun _ => rfl)
    (fun pre W => (RelAt W (w1.heap.size + 1) (namedAcc xs.length ps pre) ∧ Boxed W w.heap.size 23 (.slice bo ps.length cb) ∧ RelAt W (w1.heap.size + 1 + 1) xs) ∧ Below w.heap.size w W)
    (fun _ _ _ => False)
    (OwnFrom.and (Own.from (fun s A B row hs hg hr => ⟨relAt_own _ (namedAcc xs.length ps) s A B row hs.1 hg hr, boxed_own _ _ (fun _ => .slice bo ps.length cb) s A B row hs.2.1 hg hr, relAt_own _ (fun _ => xs) s A B row hs.2.2 hg hr⟩) _) (ownFrom_below (Nat.le_refl _) (by omega)))
    (fun _ _ _ _ _ hs _ _ => hs)
    ⟨⟨a1, b1, i1⟩, B0⟩
    (fun x => { tmps := #[.slice ao xs.length ca, .slice bo ps.length cb, undef, .pointer (some ⟨w.heap.size, 0, none⟩), .slice none 0 0, .bool false, .pointer (some ⟨w1.heap.size, 0, none⟩), .bool true, .pointer (some ⟨w1.heap.size + 1, 0, none⟩), .int .i64 (x.1.val : Int), .int .i64 (x.2.val : Int), .tuple #[relOf xs, .bool true], .slice ao xs.length ca, .tuple #[relOf xs, .bool true], relOf xs, .bool true, .bool true, .bool false, .bool false, .slice bo ps.length cb, .pointer (some ⟨w1.heap.size, 0, none⟩), .int .i64 xs.length, .bool true, .bool false, .bool false, .pointer (some ⟨w1.heap.size, 0, none⟩), .int .i64 xs.length, .agg #[.int .i64 xs.length, .int .i64 0, .int .i64 0, .int .i64 0, .int .i64 0], relOf xs, .func (.func 31) #[] #[.pointer (some ⟨w1.heap.size + 1 + 1, 0, none⟩)], .int .i64 (x.1.val : Int), .int .i64 (x.2.val : Int), undef, undef, undef, undef, undef, undef, undef, undef, undef, undef, undef, undef], defers := [] }) ?assign ?body ?done ?stop
  case assign =>
    intro l x W K hK
    gi_wp2
    exact hK
  case body =>
    rintro l pre x W ⟨⟨ha, hz, hi⟩, hB⟩ hlen
    have hln := namedAcc_len xs.length ps pre
    have p0 := ha.cell0
    have p1 := ha.cell1
    have p2 := ha.cell2
    have p3 := ha.cell3
    have p4 := ha.cell4
    have pz := hz.cell
    have hx1 := x.1.isLt
    have hx2 := x.2.isLt
    obtain ⟨g1, g2⟩ := pv_at HQ.out x.1.val hx1
    obtain ⟨g3, g4⟩ := pv_at HQ.out x.2.val hx2
    obtain ⟨b, off, hbo, hbl, hc1⟩ := (hy.below hB) x.1.val _ g1
    obtain ⟨b', off', hbo', hbl', hc2⟩ := (hy.below hB) x.2.val _ g3
    rw [hbo] at hbo'
    simp only [Option.some.injEq, Addr.mk.injEq, and_true] at hbo'
    obtain ⟨rfl, rfl⟩ := hbo'
    subst hbo
    have hj1 : ((x.1.val : Nat) : Int) < (ps.length : Int) := by have := HPL.out; omega
    have hj2 : ((x.2.val : Nat) : Int) < (ps.length : Int) := by have := HPL.out; omega
    have hmo : Try.prog.follows .mixedOrders = true := by kernel_rfl
    have HL := Lib.hid hln
    obtain ⟨m1, hm1⟩ : ∃ m, pv ps x.1.val = m := ⟨_, rfl⟩
    obtain ⟨m2, hm2⟩ : ∃ m, pv ps x.2.val = m := ⟨_, rfl⟩
    rw [hm1] at hc1 g2
    rw [hm2] at hc2 g4
    have HM1 := Lib.hid hm1
    have HM2 := Lib.hid hm2
    clear hln g1 g3 hy hx hbl hbl' hm1 hm2
    gi_wp2
    refine wpIn_region_loads_then 9 (by assumption) (by kernel_rfl) (fun _ => trivial) wide_round_calls rfl ?_
    simp only [List.take_succ_cons, List.take_zero, List.drop_succ_cons, List.drop_zero]
    repeat still_step
    refine wpStill_nil ?_
    gi_wp2_with fail
    refine ⟨trivial, ?_⟩
    refine (CallsIn.inRound l (callsIn_wide.2 (withPair_any (namedAcc xs.length ps pre) m1 m2 _ (by rw [HL.out]; exact h4) (by rw [HL.out]; exact g2) (by omega)))).mono ?_
    rintro e w2 ⟨rfl, hb⟩
    have ha1 := RelAt.below (w := W.drew) ha hb ha.lt
    have q0 := ha1.cell0
    have q1 := ha1.cell1
    have q2 := ha1.cell2
    have q3 := ha1.cell3
    have q4 := ha1.cell4
    have f0 := ha1.free 0
    have f1 := ha1.free 1
    have f2 := ha1.free 2
    have f3 := ha1.free 3
    have f4 := ha1.free 4
    clear p0 p1 p2 p3 p4 pz hc1 hc2
    gi_wp2
    have hsz := hB.size
    have hbs := hb.size
    simp only [World.size_drew] at hbs
    have hput := ha1.put (addPair (namedAcc xs.length ps pre) m1 m2)
    have P5 := put5_all w2 (w1.heap.size + 1) (.int .i64 (addPair (namedAcc xs.length ps pre) m1 m2).length) (.int .i64 (rowAt (addPair (namedAcc xs.length ps pre) m1 m2) 0)) (.int .i64 (rowAt (addPair (namedAcc xs.length ps pre) m1 m2) 1)) (.int .i64 (rowAt (addPair (namedAcc xs.length ps pre) m1 m2) 2)) (.int .i64 (rowAt (addPair (namedAcc xs.length ps pre) m1 m2) 3))
    refine ⟨(KeepsOthers.drew W).trans ((keepsO_below hb).trans P5.1), (P5.2.1 _ (by omega)).trans (hb.block _ hi.lt), ⟨?_, ((P5.2.1 _ (by omega)).trans (hb.block _ hz.lt)).trans hz, ((P5.2.1 _ (by omega)).trans (hb.block _ hi.lt)).trans hi⟩, (hB.drew.trans (hb.mono hB.size)).trans (P5.2.2 _ (by omega))⟩
    rw [namedAcc_snoc, HM1.out, HM2.out]
    exact hput
  case done =>
    rintro D ys W hD rfl ⟨⟨ha, hz, hi⟩, hB⟩ hK
    have hln := namedAcc_len xs.length ps (pairsOf xs)
    have p0 := ha.cell0
    have p1 := ha.cell1
    have p2 := ha.cell2
    have p3 := ha.cell3
    have p4 := ha.cell4
    have HL := Lib.hid hln
    clear hln
    gi_wp2_with fail
    refine ⟨trivial, ?_⟩
    refine (callsIn_wide.2 (list_any (namedAcc xs.length ps (pairsOf xs)) W (by rw [HL.out]; exact h4))).mono ?_
    rintro e w2 ⟨v, rfl, ho, hb⟩
    gi_wp2
    have hK5 : w2.heap[D]? = some (.deferred (some [])) := (hb.block D (Array.getElem?_eq_some_iff.1 hK).1).trans hK
    refine ⟨by simp, .inl ⟨_, _, rfl, run_takeDeferred hK5, ?_⟩⟩
    refine ⟨.tuple #[v, .bool true], by simp [results, Try.results5, go_sem], v, rfl, own_mono (ownsRow_putObj ho _ hK5 rfl) hB.size, (hB.trans (hb.mono hB.size)).trans (belowK_b (w := w) (Nat.le_refl _) w2 D _ _ (by omega) hK5 rfl rfl)⟩
  case stop =>
    rintro D c pre W _ _ h _
    exact h.elim
end Go.Proofs.Ytebkeebgjjmdbab
