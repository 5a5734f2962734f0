/-
  Contracts of the model's RelEnds and of the program's RelEnds; for lists of at most 2^20 numbers.
-/
import Derived.Sort.QuietIn
import Derived.Test.YtpbkgdohfnjjpaaX
namespace Go.Proofs.Ytpbkgdohfnjjpaa
open Go.RowKit Go.Shelf
attribute [local go_sem] Oper.semAt_some

/-- the ends of a relation -/
def startsOf (xs : List Int) : Int := endsS xs.length (pairsOf xs)
def targetsOf (xs : List Int) : Int := endsT xs.length (pairsOf xs)

theorem below_drewN' {B : Nat} {a w : World} (h : Below B a w) (n : Nat) : Below B a (w.drewN n) := h.trans ⟨rfl, rfl, rfl, Nat.le_refl _, fun _ _ => rfl⟩

theorem implRelEnds_no (ao : Option Addr) (ca : Nat) (xs : List Int) (w : World) (hl : xs.length ≤ 1048576) (hp : relIn xs = false) (hx : Rd w ao xs) :
    Calls Try.prog 20 #[.slice ao xs.length ca] w fun e w' => e = .returned (.tuple #[.int .i64 0, .int .i64 0, .bool false]) ∧ Below w.heap.size w w' := by
  have HP := Lib.hid hp
  clear hp
  go_enter Try.func20, Try.ntmps20
  go_wp2_with (go_at_call 50; refine (relationFrom_no _ _ _ _ hl HP.out hx).mono ?_; rintro e w1 ⟨rfl, hb⟩)
  go_ret3
  exact ⟨rfl, hb.alloc hb.size _⟩

theorem ends_post (W : World) (b1 b2 b3 : Nat) (t : TypeId) (B : Nat) (v1 v2 : Int) {u1 u2 : Value} {xs : List Int} (h12 : b1 ≠ b2) (h13 : b1 ≠ b3) (h23 : b2 ≠ b3) (hB1 : B ≤ b1) (hB2 : B ≤ b2)
    (h1 : Boxed W b1 t u1) (h2 : Boxed W b2 t u2) (h3 : RelAt W b3 xs) :
    KeepsOthers W (((W.setCell ⟨b1, 0, none⟩ (.int .i64 v1)).setCell ⟨b2, 0, none⟩ (.int .i64 v2)).drew) ∧ KeepB b3 W (((W.setCell ⟨b1, 0, none⟩ (.int .i64 v1)).setCell ⟨b2, 0, none⟩ (.int .i64 v2)).drew) ∧
      Boxed (((W.setCell ⟨b1, 0, none⟩ (.int .i64 v1)).setCell ⟨b2, 0, none⟩ (.int .i64 v2)).drew) b1 t (.int .i64 v1) ∧ Boxed (((W.setCell ⟨b1, 0, none⟩ (.int .i64 v1)).setCell ⟨b2, 0, none⟩ (.int .i64 v2)).drew) b2 t (.int .i64 v2) ∧
      RelAt (((W.setCell ⟨b1, 0, none⟩ (.int .i64 v1)).setCell ⟨b2, 0, none⟩ (.int .i64 v2)).drew) b3 xs ∧ Below B W (((W.setCell ⟨b1, 0, none⟩ (.int .i64 v1)).setCell ⟨b2, 0, none⟩ (.int .i64 v2)).drew) := by
  have k3 : ((W.setCell ⟨b1, 0, none⟩ (.int .i64 v1)).setCell ⟨b2, 0, none⟩ (.int .i64 v2)).heap[b3]? = W.heap[b3]? :=
    (Below.heap_setCell _ ⟨b2, 0, none⟩ _ b3 (fun e => h23 e.symm)).trans (Below.heap_setCell _ ⟨b1, 0, none⟩ _ b3 (fun e => h13 e.symm))
  have m2 : Boxed (W.setCell ⟨b1, 0, none⟩ (.int .i64 v1)) b2 t u2 := h2.other (fun e => h12 e.symm) _
  refine ⟨((KeepsOthers.setCell _ _ _).trans (KeepsOthers.setCell _ _ _)).trans (KeepsOthers.drew _), k3, ?_, ?_, Eq.trans k3 h3, (((Below.refl B W).setCell (p := ⟨b1, 0, none⟩) hB1 _).setCell (p := ⟨b2, 0, none⟩) hB2 _).drew⟩
  · exact (h1.set (.int .i64 v1)).other h12 _
  · exact m2.set (.int .i64 v2)

set_option maxRecDepth 100000 in
set_option maxHeartbeats 4000000 in
theorem implRelEnds_in (ao : Option Addr) (ca : Nat) (xs : List Int) (w : World) (hp : relIn xs = true) (hx : Rd w ao xs) :
    CallsIn Fence.wide 6 Try.prog 20 #[.slice ao xs.length ca] w fun e w' => e = .returned (.tuple #[.int .i64 (startsOf xs), .int .i64 (targetsOf xs), .bool true]) ∧ Below w.heap.size w w' := by
  obtain ⟨h1, h4⟩ := relIn_len hp
  have HP := Lib.hid hp
  clear hp
  refine callsIn_of_wp_marks Try.func20 rfl trivial ?_ rfl
  simp only [Try.ntmps20, List.size_toArray, List.length_cons, List.length_nil, Nat.reduceAdd, Nat.reduceSub, Array.replicate_succ, Array.replicate_zero, List.push_toArray, List.append_toArray, List.nil_append, List.cons_append]
  gi_wp2_with (refine ⟨trivial, ?_⟩; gi_at_call 50; refine (callsIn_wide.2 (relationFrom_yes _ _ _ _ HP.out hx)).mono ?_; rintro e w1 ⟨rfl, hb⟩; have x1 := ((RelAt.new w1 xs).alloc (.cells #[.int .i64 0] 45)).alloc (.cells #[.int .i64 0] 45); have p0 := x1.cell0; have p1 := x1.cell1; have p2 := x1.cell2; have p3 := x1.cell3; have p4 := x1.cell4; clear x1)
  refine ⟨trivial, ?_⟩
  refine (callsIn_wide.2 (pairs_any xs _)).mono ?_
  rintro e w2 ⟨rfl, rfl⟩
  clear p0 p1 p2 p3 p4
  gi_wp2
  have s1 : Boxed ((((w1.alloc (.cells #[.int .i64 xs.length, .int .i64 (rowAt xs 0), .int .i64 (rowAt xs 1), .int .i64 (rowAt xs 2), .int .i64 (rowAt xs 3)] 48)).alloc (.cells #[.int .i64 0] 45)).alloc (.cells #[.int .i64 0] 45)).alloc (.cells #[.int .i64 xs.length, .int .i64 (rowAt xs 0), .int .i64 (rowAt xs 1), .int .i64 (rowAt xs 2), .int .i64 (rowAt xs 3)] 48)) (w1.heap.size + 1) 45 (.int .i64 0) := by have h := (Boxed.new (w1.alloc (.cells #[.int .i64 xs.length, .int .i64 (rowAt xs 0), .int .i64 (rowAt xs 1), .int .i64 (rowAt xs 2), .int .i64 (rowAt xs 3)] 48)) 45 (.int .i64 0)).alloc (.cells #[.int .i64 0] 45); simpa using h.alloc (.cells #[.int .i64 xs.length, .int .i64 (rowAt xs 0), .int .i64 (rowAt xs 1), .int .i64 (rowAt xs 2), .int .i64 (rowAt xs 3)] 48)
  have s2 : Boxed ((((w1.alloc (.cells #[.int .i64 xs.length, .int .i64 (rowAt xs 0), .int .i64 (rowAt xs 1), .int .i64 (rowAt xs 2), .int .i64 (rowAt xs 3)] 48)).alloc (.cells #[.int .i64 0] 45)).alloc (.cells #[.int .i64 0] 45)).alloc (.cells #[.int .i64 xs.length, .int .i64 (rowAt xs 0), .int .i64 (rowAt xs 1), .int .i64 (rowAt xs 2), .int .i64 (rowAt xs 3)] 48)) (w1.heap.size + 1 + 1) 45 (.int .i64 0) := by have h := (Boxed.new ((w1.alloc (.cells #[.int .i64 xs.length, .int .i64 (rowAt xs 0), .int .i64 (rowAt xs 1), .int .i64 (rowAt xs 2), .int .i64 (rowAt xs 3)] 48)).alloc (.cells #[.int .i64 0] 45)) 45 (.int .i64 0)).alloc (.cells #[.int .i64 xs.length, .int .i64 (rowAt xs 0), .int .i64 (rowAt xs 1), .int .i64 (rowAt xs 2), .int .i64 (rowAt xs 3)] 48); simpa using h
  have i1 := RelAt.new (((w1.alloc (.cells #[.int .i64 xs.length, .int .i64 (rowAt xs 0), .int .i64 (rowAt xs 1), .int .i64 (rowAt xs 2), .int .i64 (rowAt xs 3)] 48)).alloc (.cells #[.int .i64 0] 45)).alloc (.cells #[.int .i64 0] 45)) xs
  have B0 := hb.trans ((below_four w1 (.cells #[.int .i64 xs.length, .int .i64 (rowAt xs 0), .int .i64 (rowAt xs 1), .int .i64 (rowAt xs 2), .int .i64 (rowAt xs 3)] 48) (.cells #[.int .i64 0] 45) (.cells #[.int .i64 0] 45) (.cells #[.int .i64 xs.length, .int .i64 (rowAt xs 0), .int .i64 (rowAt xs 1), .int .i64 (rowAt xs 2), .int .i64 (rowAt xs 3)] 48)).mono hb.size)
  have sz : w1.heap.size + 1 + 1 + 1 + 1 = (((((w1.alloc (.cells #[.int .i64 xs.length, .int .i64 (rowAt xs 0), .int .i64 (rowAt xs 1), .int .i64 (rowAt xs 2), .int .i64 (rowAt xs 3)] 48)).alloc (.cells #[.int .i64 0] 45)).alloc (.cells #[.int .i64 0] 45)).alloc (.cells #[.int .i64 xs.length, .int .i64 (rowAt xs 0), .int .i64 (rowAt xs 1), .int .i64 (rowAt xs 2), .int .i64 (rowAt xs 3)] 48))).heap.size := by simp
  have hw1 := hb.size
  simp only [World.size_alloc] at i1
  obtain ⟨W0, hW0⟩ : ∃ W0, ((((w1.alloc (.cells #[.int .i64 xs.length, .int .i64 (rowAt xs 0), .int .i64 (rowAt xs 1), .int .i64 (rowAt xs 2), .int .i64 (rowAt xs 3)] 48)).alloc (.cells #[.int .i64 0] 45)).alloc (.cells #[.int .i64 0] 45)).alloc (.cells #[.int .i64 xs.length, .int .i64 (rowAt xs 0), .int .i64 (rowAt xs 1), .int .i64 (rowAt xs 2), .int .i64 (rowAt xs 3)] 48)) = W0 := ⟨_, rfl⟩
  rw [hW0] at s1 s2 i1 B0 sz ⊢
  clear hW0 hb
  refine wpIn_rangeFunc_ownF (w0 := W0) rfl (by omega) (gf := 79) (lb := #[.pointer (some ⟨w1.heap.size + 1 + 1 + 1, 0, none⟩)]) rfl trivial (enters_of Try.func79 (by kernel_rfl) rfl)
    (pairs_stops 5 (by omega) (w1.heap.size + 1 + 1 + 1) xs h1 h4 W0 i1) KeepB.t (KeepB.b (by omega)) (Below.refl _ _) (fun _ => rfl)
    (fun pre W => (Boxed W (w1.heap.size + 1) 45 (.int .i64 (endsS xs.length pre)) ∧ Boxed W (w1.heap.size + 1 + 1) 45 (.int .i64 (endsT xs.length pre)) ∧ RelAt W (w1.heap.size + 1 + 1 + 1) xs) ∧ Below w.heap.size w W)
    (fun _ _ _ => False)
    (OwnFrom.and (Own.from (fun s A B row hs hg hr => ⟨boxed_own _ _ (fun pre => .int .i64 (endsS xs.length pre)) s A B row hs.1 hg hr, boxed_own _ _ (fun pre => .int .i64 (endsT xs.length pre)) s A B row hs.2.1 hg hr, relAt_own _ (fun _ => xs) s A B row hs.2.2 hg hr⟩) _) (ownFrom_below (Nat.le_refl _) (by omega)))
    (fun _ _ _ _ _ hs _ _ => hs)
    ⟨⟨s1, s2, i1⟩, B0⟩
    (fun x => { tmps := #[.slice ao xs.length ca, undef, .int .i64 0, .int .i64 0, .bool false, .pointer (some ⟨w1.heap.size, 0, none⟩), .bool true, .pointer (some ⟨w1.heap.size + 1, 0, none⟩), .pointer (some ⟨w1.heap.size + 1 + 1, 0, none⟩), .int .i64 (x.1.val : Int), .int .i64 (x.2.val : Int), .tuple #[relOf xs, .bool true], .slice ao xs.length ca, .tuple #[relOf xs, .bool true], relOf xs, .bool true, .bool true, .bool false, relOf xs, .func (.func 79) #[] #[.pointer (some ⟨w1.heap.size + 1 + 1 + 1, 0, none⟩)], .int .i64 (x.1.val : Int), .int .i64 (x.2.val : Int), undef, undef, undef, undef, undef, undef, undef, undef], defers := [] }) ?assign ?body ?done ?stop
  case assign =>
    intro l x W K hK
    gi_wp2
    exact hK
  case body =>
    rintro l pre x W ⟨⟨ha, hz, hi⟩, hB⟩ hlen
    have p0 := ha.cell
    have p1 := hz.cell
    have f0 := ha.frozen
    have f1 := hz.frozen
    have hmo : Try.prog.follows .mixedOrders = true := by kernel_rfl
    have hx1 : x.1.val < 4 := by have := x.1.isLt; omega
    have hx2 : x.2.val < 4 := by have := x.2.isLt; omega
    gi_wp2
    gi_region_with_o (refine ⟨trivial, ?_⟩; gi_at_call 55; refine (CallsIn.inRound l (callsIn_wide.2 (with_any _ _ (by omega) _))).mono ?_; rintro e w2 ⟨rfl, rfl⟩)
    all_goals
      gi_wp2
      have E := ends_post W (w1.heap.size + 1) (w1.heap.size + 1 + 1) (w1.heap.size + 1 + 1 + 1) 45 w.heap.size (bits .or .i64 (endsS xs.length pre) (pt x.1.val)) (bits .or .i64 (endsT xs.length pre) (pt x.2.val)) (by omega) (by omega) (by omega) (by omega) (by omega) ha hz hi
      exact ⟨E.1, E.2.1, ⟨by rw [endsS_snoc]; exact E.2.2.1, by rw [endsT_snoc]; exact E.2.2.2.1, E.2.2.2.2.1⟩, hB.trans E.2.2.2.2.2⟩
  case done =>
    rintro D ys W hD rfl ⟨⟨ha, hz, hi⟩, hB⟩ hK
    have p0 := ha.cell
    have p1 := hz.cell
    have hmo : Try.prog.follows .mixedOrders = true := by kernel_rfl
    gi_wp2
    gi_quiet (fail)
    all_goals
      gi_wp2
      have hK5 : (W.drewN nq).heap[D]? = some (.deferred (some [])) := hK
      refine ⟨by simp, .inl ⟨_, _, rfl, run_takeDeferred hK5, ?_⟩⟩
      exact ⟨.tuple #[.int .i64 (startsOf xs), .int .i64 (targetsOf xs), .bool true], by simp [results, Try.results20, go_sem, startsOf, targetsOf], rfl, (below_drewN' hB nq).trans (belowK_b (w := w) (Nat.le_refl _) (W.drewN nq) D _ _ (by omega) hK5 rfl rfl)⟩
  case stop =>
    rintro D c pre W _ _ h _
    exact h.elim

theorem implRelEnds_any (ao : Option Addr) (ca : Nat) (xs : List Int) (w : World) (hl : xs.length ≤ 1048576) (hx : Rd w ao xs) :
    Calls Try.prog 20 #[.slice ao xs.length ca] w fun e w' => e = .returned (.tuple #[.int .i64 (ifN (relIn xs) (startsOf xs)), .int .i64 (ifN (relIn xs) (targetsOf xs)), .bool (relIn xs)]) ∧ Below w.heap.size w w' := by
  cases hp : relIn xs with
  | false => exact implRelEnds_no ao ca xs w hl hp hx
  | true => exact callsIn_wide.1 (implRelEnds_in ao ca xs w hp hx)
end Go.Proofs.Ytpbkgdohfnjjpaa
