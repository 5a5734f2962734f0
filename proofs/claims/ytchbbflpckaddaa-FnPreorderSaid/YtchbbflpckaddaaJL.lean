/-
  EquClasses, of the program and of the model.
-/
import Derived.Test.YtchbbflpckaddaaJA
import Derived.Deep.OwnRows
import Derived.LaidEqlPtr
import Derived.Test.YtchbbflpckaddaaAD
import Derived.Test.YtchbbflpckaddaaJD
import Derived.StillTailTactics
namespace Go.Proofs.Ytchbbflpckaddaa
open Go.RowKit

theorem Try.info113 : (Try.prog.info? 113).map (fun i => (i.zero, i.size, i.bytes)) = some (some (.pointer none), 1, 8) := by kernel_rfl

/-- where a point is linked to -/
def lkP (B : Nat) (ps : List Nat) (i : Nat) : Option Addr := if lk ps i = i then none else some ⟨B + 1 + lk ps i, 0, none⟩
theorem lkP_none {B : Nat} {ps : List Nat} {i : Nat} (h : lk ps i = i) : lkP B ps i = none := if_pos h
theorem lkP_some {B : Nat} {ps : List Nat} {i : Nat} (h : ¬ lk ps i = i) : lkP B ps i = some ⟨B + 1 + lk ps i, 0, none⟩ := if_neg h
/-- n linked points: their pointers in block B, the points behind it -/
structure LinkW (w : World) (B n : Nat) (ps : List Nat) : Prop where
  row : ∀ i, i < n → w.cell? ⟨B, i, none⟩ = some (.pointer (some ⟨B + 1 + i, 0, none⟩))
  node : ∀ i, i < n → w.heap[B + 1 + i]? = some (.cells #[.int .i64 i, .pointer (lkP B ps i)] 117 (0, 0))
theorem LinkW.num {w : World} {B n : Nat} {ps : List Nat} (h : LinkW w B n ps) (i : Nat) (hi : i < n) : w.cell? ⟨B + 1 + i, 0, none⟩ = some (.int .i64 i) := by
  have := h.node i hi
  simp [World.cell?, this]
theorem LinkW.less {w : World} {B n : Nat} {ps : List Nat} (h : LinkW w B n ps) (i : Nat) (hi : i < n) : w.cell? ⟨B + 1 + i, 1, none⟩ = some (.pointer (lkP B ps i)) := by
  have := h.node i hi
  simp [World.cell?, this]
theorem LinkW.free {w : World} {B n : Nat} {ps : List Nat} (h : LinkW w B n ps) (i : Nat) (hi : i < n) (j : Nat) : w.frozen? ⟨B + 1 + i, j, none⟩ = false := by
  have := h.node i hi
  simp [World.frozen?, this]
theorem LinkW.lt {w : World} {B n : Nat} {ps : List Nat} (h : LinkW w B n ps) (i : Nat) (hi : i < n) : B + 1 + i < w.heap.size := (Array.getElem?_eq_some_iff.1 (h.node i hi)).1
theorem LinkW.keep {w w' : World} {B n : Nat} {ps : List Nat} (h : LinkW w B n ps) (hk : ∀ k, B ≤ k → k ≤ B + n → w'.heap[k]? = w.heap[k]?) : LinkW w' B n ps :=
  ⟨fun i hi => (World.cell?_of_block (hk B (Nat.le_refl _) (by omega))).trans (h.row i hi), fun i hi => (hk _ (by omega) (by omega)).trans (h.node i hi)⟩
theorem LinkW.below {w w' : World} {B n C : Nat} {ps : List Nat} (h : LinkW w B n ps) (hb : Below C w w') (hC : B + 1 + n ≤ C) : LinkW w' B n ps :=
  h.keep fun k _ hk => hb.block k (by omega)
theorem LinkW.drewN {w : World} {B n : Nat} {ps : List Nat} (h : LinkW w B n ps) (m : Nat) : LinkW (w.drewN m) B n ps := ⟨h.row, h.node⟩
theorem LinkW.dn {w w' : World} {B n : Nat} {ps : List Nat} (h : LinkW w B n ps) (hd : Dn w w') : LinkW w' B n ps := by
  obtain ⟨q, rfl⟩ := hd
  exact h.drewN q

/-- the number of the block that a pointer leads to -/
def blkOf : Value → Nat
  | .pointer (some a) => a.block
  | _ => 0

theorem least_any {B n : Nat} {ps : List Nat} (hF : Fo ps) (h4 : n ≤ 4) (i : Nat) (hi : i < n) (w : World) (h : LinkW w B n ps) :
    Calls Try.prog 131 #[.pointer (some ⟨B + 1 + i, 0, none⟩)] w fun e w' => e = .returned (.pointer (some ⟨B + 1 + rt ps i, 0, none⟩)) ∧ w = w' := by
  have H := Lib.hid (And.intro hF h)
  clear hF h
  go_enter Try.func131, Try.ntmps131
  go_wp2
  go_loopw [0] (fun p wr => ∃ j : Nat, j < n ∧ p = .pointer (some ⟨B + 1 + j, 0, none⟩) ∧ rt ps j = rt ps i ∧ w = wr)
    (fun p _ => blkOf p)
  case atStart => exact ⟨i, hi, rfl, rfl, rfl⟩
  case round =>
    obtain ⟨j, hj, rfl, hr, rfl⟩ := hrel
    have HR := Lib.hid hr
    clear hr
    have c1 := H.out.2.less j hj
    by_cases e : lk ps j = j
    · rw [lkP_none e] at c1
      have HE := Lib.hid e
      clear e
      go_wp2
      go_ret
      exact ⟨by rw [← HR.out, H.out.1.top j (by omega) HE.out]; rfl, rfl⟩
    · rw [lkP_some e] at c1
      have HE := Lib.hid e
      clear e
      go_wp2
      go_roundw
      case rel => exact ⟨lk ps j, by have := H.out.1.le j (by omega); omega, rfl, by rw [H.out.1.up j (by omega)]; exact HR.out, by trivial⟩
      case measure =>
        have := H.out.1.le j (by omega)
        have := HE.out
        simp [blkOf]
        omega

/-- what join writes -/
def joinW (w : World) (B : Nat) (ps : List Nat) (x y : Nat) : World :=
  if rt ps x < rt ps y then w.setCell ⟨B + 1 + rt ps y, 1, none⟩ (.pointer (some ⟨B + 1 + rt ps x, 0, none⟩))
  else if rt ps y < rt ps x then w.setCell ⟨B + 1 + rt ps x, 1, none⟩ (.pointer (some ⟨B + 1 + rt ps y, 0, none⟩)) else w

set_option maxHeartbeats 1000000 in
theorem join_any {B n : Nat} {ps : List Nat} (hF : Fo ps) (h4 : n ≤ 4) (x y : Nat) (hx : x < n) (hy : y < n) (w : World) (h : LinkW w B n ps) :
    Calls Try.prog 130 #[.pointer (some ⟨B + 1 + x, 0, none⟩), .pointer (some ⟨B + 1 + y, 0, none⟩)] w fun e w' => e = .returned (.tuple #[]) ∧ ∃ m, w' = joinW (w.drewN m) B ps x y := by
  have hrx : rt ps x < n := by have := hF.rle x (by omega); omega
  have hry : rt ps y < n := by have := hF.rle y (by omega); omega
  have L1 := Lib.hid (least_any hF h4 x hx w h)
  have L2 := Lib.hid (least_any hF h4 y hy w h)
  have cx0 := h.num _ hrx
  have cx1 := h.less _ hrx
  have fx := h.free _ hrx 1
  have cy0 := h.num _ hry
  have cy1 := h.less _ hry
  have fy := h.free _ hry 1
  have hj : ∀ m, joinW (w.drewN m) B ps x y = joinW (w.drewN m) B ps x y := fun _ => rfl
  unfold joinW
  clear hj h hF
  obtain ⟨a, ha⟩ : ∃ a, rt ps x = a := ⟨_, rfl⟩
  obtain ⟨c, hc⟩ : ∃ c, rt ps y = c := ⟨_, rfl⟩
  rw [ha] at L1 cx0 cx1 fx hrx ⊢
  rw [hc] at L2 cy0 cy1 fy hry ⊢
  clear ha hc
  go_enter Try.func130, Try.ntmps130
  go_wp2_with fail
  refine L1.out.mono ?_
  rintro e w' ⟨rfl, rfl⟩
  go_wp2_with fail
  refine L2.out.mono ?_
  rintro e w' ⟨rfl, rfl⟩
  clear L1 L2
  rcases Nat.lt_trichotomy a c with hlt | rfl | hlt
  · have h1 : ((a : Nat) : Int) < (c : Int) := by omega
    go_wp2
    go_quiet (fail)
    go_wp2
    go_end0
    exact ⟨rfl, _, rfl⟩
  · go_wp2
    go_quiet (fail)
    go_wp2
    go_quiet (fail)
    go_wp2
    go_end0
    exact ⟨rfl, _, rfl⟩
  · have h1 : ¬ ((a : Nat) : Int) < (c : Int) := by omega
    have h2 : ((c : Nat) : Int) < (a : Int) := by omega
    go_wp2
    go_quiet (fail)
    go_wp2
    go_quiet (fail)
    go_wp2
    go_end0
    exact ⟨rfl, _, rfl⟩

theorem joinW_block (w : World) (B n : Nat) {ps : List Nat} (hF : Fo ps) (h4 : n ≤ 4) (x y : Nat) (hx : x < n) (hy : y < n) (k : Nat) (hk : k ≤ B ∨ B + n < k) : (joinW w B ps x y).heap[k]? = w.heap[k]? := by
  have hrx : rt ps x < n := by have := hF.rle x (by omega); omega
  have hry : rt ps y < n := by have := hF.rle y (by omega); omega
  unfold joinW
  split
  · exact Below.heap_setCell w ⟨B + 1 + rt ps y, 1, none⟩ _ k (by show k ≠ B + 1 + rt ps y; omega)
  · split
    · exact Below.heap_setCell w ⟨B + 1 + rt ps x, 1, none⟩ _ k (by show k ≠ B + 1 + rt ps x; omega)
    · rfl
theorem joinW_size (w : World) (B : Nat) (ps : List Nat) (x y : Nat) : (joinW w B ps x y).heap.size = w.heap.size := by
  unfold joinW
  split
  · simp
  · split
    · simp
    · rfl
theorem joinW_below (w w0 : World) (B C : Nat) (ps : List Nat) (x y : Nat) (hC : C ≤ B + 1) (hb : Below C w0 w) : Below C w0 (joinW w B ps x y) := by
  unfold joinW
  split
  · exact hb.setCell (p := ⟨B + 1 + rt ps y, 1, none⟩) (by show C ≤ B + 1 + rt ps y; omega) _
  · split
    · exact hb.setCell (p := ⟨B + 1 + rt ps x, 1, none⟩) (by show C ≤ B + 1 + rt ps x; omega) _
    · exact hb
theorem joinW_others (w : World) (B : Nat) (ps : List Nat) (x y : Nat) : KeepsOthers w (joinW w B ps x y) := by
  unfold joinW
  split
  · exact KeepsOthers.setCell _ _ _
  · split
    · exact KeepsOthers.setCell _ _ _
    · exact ⟨Nat.le_refl _, fun _ _ h _ => h⟩

theorem lkP_link {B : Nat} {ps : List Nat} (k v i : Nat) (hl : k < ps.length) (hkv : v ≠ k) : lkP B (ps.set k v) i = if i = k then some ⟨B + 1 + v, 0, none⟩ else lkP B ps i := by
  unfold lkP
  rw [lk_set ps k v i hl]
  by_cases e : i = k
  · rw [if_pos e, if_pos e, if_neg (by omega)]
  · rw [if_neg e, if_neg e]
theorem link_set {w : World} {B n : Nat} {ps : List Nat} (h : LinkW w B n ps) (k v : Nat) (hk : k < n) (hl : k < ps.length) (hkv : v ≠ k) : LinkW (w.setCell ⟨B + 1 + k, 1, none⟩ (.pointer (some ⟨B + 1 + v, 0, none⟩))) B n (ps.set k v) := by
  refine ⟨fun i hi => (World.cell?_of_block (Below.heap_setCell w ⟨B + 1 + k, 1, none⟩ _ B (by show B ≠ B + 1 + k; omega))).trans (h.row i hi), fun i hi => ?_⟩
  rw [lkP_link k v i hl hkv]
  by_cases e : i = k
  · subst e
    rw [if_pos rfl, heap_setCell_same w (B + 1 + i) 1 _ _ _ (h.node i hi)]
    rfl
  · rw [if_neg e]
    exact (Below.heap_setCell w ⟨B + 1 + k, 1, none⟩ _ (B + 1 + i) (by show B + 1 + i ≠ B + 1 + k; omega)).trans (h.node i hi)
theorem LinkW.join {w : World} {B n : Nat} {ps : List Nat} (h : LinkW w B n ps) (hF : Fo ps) (h4 : n ≤ 4) (x y : Nat) (hx : x < n) (hy : y < n) : LinkW (joinW w B ps x y) B n (linkL ps x y) := by
  have hrx : rt ps x < n := by have := hF.rle x (by omega); omega
  have hry : rt ps y < n := by have := hF.rle y (by omega); omega
  have hl := hF.len
  unfold joinW linkL
  split
  · exact link_set h _ _ hry (by omega) (by omega)
  · split
    · exact link_set h _ _ hrx (by omega) (by omega)
    · exact h

/-- the first k pointers -/
def ptrsTo (B n k : Nat) : List Value := (List.range k).map (fun j => Value.pointer (some ⟨B + 1 + j, 0, none⟩)) ++ List.replicate (n - k) (Value.pointer none)
theorem ptrsTo_step (B n k : Nat) (h : k < n) : (ptrsTo B n k).set k (.pointer (some ⟨B + 1 + k, 0, none⟩)) = ptrsTo B n (k + 1) := by
  unfold ptrsTo
  obtain ⟨m, hm⟩ : ∃ m, n - k = m + 1 := ⟨n - k - 1, by omega⟩
  have hm2 : n - (k + 1) = m := by omega
  rw [hm, hm2, List.set_append_right _ _ (by simp), show k - (List.map (fun j => Value.pointer (some ⟨B + 1 + j, 0, none⟩)) (List.range k)).length = 0 by simp, List.replicate_succ, List.set_cons_zero, List.range_succ]
  simp
theorem ptrsTo_all (B n i : Nat) (h : i < n) : (ptrsTo B n n)[i]? = some (.pointer (some ⟨B + 1 + i, 0, none⟩)) := by
  unfold ptrsTo
  simp [h]
theorem fo0_lk (i : Nat) (h : i < 4) : lk fo0 i = i := (show ∀ k : Fin 4, lk fo0 k.val = k.val by decide +kernel) ⟨i, h⟩

set_option maxHeartbeats 1000000 in
theorem unlinked_any (n : Nat) (h4 : n ≤ 4) (w : World) :
    Calls Try.prog 129 #[.int .i64 n] w fun e w' => e = .returned (.slice (some ⟨w.heap.size, 0, none⟩) n n) ∧ LinkW w' w.heap.size n fo0 ∧ w'.heap.size = w.heap.size + 1 + n ∧ Below w.heap.size w w' := by
  obtain ⟨i0, hi, hz0, hz1, hz2⟩ := info_parts Try.info113
  have hmk := run_make_row (P := Try.prog) 105 113 i0 (.pointer none) Try.underlying105 hi hz0 hz1 rfl .i64 .i64 n (by rw [hz2]; omega) (by omega)
  have hown : (w.alloc (.cells (madeCells #[.pointer none] n) 113)).ownsRow w.heap.size 113 1 (.slice (some ⟨w.heap.size, 0, none⟩) n n) n (madeCells #[.pointer none] n).toList :=
    World.ownsRow_lit w _ n (Nat.le_refl _) (by unfold maxLen; omega) (by simp [size_madeCells])
  have hml : (madeCells #[Value.pointer none] n).toList = List.replicate n (.pointer none) := by
    have := toList_madeCells_one (.pointer none) n
    simpa using this
  rw [hml] at hown
  have hs1 : (w.alloc (.cells (madeCells #[.pointer none] n) 113)).heap.size = w.heap.size + 1 := by simp
  have hB : Below w.heap.size w (w.alloc (.cells (madeCells #[.pointer none] n) 113)) := below_one _ _
  go_enter Try.func129, Try.ntmps129
  go_wp2
  go_loopw [9, 4] (fun i _ wr => ∃ k : Nat, k ≤ n ∧ i = .int .i64 k ∧ wr.ownsRow w.heap.size 113 1 (.slice (some ⟨w.heap.size, 0, none⟩) n n) n (ptrsTo w.heap.size n k) ∧
      (∀ j, j < k → wr.heap[w.heap.size + 1 + j]? = some (.cells #[.int .i64 j, .pointer none] 117 (0, 0))) ∧ wr.heap.size = w.heap.size + 1 + k ∧ Below w.heap.size w wr)
    (fun i _ _ => n - (intOf i).toNat)
  case atStart => exact ⟨0, Nat.zero_le _, rfl, by simpa [ptrsTo] using hown, fun j hj => absurd hj (Nat.not_lt_zero _), hs1, hB⟩
  case round =>
    clear hown hs1 hB
    obtain ⟨k, hk, rfl, ho, hN, hs, hB⟩ := hrel
    have HN := Lib.hid hN
    have HS := Lib.hid hs
    clear hN hs
    by_cases hlt : k < n
    · have ho2 := ho.alloc (.cells #[.int .i64 k, .pointer none] 117)
      have hc2 := ho2.cellAt k (by omega)
      have hf2 := ho2.frozenAt k
      obtain ⟨u, hu⟩ : ∃ u, (ptrsTo w.heap.size n k)[k]? = some u := ⟨_, List.getElem?_eq_getElem (by simp [ptrsTo]; omega)⟩
      rw [hu] at hc2
      have HO := Lib.hid (And.intro ho hB)
      clear hu ho hB ho2
      go_wp2
      go_roundw
      case rel =>
        obtain ⟨ho, hB⟩ := HO.out
        have hs := HS.out
        have hst := ((ho.alloc (.cells #[.int .i64 k, .pointer none] 117)).stored k (.pointer (some ⟨wr.heap.size, 0, none⟩))).1
        have hp := ptrsTo_step w.heap.size n k hlt
        rw [← hs] at hp
        rw [hp] at hst
        refine ⟨k + 1, by omega, by go_num, hst, fun j hj => ?_, by simp; omega, (hB.alloc hB.size _).setCell (p := ⟨w.heap.size, k, none⟩) (Nat.le_refl _) _⟩
        rw [Below.heap_setCell _ ⟨w.heap.size, k, none⟩ _ _ (by show w.heap.size + 1 + j ≠ w.heap.size; omega)]
        by_cases e : j = k
        · subst e
          rw [← hs]
          exact heap_alloc_new wr _
        · rw [Below.heap_alloc wr _ _ (by omega)]
          exact HN.out j (by omega)
      case measure => simp [intOf]; omega
    · obtain rfl : k = n := by omega
      go_wp2
      go_ret
      refine ⟨rfl, ⟨fun i hi => ?_, fun i hi => ?_⟩, HS.out, hB⟩
      · rw [ho.cellAt i (by omega)]
        exact ptrsTo_all _ _ i hi
      · rw [lkP_none (fo0_lk i (by omega))]
        exact HN.out i hi
end Go.Proofs.Ytchbbflpckaddaa

namespace Go.Proofs.Ytchbbflpckaddaa
open Go.RowKit

theorem Try.info117 : (Try.prog.info? 117).map (fun i => (i.zero.isSome, i.size, i.bytes)) = some (true, 2, 16) := by kernel_rfl
/-- pointers to linked points compared -/
theorem ptr_same (a : Addr) (w : World) : (binOp .eql 113 (.pointer (some a)) (.pointer (some a))).run Try.prog w = .ok (.bool true) w := by
  obtain ⟨j, hj, _⟩ := Option.map_eq_some_iff.1 Try.info117
  exact run_eql_ptr_same w a Try.underlying113 hj
theorem ptr_other {B n : Nat} {ps : List Nat} {w : World} (h : LinkW w B n ps) (i j : Nat) (hi : i < n) (hj : j < n) (hne : i ≠ j) :
    (binOp .eql 113 (.pointer (some ⟨B + 1 + i, 0, none⟩)) (.pointer (some ⟨B + 1 + j, 0, none⟩))).run Try.prog w = .ok (.bool false) w := by
  obtain ⟨k, hk, hs⟩ := Option.map_eq_some_iff.1 Try.info117
  simp only [Prod.mk.injEq] at hs
  exact run_eql_ptr_other w Try.underlying113 hk (by rw [hs.2.1]; decide) (by intro e; injection e with e1; omega) (h.node i hi) (h.node j hj)

theorem testAcc_full (n : Nat) (f : Nat → Nat → Bool) : testAcc n f (n * n) = testR n f := rfl

end Go.Proofs.Ytchbbflpckaddaa

namespace Go.Proofs.Ytchbbflpckaddaa
open Go.RowKit Go.Shelf
attribute [local go_sem] Oper.semAt_some

theorem LinkW.drew {w : World} {B n : Nat} {ps : List Nat} (h : LinkW w B n ps) : LinkW w.drew B n ps := ⟨h.row, h.node⟩
theorem linkW_ownFrom {β : Type} {B n C : Nat} (f : β → List Nat) (h1 : 1 ≤ n) (hC : B + 1 + n ≤ C) : OwnFrom C (fun (s : β) W => LinkW W B n (f s)) := by
  intro s W W' row hs hg hr
  have hlt := hs.lt (n - 1) (by omega)
  refine hs.keep fun k hk1 hk2 => hg.block k (by omega) ?_
  intro e
  have := (hr k e.symm).1
  omega


set_option maxRecDepth 100000 in
set_option maxHeartbeats 8000000 in
theorem linkedBy_in (xs : List Int) (w : World) (h1 : 1 ≤ xs.length) (h4 : xs.length ≤ 4) :
    CallsIn Fence.wide 6 Try.prog 108 #[relOf xs] w fun e w' => e = .returned (.slice (some ⟨w.heap.size + 1, 0, none⟩) xs.length xs.length) ∧ LinkW w' (w.heap.size + 1) xs.length (linkAcc (pairsOf xs)) ∧ w.heap.size + 2 + xs.length ≤ w'.heap.size ∧ Below w.heap.size w w' := by
  refine callsIn_of_wp_marks Try.func108 rfl trivial ?_ rfl
  simp only [Try.ntmps108, List.size_toArray, List.length_cons, List.length_nil, Nat.reduceAdd, Nat.reduceSub, Array.replicate_succ, Array.replicate_zero, List.push_toArray, List.append_toArray, List.nil_append, List.cons_append]
  have x1 := RelAt.new w xs
  have p0 := x1.cell0
  gi_wp2_with fail
  refine ⟨trivial, ?_⟩
  refine (callsIn_wide.2 (unlinked_any xs.length h4 _)).mono ?_
  rintro e w1 ⟨rfl, hL, hs, hb⟩
  simp only [World.size_alloc] at hL hs
  have hs2 : w.heap.size + 2 + xs.length ≤ w1.heap.size := by omega
  clear hs
  have x2 := (x1.below hb x1.lt).alloc (.cells #[.slice (some ⟨w.heap.size + 1, 0, none⟩) xs.length xs.length] 105)
  have B1 : Below w.heap.size w w1 := (below_one _ _).trans (hb.mono (by simp))
  have q0 := x2.cell0
  have q1 := x2.cell1
  have q2 := x2.cell2
  have q3 := x2.cell3
  have q4 := x2.cell4
  clear hb x1 p0
  gi_wp2_with fail
  refine ⟨trivial, ?_⟩
  refine (callsIn_wide.2 (pairs_any xs _)).mono ?_
  rintro e w3 ⟨rfl, rfl⟩
  clear q0 q1 q2 q3 q4 x2
  gi_wp2
  have a1 := (hL.below (below_one w1 (.cells #[.slice (some ⟨w.heap.size + 1, 0, none⟩) xs.length xs.length] 105)) (by omega)).below (below_one (w1.alloc (.cells #[.slice (some ⟨w.heap.size + 1, 0, none⟩) xs.length xs.length] 105)) (.cells #[.int .i64 xs.length, .int .i64 (rowAt xs 0), .int .i64 (rowAt xs 1), .int .i64 (rowAt xs 2), .int .i64 (rowAt xs 3)] 43)) (by simp; omega)
  have b1 := (Boxed.new w1 105 (.slice (some ⟨w.heap.size + 1, 0, none⟩) xs.length xs.length)).alloc (.cells #[.int .i64 xs.length, .int .i64 (rowAt xs 0), .int .i64 (rowAt xs 1), .int .i64 (rowAt xs 2), .int .i64 (rowAt xs 3)] 43)
  have i1 := RelAt.new (w1.alloc (.cells #[.slice (some ⟨w.heap.size + 1, 0, none⟩) xs.length xs.length] 105)) xs
  have B0 := (B1.alloc (by omega) (.cells #[.slice (some ⟨w.heap.size + 1, 0, none⟩) xs.length xs.length] 105)).alloc (by simp; omega) (.cells #[.int .i64 xs.length, .int .i64 (rowAt xs 0), .int .i64 (rowAt xs 1), .int .i64 (rowAt xs 2), .int .i64 (rowAt xs 3)] 43)
  have sz : w1.heap.size + 1 + 1 = ((w1.alloc (.cells #[.slice (some ⟨w.heap.size + 1, 0, none⟩) xs.length xs.length] 105)).alloc (.cells #[.int .i64 xs.length, .int .i64 (rowAt xs 0), .int .i64 (rowAt xs 1), .int .i64 (rowAt xs 2), .int .i64 (rowAt xs 3)] 43)).heap.size := by simp
  simp only [World.size_alloc] at i1
  obtain ⟨W0, hW0⟩ : ∃ W0, (w1.alloc (.cells #[.slice (some ⟨w.heap.size + 1, 0, none⟩) xs.length xs.length] 105)).alloc (.cells #[.int .i64 xs.length, .int .i64 (rowAt xs 0), .int .i64 (rowAt xs 1), .int .i64 (rowAt xs 2), .int .i64 (rowAt xs 3)] 43) = W0 := ⟨_, rfl⟩
  rw [hW0] at a1 b1 i1 B0 sz ⊢
  clear hW0 hL B1
  refine wpIn_rangeFunc_ownF (w0 := W0) rfl (by omega) (gf := 117) (lb := #[.pointer (some ⟨w1.heap.size + 1, 0, none⟩)]) rfl trivial (enters_of Try.func117 (by kernel_rfl) rfl)
    (pairs_stops 5 (by omega) (w1.heap.size + 1) xs h1 h4 W0 i1) KeepB.t (KeepB.b (by omega)) (Below.refl _ _) (fun _ => rfl)
    (fun pre W => (LinkW W (w.heap.size + 1) xs.length (linkAcc pre) ∧ (Boxed W w1.heap.size 105 (.slice (some ⟨w.heap.size + 1, 0, none⟩) xs.length xs.length) ∧ RelAt W (w1.heap.size + 1) xs)) ∧ Below w.heap.size w W)
    (fun _ _ _ => False)
    (OwnFrom.and (OwnFrom.and (linkW_ownFrom linkAcc h1 (by omega)) (Own.from (fun s A B row hs hg hr => ⟨boxed_own _ _ (fun _ => .slice (some ⟨w.heap.size + 1, 0, none⟩) xs.length xs.length) s A B row hs.1 hg hr, relAt_own _ (fun _ => xs) s A B row hs.2 hg hr⟩) _)) (ownFrom_below (Nat.le_refl _) (by omega)))
    (fun _ _ _ _ _ hs _ _ => hs)
    ⟨⟨a1, b1, i1⟩, B0⟩
    (fun x => { tmps := #[relOf xs, .pointer (some ⟨w.heap.size, 0, none⟩), .slice none 0 0, .pointer (some ⟨w1.heap.size, 0, none⟩), .int .i64 (x.1.val : Int), .int .i64 (x.2.val : Int), .pointer (some ⟨w.heap.size, 0, none⟩), .int .i64 xs.length, .slice (some ⟨w.heap.size + 1, 0, none⟩) xs.length xs.length, relOf xs, .func (.func 117) #[] #[.pointer (some ⟨w1.heap.size + 1, 0, none⟩)], .int .i64 (x.1.val : Int), .int .i64 (x.2.val : Int), undef, undef, undef, undef, undef, undef, undef, undef, undef, undef], defers := [] }) ?assign ?body ?done ?stop
  case assign =>
    intro l x W K hK
    gi_wp2
    exact hK
  case body =>
    rintro l pre x W ⟨⟨hl, hbx, hi⟩, hB⟩ hlen
    have hF := Fo.acc h4 pre
    have hx1 := x.1.isLt
    have hx2 := x.2.isLt
    have c1 := hl.row x.1.val hx1
    have c2 := hl.row x.2.val hx2
    have pz := hbx.cell
    have hj1 : ((x.1.val : Nat) : Int) < (xs.length : Int) := by omega
    have hj2 : ((x.2.val : Nat) : Int) < (xs.length : Int) := by omega
    have hmo : Try.prog.follows .mixedOrders = true := by kernel_rfl
    have HJ := Lib.hid (join_any hF h4 x.1.val x.2.val hx1 hx2 W.drew hl.drew)
    have HL := Lib.hid (And.intro hl (And.intro hbx (And.intro hi (And.intro hB hF))))
    clear hl hbx hi hB hF
    gi_wp2
    refine wpIn_region_loads_then 8 (by assumption) (by kernel_rfl) (fun _ => trivial) wide_round_calls rfl ?_
    simp only [List.take_succ_cons, List.take_zero, List.drop_succ_cons, List.drop_zero]
    repeat still_step
    refine wpStill_nil ?_
    gi_wp2_with fail
    refine ⟨trivial, ?_⟩
    refine (CallsIn.inRound l (callsIn_wide.2 HJ.out)).mono ?_
    rintro e w2 ⟨rfl, m, rfl⟩
    clear c1 c2 pz
    gi_wp2
    obtain ⟨hl, hbx, hi, hB, hF⟩ := HL.out
    have hblk := fun k hk => (joinW_block (W.drewN (1 + m)) (w.heap.size + 1) xs.length hF h4 x.1.val x.2.val hx1 hx2 k hk)
    refine ⟨KeepsOthers.trans (⟨Nat.le_refl _, fun _ _ h _ => h⟩ : KeepsOthers W (W.drewN (1 + m))) (joinW_others _ _ _ _ _), hblk (w1.heap.size + 1) (by omega), ⟨?_, (hblk w1.heap.size (by omega)).trans hbx, (hblk (w1.heap.size + 1) (by omega)).trans hi⟩, joinW_below _ _ _ _ _ _ _ (by omega) (below_drewN hB (1 + m))⟩
    rw [linkAcc_snoc]
    exact (hl.drewN (1 + m)).join hF h4 x.1.val x.2.val hx1 hx2
  case done =>
    rintro D ys W hD rfl ⟨⟨hl, hbx, hi⟩, hB⟩ hK
    have pz := hbx.cell
    gi_wp2
    refine ⟨by simp, .inl ⟨_, _, rfl, run_takeDeferred hK, ?_⟩⟩
    have hlt := hi.lt
    exact ⟨.slice (some ⟨w.heap.size + 1, 0, none⟩) xs.length xs.length, by simp [results, Try.results108, go_sem], rfl, hl.keep (fun k _ hk => World.putObj_heap_other (by omega)), by simp; omega, hB.trans (belowK_b (w := w) (Nat.le_refl _) W D _ _ (by omega) hK rfl rfl)⟩
  case stop =>
    rintro D c pre W _ _ h _
    exact h.elim
/-- the forest of a relation's pairs -/
def linkS (xs : List Int) : List Nat := linkAcc (pairsOf xs)
theorem linkS_fo {n : Nat} {xs : List Int} (h : Rl n xs) : Fo (linkS xs) := Fo.acc (by rw [h.len]; exact h.four) _
theorem linkedBy_any {n : Nat} {xs : List Int} (h : Rl n xs) (w : World) :
    Calls Try.prog 108 #[relOf xs] w fun e w' => e = .returned (.slice (some ⟨w.heap.size + 1, 0, none⟩) n n) ∧ LinkW w' (w.heap.size + 1) n (linkS xs) ∧ w.heap.size + 2 + n ≤ w'.heap.size ∧ Below w.heap.size w w' := by
  obtain rfl := h.len
  exact callsIn_wide.1 (linkedBy_in xs w h.one h.four)
end Go.Proofs.Ytchbbflpckaddaa

namespace Go.Proofs.Ytchbbflpckaddaa
open Go.RowKit

/-- how many least points are less than k -/
def cm (ps : List Nat) : Nat → Nat
  | 0 => 0
  | k + 1 => cm ps k + if rt ps k = k then 1 else 0
theorem cm_le (ps : List Nat) : ∀ k, cm ps k ≤ k
  | 0 => Nat.le_refl _
  | k + 1 => by
    have := cm_le ps k
    show cm ps k + (if rt ps k = k then 1 else 0) ≤ k + 1
    split <;> omega
theorem cm_yes {ps : List Nat} {k : Nat} (h : rt ps k = k) : cm ps (k + 1) = cm ps k + 1 := by
  show cm ps k + (if rt ps k = k then 1 else 0) = _
  rw [if_pos h]
theorem cm_no {ps : List Nat} {k : Nat} (h : ¬ rt ps k = k) : cm ps (k + 1) = cm ps k := by
  show cm ps k + (if rt ps k = k then 1 else 0) = _
  rw [if_neg h, Nat.add_zero]
/-- the numbers of the classes of the first k points -/
def numTo (n : Nat) (ps : List Nat) (k : Nat) : List Int := (List.range n).map fun i => if i < k then ((cm ps (rt ps i) : Nat) : Int) else 0
def numL (n : Nat) (ps : List Nat) : List Int := numTo n ps n
theorem numTo_len (n : Nat) (ps : List Nat) (k : Nat) : (numTo n ps k).length = n := by simp [numTo]
theorem numTo_get (n : Nat) (ps : List Nat) (k i : Nat) (h : i < n) : (numTo n ps k)[i]? = some (if i < k then ((cm ps (rt ps i) : Nat) : Int) else 0) := by simp [numTo, h]
theorem numTo_zero (n : Nat) (ps : List Nat) : numTo n ps 0 = List.replicate n 0 := by
  apply List.ext_getElem?
  intro i
  by_cases h : i < n
  · rw [numTo_get n ps 0 i h, if_neg (by omega), List.getElem?_replicate, if_pos h]
  · rw [List.getElem?_eq_none (by rw [numTo_len]; omega), List.getElem?_eq_none (by simp; omega)]
theorem numTo_step (n : Nat) (ps : List Nat) (k : Nat) : (numTo n ps k).set k ((cm ps (rt ps k) : Nat) : Int) = numTo n ps (k + 1) := by
  apply List.ext_getElem?
  intro i
  by_cases h : i < n
  · rw [List.getElem?_set, numTo_get n ps k i h, numTo_get n ps (k + 1) i h, numTo_len]
    by_cases e : k = i
    · subst e
      rw [if_pos rfl, if_pos h, if_pos (by omega)]
    · rw [if_neg e]
      by_cases h2 : i < k
      · rw [if_pos h2, if_pos (by omega)]
      · rw [if_neg h2, if_neg (by omega)]
  · rw [List.getElem?_eq_none (by rw [List.length_set, numTo_len]; omega), List.getElem?_eq_none (by rw [numTo_len]; omega)]

set_option maxHeartbeats 4000000 in
theorem numbers_any {B n : Nat} {ps : List Nat} (hF : Fo ps) (h4 : n ≤ 4) (w : World) (h : LinkW w B n ps) (hB0 : B + 1 + n ≤ w.heap.size) :
    Calls Try.prog 109 #[.slice (some ⟨B, 0, none⟩) n n] w fun e w' => e = .returned (.tuple #[.slice (some ⟨w.heap.size, 0, none⟩) n n, .int .i64 (cm ps n : Nat)]) ∧
      w'.ownsRow w.heap.size 3 1 (.slice (some ⟨w.heap.size, 0, none⟩) n n) n ((numL n ps).map (Value.int .i64)) ∧ Below w.heap.size w w' := by
  obtain ⟨i0, hi, hz0, hz1, hz2⟩ := info_parts Try.info3
  have hL := fun (i : Nat) (hi : i < n) (wr : World) (hb : Below w.heap.size w wr) => least_any hF h4 i hi wr (h.below hb hB0)
  have hR := fun (i : Nat) (hi : i < n) (wr : World) (hb : Below w.heap.size w wr) => (h.below hb hB0).row i hi
  have hN := fun (i : Nat) (hi : i < n) (wr : World) (hb : Below w.heap.size w wr) => (h.below hb hB0).num i hi
  have hE := fun (i j : Nat) (hi : i < n) (hj : j < n) (wr : World) (hb : Below w.heap.size w wr) (hne : i ≠ j) => ptr_other (h.below hb hB0) i j hi hj hne
  have H := Lib.hid (And.intro hF (And.intro hL (And.intro hR (And.intro hN hE))))
  clear hL hR hN hE h hF
  go_enter Try.func109, Try.ntmps109
  go_wp2_with (at_make; refine wpList_make_full _ rfl _ _ 23 rfl w.heap.size 3 i0 (.int .i64 0) 1 Try.underlying23 hi hz0 hz1 _ _ _ _ n rfl rfl rfl rfl ?c1 ?c2 ?c3 ?_)
  case c1 => rw [hz2]; omega
  case c2 => unfold maxLen; omega
  case c3 => exact Nat.le_refl _
  intro w1 hown hgrow
  have hB : Below w.heap.size w w1 := (Below.refl _ _).grown hgrow (Nat.le_refl _) (by simp)
  rw [toList_madeCells_one] at hown
  have hown0 : w1.ownsRow w.heap.size 3 1 (.slice (some ⟨w.heap.size, 0, none⟩) n n) n ((numTo n ps 0).map (Value.int .i64)) := by
    rw [numTo_zero]
    simpa using hown
  clear hgrow hown
  go_wp2
  go_loopw [14, 5, 6, 7, 8] (fun i c _ _ _ wr => ∃ k : Nat, k ≤ n ∧ i = .int .i64 k ∧ c = .int .i64 (cm ps k : Nat) ∧ wr.ownsRow w.heap.size 3 1 (.slice (some ⟨w.heap.size, 0, none⟩) n n) n ((numTo n ps k).map (Value.int .i64)) ∧ Below w.heap.size w wr)
    (fun i _ _ _ _ _ => n - (intOf i).toNat)
  case atStart => exact ⟨0, Nat.zero_le _, rfl, rfl, hown0, hB⟩
  case round =>
    clear hown0 hB
    obtain ⟨k, hk, rfl, rfl, ho, hB⟩ := hrel
    by_cases hlt : k < n
    · have c1 := H.out.2.2.1 k hlt wr hB
      have q1 := H.out.2.1 k hlt wr hB
      have hrk : rt ps k ≤ k := H.out.1.rle k (by omega)
      have hc2 := ho.cellAt k (by omega)
      have hf2 := ho.frozenAt k
      obtain ⟨u, hu⟩ : ∃ u, ((numTo n ps k).map (Value.int .i64))[k]? = some u := ⟨_, List.getElem?_eq_getElem (by simp [numTo]; omega)⟩
      rw [hu] at hc2
      have hi1 : ((k : Nat) : Int) < (n : Int) := by omega
      have hle := cm_le ps k
      have hst := (ho.stored k (.int .i64 ((cm ps (rt ps k) : Nat) : Int))).1
      rw [← List.map_set, numTo_step] at hst
      by_cases e : rt ps k = k
      · have hcm := cm_yes e
        rw [e] at q1 hst
        have hE := ptr_same ⟨B + 1 + k, 0, none⟩ wr
        have HQ := Lib.hid (And.intro q1 (And.intro hcm hst))
        have HB := Lib.hid hB
        clear q1 hcm hst hB ho hu e hrk
        go_wp2_with fail
        refine HQ.out.1.mono ?_
        rintro e w' ⟨rfl, rfl⟩
        go_wp2
        go_roundw
        case rel => exact ⟨k + 1, by omega, by go_num, by rw [HQ.out.2.1]; go_num, HQ.out.2.2, HB.out.setCell (p := ⟨w.heap.size, k, none⟩) (Nat.le_refl _) _⟩
        case measure => simp [intOf]; omega
      · have hcm := cm_no e
        have hlr : rt ps k < k := by omega
        have hE := H.out.2.2.2.2 (rt ps k) k (by omega) hlt wr hB e
        have hnr := H.out.2.2.2.1 (rt ps k) (by omega) wr hB
        have hc3 := ho.cellAt (rt ps k) (by omega)
        have hrr : rt ps (rt ps k) = rt ps k := H.out.1.top _ (by omega) (H.out.1.fix k (by omega))
        rw [List.getElem?_map, numTo_get n ps k (rt ps k) (by omega), if_pos hlr, hrr] at hc3
        have hc3 : wr.cell? ⟨w.heap.size, rt ps k, none⟩ = some (.int .i64 ((cm ps (rt ps k) : Nat) : Int)) := hc3
        obtain ⟨r, hr⟩ : ∃ r, rt ps k = r := ⟨_, rfl⟩
        rw [hr] at q1 hst hE hnr hc3 hlr
        have hi2 : ((r : Nat) : Int) < (n : Int) := by omega
        have HQ := Lib.hid (And.intro q1 (And.intro hcm hst))
        have HB := Lib.hid hB
        clear q1 hcm hst hB ho hu e hrk hr hrr
        go_wp2_with fail
        refine HQ.out.1.mono ?_
        rintro e w' ⟨rfl, rfl⟩
        go_wp2
        go_roundw
        case rel => exact ⟨k + 1, by omega, by go_num, by rw [HQ.out.2.1], HQ.out.2.2, HB.out.setCell (p := ⟨w.heap.size, k, none⟩) (Nat.le_refl _) _⟩
        case measure => simp [intOf]; omega
    · obtain rfl : k = n := by omega
      go_wp2
      go_ret2
      exact ⟨rfl, ho, hB⟩
end Go.Proofs.Ytchbbflpckaddaa

namespace Go.Proofs.Ytchbbflpckaddaa
open Go.RowKit

/-- whether a point is the least one of its row -/
def firstB (x : Int) (k : Nat) : Bool := bits .and .i64 x (wrap64 (wrap64 (2 ^ k) - 1)) == 0
/-- the rows of the first k points that are least ones -/
def clsTo (xs : List Int) (k : Nat) : List Int := ((List.range k).filter fun i => firstB (rowAt xs i) i).map (rowAt xs)
def clsL (xs : List Int) : List Int := clsTo xs xs.length
theorem clsTo_yes {xs : List Int} {k : Nat} (h : firstB (rowAt xs k) k = true) : clsTo xs (k + 1) = clsTo xs k ++ [rowAt xs k] := by
  unfold clsTo
  rw [List.range_succ, List.filter_append, List.map_append]
  simp [h]
theorem clsTo_no {xs : List Int} {k : Nat} (h : firstB (rowAt xs k) k = false) : clsTo xs (k + 1) = clsTo xs k := by
  unfold clsTo
  rw [List.range_succ, List.filter_append, List.map_append]
  simp [h]
theorem snoc_int (xs : List Int) (x : Int) : xs.map (Value.int .i64) ++ [Value.int .i64 x] = (xs ++ [x]).map (Value.int .i64) := by simp
theorem clsTo_le (xs : List Int) (k : Nat) : (clsTo xs k).length ≤ k := by
  unfold clsTo
  rw [List.length_map]
  exact Nat.le_trans (List.length_filter_le _ _) (by simp)

set_option maxRecDepth 20000 in
set_option maxHeartbeats 1000000 in
theorem l4Classes_any (ao : Option Addr) (ca : Nat) (xs : List Int) (w : World) (h4 : xs.length ≤ 4) (hx : Rd w ao xs) :
    Calls Try.prog 112 #[.slice ao xs.length ca] w fun e w' => ∃ v, e = .returned v ∧
      w'.ownsRow w.heap.size 3 1 v (clsL xs).length ((clsL xs).map (Value.int .i64)) ∧ Below w.heap.size w w' := by
  obtain ⟨i0, hi, hz0, hz1, hz2⟩ := info_parts Try.info3
  go_enter Try.func112, Try.ntmps112
  go_wp2
  go_loopw [3, 4] (fun v i wr => ∃ k : Nat, k ≤ xs.length ∧ i = .int .i64 k ∧ wr.ownsRow w.heap.size 3 1 v (clsTo xs k).length ((clsTo xs k).map (Value.int .i64)) ∧ Below w.heap.size w wr)
    (fun _ i _ => xs.length - (intOf i).toNat)
  case atStart => exact ⟨0, Nat.zero_le _, rfl, row_lit0 w, below_one _ _⟩
  case round =>
    obtain ⟨k, hk, rfl, ho, hB⟩ := hrel
    by_cases hlt : k < xs.length
    · obtain ⟨b, off, x, hxk, rfl, hbl, hc1⟩ := (hx.below hB).get k hlt
      have hxe : rowAt xs k = x := by have := rowAt_get hlt; rw [hxk] at this; exact (Option.some.inj this).symm
      have hi1 : ((k : Nat) : Int) < (xs.length : Int) := by omega
      have hle := clsTo_le xs k
      have HXE := Lib.hid hxe
      clear hx hxk hxe
      go_wp2
      go_quiet (fail)
      have ho' := (Dn.drewN wr nq).row ho
      have hB' := below_drewN hB nq
      obtain ⟨wq, hwq⟩ : ∃ wq, wr.drewN nq = wq := ⟨_, rfl⟩
      rw [hwq] at ho' hB' ⊢
      have hcq : wq.cell? ⟨b, off + k, none⟩ = some (.int .i64 x) := by rw [← hwq]; exact hc1
      clear hc1 ho hB hwq hbl
      have hs : w.heap.size ≤ wq.heap.size := hB'.size
      cases hb : (bits .and .i64 x (wrap64 (wrap64 (2 ^ k) - 1)) == 0) with
      | true =>
        have hy := clsTo_yes (xs := xs) (k := k) (by rw [HXE.out]; exact hb)
        rw [HXE.out] at hy
        have HY := Lib.hid hy
        clear hy
        go_wp2_with (at_builtin; refine wpList_append_own _ rfl (.tmp 21) (.tmp 26) 23 rfl w.heap.size 3 i0 (.int .i64 0) 1 8 Try.underlying23 hi hz0 hz1 hz2 rfl (by decide) _ _ _ rfl (ho'.alloc _) ⟨wq.heap.size, 0, none⟩ 1 1 [_] rfl rfl (cell_one_new _ _ _) (by simp [Value.oneCell']) (by unfold maxLen; omega) (by omega) (by simp; omega) ?_)
        intro v' w2 hown' hgrow _
        have hb' := own_step' ho' hB' hs _ hgrow
        rw [snoc_int, ← HY.out] at hown'
        clear ho' hB' hs hgrow hcq
        go_wp2
        go_roundw
        case rel => exact ⟨k + 1, by omega, by go_num, by rw [show (clsTo xs (k + 1)).length = (clsTo xs k).length + 1 by rw [HY.out]; simp]; exact hown', hb'⟩
        case measure => simp [intOf]; omega
      | false =>
        have hy := clsTo_no (xs := xs) (k := k) (by rw [HXE.out]; exact hb)
        have HY := Lib.hid hy
        clear hy
        go_wp2
        go_roundw
        case rel => exact ⟨k + 1, by omega, by go_num, by rw [HY.out]; exact ho', hB'⟩
        case measure => simp [intOf]; omega
    · go_wp2
      go_ret
      obtain rfl : k = xs.length := by omega
      exact ⟨_, rfl, ho, hB⟩

/-! all equivalences -/
def equ1 : List (List Int) := [[1]]
def equ2 : List (List Int) := [[1, 2], [3, 3]]
def equ3 : List (List Int) := [[1, 2, 4], [3, 3, 4], [5, 2, 5], [1, 6, 6], [7, 7, 7]]
def equ4 : List (List Int) := [[1, 2, 4, 8], [3, 3, 4, 8], [5, 2, 5, 8], [9, 2, 4, 9], [1, 6, 6, 8], [1, 10, 4, 10], [1, 2, 12, 12], [3, 3, 12, 12], [5, 10, 5, 10], [9, 6, 6, 9],
  [7, 7, 7, 8], [11, 11, 4, 11], [13, 2, 13, 13], [1, 14, 14, 14], [15, 15, 15, 15]]
theorem enum1 : ∀ a : Fin 2, hasB (a.val : Int) 0 = true → [(a.val : Int)] ∈ equ1 := by decide +kernel
theorem enum2 : ∀ a : Fin 4, hasB (a.val : Int) 0 = true → ∀ b : Fin 4, hasB (b.val : Int) 1 = true → hasB (b.val : Int) 0 = hasB (a.val : Int) 1 → [(a.val : Int), (b.val : Int)] ∈ equ2 := by decide +kernel
theorem enum3 : ∀ a : Fin 8, hasB (a.val : Int) 0 = true → ∀ b : Fin 8, hasB (b.val : Int) 1 = true → hasB (b.val : Int) 0 = hasB (a.val : Int) 1 → ∀ c : Fin 8, hasB (c.val : Int) 2 = true → hasB (c.val : Int) 0 = hasB (a.val : Int) 2 → hasB (c.val : Int) 1 = hasB (b.val : Int) 2 →
    kindT [(a.val : Int), (b.val : Int), (c.val : Int)] = true → [(a.val : Int), (b.val : Int), (c.val : Int)] ∈ equ3 := by decide +kernel
theorem enum4 : ∀ a : Fin 16, hasB (a.val : Int) 0 = true → ∀ b : Fin 16, hasB (b.val : Int) 1 = true → hasB (b.val : Int) 0 = hasB (a.val : Int) 1 → ∀ c : Fin 16, hasB (c.val : Int) 2 = true → hasB (c.val : Int) 0 = hasB (a.val : Int) 2 → hasB (c.val : Int) 1 = hasB (b.val : Int) 2 →
    ∀ d : Fin 16, hasB (d.val : Int) 3 = true → hasB (d.val : Int) 0 = hasB (a.val : Int) 3 → hasB (d.val : Int) 1 = hasB (b.val : Int) 3 → hasB (d.val : Int) 2 = hasB (c.val : Int) 3 →
    kindT [(a.val : Int), (b.val : Int), (c.val : Int), (d.val : Int)] = true → [(a.val : Int), (b.val : Int), (c.val : Int), (d.val : Int)] ∈ equ4 := by decide +kernel
def equs : List (List Int) := equ1 ++ (equ2 ++ (equ3 ++ equ4))
theorem enum_all {n : Nat} {xs : List Int} (E : Eqv n xs) : xs ∈ equs := by
  have R := E.rl
  have hn := R.len
  have h1 := R.one
  have h4 := R.four
  have hT := (kindT_iff R).2 E.trans
  have hs : ∀ i j, i < n → j < n → hB xs i j = hB xs j i := fun i j hi hj => bool_iff ⟨E.symm i j hi hj, E.symm j i hj hi⟩
  have row : ∀ i, ∃ y : Nat, rowAt xs i = (y : Int) ∧ y < 2 ^ n := fun i => by
    obtain ⟨y, hy, hy2⟩ := R.row i
    exact ⟨y.val, hy, hy2⟩
  unfold equs
  rw [List.mem_append, List.mem_append, List.mem_append]
  rcases (by omega : n = 1 ∨ n = 2 ∨ n = 3 ∨ n = 4) with rfl | rfl | rfl | rfl
  · obtain ⟨x0, rfl⟩ : ∃ x0, xs = [x0] := by
      match xs, hn with
      | [x0], _ => exact ⟨x0, rfl⟩
    obtain ⟨a, ha, ha2⟩ := row 0
    have ha : x0 = (a : Int) := ha
    subst ha
    exact .inl (enum1 ⟨a, ha2⟩ (E.refl 0 (by decide)))
  · obtain ⟨x0, x1, rfl⟩ : ∃ x0 x1, xs = [x0, x1] := by
      match xs, hn with
      | [x0, x1], _ => exact ⟨x0, x1, rfl⟩
    obtain ⟨a, ha, ha2⟩ := row 0
    obtain ⟨b, hb, hb2⟩ := row 1
    have ha : x0 = (a : Int) := ha
    have hb : x1 = (b : Int) := hb
    subst ha hb
    exact .inr (.inl (enum2 ⟨a, ha2⟩ (E.refl 0 (by decide)) ⟨b, hb2⟩ (E.refl 1 (by decide)) (hs 1 0 (by decide) (by decide))))
  · obtain ⟨x0, x1, x2, rfl⟩ : ∃ x0 x1 x2, xs = [x0, x1, x2] := by
      match xs, hn with
      | [x0, x1, x2], _ => exact ⟨x0, x1, x2, rfl⟩
    obtain ⟨a, ha, ha2⟩ := row 0
    obtain ⟨b, hb, hb2⟩ := row 1
    obtain ⟨c, hc, hc2⟩ := row 2
    have ha : x0 = (a : Int) := ha
    have hb : x1 = (b : Int) := hb
    have hc : x2 = (c : Int) := hc
    subst ha hb hc
    exact .inr (.inr (.inl (enum3 ⟨a, ha2⟩ (E.refl 0 (by decide)) ⟨b, hb2⟩ (E.refl 1 (by decide)) (hs 1 0 (by decide) (by decide)) ⟨c, hc2⟩ (E.refl 2 (by decide)) (hs 2 0 (by decide) (by decide)) (hs 2 1 (by decide) (by decide)) hT)))
  · obtain ⟨x0, x1, x2, x3, rfl⟩ : ∃ x0 x1 x2 x3, xs = [x0, x1, x2, x3] := by
      match xs, hn with
      | [x0, x1, x2, x3], _ => exact ⟨x0, x1, x2, x3, rfl⟩
    obtain ⟨a, ha, ha2⟩ := row 0
    obtain ⟨b, hb, hb2⟩ := row 1
    obtain ⟨c, hc, hc2⟩ := row 2
    obtain ⟨d, hd, hd2⟩ := row 3
    have ha : x0 = (a : Int) := ha
    have hb : x1 = (b : Int) := hb
    have hc : x2 = (c : Int) := hc
    have hd : x3 = (d : Int) := hd
    subst ha hb hc hd
    exact .inr (.inr (.inr (enum4 ⟨a, ha2⟩ (E.refl 0 (by decide)) ⟨b, hb2⟩ (E.refl 1 (by decide)) (hs 1 0 (by decide) (by decide)) ⟨c, hc2⟩ (E.refl 2 (by decide)) (hs 2 0 (by decide) (by decide)) (hs 2 1 (by decide) (by decide))
      ⟨d, hd2⟩ (E.refl 3 (by decide)) (hs 3 0 (by decide) (by decide)) (hs 3 1 (by decide) (by decide)) (hs 3 2 (by decide) (by decide)) hT)))

/-- the program's classes: points put into the class of their number, one by one -/
def clAcc (ps : List Nat) (n k : Nat) : List Int := (List.range k).foldl (fun zs i => addPair zs (cm ps (rt ps i)) i) (List.replicate (cm ps n) 0)
theorem clAcc_succ (ps : List Nat) (n k : Nat) : clAcc ps n (k + 1) = addPair (clAcc ps n k) (cm ps (rt ps k)) k := by
  unfold clAcc
  rw [List.range_succ, List.foldl_append]
  rfl
theorem clAcc_len (ps : List Nat) (n : Nat) : ∀ k, (clAcc ps n k).length = cm ps n
  | 0 => by simp [clAcc]
  | k + 1 => by rw [clAcc_succ, addPair_len, clAcc_len ps n k]
theorem cls_facts : ∀ xs ∈ equs, clAcc (linkS xs) xs.length xs.length = clsL xs ∧ (∀ i : Fin xs.length, cm (linkS xs) (rt (linkS xs) i.val) < cm (linkS xs) xs.length) ∧
    1 ≤ (clsL xs).length ∧ (∀ k : Fin (clsL xs).length, ∀ i : Fin xs.length, hasB (rowAt (clsL xs) k.val) i.val = decide (cm (linkS xs) (rt (linkS xs) i.val) = k.val)) ∧ (∀ k : Fin (clsL xs).length, ∃ y : Fin 16, rowAt (clsL xs) k.val = (y.val : Int) ∧ y.val < 2 ^ xs.length) := by decide +kernel
end Go.Proofs.Ytchbbflpckaddaa

namespace Go.Proofs.Ytchbbflpckaddaa
open Go.RowKit

end Go.Proofs.Ytchbbflpckaddaa
