/-
  Points linked by pointers: what a world holds of them; contracts of unlinked, least and join.
-/
import Derived.Test.YtebkeebgjjmdbaaGreatDoorJA
import Derived.Deep.OwnRows
namespace Go.Proofs.YtebkeebgjjmdbaaGreatDoor
open Go.RowKit

theorem Tryz.info70 : (Tryz.prog.info? 70).map (fun i => (i.zero, i.size, i.bytes)) = some (some (.pointer none), 1, 8) := by kernel_rfl

/-- where a point is linked to -/
def lkP (B : Nat) (ps : List Nat) (i : Nat) : Option Addr := if lk ps i = i then none else some ⟨B + 1 + lk ps i, 0, none⟩
theorem lkP_none {B : Nat} {ps : List Nat} {i : Nat} (h : lk ps i = i) : lkP B ps i = none := if_pos h
theorem lkP_some {B : Nat} {ps : List Nat} {i : Nat} (h : ¬ lk ps i = i) : lkP B ps i = some ⟨B + 1 + lk ps i, 0, none⟩ := if_neg h
/-- n linked points: their pointers in block B, the points behind it -/
structure LinkW (w : World) (B n : Nat) (ps : List Nat) : Prop where
  row : ∀ i, i < n → w.cell? ⟨B, i, none⟩ = some (.pointer (some ⟨B + 1 + i, 0, none⟩))
  node : ∀ i, i < n → w.heap[B + 1 + i]? = some (.cells #[.int .i64 i, .pointer (lkP B ps i)] 74 (0, 0))
theorem LinkW.num {w : World} {B n : Nat} {ps : List Nat} (h : LinkW w B n ps) (i : Nat) (hi : i < n) : w.cell? ⟨B + 1 + i, 0, none⟩ = some (.int .i64 i) := by
  have := h.node i hi
  simp [World.cell?, this]
theorem LinkW.less {w : World} {B n : Nat} {ps : List Nat} (h : LinkW w B n ps) (i : Nat) (hi : i < n) : w.cell? ⟨B + 1 + i, 1, none⟩ = some (.pointer (lkP B ps i)) := by
  have := h.node i hi
  simp [World.cell?, this]
theorem LinkW.free {w : World} {B n : Nat} {ps : List Nat} (h : LinkW w B n ps) (i : Nat) (hi : i < n) (j : Nat) : w.frozen? ⟨B + 1 + i, j, none⟩ = false := by
  have := h.node i hi
  simp [World.frozen?, this]
theorem LinkW.lt {w : World} {B n : Nat} {ps : List Nat} (h : LinkW w B n ps) (i : Nat) (hi : i < n) : B + 1 + i < w.heap.size := (Array.getElem?_eq_some_iff.1 (h.node i hi)).1
theorem LinkW.keep {w w' : World} {B n : Nat} {ps : List Nat} (h : LinkW w B n ps) (hk : ∀ k, B ≤ k → k ≤ B + n → w'.heap[k]? = w.heap[k]?) : LinkW w' B n ps :=
  ⟨fun i hi => (World.cell?_of_block (hk B (Nat.le_refl _) (by omega))).trans (h.row i hi), fun i hi => (hk _ (by omega) (by omega)).trans (h.node i hi)⟩
theorem LinkW.below {w w' : World} {B n C : Nat} {ps : List Nat} (h : LinkW w B n ps) (hb : Below C w w') (hC : B + 1 + n ≤ C) : LinkW w' B n ps :=
  h.keep fun k _ hk => hb.block k (by omega)
theorem LinkW.drewN {w : World} {B n : Nat} {ps : List Nat} (h : LinkW w B n ps) (m : Nat) : LinkW (w.drewN m) B n ps := ⟨h.row, h.node⟩
theorem LinkW.dn {w w' : World} {B n : Nat} {ps : List Nat} (h : LinkW w B n ps) (hd : Dn w w') : LinkW w' B n ps := by
  obtain ⟨q, rfl⟩ := hd
  exact h.drewN q

/-- the number of the block that a pointer leads to -/
def blkOf : Value → Nat
  | .pointer (some a) => a.block
  | _ => 0

theorem least_any {B n : Nat} {ps : List Nat} (hF : Fo ps) (h4 : n ≤ 4) (i : Nat) (hi : i < n) (w : World) (h : LinkW w B n ps) :
    Calls Tryz.prog 41 #[.pointer (some ⟨B + 1 + i, 0, none⟩)] w fun e w' => e = .returned (.pointer (some ⟨B + 1 + rt ps i, 0, none⟩)) ∧ w = w' := by
  have H := Lib.hid (And.intro hF h)
  clear hF h
  go_enter Tryz.func41, Tryz.ntmps41
  go_wp2
  go_loopw [0] (fun p wr => ∃ j : Nat, j < n ∧ p = .pointer (some ⟨B + 1 + j, 0, none⟩) ∧ rt ps j = rt ps i ∧ w = wr)
    (fun p _ => blkOf p)
  case atStart => exact ⟨i, hi, rfl, rfl, rfl⟩
  case round =>
    obtain ⟨j, hj, rfl, hr, rfl⟩ := hrel
    have HR := Lib.hid hr
    clear hr
    have c1 := H.out.2.less j hj
    by_cases e : lk ps j = j
    · rw [lkP_none e] at c1
      have HE := Lib.hid e
      clear e
      go_wp2
      go_ret
      exact ⟨by rw [← HR.out, H.out.1.top j (by omega) HE.out]; rfl, rfl⟩
    · rw [lkP_some e] at c1
      have HE := Lib.hid e
      clear e
      go_wp2
      go_roundw
      case rel => exact ⟨lk ps j, by have := H.out.1.le j (by omega); omega, rfl, by rw [H.out.1.up j (by omega)]; exact HR.out, by trivial⟩
      case measure =>
        have := H.out.1.le j (by omega)
        have := HE.out
        simp [blkOf]
        omega

/-- what join writes -/
def joinW (w : World) (B : Nat) (ps : List Nat) (x y : Nat) : World :=
  if rt ps x < rt ps y then w.setCell ⟨B + 1 + rt ps y, 1, none⟩ (.pointer (some ⟨B + 1 + rt ps x, 0, none⟩))
  else if rt ps y < rt ps x then w.setCell ⟨B + 1 + rt ps x, 1, none⟩ (.pointer (some ⟨B + 1 + rt ps y, 0, none⟩)) else w

set_option maxHeartbeats 1000000 in
theorem join_any {B n : Nat} {ps : List Nat} (hF : Fo ps) (h4 : n ≤ 4) (x y : Nat) (hx : x < n) (hy : y < n) (w : World) (h : LinkW w B n ps) :
    Calls Tryz.prog 40 #[.pointer (some ⟨B + 1 + x, 0, none⟩), .pointer (some ⟨B + 1 + y, 0, none⟩)] w fun e w' => e = .returned (.tuple #[]) ∧ ∃ m, w' = joinW (w.drewN m) B ps x y := by
  have hrx : rt ps x < n := by have := hF.rle x (by omega); omega
  have hry : rt ps y < n := by have := hF.rle y (by omega); omega
  have L1 := Lib.hid (least_any hF h4 x hx w h)
  have L2 := Lib.hid (least_any hF h4 y hy w h)
  have cx0 := h.num _ hrx
  have cx1 := h.less _ hrx
  have fx := h.free _ hrx 1
  have cy0 := h.num _ hry
  have cy1 := h.less _ hry
  have fy := h.free _ hry 1
  have hj : ∀ m, joinW (w.drewN m) B ps x y = joinW (w.drewN m) B ps x y := fun _ => rfl
  unfold joinW
  clear hj h hF
  obtain ⟨a, ha⟩ : ∃ a, rt ps x = a := ⟨_, rfl⟩
  obtain ⟨c, hc⟩ : ∃ c, rt ps y = c := ⟨_, rfl⟩
  rw [ha] at L1 cx0 cx1 fx hrx ⊢
  rw [hc] at L2 cy0 cy1 fy hry ⊢
  clear ha hc
  go_enter Tryz.func40, Tryz.ntmps40
  go_wp2_with fail
  refine L1.out.mono ?_
  rintro e w' ⟨rfl, rfl⟩
  go_wp2_with fail
  refine L2.out.mono ?_
  rintro e w' ⟨rfl, rfl⟩
  clear L1 L2
  rcases Nat.lt_trichotomy a c with hlt | rfl | hlt
  · have h1 : ((a : Nat) : Int) < (c : Int) := by omega
    go_wp2
    go_quiet (fail)
    go_wp2
    go_end0
    exact ⟨rfl, _, rfl⟩
  · go_wp2
    go_quiet (fail)
    go_wp2
    go_quiet (fail)
    go_wp2
    go_end0
    exact ⟨rfl, _, rfl⟩
  · have h1 : ¬ ((a : Nat) : Int) < (c : Int) := by omega
    have h2 : ((c : Nat) : Int) < (a : Int) := by omega
    go_wp2
    go_quiet (fail)
    go_wp2
    go_quiet (fail)
    go_wp2
    go_end0
    exact ⟨rfl, _, rfl⟩

theorem joinW_block (w : World) (B n : Nat) {ps : List Nat} (hF : Fo ps) (h4 : n ≤ 4) (x y : Nat) (hx : x < n) (hy : y < n) (k : Nat) (hk : k ≤ B ∨ B + n < k) : (joinW w B ps x y).heap[k]? = w.heap[k]? := by
  have hrx : rt ps x < n := by have := hF.rle x (by omega); omega
  have hry : rt ps y < n := by have := hF.rle y (by omega); omega
  unfold joinW
  split
  · exact Below.heap_setCell w ⟨B + 1 + rt ps y, 1, none⟩ _ k (by show k ≠ B + 1 + rt ps y; omega)
  · split
    · exact Below.heap_setCell w ⟨B + 1 + rt ps x, 1, none⟩ _ k (by show k ≠ B + 1 + rt ps x; omega)
    · rfl
theorem joinW_size (w : World) (B : Nat) (ps : List Nat) (x y : Nat) : (joinW w B ps x y).heap.size = w.heap.size := by
  unfold joinW
  split
  · simp
  · split
    · simp
    · rfl
theorem joinW_below (w w0 : World) (B C : Nat) (ps : List Nat) (x y : Nat) (hC : C ≤ B + 1) (hb : Below C w0 w) : Below C w0 (joinW w B ps x y) := by
  unfold joinW
  split
  · exact hb.setCell (p := ⟨B + 1 + rt ps y, 1, none⟩) (by show C ≤ B + 1 + rt ps y; omega) _
  · split
    · exact hb.setCell (p := ⟨B + 1 + rt ps x, 1, none⟩) (by show C ≤ B + 1 + rt ps x; omega) _
    · exact hb
theorem joinW_others (w : World) (B : Nat) (ps : List Nat) (x y : Nat) : KeepsOthers w (joinW w B ps x y) := by
  unfold joinW
  split
  · exact KeepsOthers.setCell _ _ _
  · split
    · exact KeepsOthers.setCell _ _ _
    · exact ⟨Nat.le_refl _, fun _ _ h _ => h⟩

theorem lkP_link {B : Nat} {ps : List Nat} (k v i : Nat) (hl : k < ps.length) (hkv : v ≠ k) : lkP B (ps.set k v) i = if i = k then some ⟨B + 1 + v, 0, none⟩ else lkP B ps i := by
  unfold lkP
  rw [lk_set ps k v i hl]
  by_cases e : i = k
  · rw [if_pos e, if_pos e, if_neg (by omega)]
  · rw [if_neg e, if_neg e]
theorem link_set {w : World} {B n : Nat} {ps : List Nat} (h : LinkW w B n ps) (k v : Nat) (hk : k < n) (hl : k < ps.length) (hkv : v ≠ k) : LinkW (w.setCell ⟨B + 1 + k, 1, none⟩ (.pointer (some ⟨B + 1 + v, 0, none⟩))) B n (ps.set k v) := by
  refine ⟨fun i hi => (World.cell?_of_block (Below.heap_setCell w ⟨B + 1 + k, 1, none⟩ _ B (by show B ≠ B + 1 + k; omega))).trans (h.row i hi), fun i hi => ?_⟩
  rw [lkP_link k v i hl hkv]
  by_cases e : i = k
  · subst e
    rw [if_pos rfl, heap_setCell_same w (B + 1 + i) 1 _ _ _ (h.node i hi)]
    rfl
  · rw [if_neg e]
    exact (Below.heap_setCell w ⟨B + 1 + k, 1, none⟩ _ (B + 1 + i) (by show B + 1 + i ≠ B + 1 + k; omega)).trans (h.node i hi)
theorem LinkW.join {w : World} {B n : Nat} {ps : List Nat} (h : LinkW w B n ps) (hF : Fo ps) (h4 : n ≤ 4) (x y : Nat) (hx : x < n) (hy : y < n) : LinkW (joinW w B ps x y) B n (linkL ps x y) := by
  have hrx : rt ps x < n := by have := hF.rle x (by omega); omega
  have hry : rt ps y < n := by have := hF.rle y (by omega); omega
  have hl := hF.len
  unfold joinW linkL
  split
  · exact link_set h _ _ hry (by omega) (by omega)
  · split
    · exact link_set h _ _ hrx (by omega) (by omega)
    · exact h

/-- the first k pointers -/
def ptrsTo (B n k : Nat) : List Value := (List.range k).map (fun j => Value.pointer (some ⟨B + 1 + j, 0, none⟩)) ++ List.replicate (n - k) (Value.pointer none)
theorem ptrsTo_step (B n k : Nat) (h : k < n) : (ptrsTo B n k).set k (.pointer (some ⟨B + 1 + k, 0, none⟩)) = ptrsTo B n (k + 1) := by
  unfold ptrsTo
  obtain ⟨m, hm⟩ : ∃ m, n - k = m + 1 := ⟨n - k - 1, by omega⟩
  have hm2 : n - (k + 1) = m := by omega
  rw [hm, hm2, List.set_append_right _ _ (by simp), show k - (List.map (fun j => Value.pointer (some ⟨B + 1 + j, 0, none⟩)) (List.range k)).length = 0 by simp, List.replicate_succ, List.set_cons_zero, List.range_succ]
  simp
theorem ptrsTo_all (B n i : Nat) (h : i < n) : (ptrsTo B n n)[i]? = some (.pointer (some ⟨B + 1 + i, 0, none⟩)) := by
  unfold ptrsTo
  simp [h]
theorem fo0_lk (i : Nat) (h : i < 4) : lk fo0 i = i := (show ∀ k : Fin 4, lk fo0 k.val = k.val by decide +kernel) ⟨i, h⟩

set_option maxHeartbeats 1000000 in
theorem unlinked_any (n : Nat) (h4 : n ≤ 4) (w : World) :
    Calls Tryz.prog 38 #[.int .i64 n] w fun e w' => e = .returned (.slice (some ⟨w.heap.size, 0, none⟩) n n) ∧ LinkW w' w.heap.size n fo0 ∧ w'.heap.size = w.heap.size + 1 + n ∧ Below w.heap.size w w' := by
  obtain ⟨i0, hi, hz0, hz1, hz2⟩ := info_parts Tryz.info70
  have hmk := run_make_row (P := Tryz.prog) 42 70 i0 (.pointer none) Tryz.underlying42 hi hz0 hz1 rfl .i64 .i64 n (by rw [hz2]; omega) (by omega)
  have hown : (w.alloc (.cells (madeCells #[.pointer none] n) 70)).ownsRow w.heap.size 70 1 (.slice (some ⟨w.heap.size, 0, none⟩) n n) n (madeCells #[.pointer none] n).toList :=
    World.ownsRow_lit w _ n (Nat.le_refl _) (by unfold maxLen; omega) (by simp [size_madeCells])
  have hml : (madeCells #[Value.pointer none] n).toList = List.replicate n (.pointer none) := by
    have := toList_madeCells_one (.pointer none) n
    simpa using this
  rw [hml] at hown
  have hs1 : (w.alloc (.cells (madeCells #[.pointer none] n) 70)).heap.size = w.heap.size + 1 := by simp
  have hB : Below w.heap.size w (w.alloc (.cells (madeCells #[.pointer none] n) 70)) := below_one _ _
  go_enter Tryz.func38, Tryz.ntmps38
  go_wp2
  go_loopw [9, 4] (fun i _ wr => ∃ k : Nat, k ≤ n ∧ i = .int .i64 k ∧ wr.ownsRow w.heap.size 70 1 (.slice (some ⟨w.heap.size, 0, none⟩) n n) n (ptrsTo w.heap.size n k) ∧
      (∀ j, j < k → wr.heap[w.heap.size + 1 + j]? = some (.cells #[.int .i64 j, .pointer none] 74 (0, 0))) ∧ wr.heap.size = w.heap.size + 1 + k ∧ Below w.heap.size w wr)
    (fun i _ _ => n - (intOf i).toNat)
  case atStart => exact ⟨0, Nat.zero_le _, rfl, by simpa [ptrsTo] using hown, fun j hj => absurd hj (Nat.not_lt_zero _), hs1, hB⟩
  case round =>
    clear hown hs1 hB
    obtain ⟨k, hk, rfl, ho, hN, hs, hB⟩ := hrel
    have HN := Lib.hid hN
    have HS := Lib.hid hs
    clear hN hs
    by_cases hlt : k < n
    · have ho2 := ho.alloc (.cells #[.int .i64 k, .pointer none] 74)
      have hc2 := ho2.cellAt k (by omega)
      have hf2 := ho2.frozenAt k
      obtain ⟨u, hu⟩ : ∃ u, (ptrsTo w.heap.size n k)[k]? = some u := ⟨_, List.getElem?_eq_getElem (by simp [ptrsTo]; omega)⟩
      rw [hu] at hc2
      have HO := Lib.hid (And.intro ho hB)
      clear hu ho hB ho2
      go_wp2
      go_roundw
      case rel =>
        obtain ⟨ho, hB⟩ := HO.out
        have hs := HS.out
        have hst := ((ho.alloc (.cells #[.int .i64 k, .pointer none] 74)).stored k (.pointer (some ⟨wr.heap.size, 0, none⟩))).1
        have hp := ptrsTo_step w.heap.size n k hlt
        rw [← hs] at hp
        rw [hp] at hst
        refine ⟨k + 1, by omega, by go_num, hst, fun j hj => ?_, by simp; omega, (hB.alloc hB.size _).setCell (p := ⟨w.heap.size, k, none⟩) (Nat.le_refl _) _⟩
        rw [Below.heap_setCell _ ⟨w.heap.size, k, none⟩ _ _ (by show w.heap.size + 1 + j ≠ w.heap.size; omega)]
        by_cases e : j = k
        · subst e
          rw [← hs]
          exact heap_alloc_new wr _
        · rw [Below.heap_alloc wr _ _ (by omega)]
          exact HN.out j (by omega)
      case measure => simp [intOf]; omega
    · obtain rfl : k = n := by omega
      go_wp2
      go_ret
      refine ⟨rfl, ⟨fun i hi => ?_, fun i hi => ?_⟩, HS.out, hB⟩
      · rw [ho.cellAt i (by omega)]
        exact ptrsTo_all _ _ i hi
      · rw [lkP_none (fo0_lk i (by omega))]
        exact HN.out i hi
end Go.Proofs.YtebkeebgjjmdbaaGreatDoor
