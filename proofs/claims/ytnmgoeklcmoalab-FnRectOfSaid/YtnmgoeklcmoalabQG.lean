/-
  Blocks of stepped relations: the program's blocks and RectBlocks; for lists of at most 2^20 numbers.
-/
import Derived.Test.YtnmgoeklcmoalabQB
import Derived.Test.YtnmgoeklcmoalabQE
import Derived.Test.YtnmgoeklcmoalabJH
import Derived.Test.YtnmgoeklcmoalabEG
namespace Go.Proofs.Ytnmgoeklcmoalab
open Go.RowKit

/-! what is told so far -/
/-- whether a row is told: one of the first k rows, not empty, is equal to it -/
def toldB (xs : List Int) (k j : Nat) : Bool := (List.range k).any fun i => rowAt xs i != 0 && rowAt xs i == rowAt xs j
/-- whether the row k makes a block -/
def makesB (xs : List Int) (k : Nat) : Bool := rowAt xs k != 0 && !toldB xs k k
def blkTo (xs : List Int) : Nat → List (Int × Int)
  | 0 => []
  | k + 1 => if makesB xs k then blkTo xs k ++ [(rowAt (kerL xs) k, rowAt xs k)] else blkTo xs k
def blkL (xs : List Int) : List (Int × Int) := blkTo xs xs.length
theorem blk_len (xs : List Int) (k : Nat) : (blkTo xs k).length ≤ k := by
  induction k with
  | zero => exact Nat.le_refl _
  | succ k ih =>
    show (if makesB xs k then blkTo xs k ++ [(rowAt (kerL xs) k, rowAt xs k)] else blkTo xs k).length ≤ k + 1
    split
    · rw [List.length_append]
      simp
      exact ih
    · omega
theorem blk_yes {xs : List Int} {k : Nat} (h : makesB xs k = true) : blkTo xs (k + 1) = blkTo xs k ++ [(rowAt (kerL xs) k, rowAt xs k)] := by
  show (if makesB xs k then _ else _) = _
  rw [h]
  rfl
theorem blk_no {xs : List Int} {k : Nat} (h : makesB xs k = false) : blkTo xs (k + 1) = blkTo xs k := by
  show (if makesB xs k then _ else _) = _
  rw [h]
  rfl
theorem told_succ (xs : List Int) (k j : Nat) : toldB xs (k + 1) j = (toldB xs k j || (rowAt xs k != 0 && rowAt xs k == rowAt xs j)) := by
  unfold toldB
  rw [List.range_succ, List.any_append]
  simp
theorem told_eq {xs : List Int} {k i j : Nat} (h : rowAt xs i = rowAt xs j) : toldB xs k i = toldB xs k j := by
  unfold toldB
  rw [h]
theorem told_skip {xs : List Int} {k : Nat} (h : makesB xs k = false) (j : Nat) : toldB xs (k + 1) j = toldB xs k j := by
  rw [told_succ]
  unfold makesB at h
  cases h0 : (rowAt xs k != 0) with
  | false => rw [Bool.false_and, Bool.or_false]
  | true =>
    rw [h0, Bool.true_and, Bool.not_eq_false'] at h
    rw [Bool.true_and]
    cases h1 : (rowAt xs k == rowAt xs j) with
    | false => rw [Bool.or_false]
    | true =>
      rw [beq_iff_eq] at h1
      rw [← told_eq h1, h]
      rfl
theorem told_take {xs : List Int} {k : Nat} (h : makesB xs k = true) (j : Nat) : toldB xs (k + 1) j = (toldB xs k j || rowAt xs k == rowAt xs j) := by
  unfold makesB at h
  rw [Bool.and_eq_true] at h
  rw [told_succ, h.1, Bool.true_and]
/-- a set that has what is told -/
def Told (xs : List Int) (k : Nat) (t : Fin 16) : Prop := t.val < 2 ^ xs.length ∧ ∀ j, j < xs.length → hasB (t.val : Int) j = toldB xs k j
theorem told_zero (xs : List Int) (h4 : xs.length ≤ 4) : Told xs 0 0 := by
  refine ⟨Nat.two_pow_pos _, fun j hj => ?_⟩
  have := b_zero ⟨j, by omega⟩
  rw [show (((0 : Fin 16).val : Nat) : Int) = 0 from rfl, this]
  rfl
theorem told_or {xs : List Int} (R : Rl xs.length xs) {k : Nat} (hk : k < xs.length) (h : makesB xs k = true) {t z : Fin 16} (ht : Told xs k t) (hz : rowAt (kerL xs) k = (z.val : Int)) :
    ∃ v : Fin 16, bits .or .i64 (t.val : Int) (z.val : Int) = (v.val : Int) ∧ Told xs (k + 1) v := by
  obtain ⟨z', hz', hzl⟩ := (ker_rl R).row k
  rw [hz] at hz'
  obtain rfl : z = z' := Fin.ext (by omega)
  obtain ⟨v, hv, hvl⟩ := b_orlt ⟨xs.length, by have := R.four; omega⟩ t z ht.1 hzl
  refine ⟨v, hv, hvl, fun j hj => ?_⟩
  have hor := b_or t z ⟨j, by have := R.four; omega⟩
  rw [hv] at hor
  rw [hor, ht.2 j hj, told_take h]
  have hkr := hB_ker R k j hk hj
  unfold hB at hkr
  rw [hz] at hkr
  rw [hkr]
  rfl
/-- what the model takes for the block of the row k: equal rows from k on -/
def From (xs : List Int) (k d : Nat) (z : Fin 16) : Prop := z.val < 2 ^ xs.length ∧ ∀ j, j < xs.length → (hasB (z.val : Int) j = true ↔ k ≤ j ∧ j < d ∧ rowAt xs j = rowAt xs k)
theorem from_zero (xs : List Int) (h4 : xs.length ≤ 4) (k : Nat) : From xs k k 0 := by
  refine ⟨Nat.two_pow_pos _, fun j hj => ?_⟩
  have := b_zero ⟨j, by omega⟩
  rw [show (((0 : Fin 16).val : Nat) : Int) = 0 from rfl, this]
  exact ⟨fun e => (by cases e), fun ⟨_, _, _⟩ => (by omega)⟩
theorem from_no {xs : List Int} {k d : Nat} {z : Fin 16} (h : From xs k d z) (hne : rowAt xs d ≠ rowAt xs k) : From xs k (d + 1) z := by
  refine ⟨h.1, fun j hj => ?_⟩
  rw [h.2 j hj]
  constructor
  · rintro ⟨a, b, c⟩
    exact ⟨a, by omega, c⟩
  · rintro ⟨a, b, c⟩
    refine ⟨a, ?_, c⟩
    by_cases e : j = d
    · subst e
      exact absurd c hne
    · omega
theorem from_yes {xs : List Int} (h4 : xs.length ≤ 4) {k d : Nat} {z : Fin 16} (h : From xs k d z) (hkd : k ≤ d) (hd : d < xs.length) (heq : rowAt xs d = rowAt xs k) :
    ∃ v : Fin 16, bits .or .i64 (z.val : Int) (wrap64 (2 ^ d)) = (v.val : Int) ∧ From xs k (d + 1) v := by
  obtain ⟨q, hq, hql⟩ := b_ptlt ⟨xs.length, by omega⟩ ⟨d, hd⟩
  dsimp only at hq
  obtain ⟨v, hv, hvl⟩ := b_orlt ⟨xs.length, by omega⟩ z q h.1 hql
  refine ⟨v, ?_, hvl, fun j hj => ?_⟩
  · have := ptb_or z ⟨d, by omega⟩
    dsimp only at this
    rw [this, hq, hv]
  · have hor := b_or z q ⟨j, by omega⟩
    have hpt := b_pt ⟨d, by omega⟩ ⟨j, by omega⟩
    dsimp only at hor hpt
    rw [hv] at hor
    rw [hq] at hpt
    rw [hor, hpt, Bool.or_eq_true, h.2 j hj, decide_eq_true_iff]
    constructor
    · rintro (⟨a, b, c⟩ | e)
      · exact ⟨a, by omega, c⟩
      · subst e
        exact ⟨hkd, by omega, heq⟩
    · rintro ⟨a, b, c⟩
      by_cases e : j = d
      · exact .inr e
      · exact .inl ⟨a, by omega, c⟩
theorem from_end {xs : List Int} (R : Rl xs.length xs) {k : Nat} (hk : k < xs.length) (h : makesB xs k = true) {z : Fin 16} (hz : From xs k xs.length z) : rowAt (kerL xs) k = (z.val : Int) := by
  obtain ⟨y, hy, hyl⟩ := (ker_rl R).row k
  rw [hy]
  have := b_ext ⟨xs.length, by have := R.four; omega⟩ y z hyl hz.1 (fun j => by
    have hkr := hB_ker R k j.val hk j.isLt
    unfold hB at hkr
    rw [hy] at hkr
    rw [hkr, Bool.eq_iff_iff, hz.2 j.val j.isLt, decide_eq_true_iff]
    constructor
    · intro e
      refine ⟨?_, j.isLt, e.symm⟩
      by_cases hjk : k ≤ j.val
      · exact hjk
      · unfold makesB at h
        rw [Bool.and_eq_true, Bool.not_eq_true'] at h
        have ht : toldB xs k k = true := by
          unfold toldB
          rw [List.any_eq_true]
          refine ⟨j.val, List.mem_range.2 (by omega), ?_⟩
          rw [← e, h.1]
          simp
        rw [ht] at h
        cases h.2
    · rintro ⟨_, _, e⟩
      exact e.symm)
  rw [this]

/-- what tells that a list makes blocks, and how many -/
def blkB (xs : List Int) : Bool := relIn xs && stepB xs
def blkN (xs : List Int) : Nat := if blkB xs then (blkL xs).length else 0

set_option maxRecDepth 100000 in
set_option maxHeartbeats 8000000 in
theorem specBlocks_yes (ao : Option Addr) (ca : Nat) (xs : List Int) (w : World) (hl : xs.length ≤ 1048576) (hp : blkB xs = true) (hx : Rd w ao xs) :
    Calls Try.prog 18 #[.slice ao xs.length ca] w (Gave2 w (blkL xs).length (PI (blkL xs)) true) := by
  obtain ⟨i0, hi, hz0, hz1, hz2⟩ := info_parts Try.info223
  have h1 := specRectStepped_any ao ca xs (w.alloc (.cells #[] 23)) hl (hx.below (below_one _ _))
  have hp2 := hp
  unfold blkB at hp2
  rw [hp2] at h1
  rw [Bool.and_eq_true] at hp2
  have R := Rl.of hp2.1
  have h4 := R.four
  have HR := Lib.hid R
  have H1 := Lib.hid h1
  have HX := Lib.hid hx
  clear h1 hp hp2 hx R
  go_enter Try.func18, Try.ntmps18
  go_wp2_with fail
  refine H1.out.mono ?_
  rintro e w1 ⟨rfl, hb1⟩
  have hown0 : w1.ownsRow w.heap.size 23 1 (.slice (some ⟨w.heap.size, 0, none⟩) 0 0) 0 [] := own_same (World.ownsRow_lit w #[] 0 (Nat.le_refl _) (by unfold maxLen; omega) rfl) (fun q hq => by cases hq; exact hb1.block _ (by simp))
  have B1 : Below w.heap.size w w1 := (below_one w (.cells #[] 23)).trans (hb1.mono (by simp))
  have E0 : Own2 w1 w.heap.size w1.heap.size (.slice (some ⟨w.heap.size, 0, none⟩) 0 0) (blkTo xs 0).length (PI (blkTo xs 0)) (fun _ => 0) := Own2.empty hown0
  have T0 := Lib.hid (told_zero xs h4)
  clear hown0 hb1 H1
  unfold blkL
  go_wp2
  go_loopw [4, 5, 6, 7, 8] (fun v s i _ _ wr => ∃ (k : Nat) (gs : Nat → Nat) (t : Fin 16), k ≤ xs.length ∧ i = .int .i64 k ∧ s = .int .i64 (t.val : Int) ∧ Hid (Told xs k t) ∧ Own2 wr w.heap.size wr.heap.size v (blkTo xs k).length (PI (blkTo xs k)) gs ∧ Below w.heap.size w wr)
    (fun _ _ i _ _ _ => xs.length - (intOf i).toNat)
  case atStart => exact ⟨0, _, 0, Nat.zero_le _, rfl, rfl, T0, E0, B1⟩
  case round =>
    clear E0 B1 T0
    obtain ⟨k, gs, t, hk, rfl, rfl, HT, ho, hB⟩ := hrel
    obtain ⟨wo, rfl⟩ : ∃ wo : World, wo = wr := ⟨_, rfl⟩
    by_cases hlt : k < xs.length
    · have hx1 := HX.out.below hB
      obtain ⟨b, off, x, hxk, rfl, hbl, hc1⟩ := hx1.get k hlt
      have HXK := Lib.hid (rowA hxk)
      have hi1 : ((k : Nat) : Int) < (xs.length : Int) := by omega
      have hlen := blk_len xs k
      clear hxk
      by_cases e0 : x = 0
      · have hmk : makesB xs k = false := by unfold makesB; rw [← HXK.out, e0]; rfl
        have HST := Lib.hid (And.intro (blk_no hmk) (told_skip hmk))
        clear hmk HXK hx1
        subst e0
        go_wp2
        go_roundw
        case rel => exact ⟨k + 1, gs, t, by omega, by go_num, rfl, Lib.hid ⟨HT.out.1, fun j hj => by rw [HT.out.2 j hj, HST.out.2]⟩, by rw [HST.out.1]; exact ho, hB⟩
        case measure => simp [intOf]; omega
      · have he0 : (x == 0) = false := by simp [e0]
        have hbb := b_bit t ⟨k, by omega⟩
        have htk := HT.out.2 k hlt
        dsimp only at hbb
        rw [htk] at hbb
        cases hb : bitB (t.val : Int) k with
        | true =>
          rw [hb] at hbb
          have hmk : makesB xs k = false := by unfold makesB; rw [← hbb]; simp
          have HST := Lib.hid (And.intro (blk_no hmk) (told_skip hmk))
          have hb2 : (bits .and .i64 ((t.val : Int) / 2 ^ k) 1 == 1) = true := hb
          clear hmk HXK hx1 hbb htk hb
          go_wp2
          go_roundw
          case rel => exact ⟨k + 1, gs, t, by omega, by go_num, rfl, Lib.hid ⟨HT.out.1, fun j hj => by rw [HT.out.2 j hj, HST.out.2]⟩, by rw [HST.out.1]; exact ho, hB⟩
          case measure => simp [intOf]; omega
        | false =>
          rw [hb] at hbb
          have hmk : makesB xs k = true := by
            unfold makesB
            rw [← HXK.out, ← hbb]
            simp [e0]
          have HMK := Lib.hid hmk
          have HST := Lib.hid (blk_yes hmk)
          have hb2 : (bits .and .i64 ((t.val : Int) / 2 ^ k) 1 == 1) = false := hb
          have F0 := Lib.hid (from_zero xs h4 k)
          clear hmk hbb htk hb
          go_wp2
          clear hc1 he0 hb2
          go_loopw [7, 8] (fun s j w2 => ∃ (d : Nat) (z : Fin 16), k ≤ d ∧ d ≤ xs.length ∧ j = .int .i64 d ∧ s = .int .i64 (z.val : Int) ∧ Hid (From xs k d z) ∧ Dn wo w2)
            (fun _ j _ => xs.length - (intOf j).toNat)
          case atStart => exact ⟨k, 0, Nat.le_refl _, by omega, rfl, rfl, F0, Dn.refl _⟩
          case round =>
            clear F0
            obtain ⟨d, z, hkd, hdn, rfl, rfl, HF, hd⟩ := hrel
            have hx2 := hd.rd hx1
            obtain ⟨b1, off1, x1, hxk1, hbo1, hbl1, hc1⟩ := hx2.get k hlt
            simp only [Option.some.injEq, Addr.mk.injEq, and_true] at hbo1
            obtain ⟨rfl, rfl⟩ := hbo1
            obtain rfl : x1 = x := by rw [rowA hxk1, HXK.out]
            clear hxk1 hbl1
            by_cases hld : d < xs.length
            · obtain ⟨b2, off2, y, hyk, hbo2, hbl2, hc2⟩ := hx2.get d hld
              simp only [Option.some.injEq, Addr.mk.injEq, and_true] at hbo2
              obtain ⟨rfl, rfl⟩ := hbo2
              have HY := Lib.hid (rowA hyk)
              have hi2 : ((d : Nat) : Int) < (xs.length : Int) := by omega
              clear hyk hbl2
              by_cases e : y = x1
              · have hyx : rowAt xs d = rowAt xs k := by rw [← HY.out, ← HXK.out, e]
                obtain ⟨v, hv, hF2⟩ := from_yes h4 HF.out hkd hld hyx
                have HF2 := Lib.hid hF2
                clear hyx hF2 HY
                subst e
                go_wp2
                go_quiet (fail)
                go_wp2
                go_roundw
                case rel => exact ⟨d + 1, v, by omega, by omega, by go_num, rfl, HF2, hd.trans (Dn.drewN _ _)⟩
                case measure => simp [intOf]; omega
              · have hyx : (y == x1) = false := by simp [e]
                have HF2 := Lib.hid (from_no HF.out (by rw [← HY.out, ← HXK.out]; exact e))
                clear HY e
                go_wp2
                go_quiet (fail)
                go_wp2
                go_roundw
                case rel => exact ⟨d + 1, z, by omega, by omega, by go_num, rfl, HF2, hd.trans (Dn.drewN _ _)⟩
                case measure => simp [intOf]; omega
            · obtain rfl : d = xs.length := by omega
              have hz := from_end HR.out hlt HMK.out HF.out
              obtain ⟨v, hv, hT2⟩ := told_or HR.out hlt HMK.out HT.out hz
              have ho2 := (ho.dn hd).hi
              have hB2 := hB.trans (hd.below _)
              have hst := HST.out
              rw [hz, ← HXK.out] at hst
              have HST2 := Lib.hid hst
              have HT2 := Lib.hid hT2
              have h6 := cell_one_new (wr.alloc (.cells #[.int .i64 z.val, .int .i64 x1] 3)) (sl2 wr.heap.size) 23
              rw [World.size_alloc] at h6
              have H6 := Lib.hid h6
              clear hz hT2 ho hB hx1 hx2 hst HST HXK h6 hd
              go_wp2_with (at_builtin; refine wpList_append_own _ rfl (.tmp 55) (.tmp 62) 25 rfl w.heap.size 23 i0 (.slice none 0 0) 1 24 Try.underlying25 hi hz0 hz1 hz2 rfl (by decide) _ _ _ rfl ((ho2.row.alloc _).alloc _) ⟨wr.heap.size + 1, 0, none⟩ 1 1 [_] rfl rfl H6.out (by simp [Value.oneCell']) (by unfold maxLen; omega) (by omega) (by have := hB2.size; simp; omega) ?_)
              intro v' w6 hown' hgrow _
              have hB6 : Below w.heap.size w w6 := (hB2.trans ((below_two wr _ _).mono hB2.size)).grown hgrow (Nat.le_trans hB2.size (below_two wr _ _).size) (fun q hq => (ho2.row.lt q hq).1)
              have hpush := ho2.push hB2.size (z.val : Int) x1 hown' hgrow (r' := PI (blkTo xs k ++ [((z.val : Int), x1)])) (fun t ht => PI_old _ _ t ht) (PI_new _ _)
              have HO := Lib.hid (And.intro hpush hB6)
              clear hown' hgrow hpush hB6 ho2 hB2
              go_wp2
              go_roundw
              case rel => exact ⟨k + 1, _, v, by omega, by go_num, rfl, HT2, by rw [HST2.out, List.length_append]; exact HO.out.1, HO.out.2⟩
              case measure => simp [intOf]; omega
    · obtain rfl : k = xs.length := by omega
      go_wp2
      go_ret2
      exact ⟨_, gs, rfl, ho, hB⟩

theorem specRectBlocks_any (ao : Option Addr) (ca : Nat) (xs : List Int) (w : World) (hl : xs.length ≤ 1048576) (hx : Rd w ao xs) :
    Calls Try.prog 18 #[.slice ao xs.length ca] w (Gave2 w (blkN xs) (PI (blkL xs)) (blkB xs)) := by
  unfold blkN
  cases hp : blkB xs with
  | false =>
    have h1 := specRectStepped_any ao ca xs (w.alloc (.cells #[] 23)) hl (hx.below (below_one _ _))
    unfold blkB at hp
    rw [hp] at h1
    have H1 := Lib.hid h1
    clear h1 hp
    go_enter Try.func18, Try.ntmps18
    go_wp2_with fail
    refine H1.out.mono ?_
    rintro e w1 ⟨rfl, hb1⟩
    go_wp2
    go_ret2
    exact ⟨_, fun _ => 0, rfl, Own2.empty (own_same (World.ownsRow_lit w #[] 0 (Nat.le_refl _) (by unfold maxLen; omega) rfl) (fun q hq => by cases hq; exact hb1.block _ (by simp))), (below_one w (.cells #[] 23)).trans (hb1.mono (by simp))⟩
  | true => exact specBlocks_yes ao ca xs w hl hp hx
end Go.Proofs.Ytnmgoeklcmoalab

namespace Go.Proofs.Ytnmgoeklcmoalab
open Go.RowKit

theorem keep_rel {wr w6 : World} {b : Nat} {o : Obj} {v : Value} {xs : List Int} (h : RelAt wr b xs) (hg : ((wr.alloc o).drew).grownBy w6 v.ownBlock) (hne : v.ownBlock ≠ some b) : RelAt w6 b xs :=
  (hg.block b (by have := h.lt; simp; omega) (fun e => hne e.symm)).trans (h.alloc o)
theorem row_not_rel {w : World} {b lo n size : Nat} {v : Value} {xs : List Int} {us : List Value} (h : RelAt w b xs) (k : w.ownsRow lo 55 size v n us) : v.ownBlock ≠ some b := by
  intro e
  rcases k.2 with ⟨rfl, _⟩ | ⟨g, cap, cur, rfl, _, hh, _⟩
  · cases e
  · cases e
    unfold RelAt at h
    rw [h] at hh
    simp at hh

set_option maxRecDepth 100000 in
set_option maxHeartbeats 8000000 in
theorem blocks_any {xs : List Int} (R : Rl xs.length xs) (w : World) :
    Calls Try.prog 47 #[relOf xs] w fun e w' => ∃ v, e = .returned v ∧ w'.ownsRow w.heap.size 55 2 v (blkL xs).length (pairC (blkL xs)) ∧ Below w.heap.size w w' := by
  obtain ⟨i0, hi, hz0, hz1, hz2⟩ := info_parts Try.infoP55
  have h4 := R.four
  have HC := Lib.hid (fun wr => kernel_any xs wr h4)
  have HR := Lib.hid R
  have x0 := (RelAt.new w xs).alloc (.cells #[] 55)
  have B0 := below_two w (.cells #[.int .i64 xs.length, .int .i64 (rowAt xs 0), .int .i64 (rowAt xs 1), .int .i64 (rowAt xs 2), .int .i64 (rowAt xs 3)] 46) (.cells #[] 55)
  have o0 : ((w.alloc (.cells #[.int .i64 xs.length, .int .i64 (rowAt xs 0), .int .i64 (rowAt xs 1), .int .i64 (rowAt xs 2), .int .i64 (rowAt xs 3)] 46)).alloc (.cells #[] 55)).ownsRow w.heap.size 55 2 (.slice (some ⟨(w.alloc (.cells #[.int .i64 xs.length, .int .i64 (rowAt xs 0), .int .i64 (rowAt xs 1), .int .i64 (rowAt xs 2), .int .i64 (rowAt xs 3)] 46)).heap.size, 0, none⟩) 0 0) 0 [] := World.ownsRow_lit _ #[] 0 (by simp) (by unfold maxLen; omega) rfl
  simp only [World.size_alloc] at o0
  unfold blkL
  have p0 := x0.cell0
  have p1 := x0.cell1
  have p2 := x0.cell2
  have p3 := x0.cell3
  have p4 := x0.cell4
  clear R
  go_enter Try.func47, Try.ntmps47
  go_wp2_with fail
  refine (HC.out _).mono ?_
  rintro e w1 ⟨rfl, hb1⟩
  obtain ⟨K, hK⟩ : ∃ K, kerL xs = K := ⟨_, rfl⟩
  have hKl : K.length = xs.length := by rw [← hK]; exact kerL_len xs
  have x1 := (x0.below hb1 x0.lt).alloc (.cells #[.int .i64 K.length, .int .i64 (rowAt K 0), .int .i64 (rowAt K 1), .int .i64 (rowAt K 2), .int .i64 (rowAt K 3)] 46)
  have k1 := RelAt.new w1 K
  have o1 := (own_same o0 (fun q hq => hb1.block q (o0.lt q hq).2)).alloc (.cells #[.int .i64 K.length, .int .i64 (rowAt K 0), .int .i64 (rowAt K 1), .int .i64 (rowAt K 2), .int .i64 (rowAt K 3)] 46)
  have B1 := (B0.trans (hb1.mono B0.size)).alloc (Nat.le_trans B0.size hb1.size) (.cells #[.int .i64 K.length, .int .i64 (rowAt K 0), .int .i64 (rowAt K 1), .int .i64 (rowAt K 2), .int .i64 (rowAt K 3)] 46)
  have T0 := Lib.hid (told_zero xs h4)
  have HK := Lib.hid (And.intro hK hKl)
  rw [hK]
  obtain ⟨q, hq⟩ : ∃ q, w1.heap.size = q := ⟨_, rfl⟩
  rw [hq] at k1
  have c0 := x1.cell0
  clear x0 B0 p0 p1 p2 p3 p4 o0 hb1 hK hKl
  go_wp2
  clear hq
  go_loopw [12, 3, 5, 6] (fun i v s _ wr => ∃ (k : Nat) (t : Fin 16), k ≤ xs.length ∧ i = .int .i64 k ∧ s = .int .i64 (t.val : Int) ∧ Hid (Told xs k t) ∧ wr.ownsRow w.heap.size 55 2 v (blkTo xs k).length (pairC (blkTo xs k)) ∧ RelAt wr w.heap.size xs ∧ RelAt wr q K ∧ Below w.heap.size w wr)
    (fun i _ _ _ _ => xs.length - (intOf i).toNat)
  case atStart => exact ⟨0, 0, Nat.zero_le _, rfl, rfl, T0, o1, x1, k1, B1⟩
  case round =>
    clear x1 B1 T0 o1 k1 c0
    obtain ⟨k, t, hk, rfl, rfl, HT, ho, hx, hKr, hB⟩ := hrel
    by_cases hlt : k < xs.length
    · have hc1 := hx.row k (by omega)
      have hc2 := hKr.row k (by omega)
      have hq4 : (k : Int) < 4 := by omega
      have hlen := blk_len xs k
      have htk := HT.out.2 k hlt
      obtain ⟨x, hxe⟩ : ∃ x, rowAt xs k = x := ⟨_, rfl⟩
      have HXK := Lib.hid hxe
      rw [hxe] at hc1
      clear hxe
      by_cases e0 : x = 0
      · have hmk : makesB xs k = false := by unfold makesB; rw [HXK.out, e0]; rfl
        have HST := Lib.hid (And.intro (blk_no hmk) (told_skip hmk))
        clear hmk HXK htk
        subst e0
        go_wp2
        go_roundw
        case rel => exact ⟨k + 1, t, by omega, by go_num, rfl, Lib.hid ⟨HT.out.1, fun j hj => by rw [HT.out.2 j hj, HST.out.2]⟩, by rw [HST.out.1]; exact ho, hx, hKr, hB⟩
        case measure => simp [intOf]; omega
      · have he0 : (x != 0) = true := by simp [e0]
        cases hb : hasB (t.val : Int) k with
        | true =>
          rw [hb] at htk
          have hmk : makesB xs k = false := by unfold makesB; rw [← htk]; simp
          have HST := Lib.hid (And.intro (blk_no hmk) (told_skip hmk))
          clear hmk HXK htk
          go_wp2_with (go_at_call 67; refine (has_any _ k (by omega) _).mono ?_; rintro e w2 ⟨rfl, rfl⟩)
          go_roundw
          case rel => exact ⟨k + 1, t, by omega, by go_num, rfl, Lib.hid ⟨HT.out.1, fun j hj => by rw [HT.out.2 j hj, HST.out.2]⟩, by rw [HST.out.1]; exact ho, hx, hKr, hB⟩
          case measure => simp [intOf]; omega
        | false =>
          rw [hb] at htk
          have hmk : makesB xs k = true := by
            unfold makesB
            rw [HXK.out, ← htk, he0]
            rfl
          obtain ⟨z, hz, _⟩ := (ker_rl HR.out).row k
          obtain ⟨v, hv, hT2⟩ := told_or HR.out hlt hmk HT.out hz
          have hst := blk_yes hmk
          rw [hz, HXK.out] at hst
          rw [HK.out.1] at hz
          rw [hz] at hc2
          have HST := Lib.hid hst
          have HT2 := Lib.hid hT2
          have hn1 := row_not_rel hx ho
          have hn2 := row_not_rel hKr ho
          have HN := Lib.hid (And.intro hn1 hn2)
          have HZ := Lib.hid hz
          clear hmk HXK htk hst hT2 hz hn1 hn2
          go_wp2_with (go_at_call 67; refine (has_any _ k (by omega) _).mono ?_; rintro e w2 ⟨rfl, rfl⟩)
          go_region_law (refine step_append_own rfl (.tmp 26) (.tmp 36) 50 rfl w.heap.size 55 i0 (.agg #[.int .i64 0, .int .i64 0]) 2 16 Try.underlying50 hi hz0 hz1 hz2 rfl (by decide) _ _ _ rfl (ho.alloc _).drew ⟨wr.heap.size, 0, none⟩ 1 1 [_, _] rfl rfl (cell_two_new _ _ _ _) (by simp [Value.oneCell']) (by unfold maxLen; omega) (by omega) (by have := hB.size; simp; omega) ?_; intro v' w6 hown' hgrow)
          all_goals
            have hB6 := own_step ho hB hB.size _ hgrow
            have hx6 := keep_rel hx hgrow HN.out.1
            have hK6 := keep_rel hKr hgrow HN.out.2
            have hc2 := hK6.row k (by omega)
            rw [HZ.out] at hc2
            have hown2 : w6.ownsRow w.heap.size 55 2 v' ((blkTo xs k ++ [((z.val : Int), x)]).length) (pairC (blkTo xs k ++ [((z.val : Int), x)])) := by
              rw [List.length_append, pairC_app]
              exact hown'
            have HO := Lib.hid (And.intro hown2 (And.intro hx6 (And.intro hK6 hB6)))
            clear hown' hown2 hgrow hx6 hK6 hB6 ho hx hKr hB hc1
            go_wp2
            go_roundw
            case rel => exact ⟨k + 1, v, by omega, by go_num, rfl, HT2, by rw [HST.out]; exact HO.out.1, HO.out.2.1, HO.out.2.2.1, HO.out.2.2.2⟩
            case measure => simp [intOf]; omega
    · obtain rfl : k = xs.length := by omega
      go_wp2
      go_ret
      exact ⟨_, rfl, ho, hB⟩

theorem implRectBlocks_any (ao : Option Addr) (ca : Nat) (xs : List Int) (w : World) (hl : xs.length ≤ 1048576) (hx : Rd w ao xs) :
    Calls Try.prog 17 #[.slice ao xs.length ca] w (Gave2 w (blkN xs) (PI (blkL xs)) (blkB xs)) := by
  unfold blkN blkB
  cases hp : relIn xs with
  | false =>
    have HP := Lib.hid hp
    clear hp
    rw [Bool.false_and]
    go_enter Try.func17, Try.ntmps17
    go_wp2_with (go_at_call 32; refine (relationFrom_no _ _ _ _ hl HP.out hx).mono ?_; rintro e w1 ⟨rfl, hb⟩)
    go_ret2
    exact ⟨.slice none 0 0, fun _ => 0, rfl, Own2.empty (World.ownsRow_nil _ _ _ _), hb.alloc hb.size _⟩
  | true =>
    rw [Bool.true_and]
    have R := Rl.of hp
    have hle : (blkL xs).length ≤ 1000 := by
      have := blk_len xs xs.length
      have := R.four
      unfold blkL
      omega
    have hst := fun w => isStepped_any R w
    have HP := Lib.hid hp
    cases hb : stepB xs with
    | false =>
      rw [hb] at hst
      have HS := Lib.hid hst
      clear hp R hst hb
      go_enter Try.func17, Try.ntmps17
      go_wp2_with fail
      refine (relationFrom_yes _ _ _ _ HP.out hx).mono ?_
      rintro e w1 ⟨rfl, hb⟩
      have x1 := RelAt.new w1 xs
      have B1 := hb.alloc hb.size (.cells #[.int .i64 xs.length, .int .i64 (rowAt xs 0), .int .i64 (rowAt xs 1), .int .i64 (rowAt xs 2), .int .i64 (rowAt xs 3)] 46)
      have p0 := x1.cell0
      have p1 := x1.cell1
      have p2 := x1.cell2
      have p3 := x1.cell3
      have p4 := x1.cell4
      clear x1 hb
      go_wp2_with fail
      refine (HS.out _).mono ?_
      rintro e w3 ⟨rfl, hb3⟩
      have B3 := B1.trans (hb3.mono B1.size)
      clear hb3 p0 p1 p2 p3 p4
      go_wp2
      go_ret2
      exact ⟨.slice none 0 0, fun _ => 0, rfl, Own2.empty (World.ownsRow_nil _ _ _ _), B3⟩
    | true =>
      rw [hb] at hst
      have HS := Lib.hid hst
      have HA := Lib.hid (fun w => blocks_any R w)
      clear hp R hst hb
      go_enter Try.func17, Try.ntmps17
      go_wp2_with fail
      refine (relationFrom_yes _ _ _ _ HP.out hx).mono ?_
      rintro e w1 ⟨rfl, hb⟩
      have x1 := RelAt.new w1 xs
      have B1 := hb.alloc hb.size (.cells #[.int .i64 xs.length, .int .i64 (rowAt xs 0), .int .i64 (rowAt xs 1), .int .i64 (rowAt xs 2), .int .i64 (rowAt xs 3)] 46)
      have p0 := x1.cell0
      have p1 := x1.cell1
      have p2 := x1.cell2
      have p3 := x1.cell3
      have p4 := x1.cell4
      clear hb
      go_wp2_with fail
      refine (HS.out _).mono ?_
      rintro e w3 ⟨rfl, hb3⟩
      have x3 := x1.below hb3 x1.lt
      have B3 := B1.trans (hb3.mono B1.size)
      clear hb3 p0 p1 p2 p3 p4 x1
      have p0 := x3.cell0
      have p1 := x3.cell1
      have p2 := x3.cell2
      have p3 := x3.cell3
      have p4 := x3.cell4
      go_wp2_with fail
      refine (HA.out _).mono ?_
      rintro e w4 ⟨v, rfl, ho, hb4⟩
      obtain ⟨vo, vc, rfl, hrd⟩ := prRd_of ho
      have B4 := B3.trans (hb4.mono B3.size)
      clear ho hb4 p0 p1 p2 p3 p4 x3
      go_wp2_with fail
      refine (listsOf_any vo vc (blkL xs) _ hle hrd).mono ?_
      rintro e w5 ⟨v, gs, rfl, ho, hb5⟩
      go_wp2
      go_ret2
      exact ⟨_, gs, rfl, ho.mono B4.size, B4.trans (hb5.mono B4.size)⟩
end Go.Proofs.Ytnmgoeklcmoalab
