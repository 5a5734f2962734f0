/-
  Blocks of stepped relations: the program's blocks and RectBlocks; for lists of at most 2^20 numbers.
-/
import Derived.Test.YtbblfmknohaioaaQF
import Derived.Test.YtbblfmknohaioaaEG
namespace Go.Proofs.Ytbblfmknohaioaa
open Go.RowKit

theorem keep_rel {wr w6 : World} {b : Nat} {o : Obj} {v : Value} {xs : List Int} (h : RelAt wr b xs) (hg : ((wr.alloc o).drew).grownBy w6 v.ownBlock) (hne : v.ownBlock ≠ some b) : RelAt w6 b xs :=
  (hg.block b (by have := h.lt; simp; omega) (fun e => hne e.symm)).trans (h.alloc o)
theorem row_not_rel {w : World} {b lo n size : Nat} {v : Value} {xs : List Int} {us : List Value} (h : RelAt w b xs) (k : w.ownsRow lo 62 size v n us) : v.ownBlock ≠ some b := by
  intro e
  rcases k.2 with ⟨rfl, _⟩ | ⟨g, cap, cur, rfl, _, hh, _⟩
  · cases e
  · cases e
    unfold RelAt at h
    rw [h] at hh
    simp at hh

set_option maxRecDepth 100000 in
set_option maxHeartbeats 8000000 in
theorem blocks_any {xs : List Int} (R : Rl xs.length xs) (w : World) :
    Calls Try.prog 53 #[relOf xs] w fun e w' => ∃ v, e = .returned v ∧ w'.ownsRow w.heap.size 62 2 v (blkL xs).length (pairC (blkL xs)) ∧ Below w.heap.size w w' := by
  obtain ⟨i0, hi, hz0, hz1, hz2⟩ := info_parts Try.infoP62
  have h4 := R.four
  have HC := Lib.hid (fun wr => kernel_any xs wr h4)
  have HR := Lib.hid R
  have x0 := (RelAt.new w xs).alloc (.cells #[] 62)
  have B0 := below_two w (.cells #[.int .i64 xs.length, .int .i64 (rowAt xs 0), .int .i64 (rowAt xs 1), .int .i64 (rowAt xs 2), .int .i64 (rowAt xs 3)] 47) (.cells #[] 62)
  have o0 : ((w.alloc (.cells #[.int .i64 xs.length, .int .i64 (rowAt xs 0), .int .i64 (rowAt xs 1), .int .i64 (rowAt xs 2), .int .i64 (rowAt xs 3)] 47)).alloc (.cells #[] 62)).ownsRow w.heap.size 62 2 (.slice (some ⟨(w.alloc (.cells #[.int .i64 xs.length, .int .i64 (rowAt xs 0), .int .i64 (rowAt xs 1), .int .i64 (rowAt xs 2), .int .i64 (rowAt xs 3)] 47)).heap.size, 0, none⟩) 0 0) 0 [] := World.ownsRow_lit _ #[] 0 (by simp) (by unfold maxLen; omega) rfl
  simp only [World.size_alloc] at o0
  unfold blkL
  have p0 := x0.cell0
  have p1 := x0.cell1
  have p2 := x0.cell2
  have p3 := x0.cell3
  have p4 := x0.cell4
  clear R
  go_enter Try.func53, Try.ntmps53
  go_wp2_with fail
  refine (HC.out _).mono ?_
  rintro e w1 ⟨rfl, hb1⟩
  obtain ⟨K, hK⟩ : ∃ K, kerL xs = K := ⟨_, rfl⟩
  have hKl : K.length = xs.length := by rw [← hK]; exact kerL_len xs
  have x1 := (x0.below hb1 x0.lt).alloc (.cells #[.int .i64 K.length, .int .i64 (rowAt K 0), .int .i64 (rowAt K 1), .int .i64 (rowAt K 2), .int .i64 (rowAt K 3)] 47)
  have k1 := RelAt.new w1 K
  have o1 := (own_same o0 (fun q hq => hb1.block q (o0.lt q hq).2)).alloc (.cells #[.int .i64 K.length, .int .i64 (rowAt K 0), .int .i64 (rowAt K 1), .int .i64 (rowAt K 2), .int .i64 (rowAt K 3)] 47)
  have B1 := (B0.trans (hb1.mono B0.size)).alloc (Nat.le_trans B0.size hb1.size) (.cells #[.int .i64 K.length, .int .i64 (rowAt K 0), .int .i64 (rowAt K 1), .int .i64 (rowAt K 2), .int .i64 (rowAt K 3)] 47)
  have T0 := Lib.hid (told_zero xs h4)
  have HK := Lib.hid (And.intro hK hKl)
  rw [hK]
  obtain ⟨q, hq⟩ : ∃ q, w1.heap.size = q := ⟨_, rfl⟩
  rw [hq] at k1
  have c0 := x1.cell0
  clear x0 B0 p0 p1 p2 p3 p4 o0 hb1 hK hKl
  go_wp2
  clear hq
  go_loopw [12, 3, 5, 6] (fun i v s _ wr => ∃ (k : Nat) (t : Fin 16), k ≤ xs.length ∧ i = .int .i64 k ∧ s = .int .i64 (t.val : Int) ∧ Hid (Told xs k t) ∧ wr.ownsRow w.heap.size 62 2 v (blkTo xs k).length (pairC (blkTo xs k)) ∧ RelAt wr w.heap.size xs ∧ RelAt wr q K ∧ Below w.heap.size w wr)
    (fun i _ _ _ _ => xs.length - (intOf i).toNat)
  case atStart => exact ⟨0, 0, Nat.zero_le _, rfl, rfl, T0, o1, x1, k1, B1⟩
  case round =>
    clear x1 B1 T0 o1 k1 c0
    obtain ⟨k, t, hk, rfl, rfl, HT, ho, hx, hKr, hB⟩ := hrel
    by_cases hlt : k < xs.length
    · have hc1 := hx.row k (by omega)
      have hc2 := hKr.row k (by omega)
      have hq4 : (k : Int) < 4 := by omega
      have hlen := blk_len xs k
      have htk := HT.out.2 k hlt
      obtain ⟨x, hxe⟩ : ∃ x, rowAt xs k = x := ⟨_, rfl⟩
      have HXK := Lib.hid hxe
      rw [hxe] at hc1
      clear hxe
      by_cases e0 : x = 0
      · have hmk : makesB xs k = false := by unfold makesB; rw [HXK.out, e0]; rfl
        have HST := Lib.hid (And.intro (blk_no hmk) (told_skip hmk))
        clear hmk HXK htk
        subst e0
        go_wp2
        go_roundw
        case rel => exact ⟨k + 1, t, by omega, by go_num, rfl, Lib.hid ⟨HT.out.1, fun j hj => by rw [HT.out.2 j hj, HST.out.2]⟩, by rw [HST.out.1]; exact ho, hx, hKr, hB⟩
        case measure => simp [intOf]; omega
      · have he0 : (x != 0) = true := by simp [e0]
        cases hb : hasB (t.val : Int) k with
        | true =>
          rw [hb] at htk
          have hmk : makesB xs k = false := by unfold makesB; rw [← htk]; simp
          have HST := Lib.hid (And.intro (blk_no hmk) (told_skip hmk))
          clear hmk HXK htk
          go_wp2_with (go_at_call 64; refine (has_any _ k (by omega) _).mono ?_; rintro e w2 ⟨rfl, rfl⟩)
          go_roundw
          case rel => exact ⟨k + 1, t, by omega, by go_num, rfl, Lib.hid ⟨HT.out.1, fun j hj => by rw [HT.out.2 j hj, HST.out.2]⟩, by rw [HST.out.1]; exact ho, hx, hKr, hB⟩
          case measure => simp [intOf]; omega
        | false =>
          rw [hb] at htk
          have hmk : makesB xs k = true := by
            unfold makesB
            rw [HXK.out, ← htk, he0]
            rfl
          obtain ⟨z, hz, _⟩ := (ker_rl HR.out).row k
          obtain ⟨v, hv, hT2⟩ := told_or HR.out hlt hmk HT.out hz
          have hst := blk_yes hmk
          rw [hz, HXK.out] at hst
          rw [HK.out.1] at hz
          rw [hz] at hc2
          have HST := Lib.hid hst
          have HT2 := Lib.hid hT2
          have hn1 := row_not_rel hx ho
          have hn2 := row_not_rel hKr ho
          have HN := Lib.hid (And.intro hn1 hn2)
          have HZ := Lib.hid hz
          clear hmk HXK htk hst hT2 hz hn1 hn2
          go_wp2_with (go_at_call 64; refine (has_any _ k (by omega) _).mono ?_; rintro e w2 ⟨rfl, rfl⟩)
          go_region_law (refine step_append_own rfl (.tmp 26) (.tmp 36) 52 rfl w.heap.size 62 i0 (.agg #[.int .i64 0, .int .i64 0]) 2 16 Try.underlying52 hi hz0 hz1 hz2 rfl (by decide) _ _ _ rfl (ho.alloc _).drew ⟨wr.heap.size, 0, none⟩ 1 1 [_, _] rfl rfl (cell_two_new _ _ _ _) (by simp [Value.oneCell']) (by unfold maxLen; omega) (by omega) (by have := hB.size; simp; omega) ?_; intro v' w6 hown' hgrow)
          all_goals
            have hB6 := own_step ho hB hB.size _ hgrow
            have hx6 := keep_rel hx hgrow HN.out.1
            have hK6 := keep_rel hKr hgrow HN.out.2
            have hc2 := hK6.row k (by omega)
            rw [HZ.out] at hc2
            have hown2 : w6.ownsRow w.heap.size 62 2 v' ((blkTo xs k ++ [((z.val : Int), x)]).length) (pairC (blkTo xs k ++ [((z.val : Int), x)])) := by
              rw [List.length_append, pairC_app]
              exact hown'
            have HO := Lib.hid (And.intro hown2 (And.intro hx6 (And.intro hK6 hB6)))
            clear hown' hown2 hgrow hx6 hK6 hB6 ho hx hKr hB hc1
            go_wp2
            go_roundw
            case rel => exact ⟨k + 1, v, by omega, by go_num, rfl, HT2, by rw [HST.out]; exact HO.out.1, HO.out.2.1, HO.out.2.2.1, HO.out.2.2.2⟩
            case measure => simp [intOf]; omega
    · obtain rfl : k = xs.length := by omega
      go_wp2
      go_ret
      exact ⟨_, rfl, ho, hB⟩

theorem implRectBlocks_any (ao : Option Addr) (ca : Nat) (xs : List Int) (w : World) (hl : xs.length ≤ 1048576) (hx : Rd w ao xs) :
    Calls Try.prog 29 #[.slice ao xs.length ca] w (Gave2 w (blkN xs) (PI (blkL xs)) (blkB xs)) := by
  unfold blkN blkB
  cases hp : relIn xs with
  | false =>
    have HP := Lib.hid hp
    clear hp
    rw [Bool.false_and]
    go_enter Try.func29, Try.ntmps29
    go_wp2_with (go_at_call 44; refine (relationFrom_no _ _ _ _ hl HP.out hx).mono ?_; rintro e w1 ⟨rfl, hb⟩)
    go_ret2
    exact ⟨.slice none 0 0, fun _ => 0, rfl, Own2.empty (World.ownsRow_nil _ _ _ _), hb.alloc hb.size _⟩
  | true =>
    rw [Bool.true_and]
    have R := Rl.of hp
    have hle : (blkL xs).length ≤ 1000 := by
      have := blk_len xs xs.length
      have := R.four
      unfold blkL
      omega
    have hst := fun w => isStepped_any R w
    have HP := Lib.hid hp
    cases hb : stepB xs with
    | false =>
      rw [hb] at hst
      have HS := Lib.hid hst
      clear hp R hst hb
      go_enter Try.func29, Try.ntmps29
      go_wp2_with fail
      refine (relationFrom_yes _ _ _ _ HP.out hx).mono ?_
      rintro e w1 ⟨rfl, hb⟩
      have x1 := RelAt.new w1 xs
      have B1 := hb.alloc hb.size (.cells #[.int .i64 xs.length, .int .i64 (rowAt xs 0), .int .i64 (rowAt xs 1), .int .i64 (rowAt xs 2), .int .i64 (rowAt xs 3)] 47)
      have p0 := x1.cell0
      have p1 := x1.cell1
      have p2 := x1.cell2
      have p3 := x1.cell3
      have p4 := x1.cell4
      clear x1 hb
      go_wp2_with fail
      refine (HS.out _).mono ?_
      rintro e w3 ⟨rfl, hb3⟩
      have B3 := B1.trans (hb3.mono B1.size)
      clear hb3 p0 p1 p2 p3 p4
      go_wp2
      go_ret2
      exact ⟨.slice none 0 0, fun _ => 0, rfl, Own2.empty (World.ownsRow_nil _ _ _ _), B3⟩
    | true =>
      rw [hb] at hst
      have HS := Lib.hid hst
      have HA := Lib.hid (fun w => blocks_any R w)
      clear hp R hst hb
      go_enter Try.func29, Try.ntmps29
      go_wp2_with fail
      refine (relationFrom_yes _ _ _ _ HP.out hx).mono ?_
      rintro e w1 ⟨rfl, hb⟩
      have x1 := RelAt.new w1 xs
      have B1 := hb.alloc hb.size (.cells #[.int .i64 xs.length, .int .i64 (rowAt xs 0), .int .i64 (rowAt xs 1), .int .i64 (rowAt xs 2), .int .i64 (rowAt xs 3)] 47)
      have p0 := x1.cell0
      have p1 := x1.cell1
      have p2 := x1.cell2
      have p3 := x1.cell3
      have p4 := x1.cell4
      clear hb
      go_wp2_with fail
      refine (HS.out _).mono ?_
      rintro e w3 ⟨rfl, hb3⟩
      have x3 := x1.below hb3 x1.lt
      have B3 := B1.trans (hb3.mono B1.size)
      clear hb3 p0 p1 p2 p3 p4 x1
      have p0 := x3.cell0
      have p1 := x3.cell1
      have p2 := x3.cell2
      have p3 := x3.cell3
      have p4 := x3.cell4
      go_wp2_with fail
      refine (HA.out _).mono ?_
      rintro e w4 ⟨v, rfl, ho, hb4⟩
      obtain ⟨vo, vc, rfl, hrd⟩ := prRd_of ho
      have B4 := B3.trans (hb4.mono B3.size)
      clear ho hb4 p0 p1 p2 p3 p4 x3
      go_wp2_with fail
      refine (listsOf_any vo vc (blkL xs) _ hle hrd).mono ?_
      rintro e w5 ⟨v, gs, rfl, ho, hb5⟩
      go_wp2
      go_ret2
      exact ⟨_, gs, rfl, ho.mono B4.size, B4.trans (hb5.mono B4.size)⟩
end Go.Proofs.Ytbblfmknohaioaa
