/-
  Full rectangles: the program's fullRectangles, listsOf and RectAll; for lists of at most 2^20 numbers.
-/
import Derived.Test.YtpbkgdohfnjjpabQD
namespace Go.Proofs.Ytpbkgdohfnjjpab
open Go.RowKit

theorem Try.infoP100 : (Try.prog.info? 100).map (fun i => (i.zero, i.size, i.bytes)) = some (some (.agg #[.int .i64 0, .int .i64 0]), 2, 16) := by kernel_rfl

theorem Own2.mono {w : World} {lo lo' hi n : Nat} {v : Value} {r : Nat → List Int} {gs : Nat → Nat} (h : Own2 w lo hi v n r gs) (hl : lo' ≤ lo) : Own2 w lo' hi v n r gs :=
  ⟨own_mono h.row hl, h.top, h.size, h.apart, fun j hj => ⟨(h.rows j hj).1, own_mono (h.rows j hj).2.row hl, (h.rows j hj).2.top, (h.rows j hj).2.size⟩⟩

/-- a slice of pairs, as a world has it -/
def PrRd (w : World) (ao : Option Addr) (L : List (Int × Int)) : Prop :=
  ∀ k p, L[k]? = some p → ∃ b, ao = some ⟨b, 0, none⟩ ∧ b < w.heap.size ∧ w.cell? ⟨b, k * 2, none⟩ = some (.int .i64 p.1) ∧ w.cell? ⟨b, k * 2 + 1, none⟩ = some (.int .i64 p.2)
theorem PrRd.below {w w' : World} {ao : Option Addr} {L : List (Int × Int)} (h : PrRd w ao L) (hb : Below w.heap.size w w') : PrRd w' ao L := by
  intro k p hk
  obtain ⟨b, h1, h2, h3, h4⟩ := h k p hk
  exact ⟨b, h1, Nat.lt_of_lt_of_le h2 hb.size, (hb.cell (p := ⟨b, k * 2, none⟩) h2).trans h3, (hb.cell (p := ⟨b, k * 2 + 1, none⟩) h2).trans h4⟩
theorem prRd_of {w : World} {lo : Nat} {v : Value} {L : List (Int × Int)} (h : w.ownsRow lo 100 2 v L.length (pairC L)) : ∃ ao cap, v = .slice ao L.length cap ∧ PrRd w ao L := by
  rcases h.2 with ⟨rfl, h2⟩ | ⟨g, cap, cur, rfl, _⟩
  · rw [h2]
    refine ⟨none, 0, rfl, fun k p hk => ?_⟩
    have := (List.getElem?_eq_some_iff.1 hk).1
    omega
  · refine ⟨_, cap, rfl, fun k p hk => ⟨g, rfl, (h.lt g rfl).2, ?_, ?_⟩⟩
    · have hlt := (List.getElem?_eq_some_iff.1 hk).1
      rw [h.cellAt (k * 2) (by omega)]
      exact (pairC_at L k p hk).1
    · have hlt := (List.getElem?_eq_some_iff.1 hk).1
      rw [h.cellAt (k * 2 + 1) (by omega)]
      exact (pairC_at L k p hk).2

set_option maxRecDepth 100000 in
set_option maxHeartbeats 4000000 in
theorem fullRectangles_any {xs : List Int} (R : Rl xs.length xs) (w : World) :
    Calls Try.prog 84 #[relOf xs] w fun e w' => ∃ v, e = .returned v ∧ w'.ownsRow w.heap.size 100 2 v (fullL xs).length (pairC (fullL xs)) ∧ Below w.heap.size w w' := by
  obtain ⟨i0, hi, hz0, hz1, hz2⟩ := info_parts Try.infoP100
  have h1 := R.one
  have h4 := R.four
  have hm0 : 1 ≤ 2 ^ xs.length := Nat.one_le_two_pow
  have hm := pow_le16 h4
  unfold fullL
  obtain ⟨m, hm2⟩ : ∃ m, 2 ^ xs.length = m := ⟨_, rfl⟩
  have HA := Lib.hid (fun wr => allPoints_any xs.length h1 h4 wr)
  rw [hm2] at HA hm hm0 ⊢
  have HC := Lib.hid (And.intro (fun z wr => closed_any R z wr) (fun z wr => relatedToAll_any R z wr))
  have x0 := (RelAt.new w xs).alloc (.cells #[] 100)
  have B0 := below_two w (.cells #[.int .i64 xs.length, .int .i64 (rowAt xs 0), .int .i64 (rowAt xs 1), .int .i64 (rowAt xs 2), .int .i64 (rowAt xs 3)] 50) (.cells #[] 100)
  have o0 : ((w.alloc (.cells #[.int .i64 xs.length, .int .i64 (rowAt xs 0), .int .i64 (rowAt xs 1), .int .i64 (rowAt xs 2), .int .i64 (rowAt xs 3)] 50)).alloc (.cells #[] 100)).ownsRow w.heap.size 100 2 (.slice (some ⟨(w.alloc (.cells #[.int .i64 xs.length, .int .i64 (rowAt xs 0), .int .i64 (rowAt xs 1), .int .i64 (rowAt xs 2), .int .i64 (rowAt xs 3)] 50)).heap.size, 0, none⟩) 0 0) 0 [] := World.ownsRow_lit _ #[] 0 (by simp) (by unfold maxLen; omega) rfl
  simp only [World.size_alloc] at o0
  have p0 := x0.cell0
  clear R hm2 h1 h4
  go_enter Try.func84, Try.ntmps84
  go_wp2_with (go_at_call 83; refine (HA.out _).mono ?_; rintro e w' ⟨rfl, rfl⟩)
  go_loopw [3, 10, 4] (fun v i _ wr => ∃ k : Nat, k ≤ m ∧ i = .int .i64 k ∧ wr.ownsRow w.heap.size 100 2 v (fullTo xs k).length (pairC (fullTo xs k)) ∧ Hid (v.ownBlock ≠ some w.heap.size) ∧ RelAt wr w.heap.size xs ∧ Below w.heap.size w wr)
    (fun _ i _ _ => m - (intOf i).toNat)
  case atStart => exact ⟨0, Nat.zero_le _, rfl, o0, Lib.hid (by simp [Value.ownBlock]), x0, B0⟩
  case round =>
    clear x0 B0 p0 o0
    obtain ⟨k, hk, rfl, ho, hne, hr, hB⟩ := hrel
    by_cases hlt : k < m
    · have hi1 : ((k : Nat) : Int) < ((m - 1 : Nat) : Int) + 1 := by omega
      have p0 := hr.cell0
      have p1 := hr.cell1
      have p2 := hr.cell2
      have p3 := hr.cell3
      have p4 := hr.cell4
      have hlen := full_len xs k
      have hcc := fun wr => HC.out.1 (k : Int) wr
      have hpp := fun wr => HC.out.2 (k : Int) wr
      cases hb : (clo xs (k : Int) == (k : Int)) with
      | false =>
        have HST := Lib.hid (full_no hb)
        have HCC := Lib.hid hcc
        have hb2 := hb
        clear hcc hb hpp
        obtain ⟨c, hc⟩ : ∃ c, clo xs (k : Int) = c := ⟨_, rfl⟩
        rw [hc] at hb2 HCC
        clear hc
        go_wp2_with fail
        refine (HCC.out _).mono ?_
        rintro e w2 ⟨rfl, hb3⟩
        have ho2 := own_same ho (fun q hq => hb3.block q (ho.lt q hq).2)
        have hr2 := hr.below hb3 hr.lt
        have hB2 := hB.trans (hb3.mono hB.size)
        clear ho hB hb3 hr p0 p1 p2 p3 p4
        go_wp2
        go_roundw
        case rel => exact ⟨k + 1, by omega, by go_num, by rw [HST.out]; exact ho2, hne, hr2, hB2⟩
        case measure => simp [intOf]; omega
      | true =>
        have HST := Lib.hid (full_yes hb)
        have HCC := Lib.hid hcc
        have HPP := Lib.hid hpp
        have hb2 := hb
        clear hcc hb hpp
        obtain ⟨c, hc⟩ : ∃ c, clo xs (k : Int) = c := ⟨_, rfl⟩
        rw [hc] at hb2 HCC
        clear hc
        go_wp2_with fail
        refine (HCC.out _).mono ?_
        rintro e w2 ⟨rfl, hb3⟩
        have ho2 := own_same ho (fun q hq => hb3.block q (ho.lt q hq).2)
        have hr2 := hr.below hb3 hr.lt
        have hB2 := hB.trans (hb3.mono hB.size)
        clear ho hB hb3 hr p0 p1 p2 p3 p4
        have p0 := hr2.cell0
        have p1 := hr2.cell1
        have p2 := hr2.cell2
        have p3 := hr2.cell3
        have p4 := hr2.cell4
        go_wp2_with fail
        refine (HPP.out _).mono ?_
        rintro e w3 ⟨rfl, hb3⟩
        have ho3 := own_same ho2 (fun q hq => hb3.block q (ho2.lt q hq).2)
        have hr3 := hr2.below hb3 hr2.lt
        have hB3 := hB2.trans (hb3.mono hB2.size)
        clear ho2 hB2 hb3 hr2 p0 p1 p2 p3 p4 hb2 HPP HCC
        obtain ⟨p, hp⟩ : ∃ p, relAll xs (k : Int) = p := ⟨_, rfl⟩
        rw [hp] at HST ⊢
        clear hp
        have H6 := Lib.hid (cell_two_new w3 (.int .i64 k) (.int .i64 p) 100)
        go_wp2_with (at_builtin; refine wpList_append_own _ rfl (.tmp 18) (.tmp 24) 91 rfl w.heap.size 100 i0 (.agg #[.int .i64 0, .int .i64 0]) 2 16 Try.underlying91 hi hz0 hz1 hz2 rfl (by decide) _ _ _ rfl (ho3.alloc _) ⟨w3.heap.size, 0, none⟩ 1 1 [_, _] rfl rfl H6.out (by simp [Value.oneCell']) (by unfold maxLen; omega) (by omega) (by have := hB3.size; simp; omega) ?_)
        intro v' w6 hown' hgrow _
        have hB6 : Below w.heap.size w w6 := (hB3.alloc hB3.size _).grown hgrow (by have := hB3.size; simp; omega) (fun q hq => (ho3.lt q hq).1)
        have hr6 : RelAt w6 w.heap.size xs := (hgrow.block w.heap.size (by have := hr3.lt; simp; omega) (fun e => hne.out e.symm)).trans (hr3.alloc _)
        have hne6 : v'.ownBlock ≠ some w.heap.size := by
          intro e
          have h1 := hown'.2
          rcases h1 with ⟨rfl, _⟩ | ⟨g, cap, cur, rfl, _, hh, _⟩
          · cases e
          · cases e
            have := (show w6.heap[w.heap.size]? = _ from hr6).symm.trans hh
            simp at this
        have hown2 : w6.ownsRow w.heap.size 100 2 v' ((fullTo xs k ++ [((k : Int), p)]).length) (pairC (fullTo xs k ++ [((k : Int), p)])) := by
          rw [List.length_append, pairC_app]
          exact hown'
        have HO := Lib.hid (And.intro hown2 (And.intro hne6 (And.intro hr6 hB6)))
        clear hown' hown2 hgrow hr6 hne6 hB6 ho3 hB3 hr3
        go_wp2
        go_roundw
        case rel => exact ⟨k + 1, by omega, by go_num, by rw [HST.out]; exact HO.out.1, Lib.hid HO.out.2.1, HO.out.2.2.1, HO.out.2.2.2⟩
        case measure => simp [intOf]; omega
    · have hi1 : ¬ (((k : Nat) : Int) < ((m - 1 : Nat) : Int) + 1) := by omega
      go_wp2
      go_ret
      obtain rfl : k = m := by omega
      exact ⟨_, rfl, ho, hB⟩

end Go.Proofs.Ytpbkgdohfnjjpab
