/-
  What a sequence keeps that writes one block and yields: all cells lie as they lay, but those of a block and of a list's own block.
-/
import Derived.Test.YthdnpcpimggjnaaGreatDoorQD
import Derived.Test.YthdnpcpimggjnaaGreatDoorDC
import Derived.Laws.EntriesVeiled
namespace Go.Proofs.YthdnpcpimggjnaaGreatDoor
open Go.RowKit

theorem Tryz.infoP137 : (Tryz.prog.info? 137).map (fun i => (i.zero, i.size, i.bytes)) = some (some (.agg #[.int .i64 0, .int .i64 0]), 2, 16) := by kernel_rfl

theorem pairList_any (a b : Int) (w : World) :
    Calls Tryz.prog 251 #[.agg #[.int .i64 a, .int .i64 b]] w fun e w' => ∃ g, e = .returned (sl2 g) ∧ w'.ownsRow w.heap.size 3 1 (sl2 g) 2 [.int .i64 a, .int .i64 b] ∧ Below w.heap.size w w' := by
  have h0 : ((w.alloc (.cells #[.int .i64 a, .int .i64 b] 137)).alloc (.cells #[.int .i64 a, .int .i64 b] 3)).ownsRow w.heap.size 3 1 (sl2 (w.alloc (.cells #[.int .i64 a, .int .i64 b] 137)).heap.size) 2 [.int .i64 a, .int .i64 b] :=
    World.ownsRow_lit _ _ 2 (by simp) (by unfold maxLen; omega) rfl
  rw [World.size_alloc] at h0
  have B := below_two w (.cells #[.int .i64 a, .int .i64 b] 137) (.cells #[.int .i64 a, .int .i64 b] 3)
  have H := Lib.hid (And.intro h0 B)
  clear h0 B
  go_enter Tryz.func251, Tryz.ntmps251
  go_wp2
  go_ret
  exact ⟨_, rfl, H.out.1, H.out.2⟩

theorem Own2.mono {w : World} {lo lo' hi n : Nat} {v : Value} {r : Nat → List Int} {gs : Nat → Nat} (h : Own2 w lo hi v n r gs) (hl : lo' ≤ lo) : Own2 w lo' hi v n r gs :=
  ⟨own_mono h.row hl, h.top, h.size, h.apart, fun j hj => ⟨(h.rows j hj).1, own_mono (h.rows j hj).2.row hl, (h.rows j hj).2.top, (h.rows j hj).2.size⟩⟩

/-- a slice of pairs, as a world has it -/
def PrRd (w : World) (ao : Option Addr) (L : List (Int × Int)) : Prop :=
  ∀ k p, L[k]? = some p → ∃ b, ao = some ⟨b, 0, none⟩ ∧ b < w.heap.size ∧ w.cell? ⟨b, k * 2, none⟩ = some (.int .i64 p.1) ∧ w.cell? ⟨b, k * 2 + 1, none⟩ = some (.int .i64 p.2)
theorem PrRd.below {w w' : World} {ao : Option Addr} {L : List (Int × Int)} (h : PrRd w ao L) (hb : Below w.heap.size w w') : PrRd w' ao L := by
  intro k p hk
  obtain ⟨b, h1, h2, h3, h4⟩ := h k p hk
  exact ⟨b, h1, Nat.lt_of_lt_of_le h2 hb.size, (hb.cell (p := ⟨b, k * 2, none⟩) h2).trans h3, (hb.cell (p := ⟨b, k * 2 + 1, none⟩) h2).trans h4⟩
theorem prRd_of {w : World} {lo : Nat} {v : Value} {L : List (Int × Int)} (h : w.ownsRow lo 137 2 v L.length (pairC L)) : ∃ ao cap, v = .slice ao L.length cap ∧ PrRd w ao L := by
  rcases h.2 with ⟨rfl, h2⟩ | ⟨g, cap, cur, rfl, _⟩
  · rw [h2]
    refine ⟨none, 0, rfl, fun k p hk => ?_⟩
    have := (List.getElem?_eq_some_iff.1 hk).1
    omega
  · refine ⟨_, cap, rfl, fun k p hk => ⟨g, rfl, (h.lt g rfl).2, ?_, ?_⟩⟩
    · have hlt := (List.getElem?_eq_some_iff.1 hk).1
      rw [h.cellAt (k * 2) (by omega)]
      exact (pairC_at L k p hk).1
    · have hlt := (List.getElem?_eq_some_iff.1 hk).1
      rw [h.cellAt (k * 2 + 1) (by omega)]
      exact (pairC_at L k p hk).2

set_option maxRecDepth 100000 in
set_option maxHeartbeats 4000000 in
theorem listsOf_any (ao : Option Addr) (ca : Nat) (L : List (Int × Int)) (w : World) (hl : L.length ≤ 1000) (hx : PrRd w ao L) :
    Calls Tryz.prog 200 #[.slice ao L.length ca] w fun e w' => ∃ v gs, e = .returned v ∧ Own2 w' w.heap.size w'.heap.size v L.length (PI L) gs ∧ Below w.heap.size w w' := by
  obtain ⟨i0, hi, hz0, hz1, hz2⟩ := info_parts Tryz.info223
  have HX := Lib.hid hx
  clear hx
  go_enter Tryz.func200, Tryz.ntmps200
  go_wp2_with (at_make; refine wpList_make_full _ rfl _ _ 64 rfl w.heap.size 23 i0 (.slice none 0 0) 1 Tryz.underlying64 hi hz0 hz1 _ _ _ _ L.length rfl rfl rfl rfl ?c1 ?c2 ?c3 ?_)
  case c1 => rw [hz2]; omega
  case c2 => unfold maxLen; omega
  case c3 => exact Nat.le_refl _
  intro w1 hown hgrow
  have hB : Below w.heap.size w w1 := (Below.refl _ _).grown hgrow (Nat.le_refl _) (by simp)
  rw [toList_madeCells_one] at hown
  clear hgrow
  go_wp2
  go_loopw [11, 4, 5] (fun i _ _ wr => ∃ (k : Nat) (gs : Nat → Nat), k ≤ L.length ∧ i = .int .i64 k ∧ wr.ownsRow w.heap.size 23 1 (.slice (some ⟨w.heap.size, 0, none⟩) L.length L.length) L.length ((List.range k).map (fun j => sl2 (gs j)) ++ List.replicate (L.length - k) (.slice none 0 0)) ∧ (∀ j, j < k → OwnR wr w.heap.size wr.heap.size (sl2 (gs j)) (PI L j)) ∧ (∀ i j, i < j → j < k → gs i ≠ gs j) ∧ Below w.heap.size w wr)
    (fun i _ _ _ => L.length - (intOf i).toNat)
  case atStart => exact ⟨0, fun _ => 0, Nat.zero_le _, rfl, by simpa using hown, fun j hj => by omega, fun i j _ hj => by omega, hB⟩
  case round =>
    clear hown hB
    obtain ⟨k, gs, hk, rfl, ho, hrows, hap, hb⟩ := hrel
    by_cases hlt : k < L.length
    · obtain ⟨p, hp⟩ : ∃ p, L[k]? = some p := ⟨_, List.getElem?_eq_getElem hlt⟩
      obtain ⟨b, rfl, hbl, hc0, hc1⟩ := (HX.out.below hb) k p hp
      have hi1 : ((k : Nat) : Int) < (L.length : Int) := by omega
      have HP := Lib.hid (And.intro hp (And.intro hrows hap))
      clear hp hrows hap
      obtain ⟨p1, p2⟩ := p
      dsimp only at hc0 hc1
      go_wp2_with fail
      refine (pairList_any p1 p2 _).mono ?_
      rintro e w2 ⟨g, rfl, o2, b2⟩
      have hN : w.heap.size < wr.heap.size := (ho.lt _ rfl).2
      have hb1 := hb.alloc hb.size (.cells #[.int .i64 p1, .int .i64 p2] 137)
      have ho1 := ho.alloc (.cells #[.int .i64 p1, .int .i64 p2] 137)
      have ho2 := own_same ho1 (fun q hq => b2.block q (ho1.lt q hq).2)
      have hc2 := ho2.cellAt k (by omega)
      have hgone : ((List.range k).map (fun j => sl2 (gs j)) ++ List.replicate (L.length - k) (Value.slice none 0 0))[k]? = some (.slice none 0 0) := by
        rw [List.getElem?_append_right (by simp), List.getElem?_replicate]
        simp
        omega
      rw [hgone] at hc2
      have hf2 := ho2.frozenAt k
      have hst := (ho2.stored k (sl2 g)).1
      have hfun : (fun j => if j = k then sl2 g else sl2 (gs j)) = fun j => sl2 (if j = k then g else gs j) := by
        funext j
        split <;> rfl
      rw [setS (fun j => sl2 (gs j)) _ _ _ _ hlt, hfun] at hst
      have hg1 := (o2.lt g rfl).1
      have hg2 := (o2.lt g rfl).2
      have hs1 : (wr.alloc (.cells #[.int .i64 p1, .int .i64 p2] 137)).heap.size = wr.heap.size + 1 := by simp
      have hsz2 : (w2.setCell ⟨w.heap.size, k, none⟩ (sl2 g)).heap.size = w2.heap.size := by simp
      have hgr : ∀ j, j < k → gs j < wr.heap.size := fun j hj => (HP.out.2.1 j hj).top _ rfl
      have hrows2 : ∀ j, j < k + 1 → OwnR (w2.setCell ⟨w.heap.size, k, none⟩ (sl2 g)) w.heap.size (w2.setCell ⟨w.heap.size, k, none⟩ (sl2 g)).heap.size (sl2 (if j = k then g else gs j)) (PI L j) := by
        intro j hj
        rw [hsz2]
        by_cases e : j = k
        · subst e
          rw [if_pos rfl, PI_at HP.out.1]
          have o3 : OwnR w2 w.heap.size w2.heap.size (sl2 g) [p1, p2] := ⟨own_mono o2 (by rw [hs1]; omega), fun q hq => by cases hq; exact hg2, Nat.le_refl _⟩
          exact o3.same (by rw [hsz2]; exact Nat.le_refl _) (fun q hq => by cases hq; exact Below.heap_setCell _ _ _ _ (by simp; omega))
        · rw [if_neg e]
          have r1 := HP.out.2.1 j (by omega)
          have hgj := hgr j (by omega)
          have r2 : OwnR w2 w.heap.size w2.heap.size (sl2 (gs j)) (PI L j) := by
            have hsame : w2.heap[gs j]? = wr.heap[gs j]? := (b2.block (gs j) (by rw [hs1]; omega)).trans (Below.heap_alloc wr _ (gs j) hgj)
            refine ⟨own_same r1.row fun q hq => by cases hq; exact hsame, fun q hq => ?_, Nat.le_refl _⟩
            cases hq
            have := b2.size
            show gs j < w2.heap.size
            omega
          refine r2.same (by rw [hsz2]; exact Nat.le_refl _) (fun q hq => Below.heap_setCell _ _ _ _ ?_)
          cases hq
          have := rows_apart2 r2.row ho2
          simp
          omega
      have hap2 : ∀ i j, i < j → j < k + 1 → (if i = k then g else gs i) ≠ (if j = k then g else gs j) := by
        intro i j hij hj
        rw [if_neg (by omega)]
        have hgi := hgr i (by omega)
        by_cases e : j = k
        · rw [if_pos e]
          rw [hs1] at hg1
          omega
        · rw [if_neg e]
          exact HP.out.2.2 i j hij (by omega)
      have B2 : Below w.heap.size w (w2.setCell ⟨w.heap.size, k, none⟩ (sl2 g)) := (hb1.trans (b2.mono hb1.size)).setCell (p := ⟨w.heap.size, k, none⟩) (Nat.le_refl _) _
      have HO := Lib.hid (And.intro hst (And.intro hrows2 (And.intro hap2 B2)))
      clear hst hrows2 hap2 B2 ho ho1 ho2 o2 b2 hb hb1 hgone hgr hfun hs1 hsz2
      go_wp2
      go_roundw
      case rel => exact ⟨k + 1, _, by omega, by go_num, HO.out.1, HO.out.2.1, HO.out.2.2.1, HO.out.2.2.2⟩
      case measure => simp [intOf]; omega
    · obtain rfl : k = L.length := by omega
      go_wp2
      go_ret
      refine ⟨_, gs, rfl, ⟨by simpa using ho, fun q hq => (ho.lt q hq).2, Nat.le_refl _, hap, fun j hj => ⟨?_, hrows j hj⟩⟩, hb⟩
      rw [PI_at (List.getElem?_eq_getElem hj)]
      rfl

set_option maxRecDepth 100000 in
set_option maxHeartbeats 4000000 in
theorem fullRectangles_any {xs : List Int} (R : Rl xs.length xs) (w : World) :
    Calls Tryz.prog 99 #[relOf xs] w fun e w' => ∃ v, e = .returned v ∧ w'.ownsRow w.heap.size 137 2 v (fullL xs).length (pairC (fullL xs)) ∧ Below w.heap.size w w' := by
  obtain ⟨i0, hi, hz0, hz1, hz2⟩ := info_parts Tryz.infoP137
  have h1 := R.one
  have h4 := R.four
  have hm0 : 1 ≤ 2 ^ xs.length := Nat.one_le_two_pow
  have hm := pow_le16 h4
  unfold fullL
  obtain ⟨m, hm2⟩ : ∃ m, 2 ^ xs.length = m := ⟨_, rfl⟩
  have HA := Lib.hid (fun wr => allPoints_any xs.length h1 h4 wr)
  rw [hm2] at HA hm hm0 ⊢
  have HC := Lib.hid (And.intro (fun z wr => closed_any R z wr) (fun z wr => relatedToAll_any R z wr))
  have x0 := (RelAt.new w xs).alloc (.cells #[] 137)
  have B0 := below_two w (.cells #[.int .i64 xs.length, .int .i64 (rowAt xs 0), .int .i64 (rowAt xs 1), .int .i64 (rowAt xs 2), .int .i64 (rowAt xs 3)] 36) (.cells #[] 137)
  have o0 : ((w.alloc (.cells #[.int .i64 xs.length, .int .i64 (rowAt xs 0), .int .i64 (rowAt xs 1), .int .i64 (rowAt xs 2), .int .i64 (rowAt xs 3)] 36)).alloc (.cells #[] 137)).ownsRow w.heap.size 137 2 (.slice (some ⟨(w.alloc (.cells #[.int .i64 xs.length, .int .i64 (rowAt xs 0), .int .i64 (rowAt xs 1), .int .i64 (rowAt xs 2), .int .i64 (rowAt xs 3)] 36)).heap.size, 0, none⟩) 0 0) 0 [] := World.ownsRow_lit _ #[] 0 (by simp) (by unfold maxLen; omega) rfl
  simp only [World.size_alloc] at o0
  have p0 := x0.cell0
  clear R hm2 h1 h4
  go_enter Tryz.func99, Tryz.ntmps99
  go_wp2_with (go_at_call 106; refine (HA.out _).mono ?_; rintro e w' ⟨rfl, rfl⟩)
  go_loopw [3, 10, 4] (fun v i _ wr => ∃ k : Nat, k ≤ m ∧ i = .int .i64 k ∧ wr.ownsRow w.heap.size 137 2 v (fullTo xs k).length (pairC (fullTo xs k)) ∧ Hid (v.ownBlock ≠ some w.heap.size) ∧ RelAt wr w.heap.size xs ∧ Below w.heap.size w wr)
    (fun _ i _ _ => m - (intOf i).toNat)
  case atStart => exact ⟨0, Nat.zero_le _, rfl, o0, Lib.hid (by simp [Value.ownBlock]), x0, B0⟩
  case round =>
    clear x0 B0 p0 o0
    obtain ⟨k, hk, rfl, ho, hne, hr, hB⟩ := hrel
    by_cases hlt : k < m
    · have hi1 : ((k : Nat) : Int) < ((m - 1 : Nat) : Int) + 1 := by omega
      have p0 := hr.cell0
      have p1 := hr.cell1
      have p2 := hr.cell2
      have p3 := hr.cell3
      have p4 := hr.cell4
      have hlen := full_len xs k
      have hcc := fun wr => HC.out.1 (k : Int) wr
      have hpp := fun wr => HC.out.2 (k : Int) wr
      cases hb : (clo xs (k : Int) == (k : Int)) with
      | false =>
        have HST := Lib.hid (full_no hb)
        have HCC := Lib.hid hcc
        have hb2 := hb
        clear hcc hb hpp
        obtain ⟨c, hc⟩ : ∃ c, clo xs (k : Int) = c := ⟨_, rfl⟩
        rw [hc] at hb2 HCC
        clear hc
        go_wp2_with fail
        refine (HCC.out _).mono ?_
        rintro e w2 ⟨rfl, hb3⟩
        have ho2 := own_same ho (fun q hq => hb3.block q (ho.lt q hq).2)
        have hr2 := hr.below hb3 hr.lt
        have hB2 := hB.trans (hb3.mono hB.size)
        clear ho hB hb3 hr p0 p1 p2 p3 p4
        go_wp2
        go_roundw
        case rel => exact ⟨k + 1, by omega, by go_num, by rw [HST.out]; exact ho2, hne, hr2, hB2⟩
        case measure => simp [intOf]; omega
      | true =>
        have HST := Lib.hid (full_yes hb)
        have HCC := Lib.hid hcc
        have HPP := Lib.hid hpp
        have hb2 := hb
        clear hcc hb hpp
        obtain ⟨c, hc⟩ : ∃ c, clo xs (k : Int) = c := ⟨_, rfl⟩
        rw [hc] at hb2 HCC
        clear hc
        go_wp2_with fail
        refine (HCC.out _).mono ?_
        rintro e w2 ⟨rfl, hb3⟩
        have ho2 := own_same ho (fun q hq => hb3.block q (ho.lt q hq).2)
        have hr2 := hr.below hb3 hr.lt
        have hB2 := hB.trans (hb3.mono hB.size)
        clear ho hB hb3 hr p0 p1 p2 p3 p4
        have p0 := hr2.cell0
        have p1 := hr2.cell1
        have p2 := hr2.cell2
        have p3 := hr2.cell3
        have p4 := hr2.cell4
        go_wp2_with fail
        refine (HPP.out _).mono ?_
        rintro e w3 ⟨rfl, hb3⟩
        have ho3 := own_same ho2 (fun q hq => hb3.block q (ho2.lt q hq).2)
        have hr3 := hr2.below hb3 hr2.lt
        have hB3 := hB2.trans (hb3.mono hB2.size)
        clear ho2 hB2 hb3 hr2 p0 p1 p2 p3 p4 hb2 HPP HCC
        obtain ⟨p, hp⟩ : ∃ p, relAll xs (k : Int) = p := ⟨_, rfl⟩
        rw [hp] at HST ⊢
        clear hp
        have H6 := Lib.hid (cell_two_new w3 (.int .i64 k) (.int .i64 p) 137)
        go_wp2_with (at_builtin; refine wpList_append_own _ rfl (.tmp 18) (.tmp 24) 93 rfl w.heap.size 137 i0 (.agg #[.int .i64 0, .int .i64 0]) 2 16 Tryz.underlying93 hi hz0 hz1 hz2 rfl (by decide) _ _ _ rfl (ho3.alloc _) ⟨w3.heap.size, 0, none⟩ 1 1 [_, _] rfl rfl H6.out (by simp [Value.oneCell']) (by unfold maxLen; omega) (by omega) (by have := hB3.size; simp; omega) ?_)
        intro v' w6 hown' hgrow _
        have hB6 : Below w.heap.size w w6 := (hB3.alloc hB3.size _).grown hgrow (by have := hB3.size; simp; omega) (fun q hq => (ho3.lt q hq).1)
        have hr6 : RelAt w6 w.heap.size xs := (hgrow.block w.heap.size (by have := hr3.lt; simp; omega) (fun e => hne.out e.symm)).trans (hr3.alloc _)
        have hne6 : v'.ownBlock ≠ some w.heap.size := by
          intro e
          have h1 := hown'.2
          rcases h1 with ⟨rfl, _⟩ | ⟨g, cap, cur, rfl, _, hh, _⟩
          · cases e
          · cases e
            have := (show w6.heap[w.heap.size]? = _ from hr6).symm.trans hh
            simp at this
        have hown2 : w6.ownsRow w.heap.size 137 2 v' ((fullTo xs k ++ [((k : Int), p)]).length) (pairC (fullTo xs k ++ [((k : Int), p)])) := by
          rw [List.length_append, pairC_app]
          exact hown'
        have HO := Lib.hid (And.intro hown2 (And.intro hne6 (And.intro hr6 hB6)))
        clear hown' hown2 hgrow hr6 hne6 hB6 ho3 hB3 hr3
        go_wp2
        go_roundw
        case rel => exact ⟨k + 1, by omega, by go_num, by rw [HST.out]; exact HO.out.1, Lib.hid HO.out.2.1, HO.out.2.2.1, HO.out.2.2.2⟩
        case measure => simp [intOf]; omega
    · have hi1 : ¬ (((k : Nat) : Int) < ((m - 1 : Nat) : Int) + 1) := by omega
      go_wp2
      go_ret
      obtain rfl : k = m := by omega
      exact ⟨_, rfl, ho, hB⟩

theorem implRectAll_any (ao : Option Addr) (ca : Nat) (xs : List Int) (w : World) (hl : xs.length ≤ 1048576) (hx : Rd w ao xs) :
    Calls Tryz.prog 138 #[.slice ao xs.length ca] w (Gave2 w (fullN xs) (PI (fullL xs)) (relIn xs)) := by
  unfold fullN
  cases hp : relIn xs with
  | false =>
    have HP := Lib.hid hp
    clear hp
    go_enter Tryz.func138, Tryz.ntmps138
    go_wp2_with (go_at_call 16; refine (relationFrom_no _ _ _ _ hl HP.out hx).mono ?_; rintro e w1 ⟨rfl, hb⟩)
    go_ret2
    exact ⟨.slice none 0 0, fun _ => 0, rfl, Own2.empty (World.ownsRow_nil _ _ _ _), hb.alloc hb.size _⟩
  | true =>
    have R := Rl.of hp
    have hle : (fullL xs).length ≤ 1000 := by
      have := full_len xs (2 ^ xs.length)
      have := pow_le16 R.four
      unfold fullL
      omega
    have HA := Lib.hid (fun w => fullRectangles_any R w)
    have HP := Lib.hid hp
    clear hp R
    go_enter Tryz.func138, Tryz.ntmps138
    go_wp2_with fail
    refine (relationFrom_yes _ _ _ _ HP.out hx).mono ?_
    rintro e w1 ⟨rfl, hb⟩
    have x1 := RelAt.new w1 xs
    have B1 := hb.alloc hb.size (.cells #[.int .i64 xs.length, .int .i64 (rowAt xs 0), .int .i64 (rowAt xs 1), .int .i64 (rowAt xs 2), .int .i64 (rowAt xs 3)] 36)
    have p0 := x1.cell0
    have p1 := x1.cell1
    have p2 := x1.cell2
    have p3 := x1.cell3
    have p4 := x1.cell4
    clear x1 hb
    go_wp2_with fail
    refine (HA.out _).mono ?_
    rintro e w3 ⟨v, rfl, ho, hb3⟩
    obtain ⟨vo, vc, rfl, hrd⟩ := prRd_of ho
    have B3 := B1.trans (hb3.mono B1.size)
    clear ho hb3 p0 p1 p2 p3 p4
    go_wp2_with fail
    refine (listsOf_any vo vc (fullL xs) _ hle hrd).mono ?_
    rintro e w4 ⟨v, gs, rfl, ho, hb4⟩
    go_wp2
    go_ret2
    exact ⟨_, gs, rfl, ho.mono B3.size, B3.trans (hb4.mono B3.size)⟩
end Go.Proofs.YthdnpcpimggjnaaGreatDoor

namespace Go.Proofs.YthdnpcpimggjnaaGreatDoor
open Go.RowKit Go.Shelf

/-- all cells lie as they lay, but those of block X and of a list's own block -/
def KeepX (X : Nat) (v : Value) (W W' : World) : Prop :=
  W.heap.size ≤ W'.heap.size ∧ ∀ b o, b ≠ X → some b ≠ v.ownBlock → W.heap[b]? = some o → o.isCells = true → W'.heap[b]? = some o
theorem KeepX.refl (X : Nat) (v : Value) (W : World) : KeepX X v W W := ⟨Nat.le_refl _, fun _ _ _ _ h _ => h⟩
theorem KeepX.trans {X : Nat} {v : Value} {A B C : World} (h : KeepX X v A B) (k : KeepX X v B C) : KeepX X v A C :=
  ⟨Nat.le_trans h.1 k.1, fun b _ hX hv ho hc => k.2 b _ hX hv (h.2 b _ hX hv ho hc) hc⟩
theorem KeepX.below {X : Nat} {v : Value} {A B : World} (h : Below A.heap.size A B) : KeepX X v A B :=
  ⟨h.size, fun b _ _ _ ho _ => (h.block b (Array.getElem?_eq_some_iff.1 ho).1).trans ho⟩
theorem KeepX.drew {X : Nat} {v : Value} (A : World) : KeepX X v A A.drew := ⟨Nat.le_refl _, fun _ _ _ _ h _ => h⟩
theorem keep_row {X : Nat} {u v : Value} {A B : World} {base : Nat} {e : TypeId} {n : Nat} {us : List Value} (h : KeepX X u A B) (ho : A.ownsRow base e 1 v n us) (hX : ∀ q, v.ownBlock = some q → q ≠ X) (hv : ∀ q, v.ownBlock = some q → some q ≠ u.ownBlock) :
    B.ownsRow base e 1 v n us := by
  refine ⟨ho.1, ?_⟩
  rcases ho.2 with h2 | ⟨g, cap, cur, rfl, hb, hg, hr⟩
  · exact .inl h2
  · exact .inr ⟨g, cap, cur, rfl, hb, h.2 g _ (hX g rfl) (hv g rfl) hg rfl, hr⟩
theorem keepX_nil {X : Nat} {v : Value} {A B : World} (h : KeepX X (.slice none 0 0) A B) : KeepX X v A B := ⟨h.1, fun b _ hX _ ho hc => h.2 b _ hX (by simp [Value.ownBlock]) ho hc⟩
theorem below_put {B l : Nat} {W : World} (o : Obj) (h : B ≤ l) : Below B W (W.putObj l o) :=
  ⟨rfl, rfl, rfl, by simp, fun k hk => World.putObj_heap_other (by omega)⟩
theorem keepX_put {X l : Nat} {v : Value} {W : World} {o : Obj} (o' : Obj) (hl : W.heap[l]? = some o) (ho : o.isCells = false) : KeepX X v W (W.putObj l o') :=
  ⟨by simp, fun b o2 _ _ hb hc => by
    by_cases e : b = l
    · subst e
      rw [hl] at hb
      cases hb
      rw [ho] at hc
      cases hc
    · exact (World.putObj_heap_other e).trans hb⟩

theorem keepX_set (X : Nat) (u : Value) (W : World) (v : Value) : KeepX X u W (W.setCell ⟨X, 0, none⟩ v) :=
  ⟨(KeepsOthers.setCell W ⟨X, 0, none⟩ v).size, fun b _ hX _ hb _ => (Below.heap_setCell W ⟨X, 0, none⟩ v b hX).trans hb⟩
end Go.Proofs.YthdnpcpimggjnaaGreatDoor
