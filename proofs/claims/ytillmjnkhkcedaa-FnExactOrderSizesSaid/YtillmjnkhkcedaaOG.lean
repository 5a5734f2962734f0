/-
  The sizes of the greatest chain and antichain, of the model: OrderSizes; for lists of at most 2^20 numbers.
-/
import Derived.Test.YtillmjnkhkcedaaOF
import Derived.Test.YtillmjnkhkcedaaW
namespace Go.Proofs.Ytillmjnkhkcedaa
open Go.RowKit

/-- whether the first k points of a set are related with all of it, as the model asks it -/
def chTo (xs ys : List Int) (z : Int) : Nat → Bool
  | 0 => true
  | k + 1 => if hasB z k then chTo xs ys z k && (bits .andNot .i64 z (bits .or .i64 (rowAt xs k) (rowAt ys k)) == 0) else chTo xs ys z k
/-- whether none of the first k points of a set is related with another one -/
def anTo (xs ys : List Int) (z : Int) : Nat → Bool
  | 0 => true
  | k + 1 => if hasB z k then anTo xs ys z k && (bits .andNot .i64 (bits .and .i64 z (bits .or .i64 (rowAt xs k) (rowAt ys k))) (pt k) == 0) else anTo xs ys z k
theorem ch_succ (xs ys : List Int) (z : Int) (k : Nat) : chTo xs ys z (k + 1) = if hasB z k then chTo xs ys z k && (bits .andNot .i64 z (bits .or .i64 (rowAt xs k) (rowAt ys k)) == 0) else chTo xs ys z k := rfl
theorem an_succ (xs ys : List Int) (z : Int) (k : Nat) : anTo xs ys z (k + 1) = if hasB z k then anTo xs ys z k && (bits .andNot .i64 (bits .and .i64 z (bits .or .i64 (rowAt xs k) (rowAt ys k))) (pt k) == 0) else anTo xs ys z k := rfl
theorem b_part : ∀ z u : Fin 16, partB (z.val : Int) (u.val : Int) = true ↔ ∀ j : Fin 4, hasB (z.val : Int) j.val = true → hasB (u.val : Int) j.val = true := by decide +kernel
theorem b_anti : ∀ z l : Fin 16, ∀ i : Fin 4, (bits .andNot .i64 (bits .and .i64 (z.val : Int) (l.val : Int)) (pt i.val) == 0) = true ↔ ∀ j : Fin 4, hasB (z.val : Int) j.val = true → hasB (l.val : Int) j.val = true → j = i := by decide +kernel
theorem b_in : ∀ n : Fin 5, ∀ z : Fin 16, z.val < 2 ^ n.val → ∀ j : Fin 4, hasB (z.val : Int) j.val = true → j.val < n.val := by decide +kernel
theorem or_lnk {n : Nat} {xs : List Int} (h : Rl n xs) (k : Nat) (hk : k < n) : bits .or .i64 (rowAt xs k) (rowAt (turnL xs) k) = rowAt (lnkL xs) k :=
  (zipAt _ _ _ _ (by rw [h.len]; exact hk) (by rw [h.turn.len]; exact hk)).symm
theorem ch_iff {n : Nat} {xs : List Int} (h : Rl n xs) (z : Fin 16) : ∀ k, k ≤ n → (chTo xs (turnL xs) (z.val : Int) k = true ↔ ∀ i, i < k → hasB (z.val : Int) i = true → ∀ j : Fin 4, hasB (z.val : Int) j.val = true → hB (lnkL xs) i j.val = true)
  | 0, _ => ⟨fun _ i hi => by omega, fun _ => rfl⟩
  | k + 1, hk => by
    have ih := ch_iff h z k (by omega)
    obtain ⟨u, hu, _⟩ := h.lnk.row k
    have hp := b_part z u
    unfold partB at hp
    rw [ch_succ, or_lnk h k (by omega), hu]
    have hl : ∀ j, hB (lnkL xs) k j = hasB (u.val : Int) j := fun j => by unfold hB; rw [hu]
    cases hz : hasB (z.val : Int) k with
    | false =>
      rw [if_neg Bool.false_ne_true, ih]
      constructor
      · intro g i hi hzi
        by_cases e : i = k
        · subst e
          rw [hz] at hzi
          cases hzi
        · exact g i (by omega) hzi
      · exact fun g i hi hzi => g i (by omega) hzi
    | true =>
      rw [if_pos rfl, Bool.and_eq_true, ih, hp]
      constructor
      · rintro ⟨g, g2⟩ i hi hzi j hj
        by_cases e : i = k
        · subst e
          rw [hl]
          exact g2 j hj
        · exact g i (by omega) hzi j hj
      · intro g
        exact ⟨fun i hi hzi => g i (by omega) hzi, fun j hj => by rw [← hl]; exact g k (by omega) hz j hj⟩
theorem an_iff {n : Nat} {xs : List Int} (h : Rl n xs) (z : Fin 16) : ∀ k, k ≤ n → (anTo xs (turnL xs) (z.val : Int) k = true ↔ ∀ i, i < k → hasB (z.val : Int) i = true → ∀ j : Fin 4, hasB (z.val : Int) j.val = true → hB (lnkL xs) i j.val = true → j.val = i)
  | 0, _ => ⟨fun _ i hi => by omega, fun _ => rfl⟩
  | k + 1, hk => by
    have ih := an_iff h z k (by omega)
    have h4 := h.four
    obtain ⟨u, hu, _⟩ := h.lnk.row k
    have hp := b_anti z u ⟨k, by omega⟩
    dsimp only at hp
    rw [an_succ, or_lnk h k (by omega), hu]
    have hl : ∀ j, hB (lnkL xs) k j = hasB (u.val : Int) j := fun j => by unfold hB; rw [hu]
    cases hz : hasB (z.val : Int) k with
    | false =>
      rw [if_neg Bool.false_ne_true, ih]
      constructor
      · intro g i hi hzi
        by_cases e : i = k
        · subst e
          rw [hz] at hzi
          cases hzi
        · exact g i (by omega) hzi
      · exact fun g i hi hzi => g i (by omega) hzi
    | true =>
      rw [if_pos rfl, Bool.and_eq_true, ih, hp]
      constructor
      · rintro ⟨g, g2⟩ i hi hzi j hj hlj
        by_cases e : i = k
        · subst e
          rw [hl] at hlj
          exact congrArg Fin.val (g2 j hj hlj)
        · exact g i (by omega) hzi j hj hlj
      · intro g
        exact ⟨fun i hi hzi => g i (by omega) hzi, fun j hj hlj => Fin.ext (g k (by omega) hz j hj (by rw [hl]; exact hlj))⟩
theorem ch_eq {n : Nat} {xs : List Int} (h : Rl n xs) (z : Fin 16) (hz : z.val < 2 ^ n) : chTo xs (turnL xs) (z.val : Int) n = partB (z.val : Int) (relAll (lnkL xs) (z.val : Int)) := by
  apply bool_iff
  have h4 := h.four
  obtain ⟨u, hu, _, hj⟩ := relAll_row h.lnk (z.val : Int)
  rw [ch_iff h z n (Nat.le_refl _), hu, b_part z u]
  constructor
  · intro g j hzj
    rw [hj j.val (b_in ⟨n, by omega⟩ z hz j hzj)]
    exact fun i hi hzi => g i hi hzi j hzj
  · intro g i hi hzi j hzj
    exact (hj j.val (b_in ⟨n, by omega⟩ z hz j hzj)).1 (g j hzj) i hi hzi
theorem an_eq {n : Nat} {xs : List Int} (h : Rl n xs) (z : Fin 16) (hz : z.val < 2 ^ n) : anTo xs (turnL xs) (z.val : Int) n = partB (z.val : Int) (relAll (aptL xs) (z.val : Int)) := by
  apply bool_iff
  have h4 := h.four
  obtain ⟨u, hu, _, hj⟩ := relAll_row h.apt (z.val : Int)
  rw [an_iff h z n (Nat.le_refl _), hu, b_part z u]
  have ha : ∀ i j, i < n → j < n → hB (aptL xs) i j = !(hB (lnkL xs) i j && !decide (j = i)) := fun i j hi hj => by
    unfold aptL
    rw [hB_other h.lnk.off i j hi hj, hB_off h.lnk i j hi hj]
  constructor
  · intro g j hzj
    have hjn := b_in ⟨n, by omega⟩ z hz j hzj
    rw [hj j.val hjn]
    intro i hi hzi
    rw [ha i j.val hi hjn]
    have := g i hi hzi j hzj
    cases hl : hB (lnkL xs) i j.val with
    | false => rfl
    | true => rw [decide_eq_true (this hl)]; rfl
  · intro g i hi hzi j hzj hl
    have hjn := b_in ⟨n, by omega⟩ z hz j hzj
    have := (hj j.val hjn).1 (g j hzj) i hi hzi
    rw [ha i j.val hi hjn, hl] at this
    by_cases e : j.val = i
    · exact e
    · rw [decide_eq_false e] at this
      cases this

theorem pt_wrap5 (k : Nat) (h : k < 4) : IntKind.i64.wrap (2 ^ k) = pt k := by
  rcases (by omega : k = 0 ∨ k = 1 ∨ k = 2 ∨ k = 3) with rfl | rfl | rfl | rfl <;> decide +kernel
set_option maxHeartbeats 8000000 in
theorem specSizes_walk (xs ys l a : List Int) (ao : Option Addr) (ca : Nat) (w : World) (h1 : 1 ≤ xs.length) (h4 : xs.length ≤ 4) (hx : Rd w ao xs) (hyl : ys.length = xs.length)
    (h0 : Calls Try.prog 13 #[.slice ao xs.length ca] w fun e w' => e = .returned (.bool true) ∧ Below w.heap.size w w')
    (ht : ∀ w, Rd w ao xs → Calls Try.prog 55 #[.slice ao xs.length ca] w fun e w' => ∃ v, e = .returned v ∧ w'.ownsRow w.heap.size 3 1 v ys.length (ys.map (Value.int .i64)) ∧ Below w.heap.size w w')
    (hc : ∀ z : Fin 16, z.val < 2 ^ xs.length → chTo xs ys (z.val : Int) xs.length = partB (z.val : Int) (relAll l (z.val : Int)))
    (ha : ∀ z : Fin 16, z.val < 2 ^ xs.length → anTo xs ys (z.val : Int) xs.length = partB (z.val : Int) (relAll a (z.val : Int))) :
    Calls Try.prog 31 #[.slice ao xs.length ca] w fun e w' => e = .returned (.tuple #[.int .i64 (togTo l (2 ^ xs.length)), .int .i64 (togTo a (2 ^ xs.length)), .bool true]) ∧ Below w.heap.size w w' := by
  have hw := pow_wrap xs.length h1 h4
  have hm := pow_le16 h4
  obtain ⟨m, hm2⟩ : ∃ m, 2 ^ xs.length = m := ⟨_, rfl⟩
  rw [hm2] at hw hm hc ha ⊢
  have H0 := Lib.hid (And.intro h0 ht)
  have HC := Lib.hid (And.intro hc (And.intro ha hyl))
  clear h0 ht hc ha hyl hm2
  go_enter Try.func31, Try.ntmps31
  go_wp2_with fail
  refine H0.out.1.mono ?_
  rintro e w1 ⟨rfl, hb⟩
  have hx1 := hx.below hb
  clear hx
  go_wp2_with fail
  refine (H0.out.2 _ hx1).mono ?_
  rintro e w2 ⟨v, rfl, ho, hb2⟩
  obtain ⟨yo, cy, rfl, hy2⟩ := row_rd ho
  have hx2 := hx1.below hb2
  have B2 := hb.trans (hb2.mono hb.size)
  have hyn : (ys.length : Int) = (xs.length : Int) := by rw [HC.out.2.2]
  clear ho hb hb2 hx1 H0
  go_wp2
  go_loopw [5, 6, 8] (fun c d i wr => ∃ k : Nat, k ≤ m ∧ i = .int .i64 k ∧ c = .int .i64 (togTo l k) ∧ d = .int .i64 (togTo a k) ∧ Dn w2 wr)
    (fun _ _ i _ => m - (intOf i).toNat)
  case atStart => exact ⟨0, Nat.zero_le _, rfl, rfl, rfl, Dn.refl _⟩
  case round =>
    obtain ⟨k, hk, rfl, rfl, rfl, hd⟩ := hrel
    have tc := tog_le l k
    have ta := tog_le a k
    by_cases hlt : k < m
    · have hi1 : ((k : Nat) : Int) < (m : Int) := by omega
      have hcn := cnt_le (k : Int)
      have hsz := fun wr => l1Size_any ⟨k, by omega⟩ wr
      have HSZ := Lib.hid hsz
      have hbb := fun j (h : j < 4) => b_bit ⟨k, by omega⟩ ⟨j, h⟩
      have HBB := Lib.hid hbb
      have hcc := HC.out.1 ⟨k, by omega⟩ hlt
      have haa := HC.out.2.1 ⟨k, by omega⟩ hlt
      have HST := Lib.hid (And.intro (tog_succ l k) (And.intro (tog_succ a k) (And.intro hcc haa)))
      clear hsz hbb hcc haa
      go_wp2
      go_loopw [9, 10, 11] (fun b c i wr => ∃ j : Nat, j ≤ xs.length ∧ i = .int .i64 j ∧ b = .bool (chTo xs ys (k : Int) j) ∧ c = .bool (anTo xs ys (k : Int) j) ∧ Dn w2 wr)
        (fun _ _ i _ => xs.length - (intOf i).toNat)
      case atStart => exact ⟨0, Nat.zero_le _, rfl, rfl, rfl, hd⟩
      case round =>
        clear hd
        obtain ⟨j, hj, rfl, rfl, rfl, hd⟩ := hrel
        by_cases hlj : j < xs.length
        · obtain ⟨b, off, x, hxk, rfl, hbl, hc1⟩ := (hd.rd hx2).get j hlj
          obtain ⟨b2, off2, y, hyk, rfl, hbl2, hc2⟩ := (hd.rd hy2).get j (by rw [HC.out.2.2]; exact hlj)
          rw [rowA hxk] at hc1
          rw [rowA hyk] at hc2
          have hj1 : ((j : Nat) : Int) < (xs.length : Int) := by omega
          have hbj := HBB.out j (by omega)
          have hpw : IntKind.i64.wrap (2 ^ j) = pt j := pt_wrap5 j (by omega)
          have HCS := Lib.hid (And.intro (ch_succ xs ys (k : Int) j) (an_succ xs ys (k : Int) j))
          clear hx2 hy2 hxk hyk
          cases hb : bitB (k : Int) j with
          | false =>
            rw [hb] at hbj
            have hcs := HCS.out
            rw [← hbj] at hcs
            have HCS := Lib.hid hcs
            clear hcs hbj
            have hb2 : (bits .and .i64 ((k : Int) / 2 ^ j) 1 == 1) = false := hb
            clear hb
            go_wp2
            go_roundw
            case rel => exact ⟨j + 1, by omega, by go_num, by rw [HCS.out.1]; rfl, by rw [HCS.out.2]; rfl, hd⟩
            case measure => simp [intOf]; omega
          | true =>
            rw [hb] at hbj
            have hcs := HCS.out
            rw [← hbj, if_pos rfl, if_pos rfl] at hcs
            have hb2 : (bits .and .i64 ((k : Int) / 2 ^ j) 1 == 1) = true := hb
            clear hb hbj
            obtain ⟨xj, hxj⟩ : ∃ v, rowAt xs j = v := ⟨_, rfl⟩
            obtain ⟨yj, hyj⟩ : ∃ v, rowAt ys j = v := ⟨_, rfl⟩
            rw [hxj, hyj] at hcs
            rw [hxj] at hc1
            rw [hyj] at hc2
            clear hxj hyj
            obtain ⟨c0, hc0⟩ : ∃ v, chTo xs ys (k : Int) j = v := ⟨_, rfl⟩
            obtain ⟨a0, ha0⟩ : ∃ v, anTo xs ys (k : Int) j = v := ⟨_, rfl⟩
            rw [hc0, ha0] at hcs ⊢
            clear hc0 ha0
            obtain ⟨c1, he1⟩ : ∃ v, (bits .andNot .i64 (k : Int) (bits .or .i64 xj yj) == 0) = v := ⟨_, rfl⟩
            obtain ⟨a1, he2⟩ : ∃ v, (bits .andNot .i64 (bits .and .i64 (k : Int) (bits .or .i64 xj yj)) (pt j) == 0) = v := ⟨_, rfl⟩
            rw [he1, he2] at hcs
            have HCS := Lib.hid hcs
            clear hcs
            cases c0
            all_goals cases a0
            all_goals
              go_wp2
              go_quiet (fail)
              go_wp2
              go_quiet (fail)
              go_wp2
              go_roundw
              case rel => exact ⟨j + 1, by omega, by go_num, by rw [HCS.out.1]; rfl, by rw [HCS.out.2]; rfl, hd.trans (by first | exact Dn.refl _ | exact Dn.drewN _ _ | exact (Dn.drewN _ _).trans (Dn.drewN _ _))⟩
              case measure => simp [intOf]; omega
        · obtain rfl : j = xs.length := by omega
          have hst := HST.out
          rw [← hst.2.2.1, ← hst.2.2.2] at hst
          have h1 := hst.1
          have h2 := hst.2.1
          clear hst HST
          obtain ⟨pc, hpc⟩ : ∃ v, chTo xs ys (k : Int) xs.length = v := ⟨_, rfl⟩
          obtain ⟨pa, hpa⟩ : ∃ v, anTo xs ys (k : Int) xs.length = v := ⟨_, rfl⟩
          obtain ⟨g1, hg1⟩ : ∃ v, togTo l k = v := ⟨_, rfl⟩
          obtain ⟨g2, hg2⟩ : ∃ v, togTo a k = v := ⟨_, rfl⟩
          obtain ⟨c, hc⟩ : ∃ v, cnt (k : Int) = v := ⟨_, rfl⟩
          rw [hpc, hg1, hc] at h1
          rw [hpa, hg2, hc] at h2
          rw [hc] at hcn HSZ
          rw [hg1] at tc ⊢
          rw [hg2] at ta ⊢
          rw [hpc, hpa]
          clear hpc hpa hg1 hg2 hc
          by_cases e1 : g1 < c
          all_goals by_cases e2 : g2 < c
          all_goals cases pc
          all_goals cases pa
          all_goals
            simp only [Bool.false_eq_true, if_true, if_false, e1, e2] at h1 h2
            have HG := Lib.hid (And.intro h1 h2)
            clear h1 h2
            go_wp2_with (go_at_call 56; refine (HSZ.out _).mono ?_; rintro e w3 ⟨rfl, rfl⟩)
            go_roundw
            case rel => exact ⟨k + 1, by omega, by go_num, by rw [HG.out.1], by rw [HG.out.2], hd⟩
            case measure => simp [intOf]; omega
    · go_wp2
      go_ret3
      obtain rfl : k = m := by omega
      exact ⟨rfl, B2.trans (hd.below _)⟩

theorem specOrderSizes_any (ao : Option Addr) (ca : Nat) (xs : List Int) (w : World) (hl : xs.length ≤ 1048576) (hx : Rd w ao xs) :
    Calls Try.prog 31 #[.slice ao xs.length ca] w fun e w' => e = .returned (.tuple #[.int .i64 (chainN xs), .int .i64 (antiN xs), .bool (ordB xs)]) ∧ Below w.heap.size w w' := by
  have h1 := specOrderIn_any ao ca xs w hl hx
  unfold chainN antiN
  cases hp : ordB xs with
  | false =>
    rw [hp] at h1
    have H1 := Lib.hid h1
    clear h1 hp hx
    go_enter Try.func31, Try.ntmps31
    go_wp2_with fail
    refine H1.out.mono ?_
    rintro e w1 ⟨rfl, hb⟩
    go_wp2
    go_ret3
    exact ⟨rfl, hb⟩
  | true =>
    rw [hp] at h1
    have R := ord_rl hp
    refine specSizes_walk xs (turnL xs) (lnkL xs) (aptL xs) ao ca w R.one R.four hx R.turn.len h1 (fun w h => ?_) (fun z hz => ch_eq R z hz) (fun z hz => an_eq R z hz)
    rw [R.turn.len]
    exact l1Turned_any ao ca xs w (ord_yes hp).1 h
end Go.Proofs.Ytillmjnkhkcedaa
