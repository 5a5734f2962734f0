/-
  The program's CompReach and CompStar; for lists of at most 2^20 numbers.
-/
import Derived.Test.YtlghenibadkipaaEM
import Derived.Test.YtlghenibadkipaaEL
namespace Go.Proofs.Ytlghenibadkipaa
open Go.RowKit


set_option maxHeartbeats 4000000 in
theorem CompStar1_any {xs : List Int} (h : Rl xs.length xs) (w : World) :
    Calls Try.prog 50 #[relOf xs] w fun e w' => e = .returned (relOf (starL xs)) ∧ Below w.heap.size w w' := by
  have x1 := (RelAt.new w xs).alloc (.cells #[.int .i64 0, .int .i64 0, .int .i64 0, .int .i64 0, .int .i64 0] 42)
  have z1 := rel_zero (w.alloc (.cells #[.int .i64 xs.length, .int .i64 (rowAt xs 0), .int .i64 (rowAt xs 1), .int .i64 (rowAt xs 2), .int .i64 (rowAt xs 3)] 42))
  have B0 := below_two w (.cells #[.int .i64 xs.length, .int .i64 (rowAt xs 0), .int .i64 (rowAt xs 1), .int .i64 (rowAt xs 2), .int .i64 (rowAt xs 3)] 42) (.cells #[.int .i64 0, .int .i64 0, .int .i64 0, .int .i64 0, .int .i64 0] 42)
  rw [World.size_alloc] at z1
  have H := Lib.hid h
  clear h
  have p0 := x1.cell0
  have p1 := x1.cell1
  have p2 := x1.cell2
  have p3 := x1.cell3
  have p4 := x1.cell4
  go_enter Try.func50, Try.ntmps50
  go_wp2_with fail
  refine (powersOf_any H.out _).mono ?_
  rintro e w2 ⟨v, m, a, hr, rfl, ho, hb2⟩
  obtain ⟨g, cap, rfl, _, _⟩ := pow_form ho (by omega)
  have hm := new_le H.out m hr.new
  have hlt := hr.lt
  have hE : fromL xs 0 (m - 0) = starL xs := from_star H.out hr
  have z2 := z1.below hb2 z1.lt
  have B2 := B0.trans (hb2.mono B0.size)
  have HE := Lib.hid hE
  clear x1 z1 p0 p1 p2 p3 p4 hb2 B0 hE hr
  go_wp2_with fail
  refine (from_any H.out hm g cap 0 (by omega) (by omega) _ (own_mono ho (Nat.zero_le _))).mono ?_
  rintro e w3 ⟨rfl, hb3⟩
  have z3 := z2.below hb3 z2.lt
  have B3 := B2.trans (hb3.mono B2.size)
  have q0 := z3.cell0
  have q1 := z3.cell1
  have q2 := z3.cell2
  have q3 := z3.cell3
  have q4 := z3.cell4
  have f0 := z3.free 0
  have f1 := z3.free 1
  have f2 := z3.free 2
  have f3 := z3.free 3
  have f4 := z3.free 4
  clear hb3 B2 z2 ho
  go_wp2
  have bb := fun (W : World) (i : Nat) (v : Value) (h : Below w.heap.size w W) => h.setCell (p := ⟨w.heap.size + 1, i, none⟩) (Nat.le_succ _) v
  exact bodyPost_ret (v := relOf (fromL xs 0 (m - 0))) (by simp [results, Try.results50, go_sem, q0, q1, q2, q3, q4]) rfl ⟨by rw [HE.out], bb _ _ _ (bb _ _ _ (bb _ _ _ (bb _ _ _ (bb _ _ _ B3))))⟩

theorem cf_CompStar (args : Array Value) (w : World) : Sem.run Try.prog (callFunc 50 args) w = .ok (.enter 50 args) w := by kernel_rfl
theorem implCompStar_any (ao : Option Addr) (ca : Nat) (xs : List Int) (w : World) (hl : xs.length ≤ 1048576) (hx : Rd w ao xs) :
    Calls Try.prog 24 #[.slice ao xs.length ca] w (Gave w (ifR (relIn xs) (starL xs)) (relIn xs)) := by
  cases hp : relIn xs with
  | false =>
    have h1 := Lib.hid (madeOfOne_no (.func (.func 50) #[] #[]) ao ca xs w hl hx hp)
    clear hp
    go_enter Try.func24, Try.ntmps24
    go_wp2_with (go_at_call 33; refine h1.out.mono ?_; rintro e w1 ⟨v, rfl, ho, hb⟩)
    go_ret2
    exact ⟨v, rfl, ho, hb⟩
  | true =>
    have R := Rl.of hp
    have h1 := Lib.hid (madeOfOne_yes 50 cf_CompStar starL ao ca xs w hx hp (R.star.len) (fun w => CompStar1_any R w))
    clear hp R
    go_enter Try.func24, Try.ntmps24
    go_wp2_with (go_at_call 33; refine h1.out.mono ?_; rintro e w1 ⟨v, rfl, ho, hb⟩)
    go_ret2
    exact ⟨v, rfl, ho, hb⟩

/-! the model's star -/
theorem mix_zipE {xs ys zs : List Int} {j : Nat} (h : Mix xs (eitherL xs ys) j zs) (hj : j < xs.length) (hy : j < ys.length) :
    Mix xs (eitherL xs ys) (j + 1) (zs.set j (bits .or .i64 (rowAt xs j) (rowAt ys j))) := h.step hj (zip_at _ _ _ _ hj hy)
theorem pt_wrapE (k : Nat) (h : k < 4) : wrap64 (2 ^ k) = pt k := by
  rcases (by omega : k = 0 ∨ k = 1 ∨ k = 2 ∨ k = 3) with rfl | rfl | rfl | rfl <;> decide +kernel

set_option maxHeartbeats 4000000 in
theorem l2Star_any (ao : Option Addr) (ca : Nat) (xs : List Int) (w : World) (h : Rl xs.length xs) (hx : Rd w ao xs) :
    Calls Try.prog 53 #[.slice ao xs.length ca] w fun e w' => ∃ v, e = .returned v ∧
      w'.ownsRow w.heap.size 3 1 v xs.length ((starL xs).map (Value.int .i64)) ∧ Below w.heap.size w w' := by
  have h4 := h.four
  have H := Lib.hid h
  clear h
  go_enter Try.func53, Try.ntmps53
  go_wp2_with fail
  refine (l2Reach_any ao ca xs w H.out.one H.out.four H.out.in16 hx).mono ?_
  rintro e w1 ⟨v, rfl, ho, hB⟩
  obtain ⟨g, cap, rfl, hg1, hg2⟩ := own_form ho H.out.one
  obtain ⟨T, hT⟩ : ∃ T, reachL xs = T := ⟨_, rfl⟩
  rw [hT] at ho
  have RT : Rl xs.length T := hT ▸ H.out.reach
  have HT := Lib.hid (And.intro hT RT)
  clear hT RT
  go_wp2
  go_loopw [4] (fun j wr => ∃ (k2 : Nat) (zs : List Int), k2 ≤ xs.length ∧ j = .int .i64 k2 ∧ Mix T (eitherL T (sameL xs.length)) k2 zs ∧ wr.ownsRow w.heap.size 3 1 (.slice (some ⟨g, 0, none⟩) xs.length cap) xs.length (zs.map (Value.int .i64)) ∧ Below w.heap.size w wr)
    (fun j _ => xs.length - (intOf j).toNat)
  case atStart => exact ⟨0, _, Nat.zero_le _, rfl, Mix.zero _ _, ho, hB⟩
  case round =>
    clear ho hB
    obtain ⟨j, zs, hj, rfl, hmix, ho, hB⟩ := hrel
    by_cases hlj : j < xs.length
    · have hzl : zs.length = xs.length := hmix.1.trans HT.out.2.len
      have hc1 := ho.cellAt j (by omega)
      have hf1 := ho.frozenAt j
      have hz1' : (zs.map (Value.int .i64))[j]? = some (.int .i64 (rowAt zs j)) := by rw [List.getElem?_map, rowAt_get (by omega)]; rfl
      rw [hz1', hmix.at] at hc1
      have hstep := mix_zipE hmix (by rw [HT.out.2.len]; exact hlj) (by rw [sameL_len]; exact hlj)
      rw [sameL_at _ _ hlj] at hstep
      obtain ⟨u, hu⟩ : ∃ u, rowAt T j = u := ⟨_, rfl⟩
      rw [hu] at hc1 hstep
      have hj1 : ((j : Nat) : Int) < (xs.length : Int) := by omega
      have hpt := pt_wrapE j (by have := H.out.four; omega)
      have HSTEP := Lib.hid (And.intro hstep hpt)
      clear hmix hz1' hstep hu hpt
      go_wp2
      go_region
      all_goals
        go_wp2
        go_roundw
        case rel =>
          refine ⟨j + 1, _, by omega, by go_num, HSTEP.out.1, ?_, hB.drew.setCell (by simp; omega) _⟩
          have h := (ho.stored j (.int .i64 (bits .or .i64 u (wrap64 (2 ^ j))))).1
          rw [← List.map_set, HSTEP.out.2] at h
          rw [HSTEP.out.2]
          exact h.drew
        case measure => simp [intOf]; omega
    · obtain rfl : j = xs.length := by omega
      have hfull : zs = eitherL T (sameL xs.length) := Mix.full (xs := T) (by rw [HT.out.2.len]; exact hmix) (by unfold eitherL zipI; rw [List.length_zipWith, sameL_len, HT.out.2.len, Nat.min_self])
      have hfin : zs = starL xs := by rw [hfull, ← HT.out.1]; rfl
      rw [hfin] at ho
      clear hmix hfull hfin
      go_wp2
      go_ret
      exact ⟨_, rfl, ho, hB⟩

theorem specCompStar_any (ao : Option Addr) (ca : Nat) (xs : List Int) (w : World) (hl : xs.length ≤ 1048576) (hx : Rd w ao xs) :
    Calls Try.prog 25 #[.slice ao xs.length ca] w (Gave w (ifR (relIn xs) (starL xs)) (relIn xs)) := by
  have h1 := specRelIn_any ao ca xs w hl hx
  cases hp : relIn xs with
  | false =>
    rw [hp] at h1
    have H1 := Lib.hid h1
    clear h1 hp
    go_enter Try.func25, Try.ntmps25
    go_wp2_with (go_at_call 40; refine H1.out.mono ?_; rintro e w1 ⟨rfl, hd⟩)
    go_ret2
    have hh : w.heap.size = w1.heap.size := by rw [hd.heap]
    exact ⟨_, rfl, by rw [hh]; exact row_lit0 w1, (hd.below _).alloc (by omega) _⟩
  | true =>
    rw [hp] at h1
    have R := Lib.hid (Rl.of hp)
    have H1 := Lib.hid h1
    clear h1 hp
    go_enter Try.func25, Try.ntmps25
    go_wp2_with fail
    refine H1.out.mono ?_
    rintro e w1 ⟨rfl, hd⟩
    go_wp2_with fail
    refine (l2Star_any ao ca xs w1 R.out (hd.rd hx)).mono ?_
    rintro e w2 ⟨v, rfl, ho, hb⟩
    go_wp2
    go_ret2
    have hh : w1.heap.size = w.heap.size := by rw [hd.heap]
    rw [hh] at ho hb
    exact ⟨v, rfl, by rw [show (ifR true (starL xs)).length = xs.length from R.out.star.len]; exact ho, (hd.below _).trans hb⟩
end Go.Proofs.Ytlghenibadkipaa
