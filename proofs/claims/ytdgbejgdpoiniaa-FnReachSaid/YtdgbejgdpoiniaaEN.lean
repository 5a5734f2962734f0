/-
  The program's CompReach and CompStar; for lists of at most 2^20 numbers.
-/
import Derived.Test.YtdgbejgdpoiniaaEM
import Derived.Test.YtdgbejgdpoiniaaEL
namespace Go.Proofs.Ytdgbejgdpoiniaa
open Go.RowKit


set_option maxHeartbeats 4000000 in
theorem CompReach1_any {xs : List Int} (h : Rl xs.length xs) (w : World) :
    Calls Try.prog 25 #[relOf xs] w fun e w' => e = .returned (relOf (reachL xs)) ∧ Below w.heap.size w w' := by
  have x1 := (RelAt.new w xs).alloc (.cells #[.int .i64 0, .int .i64 0, .int .i64 0, .int .i64 0, .int .i64 0] 36)
  have z1 := rel_zero (w.alloc (.cells #[.int .i64 xs.length, .int .i64 (rowAt xs 0), .int .i64 (rowAt xs 1), .int .i64 (rowAt xs 2), .int .i64 (rowAt xs 3)] 36))
  have B0 := below_two w (.cells #[.int .i64 xs.length, .int .i64 (rowAt xs 0), .int .i64 (rowAt xs 1), .int .i64 (rowAt xs 2), .int .i64 (rowAt xs 3)] 36) (.cells #[.int .i64 0, .int .i64 0, .int .i64 0, .int .i64 0, .int .i64 0] 36)
  rw [World.size_alloc] at z1
  have H := Lib.hid h
  clear h
  have p0 := x1.cell0
  have p1 := x1.cell1
  have p2 := x1.cell2
  have p3 := x1.cell3
  have p4 := x1.cell4
  go_enter Try.func25, Try.ntmps25
  go_wp2_with fail
  refine (powersOf_any H.out _).mono ?_
  rintro e w2 ⟨v, m, a, hr, rfl, ho, hb2⟩
  obtain ⟨g, cap, rfl, _, _⟩ := pow_form ho (by omega)
  have hm := new_le H.out m hr.new
  have hlt := hr.lt
  have hE := from_reach H.out hr
  have z2 := z1.below hb2 z1.lt
  have B2 := B0.trans (hb2.mono B0.size)
  have HE := Lib.hid hE
  clear x1 z1 p0 p1 p2 p3 p4 hb2 B0 hE hr
  go_wp2_with fail
  refine (from_any H.out hm g cap 1 (by omega) (by omega) _ (own_mono ho (Nat.zero_le _))).mono ?_
  rintro e w3 ⟨rfl, hb3⟩
  have z3 := z2.below hb3 z2.lt
  have B3 := B2.trans (hb3.mono B2.size)
  have q0 := z3.cell0
  have q1 := z3.cell1
  have q2 := z3.cell2
  have q3 := z3.cell3
  have q4 := z3.cell4
  have f0 := z3.free 0
  have f1 := z3.free 1
  have f2 := z3.free 2
  have f3 := z3.free 3
  have f4 := z3.free 4
  clear hb3 B2 z2 ho
  go_wp2
  have bb := fun (W : World) (i : Nat) (v : Value) (h : Below w.heap.size w W) => h.setCell (p := ⟨w.heap.size + 1, i, none⟩) (Nat.le_succ _) v
  exact bodyPost_ret (v := relOf (fromL xs 1 (m - 1))) (by simp [results, Try.results25, go_sem, q0, q1, q2, q3, q4]) rfl ⟨by rw [HE.out], bb _ _ _ (bb _ _ _ (bb _ _ _ (bb _ _ _ (bb _ _ _ B3))))⟩

theorem cf_CompReach (args : Array Value) (w : World) : Sem.run Try.prog (callFunc 25 args) w = .ok (.enter 25 args) w := by kernel_rfl
theorem implCompReach_any (ao : Option Addr) (ca : Nat) (xs : List Int) (w : World) (hl : xs.length ≤ 1048576) (hx : Rd w ao xs) :
    Calls Try.prog 8 #[.slice ao xs.length ca] w (Gave w (ifR (relIn xs) (reachL xs)) (relIn xs)) := by
  cases hp : relIn xs with
  | false =>
    have h1 := Lib.hid (madeOfOne_no (.func (.func 25) #[] #[]) ao ca xs w hl hx hp)
    clear hp
    go_enter Try.func8, Try.ntmps8
    go_wp2_with (go_at_call 24; refine h1.out.mono ?_; rintro e w1 ⟨v, rfl, ho, hb⟩)
    go_ret2
    exact ⟨v, rfl, ho, hb⟩
  | true =>
    have R := Rl.of hp
    have h1 := Lib.hid (madeOfOne_yes 25 cf_CompReach reachL ao ca xs w hx hp (R.reach.len) (fun w => CompReach1_any R w))
    clear hp R
    go_enter Try.func8, Try.ntmps8
    go_wp2_with (go_at_call 24; refine h1.out.mono ?_; rintro e w1 ⟨v, rfl, ho, hb⟩)
    go_ret2
    exact ⟨v, rfl, ho, hb⟩

/-! the model's star -/
theorem mix_zipE {xs ys zs : List Int} {j : Nat} (h : Mix xs (eitherL xs ys) j zs) (hj : j < xs.length) (hy : j < ys.length) :
    Mix xs (eitherL xs ys) (j + 1) (zs.set j (bits .or .i64 (rowAt xs j) (rowAt ys j))) := h.step hj (zip_at _ _ _ _ hj hy)
theorem pt_wrapE (k : Nat) (h : k < 4) : wrap64 (2 ^ k) = pt k := by
  rcases (by omega : k = 0 ∨ k = 1 ∨ k = 2 ∨ k = 3) with rfl | rfl | rfl | rfl <;> decide +kernel

end Go.Proofs.Ytdgbejgdpoiniaa
