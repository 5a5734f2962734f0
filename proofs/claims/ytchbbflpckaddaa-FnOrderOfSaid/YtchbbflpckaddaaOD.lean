/-
  What covers: the program's covers and OrderCovers, the model's l5Strict and OrderCovers; for lists of at most 2^20 numbers.
-/
import Derived.Test.YtchbbflpckaddaaOC
import Derived.Test.YtchbbflpckaddaaHB
import Derived.Test.YtchbbflpckaddaaDB
namespace Go.Proofs.Ytchbbflpckaddaa
open Go.RowKit

/-- who covers -/
def covL (xs : List Int) : List Int := bothL (offI xs) (otherL (compL (offI xs) (offI xs)))
theorem Rl.cov {n : Nat} {xs : List Int} (h : Rl n xs) : Rl n (covL xs) := h.off.both (h.off.comp h.off).other

set_option maxRecDepth 100000 in
set_option maxHeartbeats 4000000 in
theorem covers_walk (xs a c o r : List Int) (w : World)
    (h1 : ∀ w, Calls Try.prog 87 #[relOf xs] w fun e w' => e = .returned (relOf a) ∧ Below w.heap.size w w')
    (h2 : ∀ w, Calls Try.prog 95 #[relOf a, relOf a] w fun e w' => e = .returned (relOf c) ∧ Below w.heap.size w w')
    (h3 : ∀ w, Calls Try.prog 96 #[relOf c] w fun e w' => e = .returned (relOf o) ∧ Below w.heap.size w w')
    (h4 : ∀ w, Calls Try.prog 94 #[relOf a, relOf o] w fun e w' => e = .returned (relOf r) ∧ Below w.heap.size w w') :
    Calls Try.prog 50 #[relOf xs] w fun e w' => e = .returned (relOf r) ∧ Below w.heap.size w w' := by
  have x0 := (OrdAt.new w xs).alloc (.cells #[.int .i64 0, .int .i64 0, .int .i64 0, .int .i64 0, .int .i64 0] 43)
  have z0 := rel_zero (w.alloc (.cells #[.int .i64 xs.length, .int .i64 (rowAt xs 0), .int .i64 (rowAt xs 1), .int .i64 (rowAt xs 2), .int .i64 (rowAt xs 3)] 45))
  have B0 := below_two w (.cells #[.int .i64 xs.length, .int .i64 (rowAt xs 0), .int .i64 (rowAt xs 1), .int .i64 (rowAt xs 2), .int .i64 (rowAt xs 3)] 45) (.cells #[.int .i64 0, .int .i64 0, .int .i64 0, .int .i64 0, .int .i64 0] 43)
  simp only [World.size_alloc] at z0
  have H := Lib.hid (And.intro h1 (And.intro h2 (And.intro h3 h4)))
  clear h1 h2 h3 h4
  have p0 := x0.cell0
  have p1 := x0.cell1
  have p2 := x0.cell2
  have p3 := x0.cell3
  have p4 := x0.cell4
  go_enter Try.func50, Try.ntmps50
  go_wp2_with fail
  refine (H.out.1 _).mono ?_
  rintro e w1 ⟨rfl, hb⟩
  have z1 := (z0.below hb z0.lt).alloc (.cells #[.int .i64 a.length, .int .i64 (rowAt a 0), .int .i64 (rowAt a 1), .int .i64 (rowAt a 2), .int .i64 (rowAt a 3)] 43)
  have x1 := RelAt.new w1 a
  have B1 := (B0.trans (hb.mono B0.size)).alloc (Nat.le_trans B0.size hb.size) (.cells #[.int .i64 a.length, .int .i64 (rowAt a 0), .int .i64 (rowAt a 1), .int .i64 (rowAt a 2), .int .i64 (rowAt a 3)] 43)
  have nq : w1.heap.size ≠ w.heap.size + 1 := by have := hb.size; simp at this; omega
  have mq : w.heap.size + 1 ≠ w1.heap.size := fun e => nq e.symm
  have bnq : (w1.heap.size == w.heap.size + 1) = false := beq_eq_false_iff_ne.2 nq
  have bmq : (w.heap.size + 1 == w1.heap.size) = false := beq_eq_false_iff_ne.2 mq
  clear hb B0 x0 z0 p0 p1 p2 p3 p4
  have p0 := x1.cell0
  have p1 := x1.cell1
  have p2 := x1.cell2
  have p3 := x1.cell3
  have p4 := x1.cell4
  go_wp2
  obtain ⟨W0, hW0⟩ : ∃ W0, w1.alloc (.cells #[.int .i64 a.length, .int .i64 (rowAt a 0), .int .i64 (rowAt a 1), .int .i64 (rowAt a 2), .int .i64 (rowAt a 3)] 43) = W0 := ⟨_, rfl⟩
  rw [hW0] at p0 p1 p2 p3 p4 x1 z1 B1 ⊢
  clear hW0
  have x := x1.drew
  have z := z1.drew
  have B := B1.drew
  clear x1 z1 B1
  go_region_held (fun w' => w'.cell? ⟨w1.heap.size, 0, none⟩ = some (.int .i64 a.length) ∧ w'.cell? ⟨w1.heap.size, 1, none⟩ = some (.int .i64 (rowAt a 0)) ∧ w'.cell? ⟨w1.heap.size, 2, none⟩ = some (.int .i64 (rowAt a 1)) ∧ w'.cell? ⟨w1.heap.size, 3, none⟩ = some (.int .i64 (rowAt a 2)) ∧ w'.cell? ⟨w1.heap.size, 4, none⟩ = some (.int .i64 (rowAt a 3))) (go_keep) (first
    | (go_at_call 95; refine (H.out.2.1 _).mono ?_; rintro e w2 ⟨rfl, hb⟩; have x := x.below hb x.lt; have B := B.trans (hb.mono B.size); have p0 := x.cell0; have p1 := x.cell1; have p2 := x.cell2; have p3 := x.cell3; have p4 := x.cell4; have z := z.below hb z.lt; have f0 := z.free 0; have f1 := z.free 1; have f2 := z.free 2; have f3 := z.free 3; have f4 := z.free 4; have u0 := z.cell0; have u1 := z.cell1; have u2 := z.cell2; have u3 := z.cell3; have u4 := z.cell4; clear hb)
    | (go_at_call 96; refine (H.out.2.2.1 _).mono ?_; rintro e w3 ⟨rfl, hb⟩; have x := x.below hb x.lt; have B := B.trans (hb.mono B.size); have p0 := x.cell0; have p1 := x.cell1; have p2 := x.cell2; have p3 := x.cell3; have p4 := x.cell4; have z := z.below hb z.lt; have f0 := z.free 0; have f1 := z.free 1; have f2 := z.free 2; have f3 := z.free 3; have f4 := z.free 4; have u0 := z.cell0; have u1 := z.cell1; have u2 := z.cell2; have u3 := z.cell3; have u4 := z.cell4; clear hb)
    | (go_at_call 94; refine (H.out.2.2.2 _).mono ?_; rintro e w4 ⟨rfl, hb⟩; have x := x.below hb x.lt; have B := B.trans (hb.mono B.size); have p0 := x.cell0; have p1 := x.cell1; have p2 := x.cell2; have p3 := x.cell3; have p4 := x.cell4; have z := z.below hb z.lt; have f0 := z.free 0; have f1 := z.free 1; have f2 := z.free 2; have f3 := z.free 3; have f4 := z.free 4; have u0 := z.cell0; have u1 := z.cell1; have u2 := z.cell2; have u3 := z.cell3; have u4 := z.cell4; clear hb))
  all_goals
    go_wp2
    refine bodyPost_ret (v := relOf r) (by simp [results, Try.results50, go_sem, u0, u1, u2, u3, u4]) rfl ⟨rfl, ?_⟩
    have bb := fun (W : World) (j : Nat) (v : Value) (h : Below w.heap.size w W) => h.setCell (p := ⟨w.heap.size + 1, j, none⟩) (by simp) v
    exact bb _ _ _ (bb _ _ _ (bb _ _ _ (bb _ _ _ (bb _ _ _ B))))
theorem covers_any {n : Nat} {xs : List Int} (h : Rl n xs) (w : World) : Calls Try.prog 50 #[relOf xs] w fun e w' => e = .returned (relOf (covL xs)) ∧ Below w.heap.size w w' :=
  covers_walk xs (offI xs) (compL (offI xs) (offI xs)) (otherL (compL (offI xs) (offI xs))) (covL xs) w (fun w => offR h w) (fun w => then_any h.off h.off w) (fun w => otherR (h.off.comp h.off) w) (fun w => bothR h.off (h.off.comp h.off).other w)

theorem implOrderCovers_any (ao : Option Addr) (ca : Nat) (xs : List Int) (w : World) (hl : xs.length ≤ 1048576) (hx : Rd w ao xs) :
    Calls Try.prog 17 #[.slice ao xs.length ca] w (Gave w (ifR (ordB xs) (covL xs)) (ordB xs)) := by
  cases hp : ordB xs with
  | false =>
    have HC := Lib.hid (orderFrom_no ao ca xs w hl hp hx)
    clear hp hx
    go_enter Try.func17, Try.ntmps17
    go_wp2_with fail
    refine HC.out.mono ?_
    rintro e w1 ⟨rfl, hb⟩
    go_wp2
    go_ret2
    exact ⟨.slice none 0 0, rfl, World.ownsRow_nil _ _ _ _, hb.alloc hb.size _⟩
  | true =>
    have R := ord_rl hp
    have hl4 : (covL xs).length ≤ 4 := by rw [R.cov.len]; exact R.four
    have HC := Lib.hid (orderFrom_yes ao ca xs w hp hx)
    have HB := Lib.hid (fun wr => covers_any R wr)
    have HL := Lib.hid (fun wr => list_any (covL xs) wr hl4)
    clear hp hx R hl4
    obtain ⟨r, hr⟩ : ∃ r, covL xs = r := ⟨_, rfl⟩
    rw [hr] at HB HL ⊢
    clear hr
    go_enter Try.func17, Try.ntmps17
    go_wp2_with fail
    refine HC.out.mono ?_
    rintro e w1 ⟨rfl, hb⟩
    have x1 := OrdAt.new w1 xs
    have B1 := hb.alloc hb.size (.cells #[.int .i64 xs.length, .int .i64 (rowAt xs 0), .int .i64 (rowAt xs 1), .int .i64 (rowAt xs 2), .int .i64 (rowAt xs 3)] 45)
    have p0 := x1.cell0
    have p1 := x1.cell1
    have p2 := x1.cell2
    have p3 := x1.cell3
    have p4 := x1.cell4
    clear x1 hb
    go_wp2_with fail
    refine (HB.out _).mono ?_
    rintro e w2 ⟨rfl, hb2⟩
    have B2 := B1.trans (hb2.mono B1.size)
    clear hb2 B1 p0 p1 p2 p3 p4
    go_wp2_with fail
    refine (HL.out _).mono ?_
    rintro e w3 ⟨v, rfl, ho, hb3⟩
    go_wp2
    go_ret2
    exact ⟨v, rfl, own_mono ho B2.size, B2.trans (hb3.mono B2.size)⟩

/-! the model's -/
theorem rowB {xs : List Int} {k : Nat} {x : Int} (h : xs[k]? = some x) : x = rowAt xs k := by
  unfold rowAt
  rw [List.getD_eq_getElem?_getD, h]
  rfl
theorem pt_wrapO (k : Nat) (h : k < 4) : IntKind.i64.wrap (2 ^ k) = pt k := by
  rcases (by omega : k = 0 ∨ k = 1 ∨ k = 2 ∨ k = 3) with rfl | rfl | rfl | rfl <;> decide +kernel
def strictL (xs : List Int) : List Int := (List.range xs.length).map fun i => bits .andNot .i64 (rowAt xs i) (pt i)
def takeL (xs ys : List Int) : List Int := (List.range xs.length).map fun i => bits .andNot .i64 (rowAt xs i) (rowAt ys i)
theorem rowRange (n : Nat) (f : Nat → Int) (i : Nat) (hi : i < n) : rowAt ((List.range n).map f) i = f i := by
  unfold rowAt
  rw [List.getD_eq_getElem?_getD, List.getElem?_map, List.getElem?_range hi]
  rfl
theorem range_take (f : Nat → Int) (n k : Nat) (hk : k < n) : ((List.range n).map f).take (k + 1) = ((List.range n).map f).take k ++ [f k] := by
  rw [List.take_succ_eq_append_getElem (by simpa using hk)]
  simp
theorem b_less : ∀ n : Fin 5, ∀ x y : Fin 16, x.val < 2 ^ n.val → ∃ u : Fin 16, bits .andNot .i64 (x.val : Int) (y.val : Int) = (u.val : Int) ∧ u.val < 2 ^ n.val ∧ ∀ j : Fin n.val, hasB (u.val : Int) j.val = (hasB (x.val : Int) j.val && !hasB (y.val : Int) j.val) := by decide +kernel
theorem less_row {n : Nat} {xs ys : List Int} (h : Rl n xs) (y : Fin 16) (_hy : ys.length = xs.length) (f : Nat → Int) (i : Nat) (hi : i < n) (hf : f i = (y.val : Int)) :
    ∃ u : Fin 16, rowAt ((List.range xs.length).map fun i => bits .andNot .i64 (rowAt xs i) (f i)) i = (u.val : Int) ∧ u.val < 2 ^ n ∧ ∀ j, j < n → hasB (u.val : Int) j = (hB xs i j && !hasB (y.val : Int) j) := by
  obtain ⟨x, hx, hxl⟩ := h.row i
  obtain ⟨u, hu, hul, hj⟩ := b_less ⟨n, by have := h.four; omega⟩ x y hxl
  refine ⟨u, ?_, hul, fun j hjn => ?_⟩
  · rw [rowRange _ _ _ (by rw [h.len]; exact hi), hf, hx]
    exact hu
  · rw [hj ⟨j, hjn⟩]
    unfold hB
    rw [hx]
theorem strict_eq {n : Nat} {xs : List Int} (h : Rl n xs) : strictL xs = offI xs := by
  have hr : ∀ i, i < n → ∃ u : Fin 16, rowAt (strictL xs) i = (u.val : Int) ∧ u.val < 2 ^ n ∧ ∀ j, j < n → hasB (u.val : Int) j = (hB xs i j && !decide (j = i)) := fun i hi => by
    have h4 := h.four
    obtain ⟨y, hy, _⟩ := b_ptlt ⟨n, by omega⟩ ⟨i, hi⟩
    obtain ⟨u, hu, hul, hj⟩ := less_row (ys := xs) h y rfl pt i hi hy
    refine ⟨u, hu, hul, fun j hjn => ?_⟩
    rw [hj j hjn, ← hy]
    have := b_pt ⟨i, by omega⟩ ⟨j, by omega⟩
    rw [this]
  have hR : Rl n (strictL xs) := Rl.mk' (by unfold strictL; simp [h.len]) h.one h.four (fun i hi => by obtain ⟨u, h1, h2, _⟩ := hr i hi; exact ⟨u, h1, h2⟩)
  refine hR.ext h.off fun i j hi hj => ?_
  obtain ⟨u, hu, _, hb⟩ := hr i hi
  rw [hB_off h i j hi hj, ← hb j hj]
  unfold hB
  rw [hu]
theorem take_eq {n : Nat} {xs ys : List Int} (h : Rl n xs) (k : Rl n ys) : takeL xs ys = bothL xs (otherL ys) := by
  have hr : ∀ i, i < n → ∃ u : Fin 16, rowAt (takeL xs ys) i = (u.val : Int) ∧ u.val < 2 ^ n ∧ ∀ j, j < n → hasB (u.val : Int) j = (hB xs i j && !hB ys i j) := fun i hi => by
    obtain ⟨y, hy, _⟩ := k.row i
    obtain ⟨u, hu, hul, hj⟩ := less_row (ys := ys) h y (by rw [h.len, k.len]) (rowAt ys) i hi hy
    refine ⟨u, hu, hul, fun j hjn => ?_⟩
    rw [hj j hjn]
    unfold hB
    rw [hy]
  have hR : Rl n (takeL xs ys) := Rl.mk' (by unfold takeL; simp [h.len]) h.one h.four (fun i hi => by obtain ⟨u, h1, h2, _⟩ := hr i hi; exact ⟨u, h1, h2⟩)
  refine hR.ext (h.both k.other) fun i j hi hj => ?_
  obtain ⟨u, hu, _, hb⟩ := hr i hi
  rw [hB_both h k.other i j hi hj, hB_other k i j hi hj, ← hb j hj]
  unfold hB
  rw [hu]

set_option maxHeartbeats 1000000 in
theorem l5Strict_any (ao : Option Addr) (ca : Nat) (xs : List Int) (w : World) (h4 : xs.length ≤ 4) (hx : Rd w ao xs) :
    Calls Try.prog 52 #[.slice ao xs.length ca] w fun e w' => ∃ v, e = .returned v ∧
      w'.ownsRow w.heap.size 3 1 v xs.length ((strictL xs).map (Value.int .i64)) ∧ Below w.heap.size w w' := by
  obtain ⟨i0, hi, hz0, hz1, hz2⟩ := info_parts Try.info3
  go_enter Try.func52, Try.ntmps52
  go_wp2
  go_loopw [3, 4] (fun v i wr => ∃ k : Nat, k ≤ xs.length ∧ i = .int .i64 k ∧ wr.ownsRow w.heap.size 3 1 v k (((strictL xs).take k).map (Value.int .i64)) ∧ Below w.heap.size w wr)
    (fun _ i _ => xs.length - (intOf i).toNat)
  case atStart => exact ⟨0, Nat.zero_le _, rfl, row_lit0 w, below_one _ _⟩
  case round =>
    obtain ⟨k, hk, rfl, ho, hb⟩ := hrel
    by_cases hlt : k < xs.length
    · obtain ⟨b, off, x, hxk, rfl, hbl, hc1⟩ := (hx.below hb).get k hlt
      rw [rowB hxk] at hc1
      have hi1 : ((k : Nat) : Int) < (xs.length : Int) := by omega
      have HT := Lib.hid (range_take (fun i => bits .andNot .i64 (rowAt xs i) (pt i)) xs.length k hlt)
      have hpw := pt_wrapO k (by omega)
      clear hx hxk
      go_wp2
      go_region_law (refine step_append_own rfl (.tmp 12) (.tmp 20) 23 rfl w.heap.size 3 i0 (.int .i64 0) 1 8 Try.underlying23 hi hz0 hz1 hz2 rfl (by decide) _ _ _ rfl (ho.alloc _).drew ⟨wr.heap.size, 0, none⟩ 1 1 [_] rfl rfl (cell_one_new _ _ _) (by simp [Value.oneCell']) (by unfold maxLen; omega) (by omega) (by have := hb.size; simp; omega) ?_; intro v' w1 hown' hgrow)
      all_goals
        have hb' := own_step ho hb hb.size _ hgrow
        rw [← List.map_singleton (f := Value.int .i64), ← List.map_append, ← show (strictL xs).take (k + 1) = (strictL xs).take k ++ [bits .andNot .i64 (rowAt xs k) (pt k)] from HT.out] at hown'
        clear ho hb hgrow hc1
        go_wp2
        go_roundw
        case rel => exact ⟨k + 1, by omega, by go_num, hown', hb'⟩
        case measure => simp [intOf]; omega
    · go_wp2
      go_ret
      obtain rfl : k = xs.length := by omega
      rw [List.take_of_length_le (by unfold strictL; simp)] at ho
      exact ⟨_, rfl, ho, hb⟩

set_option maxHeartbeats 2000000 in
theorem specCovers_walk (xs s t : List Int) (ao : Option Addr) (ca : Nat) (w : World) (hs : s.length = xs.length) (ht : t.length = xs.length) (hl4 : xs.length ≤ 4)
    (h0 : Calls Try.prog 13 #[.slice ao xs.length ca] w fun e w' => e = .returned (.bool true) ∧ Below w.heap.size w w') (hx : Rd w ao xs)
    (h1 : ∀ w, Rd w ao xs → Calls Try.prog 52 #[.slice ao xs.length ca] w fun e w' => ∃ v, e = .returned v ∧ w'.ownsRow w.heap.size 3 1 v s.length (s.map (Value.int .i64)) ∧ Below w.heap.size w w')
    (h2 : ∀ w so cs, Rd w so s → Calls Try.prog 53 #[.slice so s.length cs, .slice so s.length cs] w fun e w' => ∃ v, e = .returned v ∧ w'.ownsRow w.heap.size 3 1 v t.length (t.map (Value.int .i64)) ∧ Below w.heap.size w w') :
    Calls Try.prog 18 #[.slice ao xs.length ca] w (Gave w (ifR true (takeL s t)) true) := by
  obtain ⟨i0, hi, hz0, hz1, hz2⟩ := info_parts Try.info3
  have H := Lib.hid (And.intro h0 (And.intro h1 h2))
  have HS := Lib.hid (And.intro hs ht)
  clear h0 h1 h2 hs ht
  go_enter Try.func18, Try.ntmps18
  go_wp2_with fail
  refine H.out.1.mono ?_
  rintro e w1 ⟨rfl, hb⟩
  have hx1 := hx.below hb
  clear hx
  go_wp2_with fail
  refine (H.out.2.1 _ hx1).mono ?_
  rintro e w2 ⟨v, rfl, ho, hb2⟩
  obtain ⟨so, cs, rfl, hrs⟩ := row_rd ho
  have B2 := hb.trans (hb2.mono hb.size)
  clear ho hb hb2 hx1
  go_wp2_with fail
  refine (H.out.2.2 _ _ _ hrs).mono ?_
  rintro e w3 ⟨v, rfl, ho, hb3⟩
  obtain ⟨bo, ct, rfl, hrt⟩ := row_rd ho
  have hrs3 := hrs.below hb3
  have B3 := B2.trans (hb3.mono B2.size)
  clear ho hrs hb3 B2
  go_wp2
  go_loopw [6, 7] (fun v i wr => ∃ k : Nat, k ≤ xs.length ∧ i = .int .i64 k ∧ wr.ownsRow w3.heap.size 3 1 v k (((takeL s t).take k).map (Value.int .i64)) ∧ Below w3.heap.size w3 wr)
    (fun _ i _ => xs.length - (intOf i).toNat)
  case atStart => exact ⟨0, Nat.zero_le _, rfl, row_lit0 w3, below_one _ _⟩
  case round =>
    obtain ⟨k, hk, rfl, ho, hb⟩ := hrel
    have hrs4 := hrs3.below hb
    have hrt4 := hrt.below hb
    by_cases hlt : k < xs.length
    · obtain ⟨b, off, x, hxk, rfl, hbl, hc1⟩ := hrs4.get k (by rw [HS.out.1]; exact hlt)
      obtain ⟨b2, off2, y, hyk, rfl, hbl2, hc2⟩ := hrt4.get k (by rw [HS.out.2]; exact hlt)
      rw [rowB hxk] at hc1
      rw [rowB hyk] at hc2
      have hi1 : ((k : Nat) : Int) < (xs.length : Int) := by omega
      have hi2 : ((k : Nat) : Int) < (s.length : Int) := by rw [HS.out.1]; omega
      have hi3 : ((k : Nat) : Int) < (t.length : Int) := by rw [HS.out.2]; omega
      have HT := Lib.hid (range_take (fun i => bits .andNot .i64 (rowAt s i) (rowAt t i)) s.length k (by rw [HS.out.1]; omega))
      clear hrs3 hrt hrs4 hrt4 hxk hyk
      go_wp2
      go_region_law (refine step_append_own rfl (.tmp 24) (.tmp 34) 23 rfl w3.heap.size 3 i0 (.int .i64 0) 1 8 Try.underlying23 hi hz0 hz1 hz2 rfl (by decide) _ _ _ rfl (ho.alloc _).drew ⟨wr.heap.size, 0, none⟩ 1 1 [_] rfl rfl (cell_one_new _ _ _) (by simp [Value.oneCell']) (by unfold maxLen; omega) (by omega) (by have := hb.size; simp; omega) ?_; intro v' w1 hown' hgrow)
      all_goals
        have hb' := own_step ho hb hb.size _ hgrow
        rw [← List.map_singleton (f := Value.int .i64), ← List.map_append, ← show (takeL s t).take (k + 1) = (takeL s t).take k ++ [bits .andNot .i64 (rowAt s k) (rowAt t k)] from HT.out] at hown'
        go_wp2
        go_roundw
        case rel => exact ⟨k + 1, by omega, by go_num, hown', hb'⟩
        case measure => simp [intOf]; omega
    · go_wp2
      go_ret2
      obtain rfl : k = xs.length := by omega
      rw [List.take_of_length_le (by unfold takeL; simp [HS.out.1])] at ho
      exact ⟨_, rfl, by rw [show (ifR true (takeL s t)).length = xs.length from by show (takeL s t).length = _; unfold takeL; simp [HS.out.1]]; exact own_mono ho B3.size, B3.trans (hb.mono B3.size)⟩

theorem specOrderCovers_any (ao : Option Addr) (ca : Nat) (xs : List Int) (w : World) (hl : xs.length ≤ 1048576) (hx : Rd w ao xs) :
    Calls Try.prog 18 #[.slice ao xs.length ca] w (Gave w (ifR (ordB xs) (covL xs)) (ordB xs)) := by
  have h1 := specOrderIn_any ao ca xs w hl hx
  cases hp : ordB xs with
  | false =>
    rw [hp] at h1
    have H1 := Lib.hid h1
    clear h1 hp hx
    go_enter Try.func18, Try.ntmps18
    go_wp2_with fail
    refine H1.out.mono ?_
    rintro e w1 ⟨rfl, hb⟩
    have hr := own_mono (row_lit0 w1) hb.size
    go_wp2
    go_ret2
    exact ⟨_, rfl, hr, hb.alloc hb.size _⟩
  | true =>
    rw [hp] at h1
    have R := ord_rl hp
    have O := R.off
    have C := O.comp O
    have e1 := take_eq O C
    rw [← strict_eq R] at e1 O C
    have h := specCovers_walk xs (strictL xs) (compL (strictL xs) (strictL xs)) ao ca w O.len C.len R.four h1 hx
      (fun w h => by rw [O.len]; exact l5Strict_any ao ca xs w R.four h)
      (fun w so cs h => by
        have h4 : (strictL xs).length ≤ 4 := by rw [O.len]; exact R.four
        have := l2Comp_any so so cs cs (strictL xs) (strictL xs) w h4 h4 O.in16 h h
        rw [show (compL (strictL xs) (strictL xs)).length = (strictL xs).length by rw [C.len, O.len]]
        exact this)
    rw [e1, strict_eq R] at h
    exact h
end Go.Proofs.Ytchbbflpckaddaa
