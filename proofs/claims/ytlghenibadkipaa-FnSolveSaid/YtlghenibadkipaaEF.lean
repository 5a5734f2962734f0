/-
  Solutions: the model's l2Equal and CompSolve, the program's CompSolve; for lists of at most 2^20 numbers.
-/
import Derived.Test.YtlghenibadkipaaEE
namespace Go.Proofs.Ytlghenibadkipaa
open Go.RowKit

set_option maxHeartbeats 1000000 in
theorem l2Equal_any (ao bo : Option Addr) (ca cb : Nat) (xs ys : List Int) (w : World) (hl : xs.length ≤ 1048576) (hl2 : ys.length ≤ 1048576) (hx : Rd w ao xs) (hy : Rd w bo ys) :
    Calls Try.prog 49 #[.slice ao xs.length ca, .slice bo ys.length cb] w fun e w' => e = .returned (.bool (decide (xs = ys))) ∧ Dn w w' := by
  go_enter Try.func49, Try.ntmps49
  by_cases hne : xs.length = ys.length
  · have h1 : ((xs.length : Int) != (ys.length : Int)) = false := by simp [hne]
    have hlen := Lib.hid hne
    clear hne
    go_wp2
    go_loopw [5] (fun i wr => ∃ k : Nat, k ≤ xs.length ∧ i = .int .i64 k ∧ xs.take k = ys.take k ∧ Dn w wr)
      (fun i _ => xs.length - (intOf i).toNat)
    case atStart => exact ⟨0, Nat.zero_le _, rfl, rfl, Dn.refl _⟩
    case round =>
      obtain ⟨k, hk, rfl, ht, hd⟩ := hrel
      have HT := Lib.hid ht
      clear ht
      by_cases hlt : k < xs.length
      · have hlt2 : k < ys.length := by rw [← hlen.out]; exact hlt
        obtain ⟨b, off, x, hxk, rfl, hbl, hc1⟩ := (hd.rd hx).get k hlt
        obtain ⟨b2, off2, y, hyk, rfl, hbl2, hc2⟩ := (hd.rd hy).get k hlt2
        have hi1 : ((k : Nat) : Int) < (xs.length : Int) := by omega
        have hi2 : ((k : Nat) : Int) < (ys.length : Int) := by omega
        have HX := Lib.hid hxk
        have HY := Lib.hid hyk
        clear hx hy hxk hyk
        go_wp2
        go_quiet (fail)
        by_cases heq : x = y
        · have h2 : (x != y) = false := by simp [heq]
          have HE := Lib.hid heq
          clear heq
          go_wp2
          go_roundw
          case rel =>
            refine ⟨k + 1, by omega, by go_num, ?_, hd.trans (Dn.drewN _ _)⟩
            rw [List.take_add_one, List.take_add_one, HT.out, HX.out, HY.out, HE.out]
          case measure => simp [intOf]; omega
        · go_wp2
          go_ret
          have hd' : ¬ xs = ys := by
            rintro rfl
            have := HX.out.symm.trans HY.out
            exact heq (by simpa using this)
          exact ⟨by simp [hd'], hd.trans (Dn.drewN _ _)⟩
      · go_wp2
        go_ret
        obtain rfl : k = xs.length := by omega
        have := HT.out
        rw [List.take_length, hlen.out, List.take_length] at this
        exact ⟨by simp [this], hd⟩
  · have h1 : ((xs.length : Int) != (ys.length : Int)) = true := by simp; omega
    go_wp2
    go_ret
    refine ⟨?_, Dn.refl _⟩
    have : ¬ xs = ys := fun h => hne (by rw [h])
    simp [this]

/-- whether the left residual solves -/
def solveB (xs ys : List Int) : Bool := decide (compL xs (leftL xs ys) = ys)
/-- rows that are alike are alike as arrays -/
theorem rows_eq {n : Nat} {a b : List Int} (h : Rl n a) (k : Rl n b) : (rowAt a 0 == rowAt b 0 && (rowAt a 1 == rowAt b 1 && (rowAt a 2 == rowAt b 2 && rowAt a 3 == rowAt b 3))) = decide (a = b) := by
  rw [Bool.eq_iff_iff, decide_eq_true_iff]
  simp only [Bool.and_eq_true, beq_iff_eq]
  constructor
  · rintro ⟨e0, e1, e2, e3⟩
    apply List.ext_getElem?
    intro i
    have h4 := h.four
    by_cases hi : i < n
    · rw [rowAt_get (by rw [h.len]; exact hi), rowAt_get (by rw [k.len]; exact hi)]
      rcases (by omega : i = 0 ∨ i = 1 ∨ i = 2 ∨ i = 3) with rfl | rfl | rfl | rfl
      · rw [e0]
      · rw [e1]
      · rw [e2]
      · rw [e3]
    · rw [List.getElem?_eq_none (by rw [h.len]; omega), List.getElem?_eq_none (by rw [k.len]; omega)]
  · rintro rfl
    exact ⟨rfl, rfl, rfl, rfl⟩

/-! the model's -/
theorem specSolve_walk (xs ys l c : List Int) (s : Bool) (ao bo : Option Addr) (ca cb : Nat) (w : World) (hc1 : 1 ≤ c.length) (hl1 : 1 ≤ l.length) (hx : Rd w ao xs) (hy : Rd w bo ys)
    (h0 : Calls Try.prog 31 #[.slice ao xs.length ca, .slice bo ys.length cb] w fun e w' => e = .returned (.bool true) ∧ Dn w w')
    (h1 : ∀ w, Rd w ao xs → Rd w bo ys → Calls Try.prog 48 #[.slice ao xs.length ca, .slice bo ys.length cb] w (GaveL w l))
    (h2 : ∀ lo cl w, Rd w ao xs → Rd w lo l → Calls Try.prog 44 #[.slice ao xs.length ca, .slice lo l.length cl] w (GaveL w c))
    (h3 : ∀ co cc w, Rd w co c → Rd w bo ys → Calls Try.prog 49 #[.slice co c.length cc, .slice bo ys.length cb] w fun e w' => e = .returned (.bool s) ∧ Dn w w') :
    Calls Try.prog 20 #[.slice ao xs.length ca, .slice bo ys.length cb] w (Gave w (ifR s l) s) := by
  have H := Lib.hid (And.intro h1 (And.intro h2 h3))
  have H0 := Lib.hid h0
  clear h0 h1 h2 h3
  go_enter Try.func20, Try.ntmps20
  go_wp2_with fail
  refine H0.out.mono ?_
  rintro e w0 ⟨rfl, hd⟩
  have hx0 := hd.rd hx
  have hy0 := hd.rd hy
  have B0 := hd.below w.heap.size
  have hh : w.heap.size = w0.heap.size := by rw [hd.heap]
  have HH := Lib.hid hh
  clear hx hy hd hh
  go_wp2_with fail
  refine (H.out.1 _ hx0 hy0).mono ?_
  rintro e w1 ⟨v, rfl, o1, b1⟩
  obtain ⟨gl, ql, rfl, _, ll, rl⟩ := GaveL.form o1 hl1
  have hx1 := hx0.below b1
  have hy1 := hy0.below b1
  clear hx0 hy0
  go_wp2_with fail
  refine (H.out.2.1 _ ql _ hx1 rl).mono ?_
  rintro e w2 ⟨v, rfl, o2, b2⟩
  obtain ⟨gc, qc, rfl, _, lc, rc⟩ := GaveL.form o2 hc1
  have o12 := own_keep o1 b2 (fun q hq => by cases hq; exact ll)
  have hy2 := hy1.below b2
  have B2 := b1.trans (b2.mono b1.size)
  clear o1 o2 rl hx1 hy1 b1 b2
  go_wp2_with fail
  refine (H.out.2.2 _ qc _ rc hy2).mono ?_
  rintro e w3 ⟨rfl, hd⟩
  have o13 := hd.row o12
  have B3 := B2.trans (hd.below _)
  have B4 : Below w.heap.size w w3 := B0.trans (by rw [HH.out]; exact B3)
  clear o12 hy2 rc hd B2 B0
  cases s with
  | true =>
    go_wp2
    go_ret2
    exact ⟨_, rfl, own_mono o13 (by have := HH.out; omega), B4⟩
  | false =>
    go_wp2
    go_ret2
    exact ⟨_, rfl, own_mono (row_lit0 w3) B4.size, B4.alloc B4.size _⟩

theorem specCompSolve_any (ao bo : Option Addr) (ca cb : Nat) (xs ys : List Int) (w : World) (hl : xs.length ≤ 1048576) (hl2 : ys.length ≤ 1048576) (hx : Rd w ao xs) (hy : Rd w bo ys) :
    Calls Try.prog 20 #[.slice ao xs.length ca, .slice bo ys.length cb] w (Gave w (ifR (twoIn xs ys && solveB xs ys) (leftL xs ys)) (twoIn xs ys && solveB xs ys)) := by
  have h1 := l1Two_any ao bo ca cb xs ys w hl hl2 hx hy
  cases hp : twoIn xs ys with
  | false =>
    rw [hp] at h1
    have H1 := Lib.hid h1
    clear h1 hp
    go_enter Try.func20, Try.ntmps20
    go_wp2_with (go_at_call 31; refine H1.out.mono ?_; rintro e w1 ⟨rfl, hd⟩)
    go_ret2
    have hh : w.heap.size = w1.heap.size := by rw [hd.heap]
    exact ⟨_, rfl, by rw [hh]; exact row_lit0 w1, (hd.below _).alloc (by omega) _⟩
  | true =>
    rw [hp] at h1
    obtain ⟨h, k⟩ := two_rl hp
    rw [Bool.true_and]
    exact specSolve_walk xs ys (leftL xs ys) (compL xs (leftL xs ys)) (solveB xs ys) ao bo ca cb w ((h.comp (h.left k)).len.symm ▸ h.one) ((h.left k).len.symm ▸ h.one) hx hy h1
      (fun w => sLeft h k ao bo ca cb w) (fun lo cl w => sComp h (h.left k) ao lo ca cl w)
      (fun co cc w hc hy => l2Equal_any co bo cc cb _ ys w (by rw [(h.comp (h.left k)).len]; omega) hl2 hc hy)

/-! the program's -/
set_option maxHeartbeats 1000000 in
theorem eqRowsD (d : Nat) (a0 a1 a2 a3 b0 b1 b2 b3 : Int) (w : World) :
    Sem.run Try.prog (Op.equalIn (d + 2) 40 (.agg #[.int .i64 a0, .int .i64 a1, .int .i64 a2, .int .i64 a3]) (.agg #[.int .i64 b0, .int .i64 b1, .int .i64 b2, .int .i64 b3])) w = .ok (a0 == b0 && (a1 == b1 && (a2 == b2 && a3 == b3))) w := by
  unfold Op.equalIn
  have hsz : Sem.run Try.prog (sizeOf 39) w = .ok 1 w := by kernel_rfl
  have hr : List.range' 0 4 1 = [0, 1, 2, 3] := rfl
  rw [Sem.run_bind, run_underlying Try.underlying40]
  simp only [Result.andThen_ok]
  rw [Sem.run_bind, hsz]
  simp only [Result.andThen_ok]
  have hf : ∀ (f : Nat → Option Bool × Unit → Sem (ForInStep (Option Bool × Unit))) (i : Option Bool × Unit), forIn [:4] i f = forIn [0, 1, 2, 3] i f := by
    intro f i
    simp [Std.Legacy.Range.forIn_eq_forIn_range', Std.Legacy.Range.size, hr]
  rw [hf]
  simp only [List.forIn_cons, List.forIn_nil, bind_assoc, Sem.run_bind, partCell _ _ _ _ _ 0 (by omega), Result.andThen_ok, List.getD_cons_zero]
  rw [eqCell d a0 b0 w]
  cases (a0 == b0)
  case false => rfl
  simp only [Sem.run_bind, Sem.run_pure, Bool.not_true, Bool.false_eq_true, if_false, partCell _ _ _ _ _ 1 (by omega), Result.andThen_ok, List.getD_cons_zero, List.getD_cons_succ]
  rw [eqCell d a1 b1 w]
  cases (a1 == b1)
  case false => rfl
  simp only [Sem.run_bind, Sem.run_pure, Bool.not_true, Bool.false_eq_true, if_false, partCell _ _ _ _ _ 2 (by omega), Result.andThen_ok, List.getD_cons_zero, List.getD_cons_succ]
  rw [eqCell d a2 b2 w]
  cases (a2 == b2)
  case false => rfl
  simp only [Sem.run_bind, Sem.run_pure, Bool.not_true, Bool.false_eq_true, if_false, partCell _ _ _ _ _ 3 (by omega), Result.andThen_ok, List.getD_cons_zero, List.getD_cons_succ]
  rw [eqCell d a3 b3 w]
  cases (a3 == b3) <;> rfl

theorem fieldRows (n a b c d : Int) (w : World) : Sem.run Try.prog (Instr.field 42 (rel5 n a b c d) 1) w = .ok (.agg #[.int .i64 a, .int .i64 b, .int .i64 c, .int .i64 d]) w := by kernel_rfl
set_option maxRecDepth 100000 in
set_option maxHeartbeats 4000000 in
theorem implSolve_walk (xs ys l c : List Int) (s : Bool) (ao bo : Option Addr) (ca cb : Nat) (w : World) (hl4 : l.length ≤ 4)
    (h0 : Calls Try.prog 36 #[.slice ao xs.length ca, .slice bo ys.length cb] w fun e w' => e = .returned (.tuple #[relOf xs, relOf ys, .bool true]) ∧ Below w.heap.size w w')
    (h1 : ∀ w, Calls Try.prog 45 #[relOf xs, relOf ys] w fun e w' => e = .returned (relOf l) ∧ Below w.heap.size w w')
    (h2 : ∀ w, Calls Try.prog 46 #[relOf xs, relOf l] w fun e w' => e = .returned (relOf c) ∧ Below w.heap.size w w')
    (hs : (rowAt c 0 == rowAt ys 0 && (rowAt c 1 == rowAt ys 1 && (rowAt c 2 == rowAt ys 2 && rowAt c 3 == rowAt ys 3))) = s) :
    Calls Try.prog 19 #[.slice ao xs.length ca, .slice bo ys.length cb] w (Gave w (ifR s l) s) := by
  have H := Lib.hid (And.intro h0 (And.intro h1 h2))
  have hE : ∀ w, Sem.run Try.prog (Op.equalIn 10000 40 (.agg #[.int .i64 (rowAt c 0), .int .i64 (rowAt c 1), .int .i64 (rowAt c 2), .int .i64 (rowAt c 3)]) (.agg #[.int .i64 (rowAt ys 0), .int .i64 (rowAt ys 1), .int .i64 (rowAt ys 2), .int .i64 (rowAt ys 3)])) w = .ok s w :=
    fun w => (eqRowsD 9998 (rowAt c 0) (rowAt c 1) (rowAt c 2) (rowAt c 3) (rowAt ys 0) (rowAt ys 1) (rowAt ys 2) (rowAt ys 3) w).trans (by rw [hs])
  have hF := fun w => fieldRows c.length (rowAt c 0) (rowAt c 1) (rowAt c 2) (rowAt c 3) w
  clear h0 h1 h2 hs
  go_enter Try.func19, Try.ntmps19
  go_wp2_with fail
  refine H.out.1.mono ?_
  rintro e w1 ⟨rfl, hb⟩
  have x1 := (RelAt.new w1 xs).alloc (.cells #[.int .i64 ys.length, .int .i64 (rowAt ys 0), .int .i64 (rowAt ys 1), .int .i64 (rowAt ys 2), .int .i64 (rowAt ys 3)] 42)
  have y1 := RelAt.new (w1.alloc (.cells #[.int .i64 xs.length, .int .i64 (rowAt xs 0), .int .i64 (rowAt xs 1), .int .i64 (rowAt xs 2), .int .i64 (rowAt xs 3)] 42)) ys
  rw [World.size_alloc] at y1
  have B1 : Below w.heap.size w ((w1.alloc (.cells #[.int .i64 xs.length, .int .i64 (rowAt xs 0), .int .i64 (rowAt xs 1), .int .i64 (rowAt xs 2), .int .i64 (rowAt xs 3)] 42)).alloc (.cells #[.int .i64 ys.length, .int .i64 (rowAt ys 0), .int .i64 (rowAt ys 1), .int .i64 (rowAt ys 2), .int .i64 (rowAt ys 3)] 42)) := (hb.alloc hb.size _).alloc (by have := hb.size; simp; omega) _
  clear hb
  have p0 := x1.cell0
  have p1 := x1.cell1
  have p2 := x1.cell2
  have p3 := x1.cell3
  have p4 := x1.cell4
  have q0 := y1.cell0
  have q1 := y1.cell1
  have q2 := y1.cell2
  have q3 := y1.cell3
  have q4 := y1.cell4
  go_wp2_with fail
  clear p0 p1 p2 p3 p4 q0 q1 q2 q3 q4
  obtain ⟨W1, hW1⟩ : ∃ W1, (w1.alloc (.cells #[.int .i64 xs.length, .int .i64 (rowAt xs 0), .int .i64 (rowAt xs 1), .int .i64 (rowAt xs 2), .int .i64 (rowAt xs 3)] 42)).alloc (.cells #[.int .i64 ys.length, .int .i64 (rowAt ys 0), .int .i64 (rowAt ys 1), .int .i64 (rowAt ys 2), .int .i64 (rowAt ys 3)] 42) = W1 := ⟨_, rfl⟩
  rw [hW1] at x1 y1 B1 ⊢
  clear hW1
  refine (H.out.2.1 _).mono ?_
  rintro e w2 ⟨rfl, hb⟩
  have x2 := (x1.below hb x1.lt).alloc (.cells #[.int .i64 l.length, .int .i64 (rowAt l 0), .int .i64 (rowAt l 1), .int .i64 (rowAt l 2), .int .i64 (rowAt l 3)] 42)
  have y2 := (y1.below hb y1.lt).alloc (.cells #[.int .i64 l.length, .int .i64 (rowAt l 0), .int .i64 (rowAt l 1), .int .i64 (rowAt l 2), .int .i64 (rowAt l 3)] 42)
  have l2 := RelAt.new w2 l
  have B2 : Below w.heap.size w (w2.alloc (.cells #[.int .i64 l.length, .int .i64 (rowAt l 0), .int .i64 (rowAt l 1), .int .i64 (rowAt l 2), .int .i64 (rowAt l 3)] 42)) := (B1.trans (hb.mono B1.size)).alloc (Nat.le_trans B1.size hb.size) _
  clear x1 y1 B1 hb
  have p0 := x2.cell0
  have p1 := x2.cell1
  have p2 := x2.cell2
  have p3 := x2.cell3
  have p4 := x2.cell4
  have q1 := y2.cell1
  have q2 := y2.cell2
  have q3 := y2.cell3
  have q4 := y2.cell4
  have r0 := l2.cell0
  have r1 := l2.cell1
  have r2 := l2.cell2
  have r3 := l2.cell3
  have r4 := l2.cell4
  go_wp2_with fail
  obtain ⟨W2, hW2⟩ : ∃ W2, w2.alloc (.cells #[.int .i64 l.length, .int .i64 (rowAt l 0), .int .i64 (rowAt l 1), .int .i64 (rowAt l 2), .int .i64 (rowAt l 3)] 42) = W2 := ⟨_, rfl⟩
  rw [hW2] at p0 p1 p2 p3 p4 q1 q2 q3 q4 r0 r1 r2 r3 r4 x2 y2 l2 B2 ⊢
  clear hW2
  go_region_with (go_at_call 46; refine (H.out.2.2 _).mono ?_; rintro e w3 ⟨rfl, hb⟩; have y3 := y2.drew.below hb y2.lt; have l3 := l2.drew.below hb l2.lt; have u1 := y3.cell1; have u2 := y3.cell2; have u3 := y3.cell3; have u4 := y3.cell4; have v0 := l3.cell0; have v1 := l3.cell1; have v2 := l3.cell2; have v3 := l3.cell3; have v4 := l3.cell4; have B3 := B2.drew.trans (hb.mono B2.size); clear hb)
  all_goals
    clear p0 p1 p2 p3 p4 q1 q2 q3 q4 r0 r1 r2 r3 r4 u1 u2 u3 u4
    cases s with
    | true =>
      go_wp2_with fail
      refine (list_any l w3 hl4).mono ?_
      rintro e w4 ⟨v, rfl, ho, hb4⟩
      go_wp2
      go_ret2
      exact ⟨v, rfl, own_mono ho B3.size, B3.trans (hb4.mono B3.size)⟩
    | false =>
      go_wp2
      go_ret2
      exact ⟨.slice none 0 0, rfl, World.ownsRow_nil _ _ _ _, B3⟩

theorem implCompSolve_any (ao bo : Option Addr) (ca cb : Nat) (xs ys : List Int) (w : World) (hl : xs.length ≤ 1048576) (hl2 : ys.length ≤ 1048576) (hx : Rd w ao xs) (hy : Rd w bo ys) :
    Calls Try.prog 19 #[.slice ao xs.length ca, .slice bo ys.length cb] w (Gave w (ifR (twoIn xs ys && solveB xs ys) (leftL xs ys)) (twoIn xs ys && solveB xs ys)) := by
  cases hp : twoIn xs ys with
  | false =>
    have HP := Lib.hid hp
    clear hp
    go_enter Try.func19, Try.ntmps19
    go_wp2_with (go_at_call 36; refine (two_no _ _ _ _ _ _ _ hl hl2 hx hy HP.out).mono ?_; rintro e w1 ⟨rfl, hb⟩)
    go_ret2
    exact ⟨.slice none 0 0, rfl, World.ownsRow_nil _ _ _ _, (hb.alloc hb.size _).alloc (by have := hb.size; simp; omega) _⟩
  | true =>
    obtain ⟨h, k⟩ := two_rl hp
    obtain ⟨e1, e2, e3⟩ := twoIn_yes hp
    rw [Bool.true_and]
    exact implSolve_walk xs ys (leftL xs ys) (compL xs (leftL xs ys)) (solveB xs ys) ao bo ca cb w (by rw [(h.left k).len]; exact h.four)
      (two_yes ao bo ca cb xs ys w hx hy e1 e2 e3) (fun w => leftR h k w) (fun w => then_any h (h.left k) w) (rows_eq (h.comp (h.left k)) k)
end Go.Proofs.Ytlghenibadkipaa
