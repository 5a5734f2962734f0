/-
  The program's list of powers.
-/
import Derived.Test.YthdnpcpimggjnaaGreatDoorEE
import Derived.Test.YthdnpcpimggjnaaGreatDoorEB
import Derived.WalkMore
import Derived.Deep.CutRange
namespace Go.Proofs.YthdnpcpimggjnaaGreatDoor
open Go.RowKit

set_option maxHeartbeats 1000000 in
theorem l2Equal_any (ao bo : Option Addr) (ca cb : Nat) (xs ys : List Int) (w : World) (hl : xs.length ≤ 1048576) (hl2 : ys.length ≤ 1048576) (hx : Rd w ao xs) (hy : Rd w bo ys) :
    Calls Tryz.prog 52 #[.slice ao xs.length ca, .slice bo ys.length cb] w fun e w' => e = .returned (.bool (decide (xs = ys))) ∧ Dn w w' := by
  go_enter Tryz.func52, Tryz.ntmps52
  by_cases hne : xs.length = ys.length
  · have h1 : ((xs.length : Int) != (ys.length : Int)) = false := by simp [hne]
    have hlen := Lib.hid hne
    clear hne
    go_wp2
    go_loopw [5] (fun i wr => ∃ k : Nat, k ≤ xs.length ∧ i = .int .i64 k ∧ xs.take k = ys.take k ∧ Dn w wr)
      (fun i _ => xs.length - (intOf i).toNat)
    case atStart => exact ⟨0, Nat.zero_le _, rfl, rfl, Dn.refl _⟩
    case round =>
      obtain ⟨k, hk, rfl, ht, hd⟩ := hrel
      have HT := Lib.hid ht
      clear ht
      by_cases hlt : k < xs.length
      · have hlt2 : k < ys.length := by rw [← hlen.out]; exact hlt
        obtain ⟨b, off, x, hxk, rfl, hbl, hc1⟩ := (hd.rd hx).get k hlt
        obtain ⟨b2, off2, y, hyk, rfl, hbl2, hc2⟩ := (hd.rd hy).get k hlt2
        have hi1 : ((k : Nat) : Int) < (xs.length : Int) := by omega
        have hi2 : ((k : Nat) : Int) < (ys.length : Int) := by omega
        have HX := Lib.hid hxk
        have HY := Lib.hid hyk
        clear hx hy hxk hyk
        go_wp2
        go_quiet (fail)
        by_cases heq : x = y
        · have h2 : (x != y) = false := by simp [heq]
          have HE := Lib.hid heq
          clear heq
          go_wp2
          go_roundw
          case rel =>
            refine ⟨k + 1, by omega, by go_num, ?_, hd.trans (Dn.drewN _ _)⟩
            rw [List.take_add_one, List.take_add_one, HT.out, HX.out, HY.out, HE.out]
          case measure => simp [intOf]; omega
        · go_wp2
          go_ret
          have hd' : ¬ xs = ys := by
            rintro rfl
            have := HX.out.symm.trans HY.out
            exact heq (by simpa using this)
          exact ⟨by simp [hd'], hd.trans (Dn.drewN _ _)⟩
      · go_wp2
        go_ret
        obtain rfl : k = xs.length := by omega
        have := HT.out
        rw [List.take_length, hlen.out, List.take_length] at this
        exact ⟨by simp [this], hd⟩
  · have h1 : ((xs.length : Int) != (ys.length : Int)) = true := by simp; omega
    go_wp2
    go_ret
    refine ⟨?_, Dn.refl _⟩
    have : ¬ xs = ys := fun h => hne (by rw [h])
    simp [this]

/-- whether the left residual solves -/
def solveB (xs ys : List Int) : Bool := decide (compL xs (leftL xs ys) = ys)
/-- rows that are alike are alike as arrays -/
theorem rows_eq {n : Nat} {a b : List Int} (h : Rl n a) (k : Rl n b) : (rowAt a 0 == rowAt b 0 && (rowAt a 1 == rowAt b 1 && (rowAt a 2 == rowAt b 2 && rowAt a 3 == rowAt b 3))) = decide (a = b) := by
  rw [Bool.eq_iff_iff, decide_eq_true_iff]
  simp only [Bool.and_eq_true, beq_iff_eq]
  constructor
  · rintro ⟨e0, e1, e2, e3⟩
    apply List.ext_getElem?
    intro i
    have h4 := h.four
    by_cases hi : i < n
    · rw [rowAt_get (by rw [h.len]; exact hi), rowAt_get (by rw [k.len]; exact hi)]
      rcases (by omega : i = 0 ∨ i = 1 ∨ i = 2 ∨ i = 3) with rfl | rfl | rfl | rfl
      · rw [e0]
      · rw [e1]
      · rw [e2]
      · rw [e3]
    · rw [List.getElem?_eq_none (by rw [h.len]; omega), List.getElem?_eq_none (by rw [k.len]; omega)]
  · rintro rfl
    exact ⟨rfl, rfl, rfl, rfl⟩

/-! the model's -/
/-! the program's -/
set_option maxHeartbeats 1000000 in
theorem eqRowsD (d : Nat) (a0 a1 a2 a3 b0 b1 b2 b3 : Int) (w : World) :
    Sem.run Tryz.prog (Op.equalIn (d + 2) 34 (.agg #[.int .i64 a0, .int .i64 a1, .int .i64 a2, .int .i64 a3]) (.agg #[.int .i64 b0, .int .i64 b1, .int .i64 b2, .int .i64 b3])) w = .ok (a0 == b0 && (a1 == b1 && (a2 == b2 && a3 == b3))) w := by
  unfold Op.equalIn
  have hsz : Sem.run Tryz.prog (sizeOf 33) w = .ok 1 w := by kernel_rfl
  have hr : List.range' 0 4 1 = [0, 1, 2, 3] := rfl
  rw [Sem.run_bind, run_underlying Tryz.underlying34]
  simp only [Result.andThen_ok]
  rw [Sem.run_bind, hsz]
  simp only [Result.andThen_ok]
  have hf : ∀ (f : Nat → Option Bool × Unit → Sem (ForInStep (Option Bool × Unit))) (i : Option Bool × Unit), forIn [:4] i f = forIn [0, 1, 2, 3] i f := by
    intro f i
    simp [Std.Legacy.Range.forIn_eq_forIn_range', Std.Legacy.Range.size, hr]
  rw [hf]
  simp only [List.forIn_cons, List.forIn_nil, bind_assoc, Sem.run_bind, partCell _ _ _ _ _ 0 (by omega), Result.andThen_ok, List.getD_cons_zero]
  rw [eqCell d a0 b0 w]
  cases (a0 == b0)
  case false => rfl
  simp only [Sem.run_bind, Sem.run_pure, Bool.not_true, Bool.false_eq_true, if_false, partCell _ _ _ _ _ 1 (by omega), Result.andThen_ok, List.getD_cons_zero, List.getD_cons_succ]
  rw [eqCell d a1 b1 w]
  cases (a1 == b1)
  case false => rfl
  simp only [Sem.run_bind, Sem.run_pure, Bool.not_true, Bool.false_eq_true, if_false, partCell _ _ _ _ _ 2 (by omega), Result.andThen_ok, List.getD_cons_zero, List.getD_cons_succ]
  rw [eqCell d a2 b2 w]
  cases (a2 == b2)
  case false => rfl
  simp only [Sem.run_bind, Sem.run_pure, Bool.not_true, Bool.false_eq_true, if_false, partCell _ _ _ _ _ 3 (by omega), Result.andThen_ok, List.getD_cons_zero, List.getD_cons_succ]
  rw [eqCell d a3 b3 w]
  cases (a3 == b3) <;> rfl

theorem fieldRows (n a b c d : Int) (w : World) : Sem.run Tryz.prog (Instr.field 36 (rel5 n a b c d) 1) w = .ok (.agg #[.int .i64 a, .int .i64 b, .int .i64 c, .int .i64 d]) w := by kernel_rfl
end Go.Proofs.YthdnpcpimggjnaaGreatDoor

namespace Go.Proofs.YthdnpcpimggjnaaGreatDoor
open Go.RowKit

theorem Tryz.info36 : (Tryz.prog.info? 36).map (fun i => (i.zero, i.size, i.bytes)) = some (some (rel5 0 0 0 0 0), 5, 40) := by kernel_rfl

/-- a relation's five cells -/
def relC (xs : List Int) : List Value := [.int .i64 xs.length, .int .i64 (rowAt xs 0), .int .i64 (rowAt xs 1), .int .i64 (rowAt xs 2), .int .i64 (rowAt xs 3)]
/-- the cells of the first m powers -/
def powC (xs : List Int) : Nat → List Value
  | 0 => []
  | m + 1 => powC xs m ++ relC (powL xs m)
theorem powC_len (xs : List Int) : ∀ m, (powC xs m).length = m * 5
  | 0 => rfl
  | m + 1 => by
    unfold powC
    rw [List.length_append, powC_len xs m]
    simp [relC]
    omega
theorem powC_at (xs : List Int) : ∀ (m k : Nat), k < m → ∀ j, j < 5 → (powC xs m)[k * 5 + j]? = (relC (powL xs k))[j]?
  | 0, k, h, j, hj => absurd h (by omega)
  | m + 1, k, h, j, hj => by
    unfold powC
    by_cases e : k < m
    · rw [List.getElem?_append_left (by rw [powC_len]; omega)]
      exact powC_at xs m k e j hj
    · obtain rfl : k = m := by omega
      rw [List.getElem?_append_right (by rw [powC_len]; omega), powC_len]
      congr 1
      omega
def lenOf : Value → Nat
  | .slice _ n _ => n
  | _ => 0

/-- the cells of the power k, in a row of m -/
theorem pow_cells {w : World} {base g cap m : Nat} {xs : List Int} (h : w.ownsRow base 36 5 (.slice (some ⟨g, 0, none⟩) m cap) m (powC xs m)) (k : Nat) (hk : k < m) :
    w.cell? ⟨g, k * 5, none⟩ = some (.int .i64 (powL xs k).length) ∧ w.cell? ⟨g, k * 5 + 1, none⟩ = some (.int .i64 (rowAt (powL xs k) 0)) ∧ w.cell? ⟨g, k * 5 + 2, none⟩ = some (.int .i64 (rowAt (powL xs k) 1)) ∧
    w.cell? ⟨g, k * 5 + 3, none⟩ = some (.int .i64 (rowAt (powL xs k) 2)) ∧ w.cell? ⟨g, k * 5 + 4, none⟩ = some (.int .i64 (rowAt (powL xs k) 3)) := by
  refine ⟨?_, ?_, ?_, ?_, ?_⟩
  · exact (h.cellAt (k * 5) (by omega)).trans (powC_at xs m k hk 0 (by omega))
  · exact (h.cellAt (k * 5 + 1) (by omega)).trans (powC_at xs m k hk 1 (by omega))
  · exact (h.cellAt (k * 5 + 2) (by omega)).trans (powC_at xs m k hk 2 (by omega))
  · exact (h.cellAt (k * 5 + 3) (by omega)).trans (powC_at xs m k hk 3 (by omega))
  · exact (h.cellAt (k * 5 + 4) (by omega)).trans (powC_at xs m k hk 4 (by omega))

theorem pow_form {w : World} {lo n : Nat} {v : Value} {us : List Value} (h : w.ownsRow lo 36 5 v n us) (hn : 1 ≤ n) : ∃ g cap, v = .slice (some ⟨g, 0, none⟩) n cap ∧ lo ≤ g ∧ g < w.heap.size := by
  rcases h.2 with ⟨_, h2⟩ | ⟨g, cap, cur, rfl, _⟩
  · omega
  · exact ⟨g, cap, rfl, (h.lt g rfl).1, (h.lt g rfl).2⟩
theorem own_keepR {w w' : World} {e : TypeId} {size lo B n : Nat} {v : Value} {us : List Value} (h : w.ownsRow lo e size v n us) (hb : Below B w w') (hB : ∀ k, v.ownBlock = some k → k < B) : w'.ownsRow lo e size v n us := by
  refine ⟨h.1, ?_⟩
  rcases h.2 with h2 | ⟨g, cap, cur, rfl, h2, h3, h4⟩
  · exact .inl h2
  · exact .inr ⟨g, cap, cur, rfl, h2, (hb.block g (hB g rfl)).trans h3, h4⟩

theorem cell_five_new (w : World) (a b c d e : Value) (t : TypeId) : ∀ j u, [a, b, c, d, e][j]? = some u → (w.alloc (.cells #[a, b, c, d, e] t)).cell? ((⟨w.heap.size, 0, none⟩ : Addr).add j) = some u := by
  intro j u hj
  match j, hj with
  | 0, hj | 1, hj | 2, hj | 3, hj | 4, hj =>
    simp at hj
    subst hj
    simp [Addr.add]
  | j + 5, hj => simp at hj
/-- a block that holds no powers yet -/
def PlAt (w : World) (b : Nat) : Prop := w.heap[b]? = some (.cells #[.slice none 0 0, .int .i64 0] 152 (0, 0))
theorem PlAt.new (w : World) : PlAt (w.alloc (.cells #[.slice none 0 0, .int .i64 0] 152)) w.heap.size := heap_alloc_new w _
theorem PlAt.lt {w : World} {b : Nat} (h : PlAt w b) : b < w.heap.size := (Array.getElem?_eq_some_iff.1 h).1
theorem PlAt.alloc {w : World} {b : Nat} (h : PlAt w b) (o : Obj) : PlAt (w.alloc o) b := (Below.heap_alloc w o b h.lt).trans h
theorem PlAt.below {w w' : World} {B b : Nat} (h : PlAt w b) (hb : Below B w w') (hlt : b < B) : PlAt w' b := (hb.block b hlt).trans h
theorem PlAt.other {w : World} {b : Nat} (h : PlAt w b) {p : Addr} (hp : b ≠ p.block) (v : Value) : PlAt (w.setCell p v) b := (Below.heap_setCell w p v b hp).trans h
theorem PlAt.cell0 {w : World} {b : Nat} (h : PlAt w b) : w.cell? ⟨b, 0, none⟩ = some (.slice none 0 0) := by
  unfold PlAt at h
  simp [World.cell?, h]
theorem PlAt.cell1 {w : World} {b : Nat} (h : PlAt w b) : w.cell? ⟨b, 1, none⟩ = some (.int .i64 0) := by
  unfold PlAt at h
  simp [World.cell?, h]
theorem PlAt.free {w : World} {b : Nat} (h : PlAt w b) (j : Nat) : w.frozen? ⟨b, j, none⟩ = false := by
  unfold PlAt at h
  simp [World.frozen?, h]
/-- the first m powers are all different -/
def NewTo (xs : List Int) (m : Nat) : Prop := ∀ i j, i < j → j < m → powL xs i ≠ powL xs j

set_option maxRecDepth 100000 in
set_option maxHeartbeats 8000000 in
theorem powersOf_any {xs : List Int} (h : Rl xs.length xs) (w : World) :
    Calls Tryz.prog 181 #[relOf xs] w fun e w' => ∃ (v : Value) (m a : Nat), Rep xs m a ∧ e = .returned (.agg #[v, .int .i64 a]) ∧ w'.ownsRow w.heap.size 36 5 v (m + 1) (powC xs (m + 1)) ∧ Below w.heap.size w w' := by
  obtain ⟨i0, hi, hz0, hz1, hz2⟩ := info_parts Tryz.info36
  have x1 := (RelAt.new w xs).alloc (.cells #[.slice none 0 0, .int .i64 0] 152)
  have B0 := below_two w (.cells #[.int .i64 xs.length, .int .i64 (rowAt xs 0), .int .i64 (rowAt xs 1), .int .i64 (rowAt xs 2), .int .i64 (rowAt xs 3)] 36) (.cells #[.slice none 0 0, .int .i64 0] 152)
  have H := Lib.hid h
  have p0 := x1.cell0
  clear h
  go_enter Tryz.func181, Tryz.ntmps181
  go_wp2
  go_step3
  go_wp2_with fail
  refine (sameOn_any xs.length _ H.out.one H.out.four).mono ?_
  rintro e w1 ⟨rfl, hb⟩
  go_wp2
  go_step3
  go_wp2
  have hown0 : (w1.alloc (.cells #[.int .i64 (sameL xs.length).length, .int .i64 (rowAt (sameL xs.length) 0), .int .i64 (rowAt (sameL xs.length) 1), .int .i64 (rowAt (sameL xs.length) 2), .int .i64 (rowAt (sameL xs.length) 3)] 36)).ownsRow (w.heap.size + 2) 36 5 (.slice (some ⟨w1.heap.size, 0, none⟩) 1 1) 1 (powC xs 1) :=
    World.ownsRow_lit w1 _ 1 (by have := hb.size; simpa using this) (by unfold maxLen; omega) rfl
  have x2 := (x1.below hb x1.lt).alloc (.cells #[.int .i64 (sameL xs.length).length, .int .i64 (rowAt (sameL xs.length) 0), .int .i64 (rowAt (sameL xs.length) 1), .int .i64 (rowAt (sameL xs.length) 2), .int .i64 (rowAt (sameL xs.length) 3)] 36)
  have l1 := (PlAt.new (w.alloc (.cells #[.int .i64 xs.length, .int .i64 (rowAt xs 0), .int .i64 (rowAt xs 1), .int .i64 (rowAt xs 2), .int .i64 (rowAt xs 3)] 36))).below hb (by simp)
  rw [World.size_alloc] at l1
  have l2 := l1.alloc (.cells #[.int .i64 (sameL xs.length).length, .int .i64 (rowAt (sameL xs.length) 0), .int .i64 (rowAt (sameL xs.length) 1), .int .i64 (rowAt (sameL xs.length) 2), .int .i64 (rowAt (sameL xs.length) 3)] 36)
  have B2 := (B0.trans (hb.mono B0.size)).alloc (Nat.le_trans B0.size hb.size) (.cells #[.int .i64 (sameL xs.length).length, .int .i64 (rowAt (sameL xs.length) 0), .int .i64 (rowAt (sameL xs.length) 1), .int .i64 (rowAt (sameL xs.length) 2), .int .i64 (rowAt (sameL xs.length) 3)] 36)
  clear x1 l1 hb B0
  go_loopw [3, 4, 5, 6, 7] (fun p a _ _ _ wr => ∃ m : Nat, 1 ≤ m ∧ a = .int .i64 0 ∧ wr.ownsRow (w.heap.size + 2) 36 5 p m (powC xs m) ∧ RelAt wr w.heap.size xs ∧ PlAt wr (w.heap.size + 1) ∧ NewTo xs m ∧ Below w.heap.size w wr)
    (fun p _ _ _ _ _ => 65537 - lenOf p)
  case atStart => exact ⟨1, Nat.le_refl _, rfl, hown0, x2, l2, fun i j h1 h2 => by omega, B2⟩
  case round =>
    clear hown0 x2 l2 B2 p0
    obtain ⟨m, hm1, rfl, ho, hx, hpl, hnew, hB⟩ := hrel
    obtain ⟨g, cap, rfl, hg1, hg2⟩ := pow_form ho hm1
    have hm2 := new_le H.out m hnew
    have HN := Lib.hid hnew
    clear hnew
    obtain ⟨k, rfl⟩ : ∃ k, m = k + 1 := ⟨m - 1, by omega⟩
    obtain ⟨c0, c1, c2, c3, c4⟩ := pow_cells ho k (by omega)
    have p0 := hx.cell0
    have p1 := hx.cell1
    have p2 := hx.cell2
    have p3 := hx.cell3
    have p4 := hx.cell4
    have hwk : IntKind.i64.wrap (k : Int) = k := by
      simp only [IntKind.wrap, IntKind.bits, IntKind.signed]
      simp only [Bool.true_and]
      rw [if_neg (by intro hh; have := of_decide_eq_true hh; omega)]
      omega
    have hi1 : (k : Int) < (k : Int) + 1 := by omega
    have hi0 : 0 ≤ (k : Int) := by omega
    have hx' := hx.alloc (.cells #[.int .i64 0, .int .i64 0, .int .i64 0, .int .i64 0, .int .i64 0] 36)
    obtain ⟨d0, d1, d2, d3, d4⟩ := pow_cells (ho.alloc (.cells #[.int .i64 0, .int .i64 0, .int .i64 0, .int .i64 0, .int .i64 0] 36)) k (by omega)
    have q0 := hx'.cell0
    have q1 := hx'.cell1
    have q2 := hx'.cell2
    have q3 := hx'.cell3
    have q4 := hx'.cell4
    have zr := rel_zero wr
    have zd := rel_zero wr.drew
    go_wp2
    go_cut [5] from 12 to 41 (fun q W => ∃ b : Nat, q = .pointer (some ⟨b, 0, none⟩) ∧ b ≠ g ∧ w.heap.size + 2 ≤ b ∧ RelAt W b (compL (powL xs k) xs) ∧ RelAt W w.heap.size xs ∧ PlAt W (w.heap.size + 1) ∧ W.ownsRow (w.heap.size + 2) 36 5 (.slice (some ⟨g, 0, none⟩) (k + 1) cap) (k + 1) (powC xs (k + 1)) ∧ Below w.heap.size w W)
    case first =>
      go_region_with (go_at_call 112; refine (then_any (H.out.pow k) H.out _).mono ?_; rintro e w2 ⟨rfl, hb2⟩; first | (have z2 : RelAt w2 wr.heap.size [] := (by first | exact RelAt.below zr.drew hb2 (by simp) | exact RelAt.below zr hb2 (by simp) | exact RelAt.below zd hb2 (by simp)); have f0 := z2.free 0; have f1 := z2.free 1; have f2 := z2.free 2; have f3 := z2.free 3; have f4 := z2.free 4; have u0 := z2.cell0; have u1 := z2.cell1; have u2 := z2.cell2; have u3 := z2.cell3; have u4 := z2.cell4) | (have z2 := rel_zero w2; have f0 := z2.free 0; have f1 := z2.free 1; have f2 := z2.free 2; have f3 := z2.free 3; have f4 := z2.free 4; have u0 := z2.cell0; have u1 := z2.cell1; have u2 := z2.cell2; have u3 := z2.cell3; have u4 := z2.cell4))
      all_goals
        clear p0 p1 p2 p3 p4 q0 q1 q2 q3 q4 c0 c1 c2 c3 c4 d0 d1 d2 d3 d4 f0 f1 f2 f3 f4 u0 u1 u2 u3 u4 hx' zr zd hwk hi1 hi0
        go_wp2
        go_meet
        case rel =>
          have fin : ∀ (b : Nat) (W : World), wr.heap.size ≤ b → Below wr.heap.size wr W → RelAt W b (compL (powL xs k) xs) → ∃ b' : Nat, Value.pointer (some ⟨b, 0, none⟩) = .pointer (some ⟨b', 0, none⟩) ∧ b' ≠ g ∧ w.heap.size + 2 ≤ b' ∧ RelAt W b' (compL (powL xs k) xs) ∧ RelAt W w.heap.size xs ∧ PlAt W (w.heap.size + 1) ∧ W.ownsRow (w.heap.size + 2) 36 5 (.slice (some ⟨g, 0, none⟩) (k + 1) cap) (k + 1) (powC xs (k + 1)) ∧ Below w.heap.size w W :=
            fun b W hbs HB hr => ⟨b, rfl, by omega, by omega, hr, hx.below HB hx.lt, hpl.below HB hpl.lt, own_keepR ho HB (fun q hq => by cases hq; exact hg2), hB.trans (HB.mono hB.size)⟩
          first
            | exact fin w2.heap.size (w2.alloc (.cells #[.int .i64 (compL (powL xs k) xs).length, .int .i64 (rowAt (compL (powL xs k) xs) 0), .int .i64 (rowAt (compL (powL xs k) xs) 1), .int .i64 (rowAt (compL (powL xs k) xs) 2), .int .i64 (rowAt (compL (powL xs k) xs) 3)] 36)) hb2.size (((Below.refl wr.heap.size wr).drew.trans (hb2.mono (Nat.le_refl _))).alloc hb2.size _) (RelAt.new w2 _)
            | (have HB0 : Below wr.heap.size wr w2 := (by first | exact ((Below.refl wr.heap.size wr).alloc (Nat.le_refl _) _).drew.trans (hb2.mono (by simp)) | exact ((Below.refl wr.heap.size wr).drew.alloc (Nat.le_refl _) _).trans (hb2.mono (by simp)))
               have bb := fun (W : World) (j : Nat) (v : Value) (h : Below wr.heap.size wr W) => h.setCell (p := ⟨wr.heap.size, j, none⟩) (Nat.le_refl _) v
               exact fin wr.heap.size (((((w2.setCell ⟨wr.heap.size, 0, none⟩ (.int .i64 (compL (powL xs k) xs).length)).setCell ⟨wr.heap.size, 1, none⟩ (.int .i64 (rowAt (compL (powL xs k) xs) 0))).setCell ⟨wr.heap.size, 2, none⟩ (.int .i64 (rowAt (compL (powL xs k) xs) 1))).setCell ⟨wr.heap.size, 3, none⟩ (.int .i64 (rowAt (compL (powL xs k) xs) 2))).setCell ⟨wr.heap.size, 4, none⟩ (.int .i64 (rowAt (compL (powL xs k) xs) 3))) (Nat.le_refl _) (bb _ _ _ (bb _ _ _ (bb _ _ _ (bb _ _ _ (bb _ _ _ HB0))))) (z2.put _))
    case rest =>
      clear p0 p1 p2 p3 p4 q0 q1 q2 q3 q4 c0 c1 c2 c3 c4 d0 d1 d2 d3 d4 hx' hx hpl hB ho hg2 hwk hi1 hi0
      obtain ⟨b, rfl, hbg, hbN, hr, hx2, hpl2, ho2, hB2⟩ := hcut
      obtain ⟨L, hL⟩ : ∃ L, compL (powL xs k) xs = L := ⟨_, rfl⟩
      rw [hL] at hr
      have RL : Rl xs.length L := hL ▸ (H.out.pow k).comp H.out
      have HL := Lib.hid (And.intro hL RL)
      have hbL : b < wc.heap.size := hr.lt
      clear hL RL
      go_wp2
      go_loopw [22, 3, 4, 6, 7] (fun i p a _ _ W => ∃ j : Nat, j ≤ k + 1 ∧ i = .int .i64 j ∧ p = .slice (some ⟨g, 0, none⟩) (k + 1) cap ∧ a = .int .i64 0 ∧ (∀ t, t < j → powL xs t ≠ L) ∧ RelAt W b L ∧ RelAt W w.heap.size xs ∧ PlAt W (w.heap.size + 1) ∧ W.ownsRow (w.heap.size + 2) 36 5 (.slice (some ⟨g, 0, none⟩) (k + 1) cap) (k + 1) (powC xs (k + 1)) ∧ Below w.heap.size w W)
        (fun i _ _ _ _ _ => k + 1 - (intOf i).toNat)
      case atStart => exact ⟨0, Nat.zero_le _, rfl, rfl, rfl, fun t ht => by omega, hr, hx2, hpl2, ho2, hB2⟩
      case round =>
        clear hr hx2 hpl2 ho2 hB2 hbL
        obtain ⟨j, hj, rfl, rfl, rfl, hne, hr, hx, hpl, ho, hB⟩ := hrel
        have HNE := Lib.hid hne
        clear hne
        have r0 := hr.cell0
        have r1 := hr.cell1
        have r2 := hr.cell2
        have r3 := hr.cell3
        have r4 := hr.cell4
        have hbW := hr.lt
        have hgW := (ho.lt g rfl).2
        by_cases hlt : j < k + 1
        · obtain ⟨c0, c1, c2, c3, c4⟩ := pow_cells ho j hlt
          obtain ⟨Q, hQ⟩ : ∃ Q, powL xs j = Q := ⟨_, rfl⟩
          rw [hQ] at c0 c1 c2 c3 c4
          have RQ : Rl xs.length Q := hQ ▸ H.out.pow j
          have hi1 : (j : Int) < (k : Int) + 1 := by omega
          have hi2 : (j : Int) < ((k + 1 : Nat) : Int) := by omega
          obtain ⟨s, hs⟩ : ∃ s, decide (Q = L) = s := ⟨_, rfl⟩
          have hE : ∀ w, Sem.run Tryz.prog (Op.equalIn 10000 34 (.agg #[.int .i64 (rowAt Q 0), .int .i64 (rowAt Q 1), .int .i64 (rowAt Q 2), .int .i64 (rowAt Q 3)]) (.agg #[.int .i64 (rowAt L 0), .int .i64 (rowAt L 1), .int .i64 (rowAt L 2), .int .i64 (rowAt L 3)])) w = .ok s w :=
            fun w => (eqRowsD 9998 (rowAt Q 0) (rowAt Q 1) (rowAt Q 2) (rowAt Q 3) (rowAt L 0) (rowAt L 1) (rowAt L 2) (rowAt L 3) w).trans (by rw [rows_eq RQ HL.out.2, hs])
          have HQ := Lib.hid (And.intro hQ hs)
          clear hQ hs RQ
          cases s with
          | true =>
            have h5 := cell_five_new (wr.alloc (.cells #[.int .i64 Q.length, .int .i64 (rowAt Q 0), .int .i64 (rowAt Q 1), .int .i64 (rowAt Q 2), .int .i64 (rowAt Q 3)] 36)) (.int .i64 L.length) (.int .i64 (rowAt L 0)) (.int .i64 (rowAt L 1)) (.int .i64 (rowAt L 2)) (.int .i64 (rowAt L 3)) 36
            rw [World.size_alloc] at h5
            have H5 := Lib.hid h5
            clear h5
            go_wp2_with (at_builtin; refine wpList_append_own _ rfl (.tmp 32) (.tmp 34) 150 rfl (w.heap.size + 2) 36 i0 (rel5 0 0 0 0 0) 5 40 Tryz.underlying150 hi hz0 hz1 hz2 rfl (by decide) _ _ _ rfl ((ho.alloc _).alloc _) ⟨wr.heap.size + 1, 0, none⟩ 1 1 [_, _, _, _, _] rfl rfl H5.out (by simp [Value.oneCell']) (by unfold maxLen; omega) (by omega) (by have := hB.size; simp; omega) ?_)
            intro v' w3 hown' hgrow _
            have hB3 : Below w.heap.size w w3 := (hB.trans ((below_two wr _ _).mono hB.size)).grown hgrow (Nat.le_trans hB.size (below_two wr _ _).size) (fun q hq => by have := (ho.lt q hq).1; omega)
            have hpl3 : PlAt w3 (w.heap.size + 1) := (hgrow.block (w.heap.size + 1) (by have := hpl.lt; simp; omega) (by simp [Value.ownBlock]; omega)).trans ((hpl.alloc _).alloc _)
            have hown2 : w3.ownsRow (w.heap.size + 2) 36 5 v' (k + 1 + 1) (powC xs (k + 1 + 1)) := by
              have e : powL xs (k + 1) = L := HL.out.1
              show w3.ownsRow (w.heap.size + 2) 36 5 v' (k + 1 + 1) (powC xs (k + 1) ++ relC (powL xs (k + 1)))
              rw [e]
              exact hown'
            obtain ⟨g', cap', rfl, hg1', hg2'⟩ := pow_form hown2 (by omega)
            have q0 := hpl3.cell0
            have q1 := hpl3.cell1
            have g0 := hpl3.free 0
            have g1 := hpl3.free 1
            have HO := Lib.hid (And.intro hown2 (And.intro hB3 hpl3))
            clear hown' hgrow hB ho hr hx hpl r0 r1 r2 r3 r4 c0 c1 c2 c3 c4 hown2 hB3 H5 hE
            go_wp2
            try rw [Exit.noGoto_ret]
            have S0 : ∀ (W : World) (i : Nat) (u : Value), W.ownsRow (w.heap.size + 2) 36 5 (.slice (some ⟨g', 0, none⟩) (k + 1 + 1) cap') (k + 1 + 1) (powC xs (k + 1 + 1)) → (W.setCell ⟨w.heap.size + 1, i, none⟩ u).ownsRow (w.heap.size + 2) 36 5 (.slice (some ⟨g', 0, none⟩) (k + 1 + 1) cap') (k + 1 + 1) (powC xs (k + 1 + 1)) :=
              fun W i u h => ownsRow_setCell_below h (a := ⟨w.heap.size + 1, i, none⟩) (by simp) u
            have bb := fun (W : World) (i : Nat) (v : Value) (h : Below w.heap.size w W) => h.setCell (p := ⟨w.heap.size + 1, i, none⟩) (Nat.le_succ _) v
            refine bodyPost_ret (v := .agg #[.slice (some ⟨g', 0, none⟩) (k + 1 + 1) cap', .int .i64 j]) (by simp [results, Tryz.results181, go_sem, q0, q1]) rfl ⟨_, k + 1, j, ⟨hlt, ?_, HN.out⟩, rfl, own_mono (S0 _ _ _ (S0 _ _ _ HO.out.1)) (by omega), bb _ _ _ (bb _ _ _ HO.out.2.1)⟩
            have e : powL xs (k + 1) = L := HL.out.1
            rw [e, HQ.out.1]
            exact (of_decide_eq_true HQ.out.2).symm
          | false =>
            have hfalse : Q ≠ L := of_decide_eq_false HQ.out.2
            have HF := Lib.hid hfalse
            clear hfalse
            go_wp2
            go_roundw
            case rel =>
              refine ⟨j + 1, by omega, by go_num, rfl, rfl, ?_, hr.alloc _, hx.alloc _, hpl.alloc _, ho.alloc _, hB.alloc hB.size _⟩
              intro t ht
              by_cases e : t = j
              · subst e
                rw [HQ.out.1]
                exact HF.out
              · exact HNE.out t (by omega)
            case measure => simp [intOf]; omega
        · obtain rfl : j = k + 1 := by omega
          clear hlt
          go_wp2_with (at_builtin; refine wpList_append_own _ rfl (.tmp 38) (.tmp 40) 150 rfl (w.heap.size + 2) 36 i0 (rel5 0 0 0 0 0) 5 40 Tryz.underlying150 hi hz0 hz1 hz2 rfl (by decide) _ _ _ rfl (ho.alloc _) ⟨wr.heap.size, 0, none⟩ 1 1 [_, _, _, _, _] rfl rfl (cell_five_new wr _ _ _ _ _ _) (by simp [Value.oneCell']) (by unfold maxLen; omega) (by omega) (by have := hB.size; simp; omega) ?_)
          intro v' w3 hown' hgrow _
          have hB3 : Below w.heap.size w w3 := (hB.alloc hB.size _).grown hgrow (by have := hB.size; simp; omega) (fun q hq => by have := (ho.lt q hq).1; omega)
          have hpl3 : PlAt w3 (w.heap.size + 1) := (hgrow.block (w.heap.size + 1) (by have := hpl.lt; simp; omega) (by simp [Value.ownBlock]; omega)).trans (hpl.alloc _)
          have hx3 : RelAt w3 w.heap.size xs := (hgrow.block w.heap.size (by have := hx.lt; simp; omega) (by simp [Value.ownBlock]; omega)).trans (hx.alloc _)
          have hown2 : w3.ownsRow (w.heap.size + 2) 36 5 v' (k + 1 + 1) (powC xs (k + 1 + 1)) := by
            have e : powL xs (k + 1) = L := HL.out.1
            show w3.ownsRow (w.heap.size + 2) 36 5 v' (k + 1 + 1) (powC xs (k + 1) ++ relC (powL xs (k + 1)))
            rw [e]
            exact hown'
          have hnew2 : NewTo xs (k + 1 + 1) := new_step (k + 1) HN.out (fun i hi => by
            have e : powL xs (k + 1) = L := HL.out.1
            rw [e]
            exact HNE.out i hi)
          have hbound := new_le H.out (k + 1 + 1) hnew2
          obtain ⟨g', cap', rfl, _, _⟩ := pow_form hown2 (by omega)
          have HO := Lib.hid (And.intro hown2 (And.intro hx3 (And.intro hpl3 (And.intro hnew2 hB3))))
          clear hown' hgrow hB ho hr hx hpl r0 r1 r2 r3 r4 hown2 hB3 hpl3 hx3 hnew2
          go_wp2
          go_roundw
          case rel => exact ⟨k + 1 + 1, by omega, rfl, HO.out.1, HO.out.2.1, HO.out.2.2.1, HO.out.2.2.2.1, HO.out.2.2.2.2⟩
          case measure => simp [lenOf]; omega
end Go.Proofs.YthdnpcpimggjnaaGreatDoor
