/-
  Contracts of the program's sameOn and RelSame, and of the model's l1Same and RelSame; for any number.
-/
import Derived.Test.YthdnpcpimggjnaaGreatDoorO
import Derived.Laws.BitsAllLaws
namespace Go.Proofs.YthdnpcpimggjnaaGreatDoor
open Go.RowKit

theorem eqCell (d : Nat) (a b : Int) (w : World) : Sem.run Tryz.prog (Op.equalIn (d + 1) 33 (.int .i64 a) (.int .i64 b)) w = .ok (a == b) w := by
  unfold Op.equalIn
  simp [go_sem]
theorem partCell (a0 a1 a2 a3 : Int) (w : World) (k : Nat) (hk : k < 4) : Sem.run Tryz.prog (part 33 #[.int .i64 a0, .int .i64 a1, .int .i64 a2, .int .i64 a3] (k * 1)) w = .ok ([Value.int .i64 a0, .int .i64 a1, .int .i64 a2, .int .i64 a3].getD k undef) w := by
  rcases (by omega : k = 0 ∨ k = 1 ∨ k = 2 ∨ k = 3) with rfl | rfl | rfl | rfl <;> kernel_rfl
set_option maxHeartbeats 1000000 in
theorem eqRows (a0 a1 a2 a3 b0 b1 b2 b3 : Int) (w : World) :
    Sem.run Tryz.prog (Op.equalIn 9999 34 (.agg #[.int .i64 a0, .int .i64 a1, .int .i64 a2, .int .i64 a3]) (.agg #[.int .i64 b0, .int .i64 b1, .int .i64 b2, .int .i64 b3])) w = .ok (a0 == b0 && (a1 == b1 && (a2 == b2 && a3 == b3))) w := by
  have e : Op.equalIn 9999 34 = Op.equalIn (9998 + 1) 34 := rfl
  rw [e]
  unfold Op.equalIn
  have hsz : Sem.run Tryz.prog (sizeOf 33) w = .ok 1 w := by kernel_rfl
  have hr : List.range' 0 4 1 = [0, 1, 2, 3] := rfl
  rw [Sem.run_bind, run_underlying Tryz.underlying34]
  simp only [Result.andThen_ok]
  rw [Sem.run_bind, hsz]
  simp only [Result.andThen_ok]
  have hf : ∀ (f : Nat → Option Bool × Unit → Sem (ForInStep (Option Bool × Unit))) (i : Option Bool × Unit), forIn [:4] i f = forIn [0, 1, 2, 3] i f := by
    intro f i
    simp [Std.Legacy.Range.forIn_eq_forIn_range', Std.Legacy.Range.size, hr]
  rw [hf]
  simp only [List.forIn_cons, List.forIn_nil, bind_assoc, Sem.run_bind, partCell _ _ _ _ _ 0 (by omega), Result.andThen_ok, List.getD_cons_zero]
  rw [eqCell 9997 a0 b0 w]
  cases (a0 == b0)
  case false => rfl
  simp only [Sem.run_bind, Sem.run_pure, Bool.not_true, Bool.false_eq_true, if_false, partCell _ _ _ _ _ 1 (by omega), Result.andThen_ok, List.getD_cons_zero, List.getD_cons_succ]
  rw [eqCell 9997 a1 b1 w]
  cases (a1 == b1)
  case false => rfl
  simp only [Sem.run_bind, Sem.run_pure, Bool.not_true, Bool.false_eq_true, if_false, partCell _ _ _ _ _ 2 (by omega), Result.andThen_ok, List.getD_cons_zero, List.getD_cons_succ]
  rw [eqCell 9997 a2 b2 w]
  cases (a2 == b2)
  case false => rfl
  simp only [Sem.run_bind, Sem.run_pure, Bool.not_true, Bool.false_eq_true, if_false, partCell _ _ _ _ _ 3 (by omega), Result.andThen_ok, List.getD_cons_zero, List.getD_cons_succ]
  rw [eqCell 9997 a3 b3 w]
  cases (a3 == b3) <;> rfl

theorem both_len (xs ys : List Int) (h : xs.length = ys.length) : (bothL xs ys).length = xs.length := by
  unfold bothL zipI
  rw [List.length_zipWith, h, Nat.min_self]

/-- on small numbers 'x and y is x' and 'nothing of x is outside y' are one -/
theorem bits16 : ∀ x : Fin 16, ∀ y : Fin 16, ((bits .and .i64 (x.val : Int) (y.val : Int) = (x.val : Int)) ↔ (bits .andNot .i64 (x.val : Int) (y.val : Int) = 0)) := by decide +kernel

theorem row16 {xs : List Int} (h : relIn xs = true) (k : Nat) : ∃ x : Fin 16, rowAt xs k = (x.val : Int) := by
  by_cases hk : k < xs.length
  · have hr := relIn_row h (rowAt_get hk)
    have h4 := relIn_len h
    unfold rowIn at hr
    rw [Bool.and_eq_true] at hr
    have h0 := of_decide_eq_true hr.1
    have h1 := of_decide_eq_true hr.2
    have h2 : (2 : Int) ^ xs.length ≤ 16 := by
      rcases (by omega : xs.length = 1 ∨ xs.length = 2 ∨ xs.length = 3 ∨ xs.length = 4) with e | e | e | e <;> rw [e] <;> decide
    exact ⟨⟨(rowAt xs k).toNat, by omega⟩, by simp; omega⟩
  · exact ⟨0, by unfold rowAt; rw [List.getD_eq_getElem?_getD, List.getElem?_eq_none (by omega)]; rfl⟩

theorem below_at {xs ys : List Int} (hp : relIn xs = true) (hq : relIn ys = true) (hn : xs.length = ys.length) (k : Nat) (hk : k < xs.length) :
    rowAt (bothL xs ys) k = rowAt xs k ↔ bits .andNot .i64 (rowAt xs k) (rowAt ys k) = 0 := by
  have e : rowAt (bothL xs ys) k = bits .and .i64 (rowAt xs k) (rowAt ys k) := by
    have h := zip_at (bits .and .i64) xs ys k hk (by omega)
    have h2 : rowAt (bothL xs ys) k = ((zipI (bits .and .i64) xs ys)[k]?).getD 0 := by unfold rowAt bothL; rw [List.getD_eq_getElem?_getD]
    rw [h2, h]
    rfl
  rw [e]
  obtain ⟨x, hx⟩ := row16 hp k
  obtain ⟨y, hy⟩ := row16 hq k
  rw [hx, hy]
  exact bits16 x y

theorem below_no (xs ys : List Int) (hp : relIn xs = true) (hq : relIn ys = true) (hn : xs.length = ys.length) (k : Nat) (h : ¬ rowAt (bothL xs ys) k = rowAt xs k) : belowB xs ys = false := by
  have hk : k < xs.length := by
    apply Decidable.byContradiction
    intro hk
    apply h
    unfold rowAt
    rw [List.getD_eq_getElem?_getD, List.getD_eq_getElem?_getD, List.getElem?_eq_none (by rw [both_len xs ys hn]; omega), List.getElem?_eq_none (by omega)]
  unfold belowB
  rw [List.all_eq_false]
  refine ⟨_, List.mem_of_getElem? (zip_at _ xs ys k hk (by omega)), ?_⟩
  simp
  intro h0
  exact h ((below_at hp hq hn k hk).2 h0)

theorem below_yes (xs ys : List Int) (hp : relIn xs = true) (hq : relIn ys = true) (hn : xs.length = ys.length) (h0 : rowAt (bothL xs ys) 0 = rowAt xs 0) (h1 : rowAt (bothL xs ys) 1 = rowAt xs 1) (h2 : rowAt (bothL xs ys) 2 = rowAt xs 2)
    (h3 : rowAt (bothL xs ys) 3 = rowAt xs 3) : belowB xs ys = true := by
  have h4 := (relIn_len hp).2
  unfold belowB
  rw [List.all_eq_true]
  intro x hx
  obtain ⟨k, hk, hkx⟩ := List.getElem_of_mem hx
  have hk' : k < xs.length := by unfold zipI at hk; rw [List.length_zipWith] at hk; omega
  have hz := zip_at (bits .andNot .i64) xs ys k hk' (by omega)
  rw [List.getElem?_eq_getElem hk, hkx] at hz
  have hz' : x = bits .andNot .i64 (rowAt xs k) (rowAt ys k) := by simpa using hz
  have hall : rowAt (bothL xs ys) k = rowAt xs k := by
    rcases (by omega : k = 0 ∨ k = 1 ∨ k = 2 ∨ k = 3) with rfl | rfl | rfl | rfl <;> assumption
  rw [hz', (below_at hp hq hn k hk').1 hall]
  rfl

set_option maxHeartbeats 4000000 in
theorem below_any (xs ys : List Int) (w : World) (hp : relIn xs = true) (hq : relIn ys = true) (hn : xs.length = ys.length) :
    Calls Tryz.prog 108 #[relOf xs, relOf ys] w fun e w' => e = .returned (.bool (belowB xs ys)) ∧ Below w.heap.size w w' := by
  have h4 := (relIn_len hp).2
  have HP := Lib.hid hp
  have HQ := Lib.hid hq
  have HN := Lib.hid hn
  clear hp hq hn
  have x2 := (RelAt.new w xs).alloc (.cells #[.int .i64 ys.length, .int .i64 (rowAt ys 0), .int .i64 (rowAt ys 1), .int .i64 (rowAt ys 2), .int .i64 (rowAt ys 3)] 36)
  have x3 := RelAt.new (w.alloc (.cells #[.int .i64 xs.length, .int .i64 (rowAt xs 0), .int .i64 (rowAt xs 1), .int .i64 (rowAt xs 2), .int .i64 (rowAt xs 3)] 36)) ys
  rw [World.size_alloc] at x3
  have B0 := below_two w (.cells #[.int .i64 xs.length, .int .i64 (rowAt xs 0), .int .i64 (rowAt xs 1), .int .i64 (rowAt xs 2), .int .i64 (rowAt xs 3)] 36) (.cells #[.int .i64 ys.length, .int .i64 (rowAt ys 0), .int .i64 (rowAt ys 1), .int .i64 (rowAt ys 2), .int .i64 (rowAt ys 3)] 36)
  have sz : w.heap.size + 2 = ((w.alloc (.cells #[.int .i64 xs.length, .int .i64 (rowAt xs 0), .int .i64 (rowAt xs 1), .int .i64 (rowAt xs 2), .int .i64 (rowAt xs 3)] 36)).alloc (.cells #[.int .i64 ys.length, .int .i64 (rowAt ys 0), .int .i64 (rowAt ys 1), .int .i64 (rowAt ys 2), .int .i64 (rowAt ys 3)] 36)).heap.size := by simp
  go_enter Tryz.func108, Tryz.ntmps108
  go_wp2
  obtain ⟨W0, hW0⟩ : ∃ W0, (w.alloc (.cells #[.int .i64 xs.length, .int .i64 (rowAt xs 0), .int .i64 (rowAt xs 1), .int .i64 (rowAt xs 2), .int .i64 (rowAt xs 3)] 36)).alloc (.cells #[.int .i64 ys.length, .int .i64 (rowAt ys 0), .int .i64 (rowAt ys 1), .int .i64 (rowAt ys 2), .int .i64 (rowAt ys 3)] 36) = W0 := ⟨_, rfl⟩
  rw [hW0] at x2 x3 B0 sz ⊢
  have SZ := Lib.hid sz
  clear hW0 sz
  have p0 := x2.cell0
  have p1 := x2.cell1
  have p2 := x2.cell2
  have p3 := x2.cell3
  have p4 := x2.cell4
  have q0 := x3.cell0
  have q1 := x3.cell1
  have q2 := x3.cell2
  have q3 := x3.cell3
  have q4 := x3.cell4
  have en : (((bothL xs ys).length : Int) == (xs.length : Int)) = true := by rw [both_len xs ys HN.out]; simp
  cases hc : (rowAt (bothL xs ys) 0 == rowAt xs 0 && (rowAt (bothL xs ys) 1 == rowAt xs 1 && (rowAt (bothL xs ys) 2 == rowAt xs 2 && rowAt (bothL xs ys) 3 == rowAt xs 3))) with
  | false =>
    have hE := fun w => eqRows (rowAt (bothL xs ys) 0) (rowAt (bothL xs ys) 1) (rowAt (bothL xs ys) 2) (rowAt (bothL xs ys) 3) (rowAt xs 0) (rowAt xs 1) (rowAt xs 2) (rowAt xs 3) w
    rw [hc] at hE
    have hv : belowB xs ys = false := by
      by_cases c0 : rowAt (bothL xs ys) 0 = rowAt xs 0
      case neg => exact below_no xs ys HP.out HQ.out HN.out 0 c0
      by_cases c1 : rowAt (bothL xs ys) 1 = rowAt xs 1
      case neg => exact below_no xs ys HP.out HQ.out HN.out 1 c1
      by_cases c2 : rowAt (bothL xs ys) 2 = rowAt xs 2
      case neg => exact below_no xs ys HP.out HQ.out HN.out 2 c2
      refine below_no xs ys HP.out HQ.out HN.out 3 fun c3 => ?_
      simp [c0, c1, c2, c3] at hc
    have HV := Lib.hid hv
    clear hc hv
    go_region_with (go_at_call 176; refine (both_any xs ys _ h4 HN.out).mono ?_; rintro e w' ⟨rfl, hb⟩; have x5 : RelAt w' w.heap.size xs := x2.drew.below hb (by have := SZ.out; simp; omega); have r0 := x5.cell0; have r1 := x5.cell1; have r2 := x5.cell2; have r3 := x5.cell3; have r4 := x5.cell4; have hB5 := B0.drew.trans (hb.mono B0.size); clear x5 hb)
    all_goals
      go_wp2
      go_ret
      exact ⟨by rw [HV.out]; rfl, hB5⟩
  | true =>
    have hE := fun w => eqRows (rowAt (bothL xs ys) 0) (rowAt (bothL xs ys) 1) (rowAt (bothL xs ys) 2) (rowAt (bothL xs ys) 3) (rowAt xs 0) (rowAt xs 1) (rowAt xs 2) (rowAt xs 3) w
    rw [hc] at hE
    have hv : belowB xs ys = true := by
      simp only [Bool.and_eq_true, beq_iff_eq] at hc
      exact below_yes xs ys HP.out HQ.out HN.out hc.1 hc.2.1 hc.2.2.1 hc.2.2.2
    have HV := Lib.hid hv
    clear hc hv
    go_region_with (go_at_call 176; refine (both_any xs ys _ h4 HN.out).mono ?_; rintro e w' ⟨rfl, hb⟩; have x5 : RelAt w' w.heap.size xs := x2.drew.below hb (by have := SZ.out; simp; omega); have r0 := x5.cell0; have r1 := x5.cell1; have r2 := x5.cell2; have r3 := x5.cell3; have r4 := x5.cell4; have hB5 := B0.drew.trans (hb.mono B0.size); clear x5 hb)
    all_goals
      go_wp2
      go_ret
      exact ⟨by rw [HV.out]; rfl, hB5⟩
end Go.Proofs.YthdnpcpimggjnaaGreatDoor

namespace Go.Proofs.YthdnpcpimggjnaaGreatDoor
open Go.RowKit

/-- how many of four points -/
def cnt (x : Int) : Int := x % 2 + x / 2 % 2 + x / 4 % 2 + x / 8 % 2

theorem ret_int {k : IntKind} {a b : Int} (h : a = b) : Ending.returned (.int k a) = .returned (.int k b) := by rw [h]

set_option maxHeartbeats 2000000 in
theorem ones_any (x : Fin 16) (w : World) : Calls Tryz.prog 118 #[.int .u64 (x.val : Int)] w fun e w' => e = .returned (.int .i64 (cnt (x.val : Int))) ∧ w = w' := by
  go_enter Tryz.func118, Tryz.ntmps118
  go_wp2
  go_ret
  refine ⟨ret_int ?_, rfl⟩
  clear w
  revert x
  decide +kernel

theorem onesCount_any (x : Fin 16) (w : World) : Calls Tryz.prog 55 #[.int .u64 (x.val : Int)] w fun e w' => e = .returned (.int .i64 (cnt (x.val : Int))) ∧ w = w' := by
  go_enter Tryz.func55, Tryz.ntmps55
  go_wp2_with (go_at_call 118; refine (ones_any x _).mono ?_; rintro e w1 ⟨rfl, rfl⟩)
  go_ret
  exact ⟨rfl, rfl⟩

theorem setSize_any (x : Fin 16) (w : World) : Calls Tryz.prog 21 #[.int .i64 (x.val : Int)] w fun e w' => e = .returned (.int .i64 (cnt (x.val : Int))) ∧ w = w' := by
  have hx : (x.val : Int) < 16 := by have := x.isLt; omega
  go_enter Tryz.func21, Tryz.ntmps21
  go_wp2_with (go_at_call 55; refine (onesCount_any x _).mono ?_; rintro e w1 ⟨rfl, rfl⟩)
  go_ret
  exact ⟨rfl, rfl⟩

theorem l1size_eq : ∀ x : Fin 16, wrap64 (wrap64 (wrap64 (wrap64 (bits .and .i64 (x.val : Int) 1) + bits .and .i64 ((x.val : Int) / 2) 1) + bits .and .i64 ((x.val : Int) / 4) 1) + bits .and .i64 ((x.val : Int) / 8) 1) = cnt (x.val : Int) := by decide +kernel

/-- how many pairs the first rows have -/
def sizeL (xs : List Int) : Int := xs.foldl (fun n x => n + cnt x) 0
theorem sizeL_snoc (xs : List Int) (x : Int) : sizeL (xs ++ [x]) = sizeL xs + cnt x := by unfold sizeL; rw [List.foldl_append]; rfl
theorem cnt_le (x : Int) : 0 ≤ cnt x ∧ cnt x ≤ 4 := by unfold cnt; omega
theorem sizeL_le (xs : List Int) : 0 ≤ sizeL xs ∧ sizeL xs ≤ 4 * xs.length := by
  have h : ∀ (l : List Int) (n : Int), n ≤ l.foldl (fun n x => n + cnt x) n ∧ l.foldl (fun n x => n + cnt x) n ≤ n + 4 * l.length := by
    intro l
    induction l with
    | nil => intro n; simp
    | cons x r ih =>
      intro n
      have h1 := ih (n + cnt x)
      have h2 := cnt_le x
      simp only [List.foldl_cons, List.length_cons]
      omega
  have h0 := h xs 0
  unfold sizeL
  omega
/-- a number of pairs, or 0 -/
def ifN (b : Bool) (n : Int) : Int := if b then n else 0

set_option maxHeartbeats 2000000 in
theorem implRelSize_any (ao : Option Addr) (ca : Nat) (xs : List Int) (w : World) (hl : xs.length ≤ 1048576) (hx : Rd w ao xs) :
    Calls Tryz.prog 8 #[.slice ao xs.length ca] w fun e w' => e = .returned (.tuple #[.int .i64 (ifN (relIn xs) (sizeL xs)), .bool (relIn xs)]) ∧ Below w.heap.size w w' := by
  cases hp : relIn xs with
  | false =>
    have HP := Lib.hid hp
    clear hp
    go_enter Tryz.func8, Tryz.ntmps8
    go_wp2_with (go_at_call 16; refine (relationFrom_no _ _ _ _ hl HP.out hx).mono ?_; rintro e w1 ⟨rfl, hb⟩)
    go_ret2
    exact ⟨rfl, hb.alloc hb.size _⟩
  | true =>
    have h4 := (relIn_len hp).2
    have HP := Lib.hid hp
    clear hp
    go_enter Tryz.func8, Tryz.ntmps8
    go_wp2_with (go_at_call 16; refine (relationFrom_yes _ _ _ _ HP.out hx).mono ?_; rintro e w1 ⟨rfl, hb⟩)
    have x4 := RelAt.new w1 xs
    have B1 := hb.alloc hb.size (.cells #[.int .i64 xs.length, .int .i64 (rowAt xs 0), .int .i64 (rowAt xs 1), .int .i64 (rowAt xs 2), .int .i64 (rowAt xs 3)] 36)
    go_loopw [6, 17, 7] (fun n i _ wr => ∃ k : Nat, k ≤ xs.length ∧ i = .int .i64 k ∧ n = .int .i64 (sizeL (xs.take k)) ∧ RelAt wr w1.heap.size xs ∧ Below w.heap.size w wr)
      (fun _ i _ _ => xs.length - (intOf i).toNat)
    case atStart => exact ⟨0, Nat.zero_le _, rfl, rfl, x4, B1⟩
    case round =>
      obtain ⟨k, hk, rfl, rfl, hr, hB⟩ := hrel
      clear x4 B1
      have hs1 := sizeL_le (xs.take k)
      have hs2 : ((xs.take k).length : Int) ≤ 4 := by simp; omega
      by_cases hlt : k < xs.length
      · obtain ⟨y, hy⟩ := row16 HP.out k
        have hsn : sizeL (xs.take (k + 1)) = sizeL (xs.take k) + cnt (y.val : Int) := by rw [List.take_add_one, rowAt_get hlt, hy]; exact sizeL_snoc _ _
        have HS := Lib.hid hsn
        have hc1 := hr.row k (by omega)
        rw [hy] at hc1
        have hcn := cnt_le (y.val : Int)
        have hq : (k : Int) < 4 := by omega
        clear hsn hy hx
        go_wp2_with (go_at_call 21; refine (setSize_any y _).mono ?_; rintro e w2 ⟨rfl, rfl⟩)
        go_roundw
        case rel => exact ⟨k + 1, by omega, by go_num, by rw [HS.out], hr, hB⟩
        case measure => simp [intOf]; omega
      · go_wp2
        go_ret2
        obtain rfl : k = xs.length := by omega
        exact ⟨by rw [List.take_length]; rfl, hB⟩
end Go.Proofs.YthdnpcpimggjnaaGreatDoor

namespace Go.Proofs.YthdnpcpimggjnaaGreatDoor
open Go.RowKit

/-- the set of one point -/
def pt (i : Nat) : Int := 2 ^ i

theorem onePoint_any (i : Nat) (h : i < 4) (w : World) : Calls Tryz.prog 195 #[.int .i64 i] w fun e w' => e = .returned (.int .i64 (pt i)) ∧ w = w' := by
  rcases (by omega : i = 0 ∨ i = 1 ∨ i = 2 ∨ i = 3) with rfl | rfl | rfl | rfl
  all_goals
    go_enter Tryz.func195, Tryz.ntmps195
    go_wp2
    go_ret
    exact ⟨rfl, rfl⟩

theorem with_any (s : Int) (i : Nat) (h : i < 4) (w : World) : Calls Tryz.prog 239 #[.int .i64 s, .int .i64 i] w fun e w' => e = .returned (.int .i64 (bits .or .i64 s (pt i))) ∧ w = w' := by
  go_enter Tryz.func239, Tryz.ntmps239
  go_wp2_with (go_at_call 195; refine (onePoint_any i h _).mono ?_; rintro e w1 ⟨rfl, rfl⟩)
  go_ret
  exact ⟨rfl, rfl⟩

/-- with a pair more -/
def addPair (xs : List Int) (x y : Nat) : List Int := xs.set x (bits .or .i64 (rowAt xs x) (pt y))

theorem addPair_at (xs : List Int) (x y i : Nat) (h : x < xs.length) : rowAt (addPair xs x y) i = if i = x then bits .or .i64 (rowAt xs x) (pt y) else rowAt xs i := rowAt_set _ _ _ _ h
theorem addPair_len (xs : List Int) (x y : Nat) : (addPair xs x y).length = xs.length := by unfold addPair; rw [List.length_set]

set_option maxHeartbeats 2000000 in
theorem withPair_any (xs : List Int) (x y : Nat) (w : World) (h4 : xs.length ≤ 4) (hx : x < xs.length) (hy : y < 4) :
    Calls Tryz.prog 175 #[relOf xs, .int .i64 x, .int .i64 y] w fun e w' => e = .returned (relOf (addPair xs x y)) ∧ Below w.heap.size w w' := by
  have e0 := addPair_at xs x y 0 hx
  have e1 := addPair_at xs x y 1 hx
  have e2 := addPair_at xs x y 2 hx
  have e3 := addPair_at xs x y 3 hx
  have en : (addPair xs x y).length = xs.length := addPair_len xs x y
  have E := Lib.hid (And.intro e0 (And.intro e1 (And.intro e2 (And.intro e3 en))))
  clear e0 e1 e2 e3 en
  go_enter Tryz.func175, Tryz.ntmps175
  rcases (by omega : x = 0 ∨ x = 1 ∨ x = 2 ∨ x = 3) with rfl | rfl | rfl | rfl
  all_goals
    go_wp2_with (go_at_call 239; refine (with_any _ y hy _).mono ?_; rintro e w1 ⟨rfl, rfl⟩)
    obtain ⟨e0, e1, e2, e3, en⟩ := E.out
    exact bodyPost_ret (v := relOf (addPair xs _ y)) (by simp [results, Tryz.results175, go_sem, e0, e1, e2, e3, en]) rfl ⟨rfl, below_two _ _ _⟩
end Go.Proofs.YthdnpcpimggjnaaGreatDoor

namespace Go.Proofs.YthdnpcpimggjnaaGreatDoor
open Go.RowKit

theorem RelAt.put {w : World} {b : Nat} {xs : List Int} (h : RelAt w b xs) (ys : List Int) :
    RelAt (((((w.setCell ⟨b, 0, none⟩ (.int .i64 ys.length)).setCell ⟨b, 1, none⟩ (.int .i64 (rowAt ys 0))).setCell ⟨b, 2, none⟩ (.int .i64 (rowAt ys 1))).setCell ⟨b, 3, none⟩ (.int .i64 (rowAt ys 2))).setCell ⟨b, 4, none⟩ (.int .i64 (rowAt ys 3))) b ys := by
  unfold RelAt
  have h1 := heap_setCell_same w b 0 _ _ (.int .i64 ys.length) h
  have h2 := heap_setCell_same _ b 1 _ _ (.int .i64 (rowAt ys 0)) h1
  have h3 := heap_setCell_same _ b 2 _ _ (.int .i64 (rowAt ys 1)) h2
  have h4 := heap_setCell_same _ b 3 _ _ (.int .i64 (rowAt ys 2)) h3
  have h5 := heap_setCell_same _ b 4 _ _ (.int .i64 (rowAt ys 3)) h4
  rw [h5]
  rfl

/-- each point related to itself -/
def sameL (n : Nat) : List Int := (List.range n).map pt
def sameAcc (n k : Nat) : List Int := (List.range k).foldl (fun zs i => addPair zs i i) (List.replicate n 0)
theorem sameAcc_succ (n k : Nat) : sameAcc n (k + 1) = addPair (sameAcc n k) k k := by unfold sameAcc; rw [List.range_succ, List.foldl_append]; rfl
theorem sameAcc_len (n k : Nat) : (sameAcc n k).length = n := by
  induction k with
  | zero => unfold sameAcc; simp
  | succ k ih => rw [sameAcc_succ, addPair_len, ih]
theorem sameAcc_all : ∀ n : Fin 5, sameAcc n.val n.val = sameL n.val := by decide +kernel

set_option maxHeartbeats 2000000 in
theorem sameOn_any (n : Nat) (w : World) (h1 : 1 ≤ n) (h4 : n ≤ 4) :
    Calls Tryz.prog 107 #[.int .i64 n] w fun e w' => e = .returned (relOf (sameL n)) ∧ Below w.heap.size w w' := by
  have z2 := (rel_zero w).alloc (.cells #[.int .i64 n, .int .i64 0, .int .i64 0, .int .i64 0, .int .i64 0] 36)
  have z3 : RelAt ((w.alloc (.cells #[.int .i64 0, .int .i64 0, .int .i64 0, .int .i64 0, .int .i64 0] 36)).alloc (.cells #[.int .i64 n, .int .i64 0, .int .i64 0, .int .i64 0, .int .i64 0] 36)) (w.heap.size + 1) (sameAcc n 0) := by
    have h := RelAt.new (w.alloc (.cells #[.int .i64 0, .int .i64 0, .int .i64 0, .int .i64 0, .int .i64 0] 36)) (sameAcc n 0)
    rw [sameAcc_len, World.size_alloc] at h
    have hz : ∀ i, rowAt (sameAcc n 0) i = 0 := by
      intro i
      unfold rowAt sameAcc
      simp [List.getElem?_replicate]
      split <;> rfl
    rw [hz, hz, hz, hz] at h
    exact h
  have B0 := below_two w (.cells #[.int .i64 0, .int .i64 0, .int .i64 0, .int .i64 0, .int .i64 0] 36) (.cells #[.int .i64 n, .int .i64 0, .int .i64 0, .int .i64 0, .int .i64 0] 36)
  go_enter Tryz.func107, Tryz.ntmps107
  go_wp2
  go_loopw [8, 4] (fun i _ wr => ∃ k : Nat, k ≤ n ∧ i = .int .i64 k ∧ RelAt wr w.heap.size [] ∧ RelAt wr (w.heap.size + 1) (sameAcc n k) ∧ Below w.heap.size w wr)
    (fun i _ _ => n - (intOf i).toNat)
  case atStart => exact ⟨0, Nat.zero_le _, rfl, z2, z3, B0⟩
  case round =>
    obtain ⟨k, hk, rfl, hz, hr, hB⟩ := hrel
    clear z2 z3 B0
    have hln := sameAcc_len n k
    have p0 := hr.cell0
    have p1 := hr.cell1
    have p2 := hr.cell2
    have p3 := hr.cell3
    have p4 := hr.cell4
    by_cases hlt : k < n
    · have HL := Lib.hid hln
      clear hln
      go_wp2_with fail
      refine (withPair_any (sameAcc n k) k k wr (by rw [HL.out]; exact h4) (by rw [HL.out]; exact hlt) (by omega)).mono ?_
      rintro e w1 ⟨rfl, hb⟩
      have hr1 := hr.below hb hr.lt
      have hz1 := hz.below hb hz.lt
      have hB1 := hB.trans (hb.mono hB.size)
      rw [← sameAcc_succ]
      have q0 := hr1.cell0
      have q1 := hr1.cell1
      have q2 := hr1.cell2
      have q3 := hr1.cell3
      have q4 := hr1.cell4
      have f0 := hr1.free 0
      have f1 := hr1.free 1
      have f2 := hr1.free 2
      have f3 := hr1.free 3
      have f4 := hr1.free 4
      have hput := hr1.put (sameAcc n (k + 1))
      have hzo := fun (W : World) (j : Nat) (v : Value) (h : RelAt W w.heap.size []) => h.other (p := ⟨w.heap.size + 1, j, none⟩) (by simp) v
      have bc := fun (W : World) (j : Nat) (v : Value) (h : Below w.heap.size w W) => h.setCell (p := ⟨w.heap.size + 1, j, none⟩) (Nat.le_succ _) v
      clear hr hz hb hB p0 p1 p2 p3 p4
      have HP := Lib.hid hput
      clear hput
      go_wp2
      go_roundw
      case rel => exact ⟨k + 1, by omega, by go_num, hzo _ _ _ (hzo _ _ _ (hzo _ _ _ (hzo _ _ _ (hzo _ _ _ hz1)))), HP.out, bc _ _ _ (bc _ _ _ (bc _ _ _ (bc _ _ _ (bc _ _ _ hB1))))⟩
      case measure => simp [intOf]; omega
    · obtain rfl : k = n := by omega
      have hall : sameAcc k k = sameL k := sameAcc_all ⟨k, by omega⟩
      rw [hln] at p0
      have HA := Lib.hid hall
      have HL := Lib.hid hln
      clear hall hln
      have q0 := hz.cell0
      have q1 := hz.cell1
      have q2 := hz.cell2
      have q3 := hz.cell3
      have q4 := hz.cell4
      have f0 := hz.free 0
      have f1 := hz.free 1
      have f2 := hz.free 2
      have f3 := hz.free 3
      have f4 := hz.free 4
      have bb := fun (W : World) (j : Nat) (v : Value) (h : Below w.heap.size w W) => h.setCell (p := ⟨w.heap.size, j, none⟩) (Nat.le_refl _) v
      go_wp2
      refine bodyPost_ret (v := relOf (sameAcc k k)) (by simp [results, Tryz.results107, go_sem, q0, q1, q2, q3, q4, HL.out]) rfl ⟨by rw [HA.out], ?_⟩
      exact bb _ _ _ (bb _ _ _ (bb _ _ _ (bb _ _ _ (bb _ _ _ hB))))

theorem sameL_len (n : Nat) : (sameL n).length = n := by unfold sameL; simp
theorem same_take (n k : Nat) (h : k < n) : (sameL n).take (k + 1) = (sameL n).take k ++ [pt k] := by
  have h2 : (sameL n)[k]? = some (pt k) := by unfold sameL; simp [h]
  rw [List.take_add_one, h2]
  rfl

set_option maxHeartbeats 2000000 in
theorem l1Same_any (n : Nat) (w : World) (h1 : 1 ≤ n) (h4 : n ≤ 4) :
    Calls Tryz.prog 50 #[.int .i64 n] w fun e w' => ∃ v, e = .returned v ∧
      w'.ownsRow w.heap.size 3 1 v n ((sameL n).map (Value.int .i64)) ∧ Below w.heap.size w w' := by
  obtain ⟨i0, hi, hz0, hz1, hz2⟩ := info_parts Tryz.info3
  go_enter Tryz.func50, Tryz.ntmps50
  go_wp2
  go_loopw [3, 4] (fun v i wr => ∃ k : Nat, k ≤ n ∧ i = .int .i64 k ∧ wr.ownsRow w.heap.size 3 1 v k (((sameL n).take k).map (Value.int .i64)) ∧ Below w.heap.size w wr)
    (fun _ i _ => n - (intOf i).toNat)
  case atStart => exact ⟨0, Nat.zero_le _, rfl, row_lit0 w, below_one _ _⟩
  case round =>
    obtain ⟨k, hk, rfl, ho, hb⟩ := hrel
    by_cases hlt : k < n
    · have hpt : wrap64 (2 ^ k) = pt k := by
        rcases (by omega : k = 0 ∨ k = 1 ∨ k = 2 ∨ k = 3) with rfl | rfl | rfl | rfl <;> decide +kernel
      have HPT := Lib.hid hpt
      clear hpt
      go_wp2_with (at_builtin; refine wpList_append_own _ rfl (.tmp 11) (.tmp 14) 23 rfl w.heap.size 3 i0 (.int .i64 0) 1 8 Tryz.underlying23 hi hz0 hz1 hz2 rfl (by decide) _ _ _ rfl (ho.alloc _) ⟨wr.heap.size, 0, none⟩ 1 1 [_] rfl rfl (cell_one_new _ _ _) (by simp [Value.oneCell']) (by unfold maxLen; omega) (by omega) (by have := hb.size; simp; omega) ?_)
      intro v' w1 hown' hgrow _
      have hb' := own_step' ho hb hb.size _ hgrow
      rw [HPT.out, ← List.map_take, ← List.map_singleton (f := Value.int .i64), ← List.map_append, ← same_take n k hlt] at hown'
      clear ho hb hgrow
      go_wp2
      go_roundw
      case rel => exact ⟨k + 1, by omega, by go_num, hown', hb'⟩
      case measure => simp [intOf]; omega
    · go_wp2
      go_ret
      obtain rfl : k = n := by omega
      rw [List.take_of_length_le (by rw [sameL_len]; exact Nat.le_refl _)] at ho
      exact ⟨_, rfl, ho, hb⟩

end Go.Proofs.YthdnpcpimggjnaaGreatDoor
