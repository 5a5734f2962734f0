/-
  Contracts of the program's sameOn and RelSame, and of the model's l1Same and RelSame; for any number.
-/
import Derived.Test.YtebkeebgjjmdbabO
import Derived.Laws.BitsAllLaws
namespace Go.Proofs.Ytebkeebgjjmdbab
open Go.RowKit

theorem eqCell (d : Nat) (a b : Int) (w : World) : Sem.run Try.prog (Op.equalIn (d + 1) 36 (.int .i64 a) (.int .i64 b)) w = .ok (a == b) w := by
  unfold Op.equalIn
  simp [go_sem]
theorem partCell (a0 a1 a2 a3 : Int) (w : World) (k : Nat) (hk : k < 4) : Sem.run Try.prog (part 36 #[.int .i64 a0, .int .i64 a1, .int .i64 a2, .int .i64 a3] (k * 1)) w = .ok ([Value.int .i64 a0, .int .i64 a1, .int .i64 a2, .int .i64 a3].getD k undef) w := by
  rcases (by omega : k = 0 ∨ k = 1 ∨ k = 2 ∨ k = 3) with rfl | rfl | rfl | rfl <;> kernel_rfl
set_option maxHeartbeats 1000000 in
theorem eqRows (a0 a1 a2 a3 b0 b1 b2 b3 : Int) (w : World) :
    Sem.run Try.prog (Op.equalIn 9999 37 (.agg #[.int .i64 a0, .int .i64 a1, .int .i64 a2, .int .i64 a3]) (.agg #[.int .i64 b0, .int .i64 b1, .int .i64 b2, .int .i64 b3])) w = .ok (a0 == b0 && (a1 == b1 && (a2 == b2 && a3 == b3))) w := by
  have e : Op.equalIn 9999 37 = Op.equalIn (9998 + 1) 37 := rfl
  rw [e]
  unfold Op.equalIn
  have hsz : Sem.run Try.prog (sizeOf 36) w = .ok 1 w := by kernel_rfl
  have hr : List.range' 0 4 1 = [0, 1, 2, 3] := rfl
  rw [Sem.run_bind, run_underlying Try.underlying37]
  simp only [Result.andThen_ok]
  rw [Sem.run_bind, hsz]
  simp only [Result.andThen_ok]
  have hf : ∀ (f : Nat → Option Bool × Unit → Sem (ForInStep (Option Bool × Unit))) (i : Option Bool × Unit), forIn [:4] i f = forIn [0, 1, 2, 3] i f := by
    intro f i
    simp [Std.Legacy.Range.forIn_eq_forIn_range', Std.Legacy.Range.size, hr]
  rw [hf]
  simp only [List.forIn_cons, List.forIn_nil, bind_assoc, Sem.run_bind, partCell _ _ _ _ _ 0 (by omega), Result.andThen_ok, List.getD_cons_zero]
  rw [eqCell 9997 a0 b0 w]
  cases (a0 == b0)
  case false => rfl
  simp only [Sem.run_bind, Sem.run_pure, Bool.not_true, Bool.false_eq_true, if_false, partCell _ _ _ _ _ 1 (by omega), Result.andThen_ok, List.getD_cons_zero, List.getD_cons_succ]
  rw [eqCell 9997 a1 b1 w]
  cases (a1 == b1)
  case false => rfl
  simp only [Sem.run_bind, Sem.run_pure, Bool.not_true, Bool.false_eq_true, if_false, partCell _ _ _ _ _ 2 (by omega), Result.andThen_ok, List.getD_cons_zero, List.getD_cons_succ]
  rw [eqCell 9997 a2 b2 w]
  cases (a2 == b2)
  case false => rfl
  simp only [Sem.run_bind, Sem.run_pure, Bool.not_true, Bool.false_eq_true, if_false, partCell _ _ _ _ _ 3 (by omega), Result.andThen_ok, List.getD_cons_zero, List.getD_cons_succ]
  rw [eqCell 9997 a3 b3 w]
  cases (a3 == b3) <;> rfl

theorem both_len (xs ys : List Int) (h : xs.length = ys.length) : (bothL xs ys).length = xs.length := by
  unfold bothL zipI
  rw [List.length_zipWith, h, Nat.min_self]

/-- on small numbers 'x and y is x' and 'nothing of x is outside y' are one -/
theorem bits16 : ∀ x : Fin 16, ∀ y : Fin 16, ((bits .and .i64 (x.val : Int) (y.val : Int) = (x.val : Int)) ↔ (bits .andNot .i64 (x.val : Int) (y.val : Int) = 0)) := by decide +kernel

theorem row16 {xs : List Int} (h : relIn xs = true) (k : Nat) : ∃ x : Fin 16, rowAt xs k = (x.val : Int) := by
  by_cases hk : k < xs.length
  · have hr := relIn_row h (rowAt_get hk)
    have h4 := relIn_len h
    unfold rowIn at hr
    rw [Bool.and_eq_true] at hr
    have h0 := of_decide_eq_true hr.1
    have h1 := of_decide_eq_true hr.2
    have h2 : (2 : Int) ^ xs.length ≤ 16 := by
      rcases (by omega : xs.length = 1 ∨ xs.length = 2 ∨ xs.length = 3 ∨ xs.length = 4) with e | e | e | e <;> rw [e] <;> decide
    exact ⟨⟨(rowAt xs k).toNat, by omega⟩, by simp; omega⟩
  · exact ⟨0, by unfold rowAt; rw [List.getD_eq_getElem?_getD, List.getElem?_eq_none (by omega)]; rfl⟩

theorem below_at {xs ys : List Int} (hp : relIn xs = true) (hq : relIn ys = true) (hn : xs.length = ys.length) (k : Nat) (hk : k < xs.length) :
    rowAt (bothL xs ys) k = rowAt xs k ↔ bits .andNot .i64 (rowAt xs k) (rowAt ys k) = 0 := by
  have e : rowAt (bothL xs ys) k = bits .and .i64 (rowAt xs k) (rowAt ys k) := by
    have h := zip_at (bits .and .i64) xs ys k hk (by omega)
    have h2 : rowAt (bothL xs ys) k = ((zipI (bits .and .i64) xs ys)[k]?).getD 0 := by unfold rowAt bothL; rw [List.getD_eq_getElem?_getD]
    rw [h2, h]
    rfl
  rw [e]
  obtain ⟨x, hx⟩ := row16 hp k
  obtain ⟨y, hy⟩ := row16 hq k
  rw [hx, hy]
  exact bits16 x y

theorem below_no (xs ys : List Int) (hp : relIn xs = true) (hq : relIn ys = true) (hn : xs.length = ys.length) (k : Nat) (h : ¬ rowAt (bothL xs ys) k = rowAt xs k) : belowB xs ys = false := by
  have hk : k < xs.length := by
    apply Decidable.byContradiction
    intro hk
    apply h
    unfold rowAt
    rw [List.getD_eq_getElem?_getD, List.getD_eq_getElem?_getD, List.getElem?_eq_none (by rw [both_len xs ys hn]; omega), List.getElem?_eq_none (by omega)]
  unfold belowB
  rw [List.all_eq_false]
  refine ⟨_, List.mem_of_getElem? (zip_at _ xs ys k hk (by omega)), ?_⟩
  simp
  intro h0
  exact h ((below_at hp hq hn k hk).2 h0)

theorem below_yes (xs ys : List Int) (hp : relIn xs = true) (hq : relIn ys = true) (hn : xs.length = ys.length) (h0 : rowAt (bothL xs ys) 0 = rowAt xs 0) (h1 : rowAt (bothL xs ys) 1 = rowAt xs 1) (h2 : rowAt (bothL xs ys) 2 = rowAt xs 2)
    (h3 : rowAt (bothL xs ys) 3 = rowAt xs 3) : belowB xs ys = true := by
  have h4 := (relIn_len hp).2
  unfold belowB
  rw [List.all_eq_true]
  intro x hx
  obtain ⟨k, hk, hkx⟩ := List.getElem_of_mem hx
  have hk' : k < xs.length := by unfold zipI at hk; rw [List.length_zipWith] at hk; omega
  have hz := zip_at (bits .andNot .i64) xs ys k hk' (by omega)
  rw [List.getElem?_eq_getElem hk, hkx] at hz
  have hz' : x = bits .andNot .i64 (rowAt xs k) (rowAt ys k) := by simpa using hz
  have hall : rowAt (bothL xs ys) k = rowAt xs k := by
    rcases (by omega : k = 0 ∨ k = 1 ∨ k = 2 ∨ k = 3) with rfl | rfl | rfl | rfl <;> assumption
  rw [hz', (below_at hp hq hn k hk').1 hall]
  rfl

end Go.Proofs.Ytebkeebgjjmdbab

namespace Go.Proofs.Ytebkeebgjjmdbab
open Go.RowKit

/-- how many of four points -/
def cnt (x : Int) : Int := x % 2 + x / 2 % 2 + x / 4 % 2 + x / 8 % 2

theorem ret_int {k : IntKind} {a b : Int} (h : a = b) : Ending.returned (.int k a) = .returned (.int k b) := by rw [h]

set_option maxHeartbeats 2000000 in
theorem ones_any (x : Fin 16) (w : World) : Calls Try.prog 41 #[.int .u64 (x.val : Int)] w fun e w' => e = .returned (.int .i64 (cnt (x.val : Int))) ∧ w = w' := by
  go_enter Try.func41, Try.ntmps41
  go_wp2
  go_ret
  refine ⟨ret_int ?_, rfl⟩
  clear w
  revert x
  decide +kernel

theorem onesCount_any (x : Fin 16) (w : World) : Calls Try.prog 32 #[.int .u64 (x.val : Int)] w fun e w' => e = .returned (.int .i64 (cnt (x.val : Int))) ∧ w = w' := by
  go_enter Try.func32, Try.ntmps32
  go_wp2_with (go_at_call 41; refine (ones_any x _).mono ?_; rintro e w1 ⟨rfl, rfl⟩)
  go_ret
  exact ⟨rfl, rfl⟩

theorem setSize_any (x : Fin 16) (w : World) : Calls Try.prog 20 #[.int .i64 (x.val : Int)] w fun e w' => e = .returned (.int .i64 (cnt (x.val : Int))) ∧ w = w' := by
  have hx : (x.val : Int) < 16 := by have := x.isLt; omega
  go_enter Try.func20, Try.ntmps20
  go_wp2_with (go_at_call 32; refine (onesCount_any x _).mono ?_; rintro e w1 ⟨rfl, rfl⟩)
  go_ret
  exact ⟨rfl, rfl⟩

theorem l1size_eq : ∀ x : Fin 16, wrap64 (wrap64 (wrap64 (wrap64 (bits .and .i64 (x.val : Int) 1) + bits .and .i64 ((x.val : Int) / 2) 1) + bits .and .i64 ((x.val : Int) / 4) 1) + bits .and .i64 ((x.val : Int) / 8) 1) = cnt (x.val : Int) := by decide +kernel

/-- how many pairs the first rows have -/
def sizeL (xs : List Int) : Int := xs.foldl (fun n x => n + cnt x) 0
theorem sizeL_snoc (xs : List Int) (x : Int) : sizeL (xs ++ [x]) = sizeL xs + cnt x := by unfold sizeL; rw [List.foldl_append]; rfl
theorem cnt_le (x : Int) : 0 ≤ cnt x ∧ cnt x ≤ 4 := by unfold cnt; omega
theorem sizeL_le (xs : List Int) : 0 ≤ sizeL xs ∧ sizeL xs ≤ 4 * xs.length := by
  have h : ∀ (l : List Int) (n : Int), n ≤ l.foldl (fun n x => n + cnt x) n ∧ l.foldl (fun n x => n + cnt x) n ≤ n + 4 * l.length := by
    intro l
    induction l with
    | nil => intro n; simp
    | cons x r ih =>
      intro n
      have h1 := ih (n + cnt x)
      have h2 := cnt_le x
      simp only [List.foldl_cons, List.length_cons]
      omega
  have h0 := h xs 0
  unfold sizeL
  omega
/-- a number of pairs, or 0 -/
def ifN (b : Bool) (n : Int) : Int := if b then n else 0

set_option maxHeartbeats 2000000 in
theorem implRelSize_any (ao : Option Addr) (ca : Nat) (xs : List Int) (w : World) (hl : xs.length ≤ 1048576) (hx : Rd w ao xs) :
    Calls Try.prog 8 #[.slice ao xs.length ca] w fun e w' => e = .returned (.tuple #[.int .i64 (ifN (relIn xs) (sizeL xs)), .bool (relIn xs)]) ∧ Below w.heap.size w w' := by
  cases hp : relIn xs with
  | false =>
    have HP := Lib.hid hp
    clear hp
    go_enter Try.func8, Try.ntmps8
    go_wp2_with (go_at_call 13; refine (relationFrom_no _ _ _ _ hl HP.out hx).mono ?_; rintro e w1 ⟨rfl, hb⟩)
    go_ret2
    exact ⟨rfl, hb.alloc hb.size _⟩
  | true =>
    have h4 := (relIn_len hp).2
    have HP := Lib.hid hp
    clear hp
    go_enter Try.func8, Try.ntmps8
    go_wp2_with (go_at_call 13; refine (relationFrom_yes _ _ _ _ HP.out hx).mono ?_; rintro e w1 ⟨rfl, hb⟩)
    have x4 := RelAt.new w1 xs
    have B1 := hb.alloc hb.size (.cells #[.int .i64 xs.length, .int .i64 (rowAt xs 0), .int .i64 (rowAt xs 1), .int .i64 (rowAt xs 2), .int .i64 (rowAt xs 3)] 39)
    go_loopw [6, 17, 7] (fun n i _ wr => ∃ k : Nat, k ≤ xs.length ∧ i = .int .i64 k ∧ n = .int .i64 (sizeL (xs.take k)) ∧ RelAt wr w1.heap.size xs ∧ Below w.heap.size w wr)
      (fun _ i _ _ => xs.length - (intOf i).toNat)
    case atStart => exact ⟨0, Nat.zero_le _, rfl, rfl, x4, B1⟩
    case round =>
      obtain ⟨k, hk, rfl, rfl, hr, hB⟩ := hrel
      clear x4 B1
      have hs1 := sizeL_le (xs.take k)
      have hs2 : ((xs.take k).length : Int) ≤ 4 := by simp; omega
      by_cases hlt : k < xs.length
      · obtain ⟨y, hy⟩ := row16 HP.out k
        have hsn : sizeL (xs.take (k + 1)) = sizeL (xs.take k) + cnt (y.val : Int) := by rw [List.take_add_one, rowAt_get hlt, hy]; exact sizeL_snoc _ _
        have HS := Lib.hid hsn
        have hc1 := hr.row k (by omega)
        rw [hy] at hc1
        have hcn := cnt_le (y.val : Int)
        have hq : (k : Int) < 4 := by omega
        clear hsn hy hx
        go_wp2_with (go_at_call 20; refine (setSize_any y _).mono ?_; rintro e w2 ⟨rfl, rfl⟩)
        go_roundw
        case rel => exact ⟨k + 1, by omega, by go_num, by rw [HS.out], hr, hB⟩
        case measure => simp [intOf]; omega
      · go_wp2
        go_ret2
        obtain rfl : k = xs.length := by omega
        exact ⟨by rw [List.take_length]; rfl, hB⟩
end Go.Proofs.Ytebkeebgjjmdbab

namespace Go.Proofs.Ytebkeebgjjmdbab
open Go.RowKit

/-- the set of one point -/
def pt (i : Nat) : Int := 2 ^ i

theorem onePoint_any (i : Nat) (h : i < 4) (w : World) : Calls Try.prog 39 #[.int .i64 i] w fun e w' => e = .returned (.int .i64 (pt i)) ∧ w = w' := by
  rcases (by omega : i = 0 ∨ i = 1 ∨ i = 2 ∨ i = 3) with rfl | rfl | rfl | rfl
  all_goals
    go_enter Try.func39, Try.ntmps39
    go_wp2
    go_ret
    exact ⟨rfl, rfl⟩

theorem with_any (s : Int) (i : Nat) (h : i < 4) (w : World) : Calls Try.prog 30 #[.int .i64 s, .int .i64 i] w fun e w' => e = .returned (.int .i64 (bits .or .i64 s (pt i))) ∧ w = w' := by
  go_enter Try.func30, Try.ntmps30
  go_wp2_with (go_at_call 39; refine (onePoint_any i h _).mono ?_; rintro e w1 ⟨rfl, rfl⟩)
  go_ret
  exact ⟨rfl, rfl⟩

/-- with a pair more -/
def addPair (xs : List Int) (x y : Nat) : List Int := xs.set x (bits .or .i64 (rowAt xs x) (pt y))

theorem addPair_at (xs : List Int) (x y i : Nat) (h : x < xs.length) : rowAt (addPair xs x y) i = if i = x then bits .or .i64 (rowAt xs x) (pt y) else rowAt xs i := rowAt_set _ _ _ _ h
theorem addPair_len (xs : List Int) (x y : Nat) : (addPair xs x y).length = xs.length := by unfold addPair; rw [List.length_set]

set_option maxHeartbeats 2000000 in
theorem withPair_any (xs : List Int) (x y : Nat) (w : World) (h4 : xs.length ≤ 4) (hx : x < xs.length) (hy : y < 4) :
    Calls Try.prog 16 #[relOf xs, .int .i64 x, .int .i64 y] w fun e w' => e = .returned (relOf (addPair xs x y)) ∧ Below w.heap.size w w' := by
  have e0 := addPair_at xs x y 0 hx
  have e1 := addPair_at xs x y 1 hx
  have e2 := addPair_at xs x y 2 hx
  have e3 := addPair_at xs x y 3 hx
  have en : (addPair xs x y).length = xs.length := addPair_len xs x y
  have E := Lib.hid (And.intro e0 (And.intro e1 (And.intro e2 (And.intro e3 en))))
  clear e0 e1 e2 e3 en
  go_enter Try.func16, Try.ntmps16
  rcases (by omega : x = 0 ∨ x = 1 ∨ x = 2 ∨ x = 3) with rfl | rfl | rfl | rfl
  all_goals
    go_wp2_with (go_at_call 30; refine (with_any _ y hy _).mono ?_; rintro e w1 ⟨rfl, rfl⟩)
    obtain ⟨e0, e1, e2, e3, en⟩ := E.out
    exact bodyPost_ret (v := relOf (addPair xs _ y)) (by simp [results, Try.results16, go_sem, e0, e1, e2, e3, en]) rfl ⟨rfl, below_two _ _ _⟩
end Go.Proofs.Ytebkeebgjjmdbab

namespace Go.Proofs.Ytebkeebgjjmdbab
open Go.RowKit

theorem RelAt.put {w : World} {b : Nat} {xs : List Int} (h : RelAt w b xs) (ys : List Int) :
    RelAt (((((w.setCell ⟨b, 0, none⟩ (.int .i64 ys.length)).setCell ⟨b, 1, none⟩ (.int .i64 (rowAt ys 0))).setCell ⟨b, 2, none⟩ (.int .i64 (rowAt ys 1))).setCell ⟨b, 3, none⟩ (.int .i64 (rowAt ys 2))).setCell ⟨b, 4, none⟩ (.int .i64 (rowAt ys 3))) b ys := by
  unfold RelAt
  have h1 := heap_setCell_same w b 0 _ _ (.int .i64 ys.length) h
  have h2 := heap_setCell_same _ b 1 _ _ (.int .i64 (rowAt ys 0)) h1
  have h3 := heap_setCell_same _ b 2 _ _ (.int .i64 (rowAt ys 1)) h2
  have h4 := heap_setCell_same _ b 3 _ _ (.int .i64 (rowAt ys 2)) h3
  have h5 := heap_setCell_same _ b 4 _ _ (.int .i64 (rowAt ys 3)) h4
  rw [h5]
  rfl

/-- each point related to itself -/
def sameL (n : Nat) : List Int := (List.range n).map pt
def sameAcc (n k : Nat) : List Int := (List.range k).foldl (fun zs i => addPair zs i i) (List.replicate n 0)
theorem sameAcc_succ (n k : Nat) : sameAcc n (k + 1) = addPair (sameAcc n k) k k := by unfold sameAcc; rw [List.range_succ, List.foldl_append]; rfl
theorem sameAcc_len (n k : Nat) : (sameAcc n k).length = n := by
  induction k with
  | zero => unfold sameAcc; simp
  | succ k ih => rw [sameAcc_succ, addPair_len, ih]
theorem sameAcc_all : ∀ n : Fin 5, sameAcc n.val n.val = sameL n.val := by decide +kernel

theorem sameL_len (n : Nat) : (sameL n).length = n := by unfold sameL; simp
theorem same_take (n k : Nat) (h : k < n) : (sameL n).take (k + 1) = (sameL n).take k ++ [pt k] := by
  have h2 : (sameL n)[k]? = some (pt k) := by unfold sameL; simp [h]
  rw [List.take_add_one, h2]
  rfl

end Go.Proofs.Ytebkeebgjjmdbab
