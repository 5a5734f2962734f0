/-
  Contracts of the program's sameOn and RelSame, and of the model's l1Same and RelSame; for any number.
-/
import Derived.Test.YtcdiicckngndcaaO
import Derived.Laws.BitsAllLaws
namespace Go.Proofs.Ytcdiicckngndcaa
open Go.RowKit

theorem eqCell (d : Nat) (a b : Int) (w : World) : Sem.run Try.prog (Op.equalIn (d + 1) 41 (.int .i64 a) (.int .i64 b)) w = .ok (a == b) w := by
  unfold Op.equalIn
  simp [go_sem]
theorem partCell (a0 a1 a2 a3 : Int) (w : World) (k : Nat) (hk : k < 4) : Sem.run Try.prog (part 41 #[.int .i64 a0, .int .i64 a1, .int .i64 a2, .int .i64 a3] (k * 1)) w = .ok ([Value.int .i64 a0, .int .i64 a1, .int .i64 a2, .int .i64 a3].getD k undef) w := by
  rcases (by omega : k = 0 ∨ k = 1 ∨ k = 2 ∨ k = 3) with rfl | rfl | rfl | rfl <;> kernel_rfl
set_option maxHeartbeats 1000000 in
theorem eqRows (a0 a1 a2 a3 b0 b1 b2 b3 : Int) (w : World) :
    Sem.run Try.prog (Op.equalIn 9999 42 (.agg #[.int .i64 a0, .int .i64 a1, .int .i64 a2, .int .i64 a3]) (.agg #[.int .i64 b0, .int .i64 b1, .int .i64 b2, .int .i64 b3])) w = .ok (a0 == b0 && (a1 == b1 && (a2 == b2 && a3 == b3))) w := by
  have e : Op.equalIn 9999 42 = Op.equalIn (9998 + 1) 42 := rfl
  rw [e]
  unfold Op.equalIn
  have hsz : Sem.run Try.prog (sizeOf 41) w = .ok 1 w := by kernel_rfl
  have hr : List.range' 0 4 1 = [0, 1, 2, 3] := rfl
  rw [Sem.run_bind, run_underlying Try.underlying42]
  simp only [Result.andThen_ok]
  rw [Sem.run_bind, hsz]
  simp only [Result.andThen_ok]
  have hf : ∀ (f : Nat → Option Bool × Unit → Sem (ForInStep (Option Bool × Unit))) (i : Option Bool × Unit), forIn [:4] i f = forIn [0, 1, 2, 3] i f := by
    intro f i
    simp [Std.Legacy.Range.forIn_eq_forIn_range', Std.Legacy.Range.size, hr]
  rw [hf]
  simp only [List.forIn_cons, List.forIn_nil, bind_assoc, Sem.run_bind, partCell _ _ _ _ _ 0 (by omega), Result.andThen_ok, List.getD_cons_zero]
  rw [eqCell 9997 a0 b0 w]
  cases (a0 == b0)
  case false => rfl
  simp only [Sem.run_bind, Sem.run_pure, Bool.not_true, Bool.false_eq_true, if_false, partCell _ _ _ _ _ 1 (by omega), Result.andThen_ok, List.getD_cons_zero, List.getD_cons_succ]
  rw [eqCell 9997 a1 b1 w]
  cases (a1 == b1)
  case false => rfl
  simp only [Sem.run_bind, Sem.run_pure, Bool.not_true, Bool.false_eq_true, if_false, partCell _ _ _ _ _ 2 (by omega), Result.andThen_ok, List.getD_cons_zero, List.getD_cons_succ]
  rw [eqCell 9997 a2 b2 w]
  cases (a2 == b2)
  case false => rfl
  simp only [Sem.run_bind, Sem.run_pure, Bool.not_true, Bool.false_eq_true, if_false, partCell _ _ _ _ _ 3 (by omega), Result.andThen_ok, List.getD_cons_zero, List.getD_cons_succ]
  rw [eqCell 9997 a3 b3 w]
  cases (a3 == b3) <;> rfl

theorem both_len (xs ys : List Int) (h : xs.length = ys.length) : (bothL xs ys).length = xs.length := by
  unfold bothL zipI
  rw [List.length_zipWith, h, Nat.min_self]

/-- on small numbers 'x and y is x' and 'nothing of x is outside y' are one -/
theorem bits16 : ∀ x : Fin 16, ∀ y : Fin 16, ((bits .and .i64 (x.val : Int) (y.val : Int) = (x.val : Int)) ↔ (bits .andNot .i64 (x.val : Int) (y.val : Int) = 0)) := by decide +kernel

theorem row16 {xs : List Int} (h : relIn xs = true) (k : Nat) : ∃ x : Fin 16, rowAt xs k = (x.val : Int) := by
  by_cases hk : k < xs.length
  · have hr := relIn_row h (rowAt_get hk)
    have h4 := relIn_len h
    unfold rowIn at hr
    rw [Bool.and_eq_true] at hr
    have h0 := of_decide_eq_true hr.1
    have h1 := of_decide_eq_true hr.2
    have h2 : (2 : Int) ^ xs.length ≤ 16 := by
      rcases (by omega : xs.length = 1 ∨ xs.length = 2 ∨ xs.length = 3 ∨ xs.length = 4) with e | e | e | e <;> rw [e] <;> decide
    exact ⟨⟨(rowAt xs k).toNat, by omega⟩, by simp; omega⟩
  · exact ⟨0, by unfold rowAt; rw [List.getD_eq_getElem?_getD, List.getElem?_eq_none (by omega)]; rfl⟩

theorem below_at {xs ys : List Int} (hp : relIn xs = true) (hq : relIn ys = true) (hn : xs.length = ys.length) (k : Nat) (hk : k < xs.length) :
    rowAt (bothL xs ys) k = rowAt xs k ↔ bits .andNot .i64 (rowAt xs k) (rowAt ys k) = 0 := by
  have e : rowAt (bothL xs ys) k = bits .and .i64 (rowAt xs k) (rowAt ys k) := by
    have h := zip_at (bits .and .i64) xs ys k hk (by omega)
    have h2 : rowAt (bothL xs ys) k = ((zipI (bits .and .i64) xs ys)[k]?).getD 0 := by unfold rowAt bothL; rw [List.getD_eq_getElem?_getD]
    rw [h2, h]
    rfl
  rw [e]
  obtain ⟨x, hx⟩ := row16 hp k
  obtain ⟨y, hy⟩ := row16 hq k
  rw [hx, hy]
  exact bits16 x y

theorem below_no (xs ys : List Int) (hp : relIn xs = true) (hq : relIn ys = true) (hn : xs.length = ys.length) (k : Nat) (h : ¬ rowAt (bothL xs ys) k = rowAt xs k) : belowB xs ys = false := by
  have hk : k < xs.length := by
    apply Decidable.byContradiction
    intro hk
    apply h
    unfold rowAt
    rw [List.getD_eq_getElem?_getD, List.getD_eq_getElem?_getD, List.getElem?_eq_none (by rw [both_len xs ys hn]; omega), List.getElem?_eq_none (by omega)]
  unfold belowB
  rw [List.all_eq_false]
  refine ⟨_, List.mem_of_getElem? (zip_at _ xs ys k hk (by omega)), ?_⟩
  simp
  intro h0
  exact h ((below_at hp hq hn k hk).2 h0)

theorem below_yes (xs ys : List Int) (hp : relIn xs = true) (hq : relIn ys = true) (hn : xs.length = ys.length) (h0 : rowAt (bothL xs ys) 0 = rowAt xs 0) (h1 : rowAt (bothL xs ys) 1 = rowAt xs 1) (h2 : rowAt (bothL xs ys) 2 = rowAt xs 2)
    (h3 : rowAt (bothL xs ys) 3 = rowAt xs 3) : belowB xs ys = true := by
  have h4 := (relIn_len hp).2
  unfold belowB
  rw [List.all_eq_true]
  intro x hx
  obtain ⟨k, hk, hkx⟩ := List.getElem_of_mem hx
  have hk' : k < xs.length := by unfold zipI at hk; rw [List.length_zipWith] at hk; omega
  have hz := zip_at (bits .andNot .i64) xs ys k hk' (by omega)
  rw [List.getElem?_eq_getElem hk, hkx] at hz
  have hz' : x = bits .andNot .i64 (rowAt xs k) (rowAt ys k) := by simpa using hz
  have hall : rowAt (bothL xs ys) k = rowAt xs k := by
    rcases (by omega : k = 0 ∨ k = 1 ∨ k = 2 ∨ k = 3) with rfl | rfl | rfl | rfl <;> assumption
  rw [hz', (below_at hp hq hn k hk').1 hall]
  rfl

end Go.Proofs.Ytcdiicckngndcaa

namespace Go.Proofs.Ytcdiicckngndcaa
open Go.RowKit

/-- how many of four points -/
def cnt (x : Int) : Int := x % 2 + x / 2 % 2 + x / 4 % 2 + x / 8 % 2

theorem ret_int {k : IntKind} {a b : Int} (h : a = b) : Ending.returned (.int k a) = .returned (.int k b) := by rw [h]

theorem l1size_eq : ∀ x : Fin 16, wrap64 (wrap64 (wrap64 (wrap64 (bits .and .i64 (x.val : Int) 1) + bits .and .i64 ((x.val : Int) / 2) 1) + bits .and .i64 ((x.val : Int) / 4) 1) + bits .and .i64 ((x.val : Int) / 8) 1) = cnt (x.val : Int) := by decide +kernel

/-- how many pairs the first rows have -/
def sizeL (xs : List Int) : Int := xs.foldl (fun n x => n + cnt x) 0
theorem sizeL_snoc (xs : List Int) (x : Int) : sizeL (xs ++ [x]) = sizeL xs + cnt x := by unfold sizeL; rw [List.foldl_append]; rfl
theorem cnt_le (x : Int) : 0 ≤ cnt x ∧ cnt x ≤ 4 := by unfold cnt; omega
theorem sizeL_le (xs : List Int) : 0 ≤ sizeL xs ∧ sizeL xs ≤ 4 * xs.length := by
  have h : ∀ (l : List Int) (n : Int), n ≤ l.foldl (fun n x => n + cnt x) n ∧ l.foldl (fun n x => n + cnt x) n ≤ n + 4 * l.length := by
    intro l
    induction l with
    | nil => intro n; simp
    | cons x r ih =>
      intro n
      have h1 := ih (n + cnt x)
      have h2 := cnt_le x
      simp only [List.foldl_cons, List.length_cons]
      omega
  have h0 := h xs 0
  unfold sizeL
  omega
/-- a number of pairs, or 0 -/
def ifN (b : Bool) (n : Int) : Int := if b then n else 0

end Go.Proofs.Ytcdiicckngndcaa

namespace Go.Proofs.Ytcdiicckngndcaa
open Go.RowKit

/-- the set of one point -/
def pt (i : Nat) : Int := 2 ^ i

theorem onePoint_any (i : Nat) (h : i < 4) (w : World) : Calls Try.prog 83 #[.int .i64 i] w fun e w' => e = .returned (.int .i64 (pt i)) ∧ w = w' := by
  rcases (by omega : i = 0 ∨ i = 1 ∨ i = 2 ∨ i = 3) with rfl | rfl | rfl | rfl
  all_goals
    go_enter Try.func83, Try.ntmps83
    go_wp2
    go_ret
    exact ⟨rfl, rfl⟩

theorem with_any (s : Int) (i : Nat) (h : i < 4) (w : World) : Calls Try.prog 91 #[.int .i64 s, .int .i64 i] w fun e w' => e = .returned (.int .i64 (bits .or .i64 s (pt i))) ∧ w = w' := by
  go_enter Try.func91, Try.ntmps91
  go_wp2_with (go_at_call 83; refine (onePoint_any i h _).mono ?_; rintro e w1 ⟨rfl, rfl⟩)
  go_ret
  exact ⟨rfl, rfl⟩

/-- with a pair more -/
def addPair (xs : List Int) (x y : Nat) : List Int := xs.set x (bits .or .i64 (rowAt xs x) (pt y))

theorem addPair_at (xs : List Int) (x y i : Nat) (h : x < xs.length) : rowAt (addPair xs x y) i = if i = x then bits .or .i64 (rowAt xs x) (pt y) else rowAt xs i := rowAt_set _ _ _ _ h
theorem addPair_len (xs : List Int) (x y : Nat) : (addPair xs x y).length = xs.length := by unfold addPair; rw [List.length_set]

set_option maxHeartbeats 2000000 in
theorem withPair_any (xs : List Int) (x y : Nat) (w : World) (h4 : xs.length ≤ 4) (hx : x < xs.length) (hy : y < 4) :
    Calls Try.prog 81 #[relOf xs, .int .i64 x, .int .i64 y] w fun e w' => e = .returned (relOf (addPair xs x y)) ∧ Below w.heap.size w w' := by
  have e0 := addPair_at xs x y 0 hx
  have e1 := addPair_at xs x y 1 hx
  have e2 := addPair_at xs x y 2 hx
  have e3 := addPair_at xs x y 3 hx
  have en : (addPair xs x y).length = xs.length := addPair_len xs x y
  have E := Lib.hid (And.intro e0 (And.intro e1 (And.intro e2 (And.intro e3 en))))
  clear e0 e1 e2 e3 en
  go_enter Try.func81, Try.ntmps81
  rcases (by omega : x = 0 ∨ x = 1 ∨ x = 2 ∨ x = 3) with rfl | rfl | rfl | rfl
  all_goals
    go_wp2_with (go_at_call 91; refine (with_any _ y hy _).mono ?_; rintro e w1 ⟨rfl, rfl⟩)
    obtain ⟨e0, e1, e2, e3, en⟩ := E.out
    exact bodyPost_ret (v := relOf (addPair xs _ y)) (by simp [results, Try.results81, go_sem, e0, e1, e2, e3, en]) rfl ⟨rfl, below_two _ _ _⟩
end Go.Proofs.Ytcdiicckngndcaa

namespace Go.Proofs.Ytcdiicckngndcaa
open Go.RowKit

theorem RelAt.put {w : World} {b : Nat} {xs : List Int} (h : RelAt w b xs) (ys : List Int) :
    RelAt (((((w.setCell ⟨b, 0, none⟩ (.int .i64 ys.length)).setCell ⟨b, 1, none⟩ (.int .i64 (rowAt ys 0))).setCell ⟨b, 2, none⟩ (.int .i64 (rowAt ys 1))).setCell ⟨b, 3, none⟩ (.int .i64 (rowAt ys 2))).setCell ⟨b, 4, none⟩ (.int .i64 (rowAt ys 3))) b ys := by
  unfold RelAt
  have h1 := heap_setCell_same w b 0 _ _ (.int .i64 ys.length) h
  have h2 := heap_setCell_same _ b 1 _ _ (.int .i64 (rowAt ys 0)) h1
  have h3 := heap_setCell_same _ b 2 _ _ (.int .i64 (rowAt ys 1)) h2
  have h4 := heap_setCell_same _ b 3 _ _ (.int .i64 (rowAt ys 2)) h3
  have h5 := heap_setCell_same _ b 4 _ _ (.int .i64 (rowAt ys 3)) h4
  rw [h5]
  rfl

/-- each point related to itself -/
def sameL (n : Nat) : List Int := (List.range n).map pt
def sameAcc (n k : Nat) : List Int := (List.range k).foldl (fun zs i => addPair zs i i) (List.replicate n 0)
theorem sameAcc_succ (n k : Nat) : sameAcc n (k + 1) = addPair (sameAcc n k) k k := by unfold sameAcc; rw [List.range_succ, List.foldl_append]; rfl
theorem sameAcc_len (n k : Nat) : (sameAcc n k).length = n := by
  induction k with
  | zero => unfold sameAcc; simp
  | succ k ih => rw [sameAcc_succ, addPair_len, ih]
theorem sameAcc_all : ∀ n : Fin 5, sameAcc n.val n.val = sameL n.val := by decide +kernel

set_option maxHeartbeats 2000000 in
theorem sameOn_any (n : Nat) (w : World) (h1 : 1 ≤ n) (h4 : n ≤ 4) :
    Calls Try.prog 85 #[.int .i64 n] w fun e w' => e = .returned (relOf (sameL n)) ∧ Below w.heap.size w w' := by
  have z2 := (rel_zero w).alloc (.cells #[.int .i64 n, .int .i64 0, .int .i64 0, .int .i64 0, .int .i64 0] 44)
  have z3 : RelAt ((w.alloc (.cells #[.int .i64 0, .int .i64 0, .int .i64 0, .int .i64 0, .int .i64 0] 44)).alloc (.cells #[.int .i64 n, .int .i64 0, .int .i64 0, .int .i64 0, .int .i64 0] 44)) (w.heap.size + 1) (sameAcc n 0) := by
    have h := RelAt.new (w.alloc (.cells #[.int .i64 0, .int .i64 0, .int .i64 0, .int .i64 0, .int .i64 0] 44)) (sameAcc n 0)
    rw [sameAcc_len, World.size_alloc] at h
    have hz : ∀ i, rowAt (sameAcc n 0) i = 0 := by
      intro i
      unfold rowAt sameAcc
      simp [List.getElem?_replicate]
      split <;> rfl
    rw [hz, hz, hz, hz] at h
    exact h
  have B0 := below_two w (.cells #[.int .i64 0, .int .i64 0, .int .i64 0, .int .i64 0, .int .i64 0] 44) (.cells #[.int .i64 n, .int .i64 0, .int .i64 0, .int .i64 0, .int .i64 0] 44)
  go_enter Try.func85, Try.ntmps85
  go_wp2
  go_loopw [8, 4] (fun i _ wr => ∃ k : Nat, k ≤ n ∧ i = .int .i64 k ∧ RelAt wr w.heap.size [] ∧ RelAt wr (w.heap.size + 1) (sameAcc n k) ∧ Below w.heap.size w wr)
    (fun i _ _ => n - (intOf i).toNat)
  case atStart => exact ⟨0, Nat.zero_le _, rfl, z2, z3, B0⟩
  case round =>
    obtain ⟨k, hk, rfl, hz, hr, hB⟩ := hrel
    clear z2 z3 B0
    have hln := sameAcc_len n k
    have p0 := hr.cell0
    have p1 := hr.cell1
    have p2 := hr.cell2
    have p3 := hr.cell3
    have p4 := hr.cell4
    by_cases hlt : k < n
    · have HL := Lib.hid hln
      clear hln
      go_wp2_with fail
      refine (withPair_any (sameAcc n k) k k wr (by rw [HL.out]; exact h4) (by rw [HL.out]; exact hlt) (by omega)).mono ?_
      rintro e w1 ⟨rfl, hb⟩
      have hr1 := hr.below hb hr.lt
      have hz1 := hz.below hb hz.lt
      have hB1 := hB.trans (hb.mono hB.size)
      rw [← sameAcc_succ]
      have q0 := hr1.cell0
      have q1 := hr1.cell1
      have q2 := hr1.cell2
      have q3 := hr1.cell3
      have q4 := hr1.cell4
      have f0 := hr1.free 0
      have f1 := hr1.free 1
      have f2 := hr1.free 2
      have f3 := hr1.free 3
      have f4 := hr1.free 4
      have hput := hr1.put (sameAcc n (k + 1))
      have hzo := fun (W : World) (j : Nat) (v : Value) (h : RelAt W w.heap.size []) => h.other (p := ⟨w.heap.size + 1, j, none⟩) (by simp) v
      have bc := fun (W : World) (j : Nat) (v : Value) (h : Below w.heap.size w W) => h.setCell (p := ⟨w.heap.size + 1, j, none⟩) (Nat.le_succ _) v
      clear hr hz hb hB p0 p1 p2 p3 p4
      have HP := Lib.hid hput
      clear hput
      go_wp2
      go_roundw
      case rel => exact ⟨k + 1, by omega, by go_num, hzo _ _ _ (hzo _ _ _ (hzo _ _ _ (hzo _ _ _ (hzo _ _ _ hz1)))), HP.out, bc _ _ _ (bc _ _ _ (bc _ _ _ (bc _ _ _ (bc _ _ _ hB1))))⟩
      case measure => simp [intOf]; omega
    · obtain rfl : k = n := by omega
      have hall : sameAcc k k = sameL k := sameAcc_all ⟨k, by omega⟩
      rw [hln] at p0
      have HA := Lib.hid hall
      have HL := Lib.hid hln
      clear hall hln
      have q0 := hz.cell0
      have q1 := hz.cell1
      have q2 := hz.cell2
      have q3 := hz.cell3
      have q4 := hz.cell4
      have f0 := hz.free 0
      have f1 := hz.free 1
      have f2 := hz.free 2
      have f3 := hz.free 3
      have f4 := hz.free 4
      have bb := fun (W : World) (j : Nat) (v : Value) (h : Below w.heap.size w W) => h.setCell (p := ⟨w.heap.size, j, none⟩) (Nat.le_refl _) v
      go_wp2
      refine bodyPost_ret (v := relOf (sameAcc k k)) (by simp [results, Try.results85, go_sem, q0, q1, q2, q3, q4, HL.out]) rfl ⟨by rw [HA.out], ?_⟩
      exact bb _ _ _ (bb _ _ _ (bb _ _ _ (bb _ _ _ (bb _ _ _ hB))))

theorem sameL_len (n : Nat) : (sameL n).length = n := by unfold sameL; simp
theorem same_take (n k : Nat) (h : k < n) : (sameL n).take (k + 1) = (sameL n).take k ++ [pt k] := by
  have h2 : (sameL n)[k]? = some (pt k) := by unfold sameL; simp [h]
  rw [List.take_add_one, h2]
  rfl

end Go.Proofs.Ytcdiicckngndcaa
