/-
  Contracts of the program's sameOn and RelSame, and of the model's l1Same and RelSame; for any number.
-/
import Derived.Test.YtcdiicckngndcabO
import Derived.Laws.BitsAllLaws
namespace Go.Proofs.Ytcdiicckngndcab
open Go.RowKit

theorem eqCell (d : Nat) (a b : Int) (w : World) : Sem.run Try.prog (Op.equalIn (d + 1) 44 (.int .i64 a) (.int .i64 b)) w = .ok (a == b) w := by
  unfold Op.equalIn
  simp [go_sem]
theorem partCell (a0 a1 a2 a3 : Int) (w : World) (k : Nat) (hk : k < 4) : Sem.run Try.prog (part 44 #[.int .i64 a0, .int .i64 a1, .int .i64 a2, .int .i64 a3] (k * 1)) w = .ok ([Value.int .i64 a0, .int .i64 a1, .int .i64 a2, .int .i64 a3].getD k undef) w := by
  rcases (by omega : k = 0 ∨ k = 1 ∨ k = 2 ∨ k = 3) with rfl | rfl | rfl | rfl <;> kernel_rfl
set_option maxHeartbeats 1000000 in
theorem eqRows (a0 a1 a2 a3 b0 b1 b2 b3 : Int) (w : World) :
    Sem.run Try.prog (Op.equalIn 9999 45 (.agg #[.int .i64 a0, .int .i64 a1, .int .i64 a2, .int .i64 a3]) (.agg #[.int .i64 b0, .int .i64 b1, .int .i64 b2, .int .i64 b3])) w = .ok (a0 == b0 && (a1 == b1 && (a2 == b2 && a3 == b3))) w := by
  have e : Op.equalIn 9999 45 = Op.equalIn (9998 + 1) 45 := rfl
  rw [e]
  unfold Op.equalIn
  have hsz : Sem.run Try.prog (sizeOf 44) w = .ok 1 w := by kernel_rfl
  have hr : List.range' 0 4 1 = [0, 1, 2, 3] := rfl
  rw [Sem.run_bind, run_underlying Try.underlying45]
  simp only [Result.andThen_ok]
  rw [Sem.run_bind, hsz]
  simp only [Result.andThen_ok]
  have hf : ∀ (f : Nat → Option Bool × Unit → Sem (ForInStep (Option Bool × Unit))) (i : Option Bool × Unit), forIn [:4] i f = forIn [0, 1, 2, 3] i f := by
    intro f i
    simp [Std.Legacy.Range.forIn_eq_forIn_range', Std.Legacy.Range.size, hr]
  rw [hf]
  simp only [List.forIn_cons, List.forIn_nil, bind_assoc, Sem.run_bind, partCell _ _ _ _ _ 0 (by omega), Result.andThen_ok, List.getD_cons_zero]
  rw [eqCell 9997 a0 b0 w]
  cases (a0 == b0)
  case false => rfl
  simp only [Sem.run_bind, Sem.run_pure, Bool.not_true, Bool.false_eq_true, if_false, partCell _ _ _ _ _ 1 (by omega), Result.andThen_ok, List.getD_cons_zero, List.getD_cons_succ]
  rw [eqCell 9997 a1 b1 w]
  cases (a1 == b1)
  case false => rfl
  simp only [Sem.run_bind, Sem.run_pure, Bool.not_true, Bool.false_eq_true, if_false, partCell _ _ _ _ _ 2 (by omega), Result.andThen_ok, List.getD_cons_zero, List.getD_cons_succ]
  rw [eqCell 9997 a2 b2 w]
  cases (a2 == b2)
  case false => rfl
  simp only [Sem.run_bind, Sem.run_pure, Bool.not_true, Bool.false_eq_true, if_false, partCell _ _ _ _ _ 3 (by omega), Result.andThen_ok, List.getD_cons_zero, List.getD_cons_succ]
  rw [eqCell 9997 a3 b3 w]
  cases (a3 == b3) <;> rfl

theorem both_len (xs ys : List Int) (h : xs.length = ys.length) : (bothL xs ys).length = xs.length := by
  unfold bothL zipI
  rw [List.length_zipWith, h, Nat.min_self]

/-- on small numbers 'x and y is x' and 'nothing of x is outside y' are one -/
theorem bits16 : ∀ x : Fin 16, ∀ y : Fin 16, ((bits .and .i64 (x.val : Int) (y.val : Int) = (x.val : Int)) ↔ (bits .andNot .i64 (x.val : Int) (y.val : Int) = 0)) := by decide +kernel

theorem row16 {xs : List Int} (h : relIn xs = true) (k : Nat) : ∃ x : Fin 16, rowAt xs k = (x.val : Int) := by
  by_cases hk : k < xs.length
  · have hr := relIn_row h (rowAt_get hk)
    have h4 := relIn_len h
    unfold rowIn at hr
    rw [Bool.and_eq_true] at hr
    have h0 := of_decide_eq_true hr.1
    have h1 := of_decide_eq_true hr.2
    have h2 : (2 : Int) ^ xs.length ≤ 16 := by
      rcases (by omega : xs.length = 1 ∨ xs.length = 2 ∨ xs.length = 3 ∨ xs.length = 4) with e | e | e | e <;> rw [e] <;> decide
    exact ⟨⟨(rowAt xs k).toNat, by omega⟩, by simp; omega⟩
  · exact ⟨0, by unfold rowAt; rw [List.getD_eq_getElem?_getD, List.getElem?_eq_none (by omega)]; rfl⟩

theorem below_at {xs ys : List Int} (hp : relIn xs = true) (hq : relIn ys = true) (hn : xs.length = ys.length) (k : Nat) (hk : k < xs.length) :
    rowAt (bothL xs ys) k = rowAt xs k ↔ bits .andNot .i64 (rowAt xs k) (rowAt ys k) = 0 := by
  have e : rowAt (bothL xs ys) k = bits .and .i64 (rowAt xs k) (rowAt ys k) := by
    have h := zip_at (bits .and .i64) xs ys k hk (by omega)
    have h2 : rowAt (bothL xs ys) k = ((zipI (bits .and .i64) xs ys)[k]?).getD 0 := by unfold rowAt bothL; rw [List.getD_eq_getElem?_getD]
    rw [h2, h]
    rfl
  rw [e]
  obtain ⟨x, hx⟩ := row16 hp k
  obtain ⟨y, hy⟩ := row16 hq k
  rw [hx, hy]
  exact bits16 x y

theorem below_no (xs ys : List Int) (hp : relIn xs = true) (hq : relIn ys = true) (hn : xs.length = ys.length) (k : Nat) (h : ¬ rowAt (bothL xs ys) k = rowAt xs k) : belowB xs ys = false := by
  have hk : k < xs.length := by
    apply Decidable.byContradiction
    intro hk
    apply h
    unfold rowAt
    rw [List.getD_eq_getElem?_getD, List.getD_eq_getElem?_getD, List.getElem?_eq_none (by rw [both_len xs ys hn]; omega), List.getElem?_eq_none (by omega)]
  unfold belowB
  rw [List.all_eq_false]
  refine ⟨_, List.mem_of_getElem? (zip_at _ xs ys k hk (by omega)), ?_⟩
  simp
  intro h0
  exact h ((below_at hp hq hn k hk).2 h0)

theorem below_yes (xs ys : List Int) (hp : relIn xs = true) (hq : relIn ys = true) (hn : xs.length = ys.length) (h0 : rowAt (bothL xs ys) 0 = rowAt xs 0) (h1 : rowAt (bothL xs ys) 1 = rowAt xs 1) (h2 : rowAt (bothL xs ys) 2 = rowAt xs 2)
    (h3 : rowAt (bothL xs ys) 3 = rowAt xs 3) : belowB xs ys = true := by
  have h4 := (relIn_len hp).2
  unfold belowB
  rw [List.all_eq_true]
  intro x hx
  obtain ⟨k, hk, hkx⟩ := List.getElem_of_mem hx
  have hk' : k < xs.length := by unfold zipI at hk; rw [List.length_zipWith] at hk; omega
  have hz := zip_at (bits .andNot .i64) xs ys k hk' (by omega)
  rw [List.getElem?_eq_getElem hk, hkx] at hz
  have hz' : x = bits .andNot .i64 (rowAt xs k) (rowAt ys k) := by simpa using hz
  have hall : rowAt (bothL xs ys) k = rowAt xs k := by
    rcases (by omega : k = 0 ∨ k = 1 ∨ k = 2 ∨ k = 3) with rfl | rfl | rfl | rfl <;> assumption
  rw [hz', (below_at hp hq hn k hk').1 hall]
  rfl

set_option maxHeartbeats 4000000 in
theorem below_any (xs ys : List Int) (w : World) (hp : relIn xs = true) (hq : relIn ys = true) (hn : xs.length = ys.length) :
    Calls Try.prog 71 #[relOf xs, relOf ys] w fun e w' => e = .returned (.bool (belowB xs ys)) ∧ Below w.heap.size w w' := by
  have h4 := (relIn_len hp).2
  have HP := Lib.hid hp
  have HQ := Lib.hid hq
  have HN := Lib.hid hn
  clear hp hq hn
  have x2 := (RelAt.new w xs).alloc (.cells #[.int .i64 ys.length, .int .i64 (rowAt ys 0), .int .i64 (rowAt ys 1), .int .i64 (rowAt ys 2), .int .i64 (rowAt ys 3)] 47)
  have x3 := RelAt.new (w.alloc (.cells #[.int .i64 xs.length, .int .i64 (rowAt xs 0), .int .i64 (rowAt xs 1), .int .i64 (rowAt xs 2), .int .i64 (rowAt xs 3)] 47)) ys
  rw [World.size_alloc] at x3
  have B0 := below_two w (.cells #[.int .i64 xs.length, .int .i64 (rowAt xs 0), .int .i64 (rowAt xs 1), .int .i64 (rowAt xs 2), .int .i64 (rowAt xs 3)] 47) (.cells #[.int .i64 ys.length, .int .i64 (rowAt ys 0), .int .i64 (rowAt ys 1), .int .i64 (rowAt ys 2), .int .i64 (rowAt ys 3)] 47)
  have sz : w.heap.size + 2 = ((w.alloc (.cells #[.int .i64 xs.length, .int .i64 (rowAt xs 0), .int .i64 (rowAt xs 1), .int .i64 (rowAt xs 2), .int .i64 (rowAt xs 3)] 47)).alloc (.cells #[.int .i64 ys.length, .int .i64 (rowAt ys 0), .int .i64 (rowAt ys 1), .int .i64 (rowAt ys 2), .int .i64 (rowAt ys 3)] 47)).heap.size := by simp
  go_enter Try.func71, Try.ntmps71
  go_wp2
  obtain ⟨W0, hW0⟩ : ∃ W0, (w.alloc (.cells #[.int .i64 xs.length, .int .i64 (rowAt xs 0), .int .i64 (rowAt xs 1), .int .i64 (rowAt xs 2), .int .i64 (rowAt xs 3)] 47)).alloc (.cells #[.int .i64 ys.length, .int .i64 (rowAt ys 0), .int .i64 (rowAt ys 1), .int .i64 (rowAt ys 2), .int .i64 (rowAt ys 3)] 47) = W0 := ⟨_, rfl⟩
  rw [hW0] at x2 x3 B0 sz ⊢
  have SZ := Lib.hid sz
  clear hW0 sz
  have p0 := x2.cell0
  have p1 := x2.cell1
  have p2 := x2.cell2
  have p3 := x2.cell3
  have p4 := x2.cell4
  have q0 := x3.cell0
  have q1 := x3.cell1
  have q2 := x3.cell2
  have q3 := x3.cell3
  have q4 := x3.cell4
  have en : (((bothL xs ys).length : Int) == (xs.length : Int)) = true := by rw [both_len xs ys HN.out]; simp
  cases hc : (rowAt (bothL xs ys) 0 == rowAt xs 0 && (rowAt (bothL xs ys) 1 == rowAt xs 1 && (rowAt (bothL xs ys) 2 == rowAt xs 2 && rowAt (bothL xs ys) 3 == rowAt xs 3))) with
  | false =>
    have hE := fun w => eqRows (rowAt (bothL xs ys) 0) (rowAt (bothL xs ys) 1) (rowAt (bothL xs ys) 2) (rowAt (bothL xs ys) 3) (rowAt xs 0) (rowAt xs 1) (rowAt xs 2) (rowAt xs 3) w
    rw [hc] at hE
    have hv : belowB xs ys = false := by
      by_cases c0 : rowAt (bothL xs ys) 0 = rowAt xs 0
      case neg => exact below_no xs ys HP.out HQ.out HN.out 0 c0
      by_cases c1 : rowAt (bothL xs ys) 1 = rowAt xs 1
      case neg => exact below_no xs ys HP.out HQ.out HN.out 1 c1
      by_cases c2 : rowAt (bothL xs ys) 2 = rowAt xs 2
      case neg => exact below_no xs ys HP.out HQ.out HN.out 2 c2
      refine below_no xs ys HP.out HQ.out HN.out 3 fun c3 => ?_
      simp [c0, c1, c2, c3] at hc
    have HV := Lib.hid hv
    clear hc hv
    go_region_with (go_at_call 92; refine (both_any xs ys _ h4 HN.out).mono ?_; rintro e w' ⟨rfl, hb⟩; have x5 : RelAt w' w.heap.size xs := x2.drew.below hb (by have := SZ.out; simp; omega); have r0 := x5.cell0; have r1 := x5.cell1; have r2 := x5.cell2; have r3 := x5.cell3; have r4 := x5.cell4; have hB5 := B0.drew.trans (hb.mono B0.size); clear x5 hb)
    all_goals
      go_wp2
      go_ret
      exact ⟨by rw [HV.out]; rfl, hB5⟩
  | true =>
    have hE := fun w => eqRows (rowAt (bothL xs ys) 0) (rowAt (bothL xs ys) 1) (rowAt (bothL xs ys) 2) (rowAt (bothL xs ys) 3) (rowAt xs 0) (rowAt xs 1) (rowAt xs 2) (rowAt xs 3) w
    rw [hc] at hE
    have hv : belowB xs ys = true := by
      simp only [Bool.and_eq_true, beq_iff_eq] at hc
      exact below_yes xs ys HP.out HQ.out HN.out hc.1 hc.2.1 hc.2.2.1 hc.2.2.2
    have HV := Lib.hid hv
    clear hc hv
    go_region_with (go_at_call 92; refine (both_any xs ys _ h4 HN.out).mono ?_; rintro e w' ⟨rfl, hb⟩; have x5 : RelAt w' w.heap.size xs := x2.drew.below hb (by have := SZ.out; simp; omega); have r0 := x5.cell0; have r1 := x5.cell1; have r2 := x5.cell2; have r3 := x5.cell3; have r4 := x5.cell4; have hB5 := B0.drew.trans (hb.mono B0.size); clear x5 hb)
    all_goals
      go_wp2
      go_ret
      exact ⟨by rw [HV.out]; rfl, hB5⟩
end Go.Proofs.Ytcdiicckngndcab

namespace Go.Proofs.Ytcdiicckngndcab
open Go.RowKit

/-- how many of four points -/
def cnt (x : Int) : Int := x % 2 + x / 2 % 2 + x / 4 % 2 + x / 8 % 2

theorem ret_int {k : IntKind} {a b : Int} (h : a = b) : Ending.returned (.int k a) = .returned (.int k b) := by rw [h]

theorem l1size_eq : ∀ x : Fin 16, wrap64 (wrap64 (wrap64 (wrap64 (bits .and .i64 (x.val : Int) 1) + bits .and .i64 ((x.val : Int) / 2) 1) + bits .and .i64 ((x.val : Int) / 4) 1) + bits .and .i64 ((x.val : Int) / 8) 1) = cnt (x.val : Int) := by decide +kernel

/-- how many pairs the first rows have -/
def sizeL (xs : List Int) : Int := xs.foldl (fun n x => n + cnt x) 0
theorem sizeL_snoc (xs : List Int) (x : Int) : sizeL (xs ++ [x]) = sizeL xs + cnt x := by unfold sizeL; rw [List.foldl_append]; rfl
theorem cnt_le (x : Int) : 0 ≤ cnt x ∧ cnt x ≤ 4 := by unfold cnt; omega
theorem sizeL_le (xs : List Int) : 0 ≤ sizeL xs ∧ sizeL xs ≤ 4 * xs.length := by
  have h : ∀ (l : List Int) (n : Int), n ≤ l.foldl (fun n x => n + cnt x) n ∧ l.foldl (fun n x => n + cnt x) n ≤ n + 4 * l.length := by
    intro l
    induction l with
    | nil => intro n; simp
    | cons x r ih =>
      intro n
      have h1 := ih (n + cnt x)
      have h2 := cnt_le x
      simp only [List.foldl_cons, List.length_cons]
      omega
  have h0 := h xs 0
  unfold sizeL
  omega
/-- a number of pairs, or 0 -/
def ifN (b : Bool) (n : Int) : Int := if b then n else 0

end Go.Proofs.Ytcdiicckngndcab

namespace Go.Proofs.Ytcdiicckngndcab
open Go.RowKit

theorem implRelBelow_any (ao bo : Option Addr) (ca cb : Nat) (xs ys : List Int) (w : World) (hl : xs.length ≤ 1048576) (hl2 : ys.length ≤ 1048576) (hx : Rd w ao xs) (hy : Rd w bo ys) :
    Calls Try.prog 30 #[.slice ao xs.length ca, .slice bo ys.length cb] w fun e w' => e = .returned (.bool (twoIn xs ys && belowB xs ys)) ∧ Below w.heap.size w w' := by
  cases hp : twoIn xs ys with
  | false =>
    have HP := Lib.hid hp
    clear hp
    go_enter Try.func30, Try.ntmps30
    go_wp2_with (go_at_call 65; refine (two_no _ _ _ _ _ _ _ hl hl2 hx hy HP.out).mono ?_; rintro e w1 ⟨rfl, hb⟩)
    go_ret
    exact ⟨rfl, (hb.alloc hb.size _).alloc (by have := hb.size; simp; omega) _⟩
  | true =>
    obtain ⟨h1, h2, h3⟩ := twoIn_yes hp
    have HP := Lib.hid h1
    have HQ := Lib.hid h2
    have HN := Lib.hid h3
    clear hp h1 h2 h3
    go_enter Try.func30, Try.ntmps30
    go_wp2_with fail
    refine (two_yes _ _ _ _ _ _ _ hx hy HP.out HQ.out HN.out).mono ?_
    rintro e w1 ⟨rfl, hb⟩
    have x1 := (RelAt.new w1 xs).alloc (.cells #[.int .i64 ys.length, .int .i64 (rowAt ys 0), .int .i64 (rowAt ys 1), .int .i64 (rowAt ys 2), .int .i64 (rowAt ys 3)] 47)
    have p0 := x1.cell0
    have p1 := x1.cell1
    have p2 := x1.cell2
    have p3 := x1.cell3
    have p4 := x1.cell4
    clear x1
    go_wp2_with fail
    refine (below_any xs ys _ HP.out HQ.out HN.out).mono ?_
    clear p0 p1 p2 p3 p4
    rintro e w2 ⟨rfl, hb2⟩
    go_wp2
    go_ret
    exact ⟨rfl, ((hb.alloc hb.size _).alloc (by have := hb.size; simp; omega) _).trans (hb2.mono (by have := hb.size; simp; omega))⟩

/-- the set of one point -/
def pt (i : Nat) : Int := 2 ^ i

theorem onePoint_any (i : Nat) (h : i < 4) (w : World) : Calls Try.prog 102 #[.int .i64 i] w fun e w' => e = .returned (.int .i64 (pt i)) ∧ w = w' := by
  rcases (by omega : i = 0 ∨ i = 1 ∨ i = 2 ∨ i = 3) with rfl | rfl | rfl | rfl
  all_goals
    go_enter Try.func102, Try.ntmps102
    go_wp2
    go_ret
    exact ⟨rfl, rfl⟩

theorem with_any (s : Int) (i : Nat) (h : i < 4) (w : World) : Calls Try.prog 100 #[.int .i64 s, .int .i64 i] w fun e w' => e = .returned (.int .i64 (bits .or .i64 s (pt i))) ∧ w = w' := by
  go_enter Try.func100, Try.ntmps100
  go_wp2_with (go_at_call 102; refine (onePoint_any i h _).mono ?_; rintro e w1 ⟨rfl, rfl⟩)
  go_ret
  exact ⟨rfl, rfl⟩

/-- with a pair more -/
def addPair (xs : List Int) (x y : Nat) : List Int := xs.set x (bits .or .i64 (rowAt xs x) (pt y))

theorem addPair_at (xs : List Int) (x y i : Nat) (h : x < xs.length) : rowAt (addPair xs x y) i = if i = x then bits .or .i64 (rowAt xs x) (pt y) else rowAt xs i := rowAt_set _ _ _ _ h
theorem addPair_len (xs : List Int) (x y : Nat) : (addPair xs x y).length = xs.length := by unfold addPair; rw [List.length_set]

set_option maxHeartbeats 2000000 in
theorem withPair_any (xs : List Int) (x y : Nat) (w : World) (h4 : xs.length ≤ 4) (hx : x < xs.length) (hy : y < 4) :
    Calls Try.prog 84 #[relOf xs, .int .i64 x, .int .i64 y] w fun e w' => e = .returned (relOf (addPair xs x y)) ∧ Below w.heap.size w w' := by
  have e0 := addPair_at xs x y 0 hx
  have e1 := addPair_at xs x y 1 hx
  have e2 := addPair_at xs x y 2 hx
  have e3 := addPair_at xs x y 3 hx
  have en : (addPair xs x y).length = xs.length := addPair_len xs x y
  have E := Lib.hid (And.intro e0 (And.intro e1 (And.intro e2 (And.intro e3 en))))
  clear e0 e1 e2 e3 en
  go_enter Try.func84, Try.ntmps84
  rcases (by omega : x = 0 ∨ x = 1 ∨ x = 2 ∨ x = 3) with rfl | rfl | rfl | rfl
  all_goals
    go_wp2_with (go_at_call 100; refine (with_any _ y hy _).mono ?_; rintro e w1 ⟨rfl, rfl⟩)
    obtain ⟨e0, e1, e2, e3, en⟩ := E.out
    exact bodyPost_ret (v := relOf (addPair xs _ y)) (by simp [results, Try.results84, go_sem, e0, e1, e2, e3, en]) rfl ⟨rfl, below_two _ _ _⟩
end Go.Proofs.Ytcdiicckngndcab

namespace Go.Proofs.Ytcdiicckngndcab
open Go.RowKit

theorem RelAt.put {w : World} {b : Nat} {xs : List Int} (h : RelAt w b xs) (ys : List Int) :
    RelAt (((((w.setCell ⟨b, 0, none⟩ (.int .i64 ys.length)).setCell ⟨b, 1, none⟩ (.int .i64 (rowAt ys 0))).setCell ⟨b, 2, none⟩ (.int .i64 (rowAt ys 1))).setCell ⟨b, 3, none⟩ (.int .i64 (rowAt ys 2))).setCell ⟨b, 4, none⟩ (.int .i64 (rowAt ys 3))) b ys := by
  unfold RelAt
  have h1 := heap_setCell_same w b 0 _ _ (.int .i64 ys.length) h
  have h2 := heap_setCell_same _ b 1 _ _ (.int .i64 (rowAt ys 0)) h1
  have h3 := heap_setCell_same _ b 2 _ _ (.int .i64 (rowAt ys 1)) h2
  have h4 := heap_setCell_same _ b 3 _ _ (.int .i64 (rowAt ys 2)) h3
  have h5 := heap_setCell_same _ b 4 _ _ (.int .i64 (rowAt ys 3)) h4
  rw [h5]
  rfl

/-- each point related to itself -/
def sameL (n : Nat) : List Int := (List.range n).map pt
def sameAcc (n k : Nat) : List Int := (List.range k).foldl (fun zs i => addPair zs i i) (List.replicate n 0)
theorem sameAcc_succ (n k : Nat) : sameAcc n (k + 1) = addPair (sameAcc n k) k k := by unfold sameAcc; rw [List.range_succ, List.foldl_append]; rfl
theorem sameAcc_len (n k : Nat) : (sameAcc n k).length = n := by
  induction k with
  | zero => unfold sameAcc; simp
  | succ k ih => rw [sameAcc_succ, addPair_len, ih]
theorem sameAcc_all : ∀ n : Fin 5, sameAcc n.val n.val = sameL n.val := by decide +kernel

set_option maxHeartbeats 2000000 in
theorem sameOn_any (n : Nat) (w : World) (h1 : 1 ≤ n) (h4 : n ≤ 4) :
    Calls Try.prog 78 #[.int .i64 n] w fun e w' => e = .returned (relOf (sameL n)) ∧ Below w.heap.size w w' := by
  have z2 := (rel_zero w).alloc (.cells #[.int .i64 n, .int .i64 0, .int .i64 0, .int .i64 0, .int .i64 0] 47)
  have z3 : RelAt ((w.alloc (.cells #[.int .i64 0, .int .i64 0, .int .i64 0, .int .i64 0, .int .i64 0] 47)).alloc (.cells #[.int .i64 n, .int .i64 0, .int .i64 0, .int .i64 0, .int .i64 0] 47)) (w.heap.size + 1) (sameAcc n 0) := by
    have h := RelAt.new (w.alloc (.cells #[.int .i64 0, .int .i64 0, .int .i64 0, .int .i64 0, .int .i64 0] 47)) (sameAcc n 0)
    rw [sameAcc_len, World.size_alloc] at h
    have hz : ∀ i, rowAt (sameAcc n 0) i = 0 := by
      intro i
      unfold rowAt sameAcc
      simp [List.getElem?_replicate]
      split <;> rfl
    rw [hz, hz, hz, hz] at h
    exact h
  have B0 := below_two w (.cells #[.int .i64 0, .int .i64 0, .int .i64 0, .int .i64 0, .int .i64 0] 47) (.cells #[.int .i64 n, .int .i64 0, .int .i64 0, .int .i64 0, .int .i64 0] 47)
  go_enter Try.func78, Try.ntmps78
  go_wp2
  go_loopw [8, 4] (fun i _ wr => ∃ k : Nat, k ≤ n ∧ i = .int .i64 k ∧ RelAt wr w.heap.size [] ∧ RelAt wr (w.heap.size + 1) (sameAcc n k) ∧ Below w.heap.size w wr)
    (fun i _ _ => n - (intOf i).toNat)
  case atStart => exact ⟨0, Nat.zero_le _, rfl, z2, z3, B0⟩
  case round =>
    obtain ⟨k, hk, rfl, hz, hr, hB⟩ := hrel
    clear z2 z3 B0
    have hln := sameAcc_len n k
    have p0 := hr.cell0
    have p1 := hr.cell1
    have p2 := hr.cell2
    have p3 := hr.cell3
    have p4 := hr.cell4
    by_cases hlt : k < n
    · have HL := Lib.hid hln
      clear hln
      go_wp2_with fail
      refine (withPair_any (sameAcc n k) k k wr (by rw [HL.out]; exact h4) (by rw [HL.out]; exact hlt) (by omega)).mono ?_
      rintro e w1 ⟨rfl, hb⟩
      have hr1 := hr.below hb hr.lt
      have hz1 := hz.below hb hz.lt
      have hB1 := hB.trans (hb.mono hB.size)
      rw [← sameAcc_succ]
      have q0 := hr1.cell0
      have q1 := hr1.cell1
      have q2 := hr1.cell2
      have q3 := hr1.cell3
      have q4 := hr1.cell4
      have f0 := hr1.free 0
      have f1 := hr1.free 1
      have f2 := hr1.free 2
      have f3 := hr1.free 3
      have f4 := hr1.free 4
      have hput := hr1.put (sameAcc n (k + 1))
      have hzo := fun (W : World) (j : Nat) (v : Value) (h : RelAt W w.heap.size []) => h.other (p := ⟨w.heap.size + 1, j, none⟩) (by simp) v
      have bc := fun (W : World) (j : Nat) (v : Value) (h : Below w.heap.size w W) => h.setCell (p := ⟨w.heap.size + 1, j, none⟩) (Nat.le_succ _) v
      clear hr hz hb hB p0 p1 p2 p3 p4
      have HP := Lib.hid hput
      clear hput
      go_wp2
      go_roundw
      case rel => exact ⟨k + 1, by omega, by go_num, hzo _ _ _ (hzo _ _ _ (hzo _ _ _ (hzo _ _ _ (hzo _ _ _ hz1)))), HP.out, bc _ _ _ (bc _ _ _ (bc _ _ _ (bc _ _ _ (bc _ _ _ hB1))))⟩
      case measure => simp [intOf]; omega
    · obtain rfl : k = n := by omega
      have hall : sameAcc k k = sameL k := sameAcc_all ⟨k, by omega⟩
      rw [hln] at p0
      have HA := Lib.hid hall
      have HL := Lib.hid hln
      clear hall hln
      have q0 := hz.cell0
      have q1 := hz.cell1
      have q2 := hz.cell2
      have q3 := hz.cell3
      have q4 := hz.cell4
      have f0 := hz.free 0
      have f1 := hz.free 1
      have f2 := hz.free 2
      have f3 := hz.free 3
      have f4 := hz.free 4
      have bb := fun (W : World) (j : Nat) (v : Value) (h : Below w.heap.size w W) => h.setCell (p := ⟨w.heap.size, j, none⟩) (Nat.le_refl _) v
      go_wp2
      refine bodyPost_ret (v := relOf (sameAcc k k)) (by simp [results, Try.results78, go_sem, q0, q1, q2, q3, q4, HL.out]) rfl ⟨by rw [HA.out], ?_⟩
      exact bb _ _ _ (bb _ _ _ (bb _ _ _ (bb _ _ _ (bb _ _ _ hB))))

theorem sameL_len (n : Nat) : (sameL n).length = n := by unfold sameL; simp
theorem same_take (n k : Nat) (h : k < n) : (sameL n).take (k + 1) = (sameL n).take k ++ [pt k] := by
  have h2 : (sameL n)[k]? = some (pt k) := by unfold sameL; simp [h]
  rw [List.take_add_one, h2]
  rfl

theorem implRelSame_any (n : Int) (w : World) :
    Calls Try.prog 35 #[.int .i64 n] w (Gave w (ifR (inB n 1 4) (sameL n.toNat)) (inB n 1 4)) := by
  cases hp : inB n 1 4 with
  | false =>
    go_enter Try.func35, Try.ntmps35
    go_wp2_with (go_at_call 77; refine (isCount_any _ _).mono ?_; rintro e w1 ⟨rfl, rfl⟩)
    go_ret2
    exact ⟨.slice none 0 0, rfl, World.ownsRow_nil _ _ _ _, Below.refl _ _⟩
  | true =>
    have hb : 1 ≤ n ∧ n ≤ 4 := by unfold inB at hp; exact of_decide_eq_true hp
    obtain ⟨k, rfl⟩ : ∃ k : Nat, n = (k : Int) := ⟨n.toNat, by omega⟩
    have hb1 : 1 ≤ k := by omega
    have hb4 : k ≤ 4 := by omega
    clear hb
    go_enter Try.func35, Try.ntmps35
    go_wp2_with fail
    refine (isCount_any _ _).mono ?_
    rintro e w1 ⟨rfl, rfl⟩
    go_wp2_with fail
    refine (sameOn_any k _ hb1 hb4).mono ?_
    rintro e w2 ⟨rfl, hb2⟩
    go_wp2_with fail
    refine (list_any (sameL k) w2 (by rw [sameL_len]; exact hb4)).mono ?_
    rintro e w3 ⟨v, rfl, ho, hb3⟩
    go_wp2
    go_ret2
    exact ⟨v, rfl, own_mono ho hb2.size, hb2.trans (hb3.mono hb2.size)⟩
end Go.Proofs.Ytcdiicckngndcab
