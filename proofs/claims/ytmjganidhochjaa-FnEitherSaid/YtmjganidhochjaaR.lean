/-
  Contracts of the program's size of a set and of RelSize, and of the model's l1Size and RelSize; for lists of at most 2^20 numbers.
-/
import Derived.Test.YtmjganidhochjaaQ
import Derived.Laws.BitsAllLaws
namespace Go.Proofs.Ytmjganidhochjaa
open Go.RowKit

/-- how many of four points -/
def cnt (x : Int) : Int := x % 2 + x / 2 % 2 + x / 4 % 2 + x / 8 % 2

theorem ret_int {k : IntKind} {a b : Int} (h : a = b) : Ending.returned (.int k a) = .returned (.int k b) := by rw [h]

set_option maxHeartbeats 2000000 in
theorem ones_any (x : Fin 16) (w : World) : Calls Try.prog 42 #[.int .u64 (x.val : Int)] w fun e w' => e = .returned (.int .i64 (cnt (x.val : Int))) ∧ w = w' := by
  go_enter Try.func42, Try.ntmps42
  go_wp2
  go_ret
  refine ⟨ret_int ?_, rfl⟩
  clear w
  revert x
  decide +kernel

theorem onesCount_any (x : Fin 16) (w : World) : Calls Try.prog 37 #[.int .u64 (x.val : Int)] w fun e w' => e = .returned (.int .i64 (cnt (x.val : Int))) ∧ w = w' := by
  go_enter Try.func37, Try.ntmps37
  go_wp2_with (go_at_call 42; refine (ones_any x _).mono ?_; rintro e w1 ⟨rfl, rfl⟩)
  go_ret
  exact ⟨rfl, rfl⟩

theorem setSize_any (x : Fin 16) (w : World) : Calls Try.prog 21 #[.int .i64 (x.val : Int)] w fun e w' => e = .returned (.int .i64 (cnt (x.val : Int))) ∧ w = w' := by
  have hx : (x.val : Int) < 16 := by have := x.isLt; omega
  go_enter Try.func21, Try.ntmps21
  go_wp2_with (go_at_call 37; refine (onesCount_any x _).mono ?_; rintro e w1 ⟨rfl, rfl⟩)
  go_ret
  exact ⟨rfl, rfl⟩

theorem l1size_eq : ∀ x : Fin 16, wrap64 (wrap64 (wrap64 (wrap64 (bits .and .i64 (x.val : Int) 1) + bits .and .i64 ((x.val : Int) / 2) 1) + bits .and .i64 ((x.val : Int) / 4) 1) + bits .and .i64 ((x.val : Int) / 8) 1) = cnt (x.val : Int) := by decide +kernel

/-- how many pairs the first rows have -/
def sizeL (xs : List Int) : Int := xs.foldl (fun n x => n + cnt x) 0
theorem sizeL_snoc (xs : List Int) (x : Int) : sizeL (xs ++ [x]) = sizeL xs + cnt x := by unfold sizeL; rw [List.foldl_append]; rfl
theorem cnt_le (x : Int) : 0 ≤ cnt x ∧ cnt x ≤ 4 := by unfold cnt; omega
theorem sizeL_le (xs : List Int) : 0 ≤ sizeL xs ∧ sizeL xs ≤ 4 * xs.length := by
  have h : ∀ (l : List Int) (n : Int), n ≤ l.foldl (fun n x => n + cnt x) n ∧ l.foldl (fun n x => n + cnt x) n ≤ n + 4 * l.length := by
    intro l
    induction l with
    | nil => intro n; simp
    | cons x r ih =>
      intro n
      have h1 := ih (n + cnt x)
      have h2 := cnt_le x
      simp only [List.foldl_cons, List.length_cons]
      omega
  have h0 := h xs 0
  unfold sizeL
  omega
/-- a number of pairs, or 0 -/
def ifN (b : Bool) (n : Int) : Int := if b then n else 0

set_option maxHeartbeats 2000000 in
theorem implRelSize_any (ao : Option Addr) (ca : Nat) (xs : List Int) (w : World) (hl : xs.length ≤ 1048576) (hx : Rd w ao xs) :
    Calls Try.prog 9 #[.slice ao xs.length ca] w fun e w' => e = .returned (.tuple #[.int .i64 (ifN (relIn xs) (sizeL xs)), .bool (relIn xs)]) ∧ Below w.heap.size w w' := by
  cases hp : relIn xs with
  | false =>
    have HP := Lib.hid hp
    clear hp
    go_enter Try.func9, Try.ntmps9
    go_wp2_with (go_at_call 20; refine (relationFrom_no _ _ _ _ hl HP.out hx).mono ?_; rintro e w1 ⟨rfl, hb⟩)
    go_ret2
    exact ⟨rfl, hb.alloc hb.size _⟩
  | true =>
    have h4 := (relIn_len hp).2
    have HP := Lib.hid hp
    clear hp
    go_enter Try.func9, Try.ntmps9
    go_wp2_with (go_at_call 20; refine (relationFrom_yes _ _ _ _ HP.out hx).mono ?_; rintro e w1 ⟨rfl, hb⟩)
    have x4 := RelAt.new w1 xs
    have B1 := hb.alloc hb.size (.cells #[.int .i64 xs.length, .int .i64 (rowAt xs 0), .int .i64 (rowAt xs 1), .int .i64 (rowAt xs 2), .int .i64 (rowAt xs 3)] 40)
    go_loopw [6, 17, 7] (fun n i _ wr => ∃ k : Nat, k ≤ xs.length ∧ i = .int .i64 k ∧ n = .int .i64 (sizeL (xs.take k)) ∧ RelAt wr w1.heap.size xs ∧ Below w.heap.size w wr)
      (fun _ i _ _ => xs.length - (intOf i).toNat)
    case atStart => exact ⟨0, Nat.zero_le _, rfl, rfl, x4, B1⟩
    case round =>
      obtain ⟨k, hk, rfl, rfl, hr, hB⟩ := hrel
      clear x4 B1
      have hs1 := sizeL_le (xs.take k)
      have hs2 : ((xs.take k).length : Int) ≤ 4 := by simp; omega
      by_cases hlt : k < xs.length
      · obtain ⟨y, hy⟩ := row16 HP.out k
        have hsn : sizeL (xs.take (k + 1)) = sizeL (xs.take k) + cnt (y.val : Int) := by rw [List.take_add_one, rowAt_get hlt, hy]; exact sizeL_snoc _ _
        have HS := Lib.hid hsn
        have hc1 := hr.row k (by omega)
        rw [hy] at hc1
        have hcn := cnt_le (y.val : Int)
        have hq : (k : Int) < 4 := by omega
        clear hsn hy hx
        go_wp2_with (go_at_call 21; refine (setSize_any y _).mono ?_; rintro e w2 ⟨rfl, rfl⟩)
        go_roundw
        case rel => exact ⟨k + 1, by omega, by go_num, by rw [HS.out], hr, hB⟩
        case measure => simp [intOf]; omega
      · go_wp2
        go_ret2
        obtain rfl : k = xs.length := by omega
        exact ⟨by rw [List.take_length]; rfl, hB⟩
end Go.Proofs.Ytmjganidhochjaa
