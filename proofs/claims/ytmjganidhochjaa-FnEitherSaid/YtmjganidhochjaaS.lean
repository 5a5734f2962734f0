/-
  Contracts of the program's RelBelow, onePoint, with, withPair, sameOn, RelSame, and of the model's l1Same and RelSame.
-/
import Derived.Test.YtmjganidhochjaaR
namespace Go.Proofs.Ytmjganidhochjaa
open Go.RowKit

theorem implRelBelow_any (ao bo : Option Addr) (ca cb : Nat) (xs ys : List Int) (w : World) (hl : xs.length ≤ 1048576) (hl2 : ys.length ≤ 1048576) (hx : Rd w ao xs) (hy : Rd w bo ys) :
    Calls Try.prog 14 #[.slice ao xs.length ca, .slice bo ys.length cb] w fun e w' => e = .returned (.bool (twoIn xs ys && belowB xs ys)) ∧ Below w.heap.size w w' := by
  cases hp : twoIn xs ys with
  | false =>
    have HP := Lib.hid hp
    clear hp
    go_enter Try.func14, Try.ntmps14
    go_wp2_with (go_at_call 27; refine (two_no _ _ _ _ _ _ _ hl hl2 hx hy HP.out).mono ?_; rintro e w1 ⟨rfl, hb⟩)
    go_ret
    exact ⟨rfl, (hb.alloc hb.size _).alloc (by have := hb.size; simp; omega) _⟩
  | true =>
    obtain ⟨h1, h2, h3⟩ := twoIn_yes hp
    have HP := Lib.hid h1
    have HQ := Lib.hid h2
    have HN := Lib.hid h3
    clear hp h1 h2 h3
    go_enter Try.func14, Try.ntmps14
    go_wp2_with fail
    refine (two_yes _ _ _ _ _ _ _ hx hy HP.out HQ.out HN.out).mono ?_
    rintro e w1 ⟨rfl, hb⟩
    have x1 := (RelAt.new w1 xs).alloc (.cells #[.int .i64 ys.length, .int .i64 (rowAt ys 0), .int .i64 (rowAt ys 1), .int .i64 (rowAt ys 2), .int .i64 (rowAt ys 3)] 40)
    have p0 := x1.cell0
    have p1 := x1.cell1
    have p2 := x1.cell2
    have p3 := x1.cell3
    have p4 := x1.cell4
    clear x1
    go_wp2_with fail
    refine (below_any xs ys _ HP.out HQ.out HN.out).mono ?_
    clear p0 p1 p2 p3 p4
    rintro e w2 ⟨rfl, hb2⟩
    go_wp2
    go_ret
    exact ⟨rfl, ((hb.alloc hb.size _).alloc (by have := hb.size; simp; omega) _).trans (hb2.mono (by have := hb.size; simp; omega))⟩

/-- the set of one point -/
def pt (i : Nat) : Int := 2 ^ i

/-- with a pair more -/
def addPair (xs : List Int) (x y : Nat) : List Int := xs.set x (bits .or .i64 (rowAt xs x) (pt y))

theorem addPair_at (xs : List Int) (x y i : Nat) (h : x < xs.length) : rowAt (addPair xs x y) i = if i = x then bits .or .i64 (rowAt xs x) (pt y) else rowAt xs i := rowAt_set _ _ _ _ h
theorem addPair_len (xs : List Int) (x y : Nat) : (addPair xs x y).length = xs.length := by unfold addPair; rw [List.length_set]

end Go.Proofs.Ytmjganidhochjaa
