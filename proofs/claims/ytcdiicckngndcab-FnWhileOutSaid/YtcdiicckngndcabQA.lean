/-
  Polars and closed sets: the program's closed and setMadeOf, RectPolar and RectClosed, and the model's; for lists of at most 2^20 numbers.
-/
import Derived.Test.YtcdiicckngndcabOBA
import Derived.Test.YtcdiicckngndcabEE
import Derived.Deep.RegionHeld3
namespace Go.Proofs.Ytcdiicckngndcab
open Go.RowKit

/-- a relation and a set of its points -/
def setB (xs : List Int) (z : Int) : Bool := relIn xs && rowIn xs.length z
/-- the polar of the polar -/
def clo (xs : List Int) (z : Int) : Int := relAll (turnL xs) (relAll xs z)
def polI (xs : List Int) (z : Int) : Int := if setB xs z then relAll xs z else 0
def cloI (xs : List Int) (z : Int) : Int := if setB xs z then clo xs z else 0

theorem l6rSet_any (ao : Option Addr) (ca : Nat) (xs : List Int) (z : Int) (w : World) (hl : xs.length ≤ 1048576) (hx : Rd w ao xs) :
    Calls Try.prog 47 #[.slice ao xs.length ca, .int .i64 z] w fun e w' => e = .returned (.bool (setB xs z)) ∧ Dn w w' := by
  have h1 := specRelIn_any ao ca xs w hl hx
  unfold setB
  cases hp : relIn xs with
  | false =>
    rw [hp] at h1
    rw [Bool.false_and]
    have H1 := Lib.hid h1
    clear h1 hp hx
    go_enter Try.func47, Try.ntmps47
    go_wp2_with fail
    refine H1.out.mono ?_
    rintro e w1 ⟨rfl, hd⟩
    go_wp2
    go_ret
    exact ⟨rfl, hd⟩
  | true =>
    rw [hp] at h1
    rw [Bool.true_and]
    have h4 := relIn_len hp
    have HI := Lib.hid (row_top _ z h4.1 h4.2)
    have H1 := Lib.hid h1
    have h40 := h4.1
    have h44 := h4.2
    clear h1 hp hx h4
    go_enter Try.func47, Try.ntmps47
    go_wp2_with fail
    refine H1.out.mono ?_
    rintro e w1 ⟨rfl, hd⟩
    go_wp2_with fail
    refine (l6In_any _ _ _ _).mono ?_
    rintro e w2 ⟨rfl, rfl⟩
    rw [HI.out]
    go_wp2
    go_ret
    exact ⟨rfl, hd⟩

/-! the program's -/
/-- what a call gives that answers a set and a bool -/
theorem setMadeOf_no (f : Value) (ao : Option Addr) (ca : Nat) (xs : List Int) (z : Int) (w : World) (hl : xs.length ≤ 1048576) (hx : Rd w ao xs) (hp : setB xs z = false) :
    Calls Try.prog 43 #[.slice ao xs.length ca, .int .i64 z, f] w fun e w' => e = .returned (.tuple #[.int .i64 0, .bool false]) ∧ Below w.heap.size w w' := by
  cases hq : relIn xs with
  | false =>
    have HQ := Lib.hid hq
    clear hp hq
    go_enter Try.func43, Try.ntmps43
    go_wp2_with (go_at_call 53; refine (relationFrom_no _ _ _ _ hl HQ.out hx).mono ?_; rintro e w1 ⟨rfl, hb⟩)
    go_ret2
    exact ⟨rfl, hb.alloc hb.size _⟩
  | true =>
    unfold setB at hp
    rw [hq, Bool.true_and] at hp
    have h4 := relIn_len hq
    have hs := fun wr => isSet_any z xs.length h4.1 h4.2 wr
    rw [hp] at hs
    have HS := Lib.hid hs
    have HQ := Lib.hid hq
    clear hq hs hp h4
    go_enter Try.func43, Try.ntmps43
    go_wp2_with fail
    refine (relationFrom_yes _ _ _ _ HQ.out hx).mono ?_
    rintro e w1 ⟨rfl, hb⟩
    have x1 := RelAt.new w1 xs
    have B1 := hb.alloc hb.size (.cells #[.int .i64 xs.length, .int .i64 (rowAt xs 0), .int .i64 (rowAt xs 1), .int .i64 (rowAt xs 2), .int .i64 (rowAt xs 3)] 47)
    have p0 := x1.cell0
    have p1 := x1.cell1
    have p2 := x1.cell2
    have p3 := x1.cell3
    have p4 := x1.cell4
    clear x1 hb
    go_wp2_with fail
    refine (HS.out _).mono ?_
    rintro e w2 ⟨rfl, rfl⟩
    go_wp2
    go_ret2
    exact ⟨rfl, B1⟩

theorem setMadeOf_yes (g : FuncId) (hcf : ∀ args w, Sem.run Try.prog (callFunc g args) w = .ok (.enter g args) w) (m : Int) (ao : Option Addr) (ca : Nat) (xs : List Int) (z : Int) (w : World) (hx : Rd w ao xs) (hp : setB xs z = true)
    (hg : ∀ w, Calls Try.prog g #[relOf xs, .int .i64 z] w fun e w' => e = .returned (.int .i64 m) ∧ Below w.heap.size w w') :
    Calls Try.prog 43 #[.slice ao xs.length ca, .int .i64 z, .func (.func g) #[] #[]] w fun e w' => e = .returned (.tuple #[.int .i64 m, .bool true]) ∧ Below w.heap.size w w' := by
  unfold setB at hp
  rw [Bool.and_eq_true] at hp
  have h4 := relIn_len hp.1
  have hs := fun wr => isSet_any z xs.length h4.1 h4.2 wr
  rw [hp.2] at hs
  have HS := Lib.hid hs
  have HP := Lib.hid hp.1
  have HG := Lib.hid hg
  clear hp hg hs h4
  go_enter Try.func43, Try.ntmps43
  go_wp2_with fail
  refine (relationFrom_yes _ _ _ _ HP.out hx).mono ?_
  rintro e w1 ⟨rfl, hb⟩
  have x1 := RelAt.new w1 xs
  have B1 := hb.alloc hb.size (.cells #[.int .i64 xs.length, .int .i64 (rowAt xs 0), .int .i64 (rowAt xs 1), .int .i64 (rowAt xs 2), .int .i64 (rowAt xs 3)] 47)
  have p0 := x1.cell0
  have p1 := x1.cell1
  have p2 := x1.cell2
  have p3 := x1.cell3
  have p4 := x1.cell4
  clear x1 hb
  go_wp2_with fail
  refine (HS.out _).mono ?_
  rintro e w2 ⟨rfl, rfl⟩
  go_wp2_with fail
  refine (HG.out _).mono ?_
  rintro e w3 ⟨rfl, hb3⟩
  go_wp2
  go_ret2
  exact ⟨rfl, B1.trans (hb3.mono B1.size)⟩

end Go.Proofs.Ytcdiicckngndcab
