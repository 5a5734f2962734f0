/-
  Contracts of the model's l1Two, RelEither, RelBoth, l1Other, RelOther, l1Below, RelBelow; for lists of at most 2^20 numbers.
-/
import Derived.Test.YtcdiicckngndcabG
namespace Go.Proofs.Ytcdiicckngndcab
open Go.RowKit

/-- two relations on as many points -/
def twoIn (xs ys : List Int) : Bool := relIn xs && relIn ys && decide (xs.length = ys.length)
def eitherL (xs ys : List Int) : List Int := zipI (bits .or .i64) xs ys
def bothL (xs ys : List Int) : List Int := zipI (bits .and .i64) xs ys

theorem twoIn_yes {xs ys : List Int} (h : twoIn xs ys = true) : relIn xs = true ∧ relIn ys = true ∧ xs.length = ys.length := by
  unfold twoIn at h
  rw [Bool.and_eq_true, Bool.and_eq_true] at h
  exact ⟨h.1.1, h.1.2, of_decide_eq_true h.2⟩

theorem l1Two_any (ao bo : Option Addr) (ca cb : Nat) (xs ys : List Int) (w : World) (hl : xs.length ≤ 1048576) (hl2 : ys.length ≤ 1048576) (hx : Rd w ao xs) (hy : Rd w bo ys) :
    Calls Try.prog 68 #[.slice ao xs.length ca, .slice bo ys.length cb] w fun e w' => e = .returned (.bool (twoIn xs ys)) ∧ Dn w w' := by
  have h1 := specRelIn_any ao ca xs w hl hx
  cases hp : relIn xs with
  | false =>
    rw [hp] at h1
    have H1 := Lib.hid h1
    have HP := Lib.hid hp
    clear h1 hp
    go_enter Try.func68, Try.ntmps68
    go_wp2_with (go_at_call 61; refine H1.out.mono ?_; rintro e w1 ⟨rfl, hd⟩)
    go_ret
    exact ⟨by simp [twoIn, HP.out], hd⟩
  | true =>
    rw [hp] at h1
    have H1 := Lib.hid h1
    have HP := Lib.hid hp
    clear h1 hp
    cases hq : relIn ys with
    | false =>
      have HQ := Lib.hid hq
      clear hq
      go_enter Try.func68, Try.ntmps68
      go_wp2_with fail
      refine H1.out.mono ?_
      rintro e w1 ⟨rfl, hd⟩
      go_wp2_with fail
      refine (specRelIn_any bo cb ys w1 hl2 (hd.rd hy)).mono ?_
      rw [HQ.out]
      rintro e w2 ⟨rfl, hd2⟩
      go_wp2
      go_ret
      exact ⟨by simp [twoIn, HQ.out], hd.trans hd2⟩
    | true =>
      have HQ := Lib.hid hq
      clear hq
      by_cases hn : xs.length = ys.length
      · have e1 : ((xs.length : Int) == (ys.length : Int)) = true := by simp [hn]
        have HN := Lib.hid hn
        clear hn
        go_enter Try.func68, Try.ntmps68
        go_wp2_with fail
        refine H1.out.mono ?_
        rintro e w1 ⟨rfl, hd⟩
        go_wp2_with fail
        refine (specRelIn_any bo cb ys w1 hl2 (hd.rd hy)).mono ?_
        rw [HQ.out]
        rintro e w2 ⟨rfl, hd2⟩
        go_wp2
        go_ret
        exact ⟨by simp [twoIn, HQ.out, HP.out, HN.out], hd.trans hd2⟩
      · have e1 : ((xs.length : Int) == (ys.length : Int)) = false := by simp; omega
        go_enter Try.func68, Try.ntmps68
        go_wp2_with fail
        refine H1.out.mono ?_
        rintro e w1 ⟨rfl, hd⟩
        go_wp2_with fail
        refine (specRelIn_any bo cb ys w1 hl2 (hd.rd hy)).mono ?_
        rw [HQ.out]
        rintro e w2 ⟨rfl, hd2⟩
        go_wp2
        go_ret
        exact ⟨by simp [twoIn, hn], hd.trans hd2⟩

/-- a list, or none -/
def ifR (b : Bool) (r : List Int) : List Int := if b then r else []

/-- what a call gives that answers a list of its own and a bool -/
def Gave (w : World) (r : List Int) (ok : Bool) (e : Ending) (w' : World) : Prop :=
  ∃ v, e = .returned (.tuple #[v, .bool ok]) ∧ w'.ownsRow w.heap.size 3 1 v r.length (r.map (Value.int .i64)) ∧ Below w.heap.size w w'

/-- all points but those of a row -/
def otherL (xs : List Int) : List Int := xs.map fun x => bits .andNot .i64 (2 ^ xs.length - 1) x

theorem other_take (xs : List Int) (k : Nat) (x : Int) (h : xs[k]? = some x) : (otherL xs).take (k + 1) = (otherL xs).take k ++ [bits .andNot .i64 (2 ^ xs.length - 1) x] := by
  have h2 : (otherL xs)[k]? = some (bits .andNot .i64 (2 ^ xs.length - 1) x) := by unfold otherL; rw [List.getElem?_map, h]; rfl
  rw [List.take_add_one, h2]
  rfl

theorem wrap_top (n : Nat) (h1 : 1 ≤ n) (h2 : n ≤ 4) : IntKind.i64.wrap (IntKind.i64.wrap (2 ^ n) - 1) = 2 ^ n - 1 := by
  rcases (by omega : n = 1 ∨ n = 2 ∨ n = 3 ∨ n = 4) with rfl | rfl | rfl | rfl <;> decide +kernel

end Go.Proofs.Ytcdiicckngndcab
