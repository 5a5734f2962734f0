/-
  The draw of a preorder.
-/
import Derived.Test.YtchbbflpckaddaaDF
import Derived.Test.YtchbbflpckaddaaOVP
import Derived.Test.YtchbbflpckaddaaOC
namespace Go.Proofs.Ytchbbflpckaddaa
open Go.RowKit

set_option maxHeartbeats 4000000 in
theorem drawOrderClasses_any (ao : Option Addr) (c : Nat) (bs : List Nat) (w : World) (hbl : bs.length ≤ 1048576) (hb : RdB w ao bs) (hc : bs.length ≤ c) (hbA : bs ≠ [] → ∀ a, ao = some a → a.block < w.heap.size) :
    Calls Try.prog 38 #[.slice ao bs.length c] w (Drew w) := by
  have HD := Lib.hid (l91Some_any ao c bs w hb hc hbA)
  clear hb hbA
  go_enter Try.func38, Try.ntmps38
  go_wp2_with fail
  refine HD.out.mono ?_
  rintro e w1 ⟨v, a, rfl, hal, ho1, B1⟩
  obtain ⟨aa, ac, rfl, ra⟩ := row_rd ho1
  have H2 := Lib.hid (kindLeast_any aa ac a rtT w1 (by omega) (by decide) ra)
  have HO := Lib.hid (And.intro ho1 B1)
  have HA := Lib.hid hal
  clear ho1 B1 HD hal ra
  go_wp2_with fail
  refine H2.out.mono ?_
  rintro e w2 ⟨x, rfl, ho2, B2⟩
  have HO2 := Lib.hid (And.intro ho2 B2)
  clear ho2 B2
  have hs := HO.out.2.size
  have BB := Lib.hid (HO.out.2.trans (HO2.out.2.mono hs))
  have HM := Lib.hid ((OwnR.made (xs := a) HO.out.1).below HO2.out.2 (Nat.le_refl _)).row
  cases hp : leastB a rtT with
  | false =>
    rw [hp] at HO2
    go_wp2
    go_ret
    exact ⟨_, a, rfl, HA.out, HM.out, BB.out⟩
  | true =>
    rw [hp] at HO2
    by_cases hpar : bs.length % 6 = 0
    · have hp0 : decide ((bs.length : Int).tmod 6 > 0) = false := by
        rw [Int.tmod_eq_emod_of_nonneg (by omega)]
        exact decide_eq_false (by omega)
      go_wp2
      go_ret
      exact ⟨_, a, rfl, HA.out, HM.out, BB.out⟩
    · have hp0 : decide ((bs.length : Int).tmod 6 > 0) = true := by
        rw [Int.tmod_eq_emod_of_nonneg (by omega)]
        exact decide_eq_true (by omega)
      go_wp2
      go_ret
      exact ⟨_, _, rfl, by rw [show ifR true (leastL a rtT) = leastL a rtT from rfl, leastL_len]; exact HA.out, own_mono HO2.out.1 hs, BB.out⟩
def preF (xs : List Int) : Bool := ordB (quoL xs (twoW xs))
theorem preF_all : ∀ xs ∈ pres, preF xs = true := by decide +kernel
theorem preO {a : List Int} (h : preB a = true) : ordB (quoL a (twoW a)) = true := preF_all a (pre_enum h)
theorem pQuo {a : List Int} (h : preB a = true) (ao bo : Option Addr) (ca cb : Nat) (w : World) (hx : Rd w ao a) (hy : Rd w bo (twoW a)) :
    Calls Try.prog 41 #[.slice ao a.length ca, .slice bo (twoW a).length cb] w (Gave w (quoL a (twoW a)) true) := by
  have R := Rl.of (pre_in h)
  have E := pre_eqv h
  have h4 := R.four
  have hl : (twoW a).length = a.length := E.rl.len
  have := implEquQuotient_any ao bo ca cb a (twoW a) w (by omega) (by omega) hx hy
  rw [show quoOK a (twoW a) = true by
    unfold quoOK twoIn
    rw [(equ_iff (twoW a)).2 (by rw [hl]; exact E), R.ok, E.rl.ok, hl]
    simp] at this
  exact this
theorem pEquIn {a : List Int} (h : preB a = true) (ao : Option Addr) (ca : Nat) (w : World) (hx : Rd w ao (twoW a)) :
    Calls Try.prog 42 #[.slice ao (twoW a).length ca] w fun e w' => e = .returned (.bool true) ∧ Below w.heap.size w w' := by
  have E := pre_eqv h
  have hl : (twoW a).length = a.length := E.rl.len
  have h4 := E.rl.four
  have := implEquIn_any ao ca (twoW a) w (by omega) hx
  rw [(equ_iff (twoW a)).2 (by rw [hl]; exact E)] at this
  exact this
theorem pOrderIn {a : List Int} (h : preB a = true) (ao : Option Addr) (ca : Nat) (w : World) (hx : Rd w ao (quoL a (twoW a))) :
    Calls Try.prog 12 #[.slice ao (quoL a (twoW a)).length ca] w fun e w' => e = .returned (.bool true) ∧ Below w.heap.size w w' := by
  have R : Rl _ (quoL a (twoW a)) := Rl.of (by have := preO h; unfold ordB at this; rw [Bool.and_eq_true] at this; exact this.1)
  have := implOrderIn_any ao ca (quoL a (twoW a)) w (by have := R.len; have := R.four; omega) hx
  rw [preO h] at this
  exact this
theorem oShortP {a : List Int} (h : ordB a = true) : a.length ≤ 1048576 := by
  have R : Rl _ a := Rl.of (by unfold ordB at h; rw [Bool.and_eq_true] at h; exact h.1)
  have := R.four
  omega
end Go.Proofs.Ytchbbflpckaddaa
