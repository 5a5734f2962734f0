/-
  Contracts of the program's madeOfOne, twoRelationsFrom, madeOfTwo, RelOther, RelEither and RelBoth; for lists of at most 2^20 numbers.
-/
import Derived.Test.YtcdiicckngndcabJ
namespace Go.Proofs.Ytcdiicckngndcab
open Go.RowKit

theorem own_mono {w : World} {B B' : Nat} {e : TypeId} {size : Nat} {v : Value} {n : Nat} {xs : List Value} (h : w.ownsRow B e size v n xs) (hB : B' ≤ B) : w.ownsRow B' e size v n xs := by
  refine ⟨h.1, ?_⟩
  rcases h.2 with h2 | ⟨g, cap, cur, h1, h2, h3⟩
  · exact .inl h2
  · exact .inr ⟨g, cap, cur, h1, Nat.le_trans hB h2, h3⟩

theorem madeOfOne_no (f : Value) (ao : Option Addr) (ca : Nat) (xs : List Int) (w : World) (hl : xs.length ≤ 1048576) (hx : Rd w ao xs) (hp : relIn xs = false) :
    Calls Try.prog 49 #[.slice ao xs.length ca, f] w (Gave w [] false) := by
  have HP := Lib.hid hp
  clear hp
  go_enter Try.func49, Try.ntmps49
  go_wp2_with (go_at_call 53; refine (relationFrom_no _ _ _ _ hl HP.out hx).mono ?_; rintro e w1 ⟨rfl, hb⟩)
  go_ret2
  exact ⟨.slice none 0 0, rfl, World.ownsRow_nil _ _ _ _, hb.alloc hb.size _⟩

theorem madeOfOne_yes (g : FuncId) (hcf : ∀ args w, Sem.run Try.prog (callFunc g args) w = .ok (.enter g args) w) (m : List Int → List Int) (ao : Option Addr) (ca : Nat) (xs : List Int) (w : World) (hx : Rd w ao xs) (hp : relIn xs = true) (hm : (m xs).length = xs.length)
    (hg : ∀ w, Calls Try.prog g #[relOf xs] w fun e w' => e = .returned (relOf (m xs)) ∧ Below w.heap.size w w') :
    Calls Try.prog 49 #[.slice ao xs.length ca, .func (.func g) #[] #[]] w (Gave w (m xs) true) := by
  have h4 := (relIn_len hp).2
  have HP := Lib.hid hp
  have HM := Lib.hid hm
  have HG := Lib.hid hg
  clear hp hm hg
  go_enter Try.func49, Try.ntmps49
  go_wp2_with fail
  refine (relationFrom_yes _ _ _ _ HP.out hx).mono ?_
  rintro e w1 ⟨rfl, hb⟩
  go_wp2_with fail
  refine (HG.out _).mono ?_
  rintro e w2 ⟨rfl, hb2⟩
  go_wp2_with fail
  refine (list_any (m xs) w2 (by rw [HM.out]; exact h4)).mono ?_
  rintro e w3 ⟨v, rfl, ho, hb3⟩
  go_wp2
  go_ret2
  have h12 : Below w.heap.size w w2 := (hb.alloc hb.size _).trans (hb2.mono (by have := hb.size; simp; omega))
  exact ⟨v, rfl, own_mono ho h12.size, h12.trans (hb3.mono h12.size)⟩

end Go.Proofs.Ytcdiicckngndcab
