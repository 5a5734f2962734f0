/-
  The draw of one relation: l91Some, DrawRelEnds.
-/
import Derived.Test.YtgmjdkhegbdbjaaDE
namespace Go.Proofs.Ytgmjdkhegbdbjaa
open Go.RowKit

/-- what a draw gives: a list of its own, of at most 4 numbers -/
def Drew (w : World) (e : Ending) (w' : World) : Prop :=
  ∃ (v : Value) (rs : List Int), e = .returned v ∧ rs.length ≤ 4 ∧ w'.ownsRow w.heap.size 3 1 v rs.length (rs.map (Value.int .i64)) ∧ Below w.heap.size w w'

theorem l91Some_any (ao : Option Addr) (c : Nat) (bs : List Nat) (w : World) (hb : RdB w ao bs) (hc : bs.length ≤ c) (hbA : bs ≠ [] → ∀ a, ao = some a → a.block < w.heap.size) :
    Calls Try.prog 47 #[.slice ao bs.length c] w (Drew w) := by
  have HB := Lib.hid (And.intro hb hbA)
  clear hb hbA
  go_enter Try.func47, Try.ntmps47
  go_wp2_with fail
  refine (open_any ao c bs w hc).mono ?_
  rintro e w1 ⟨bs', hbs, rfl, hr, hB⟩
  have hl : bs'.length ≤ 2000 := by rw [hbs, List.length_take]; omega
  have hA : bs' ≠ [] → ∀ a, ao = some a → a.block < w.heap.size := fun h => HB.out.2 (fun e => h (by rw [hbs, e]; rfl))
  have HA := Lib.hid hA
  clear hA
  have hb1 : RdB w1 ao bs' := by rw [hbs]; exact (HB.out.1.take 2000).below hB
  have S : DrS w1 w1 w.heap.size ao bs' c 0 := ⟨hr, Below.refl _ _, Nat.le_refl _, fun _ _ _ => rfl⟩
  have HC := Lib.hid (pick_step S hb1 HA.out hl (by omega) 4 4 rfl (by omega) (by omega))
  clear hr hbs
  go_wp2_with fail
  refine HC.out.mono ?_
  rintro e w2 ⟨k, hk, rfl, S2, hss, _, _⟩
  have S3 : DrS w2 w2 w.heap.size ao bs' c 1 := ⟨S2.rd, Below.refl _ _, Nat.le_refl _, fun _ _ _ => rfl⟩
  have hb2 := hb1.keep HA.out S2.bl S2.sz
  have HD := Lib.hid (l91Rel_any S3 hb2 HA.out hl (by omega) (1 + k) (1 + (k : Int)) (by omega) (by omega) (by omega))
  have hB2 : Below w.heap.size w w2 := hB.trans S2.bl
  have hsz2 := hB2.size
  have HS := Lib.hid hB2
  clear HC S S2 S3 hb1 hb2 hB hB2 hss
  go_wp2_with fail
  refine HD.out.mono ?_
  rintro e w3 ⟨v, rs, q, rfl, hrl, ho, _, S4⟩
  have HR := Lib.hid (And.intro hrl (And.intro ho S4))
  clear hrl ho S4 HD
  go_wp2
  go_ret
  exact ⟨v, rs, rfl, by have := HR.out.1; omega, by rw [HR.out.1]; exact own_mono HR.out.2.1 hsz2, HS.out.trans HR.out.2.2.bl⟩

end Go.Proofs.Ytgmjdkhegbdbjaa
