/-
  Draws of a program and a set: l92While, and the draws made of l91Set and l92While; for whatever bytes.
-/
import Derived.Test.YtcdiicckngndcabRD
namespace Go.Proofs.Ytcdiicckngndcab
open Go.RowKit

/-- what a draw gives: a number, and a list of its own of at most 4 numbers -/
def DrewJ (w : World) (e : Ending) (w' : World) : Prop :=
  ∃ (v : Value) (rs : List Int) (z : Int), e = .returned (.tuple #[.int .i64 z, v]) ∧ rs.length ≤ 4 ∧ w'.ownsRow w.heap.size 3 1 v rs.length (rs.map (Value.int .i64)) ∧ Below w.heap.size w w'

theorem l92While_any (ao : Option Addr) (c : Nat) (bs : List Nat) (w : World) (hb : RdB w ao bs) (hc : bs.length ≤ c) (hbA : bs ≠ [] → ∀ a, ao = some a → a.block < w.heap.size) :
    Calls Try.prog 72 #[.slice ao bs.length c] w (DrewJ w) := by
  have HD := Lib.hid (l91Set_any ao c bs w hb hc hbA)
  clear hb hbA
  go_enter Try.func72, Try.ntmps72
  go_wp2_with fail
  refine HD.out.mono ?_
  rintro e w3 ⟨v, rs, z, rfl, hrest⟩
  have HR := Lib.hid hrest
  clear hrest HD
  go_wp2
  go_ret2
  exact ⟨v, rs, z, rfl, HR.out⟩
theorem drawProgWhile_any (ao : Option Addr) (c : Nat) (bs : List Nat) (w : World) (hb : RdB w ao bs) (hc : bs.length ≤ c) (hbA : bs ≠ [] → ∀ a, ao = some a → a.block < w.heap.size) :
    Calls Try.prog 31 #[.slice ao bs.length c] w (DrewJ w) := by
  have HD := Lib.hid (l92While_any ao c bs w hb hc hbA)
  clear hb hbA
  go_enter Try.func31, Try.ntmps31
  go_wp2_with fail
  refine HD.out.mono ?_
  rintro e w3 ⟨v, rs, z, rfl, hrest⟩
  have HR := Lib.hid hrest
  clear hrest HD
  go_wp2
  go_ret2
  exact ⟨v, rs, z, rfl, HR.out⟩
theorem drawProgAfter_any (ao : Option Addr) (c : Nat) (bs : List Nat) (w : World) (hb : RdB w ao bs) (hc : bs.length ≤ c) (hbA : bs ≠ [] → ∀ a, ao = some a → a.block < w.heap.size) :
    Calls Try.prog 12 #[.slice ao bs.length c] w (DrewI w) := by
  have HD := Lib.hid (l91Set_any ao c bs w hb hc hbA)
  clear hb hbA
  go_enter Try.func12, Try.ntmps12
  go_wp2_with fail
  refine HD.out.mono ?_
  rintro e w3 ⟨v, rs, z, rfl, hrest⟩
  have HR := Lib.hid hrest
  clear hrest HD
  go_wp2
  go_ret2
  exact ⟨v, rs, z, rfl, HR.out⟩
theorem drawProgBefore_any (ao : Option Addr) (c : Nat) (bs : List Nat) (w : World) (hb : RdB w ao bs) (hc : bs.length ≤ c) (hbA : bs ≠ [] → ∀ a, ao = some a → a.block < w.heap.size) :
    Calls Try.prog 18 #[.slice ao bs.length c] w (DrewI w) := by
  have HD := Lib.hid (l91Set_any ao c bs w hb hc hbA)
  clear hb hbA
  go_enter Try.func18, Try.ntmps18
  go_wp2_with fail
  refine HD.out.mono ?_
  rintro e w3 ⟨v, rs, z, rfl, hrest⟩
  have HR := Lib.hid hrest
  clear hrest HD
  go_wp2
  go_ret2
  exact ⟨v, rs, z, rfl, HR.out⟩
theorem drawProgSurely_any (ao : Option Addr) (c : Nat) (bs : List Nat) (w : World) (hb : RdB w ao bs) (hc : bs.length ≤ c) (hbA : bs ≠ [] → ∀ a, ao = some a → a.block < w.heap.size) :
    Calls Try.prog 21 #[.slice ao bs.length c] w (DrewI w) := by
  have HD := Lib.hid (l91Set_any ao c bs w hb hc hbA)
  clear hb hbA
  go_enter Try.func21, Try.ntmps21
  go_wp2_with fail
  refine HD.out.mono ?_
  rintro e w3 ⟨v, rs, z, rfl, hrest⟩
  have HR := Lib.hid hrest
  clear hrest HD
  go_wp2
  go_ret2
  exact ⟨v, rs, z, rfl, HR.out⟩
theorem drawProgKept_any (ao : Option Addr) (c : Nat) (bs : List Nat) (w : World) (hb : RdB w ao bs) (hc : bs.length ≤ c) (hbA : bs ≠ [] → ∀ a, ao = some a → a.block < w.heap.size) :
    Calls Try.prog 37 #[.slice ao bs.length c] w (DrewI w) := by
  have HD := Lib.hid (l91Set_any ao c bs w hb hc hbA)
  clear hb hbA
  go_enter Try.func37, Try.ntmps37
  go_wp2_with fail
  refine HD.out.mono ?_
  rintro e w3 ⟨v, rs, z, rfl, hrest⟩
  have HR := Lib.hid hrest
  clear hrest HD
  go_wp2
  go_ret2
  exact ⟨v, rs, z, rfl, HR.out⟩
theorem drawProgLargest_any (ao : Option Addr) (c : Nat) (bs : List Nat) (w : World) (hb : RdB w ao bs) (hc : bs.length ≤ c) (hbA : bs ≠ [] → ∀ a, ao = some a → a.block < w.heap.size) :
    Calls Try.prog 40 #[.slice ao bs.length c] w (DrewI w) := by
  have HD := Lib.hid (l91Set_any ao c bs w hb hc hbA)
  clear hb hbA
  go_enter Try.func40, Try.ntmps40
  go_wp2_with fail
  refine HD.out.mono ?_
  rintro e w3 ⟨v, rs, z, rfl, hrest⟩
  have HR := Lib.hid hrest
  clear hrest HD
  go_wp2
  go_ret2
  exact ⟨v, rs, z, rfl, HR.out⟩
end Go.Proofs.Ytcdiicckngndcab
