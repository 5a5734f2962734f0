/-
  The draw's reader: pick, of, open; for codes of at most 2000 bytes.
-/
import Derived.Test.YtglhbejdnfafgabX
import Derived.Laws.Bits64
namespace Go.Proofs.Ytglhbejdnfafgab
open Go.RowKit

/-- the slice at this address reads as these bytes -/
def RdB (w : World) (ao : Option Addr) (bs : List Nat) : Prop :=
  ∀ (k x : Nat), bs[k]? = some x → x < 256 ∧ ∃ b off, ao = some ⟨b, off, none⟩ ∧ b < w.heap.size ∧ w.cell? ⟨b, off + k, none⟩ = some (.int .u8 x)

theorem xorI (X Y : Nat) (hX : X < 4294967296) (hY : Y < 4294967296) : ∃ Z : Nat, bits .xor .i64 (X : Int) (Y : Int) = (Z : Int) ∧ Z < 4294967296 := by
  have hx : X ^^^ Y < 2 ^ 32 := Nat.xor_lt_two_pow (by omega) (by omega)
  have h1 : (BitVec.ofInt 64 (X : Int)).toNat = X := by
    rw [BitVec.ofInt_natCast, BitVec.toNat_ofNat]; exact Nat.mod_eq_of_lt (by omega)
  have h2 : (BitVec.ofInt 64 (Y : Int)).toNat = Y := by
    rw [BitVec.ofInt_natCast, BitVec.toNat_ofNat]; exact Nat.mod_eq_of_lt (by omega)
  refine ⟨X ^^^ Y, ?_, by omega⟩
  show IntKind.i64.wrap ((BitVec.ofInt 64 (X : Int) ^^^ BitVec.ofInt 64 (Y : Int)).toNat : Int) = _
  rw [BitVec.toNat_xor, h1, h2]
  simp only [IntKind.wrap, IntKind.bits, IntKind.signed]
  obtain ⟨q, hq⟩ : ∃ q, X ^^^ Y = q := ⟨_, rfl⟩
  rw [hq] at hx ⊢
  simp only [Bool.true_and]
  rw [if_neg (by intro hh; have := of_decide_eq_true hh; omega)]
  omega

theorem RdB.take {w : World} {ao : Option Addr} {bs : List Nat} (h : RdB w ao bs) (n : Nat) : RdB w ao (bs.take n) := by
  intro k x hk
  rw [List.getElem?_take] at hk
  split at hk
  · exact h k x hk
  · cases hk
theorem RdB.below {w w' : World} {ao : Option Addr} {bs : List Nat} (h : RdB w ao bs) (hb : Below w.heap.size w w') : RdB w' ao bs := by
  intro k x hx
  obtain ⟨h0, b, off, h1, h2, h3⟩ := h k x hx
  exact ⟨h0, b, off, h1, Nat.lt_of_lt_of_le h2 hb.size, (hb.cell (p := ⟨b, off + k, none⟩) h2).trans h3⟩

end Go.Proofs.Ytglhbejdnfafgab
