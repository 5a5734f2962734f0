/-
  Contracts of the model's l3Has and l3Text, for whatever texts.
-/
import Derived.Test.YtglhbejdnfafgabDB
namespace Go.Proofs.Ytglhbejdnfafgab
open Go.RowKit

/-- a byte of a text -/
def byt (st : ByteArray) (i : Nat) : Nat := if h : i < st.size then st[i].toNat else 0
theorem byt_at (st : ByteArray) (i : Nat) (h : i < st.size) : st[i].toNat = byt st i := by unfold byt; rw [dif_pos h]
/-- whether one of the first k bytes of a text is this one -/
def hasTo (st : ByteArray) (c k : Nat) : Bool := (List.range k).any fun i => decide (byt st i = c)
theorem hasTo_succ (st : ByteArray) (c k : Nat) : hasTo st c (k + 1) = (hasTo st c k || decide (byt st k = c)) := by
  unfold hasTo
  rw [List.range_succ, List.any_append]
  simp
theorem hasTo_yes (st : ByteArray) (c k n : Nat) (hk : k < n) (h : byt st k = c) : hasTo st c n = true := by
  unfold hasTo
  rw [List.any_eq_true]
  exact ⟨k, List.mem_range.2 hk, decide_eq_true h⟩

/-- a letter of a text at a place: one of the letters, and none of those ahead of it -/
def letB (st lt : ByteArray) (i : Nat) : Bool := hasTo lt (byt st i) lt.size && !hasTo st (byt st i) i
/-- the first k letters are in order -/
def textTo (st lt : ByteArray) (k : Nat) : Bool := (List.range k).all (letB st lt)
theorem textTo_succ (st lt : ByteArray) (k : Nat) : textTo st lt (k + 1) = (textTo st lt k && letB st lt k) := by
  unfold textTo
  rw [List.range_succ, List.all_append]
  simp
theorem textTo_no (st lt : ByteArray) (k n : Nat) (hk : k < n) (h : letB st lt k = false) : textTo st lt n = false := by
  unfold textTo
  rw [List.all_eq_false]
  exact ⟨k, List.mem_range.2 hk, by rw [h]; simp⟩

end Go.Proofs.Ytglhbejdnfafgab
