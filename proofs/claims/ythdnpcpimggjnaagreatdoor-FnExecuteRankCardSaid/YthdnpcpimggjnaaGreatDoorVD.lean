/-
  Texts joined by one byte and parted at it again; decimal numerals of numbers below 100. No program is named.
-/
import Derived.Test.YthdnpcpimggjnaaGreatDoorRows
import Derived.Lib.SplitLaws
import Derived.Lib.Split
import Derived.Lib.IndexMore
import Derived.Lib.ItoaNum
namespace Go.Proofs.YthdnpcpimggjnaaGreatDoor
open Go.Lib

theorem len_not (p : List UInt8) : ((p.length : Int) == -1) = false := by
  simp only [beq_eq_false_iff_ne, ne_eq]
  omega
theorem idx_at (c : UInt8) (t : List UInt8) : ∀ p : List UInt8, c ∉ p → index (p ++ c :: t) [c] = p.length
  | [], _ => by simp [index]
  | b :: p, h => by
    have hb : (c == b) = false := by
      simp only [beq_eq_false_iff_ne, ne_eq]
      intro e
      exact h (by simp [e])
    have ih := idx_at c t p (fun e => h (by simp [e]))
    have hn := len_not p
    simp only [List.cons_append, index, List.isPrefixOf, hb, Bool.false_and, Bool.false_eq_true, if_false, ih, hn, List.length_cons]
    omega
theorem idx_no (c : UInt8) : ∀ p : List UInt8, c ∉ p → index p [c] = -1
  | [], _ => by simp [index]
  | b :: p, h => by
    have hb : (c == b) = false := by
      simp only [beq_eq_false_iff_ne, ne_eq]
      intro e
      exact h (by simp [e])
    have ih := idx_no c p (fun e => h (by simp [e]))
    simp [index, List.isPrefixOf, hb, ih]
theorem cut_at (c : UInt8) (p t : List UInt8) (h : c ∉ p) : cut (p ++ c :: t) [c] = (p, t, true) := by
  have hi := idx_at c t p h
  unfold cut
  rw [hi, if_pos (by omega)]
  simp
theorem cut_no (c : UInt8) (p : List UInt8) (h : c ∉ p) : cut p [c] = (p, [], false) := by
  have hi := idx_no c p h
  unfold cut
  rw [hi, if_neg (by omega)]

/-- the pieces, with the byte between -/
def joinC (c : UInt8) : List (List UInt8) → List UInt8
  | [] => []
  | [p] => p
  | p :: q :: l => p ++ c :: joinC c (q :: l)
theorem count_join (c : UInt8) : ∀ ps : List (List UInt8), (∀ p ∈ ps, c ∉ p) → (joinC c ps).count c = ps.length - 1
  | [], _ => rfl
  | [p], h => by simp [joinC, List.count_eq_zero.2 (h p (by simp))]
  | p :: q :: l, h => by
    have ih := count_join c (q :: l) (fun x hx => h x (by simp at hx ⊢; exact .inr hx))
    simp only [joinC, List.count_append, List.count_cons_self, ih, List.count_eq_zero.2 (h p (by simp)), List.length_cons]
    omega
theorem splitK_join (c : UInt8) : ∀ ps : List (List UInt8), ps ≠ [] → (∀ p ∈ ps, c ∉ p) → splitK [c] 0 (ps.length - 1) (joinC c ps) = ps
  | [], h, _ => absurd rfl h
  | [p], _, _ => rfl
  | p :: q :: l, _, h => by
    have ih := splitK_join c (q :: l) (by simp) (fun x hx => h x (by simp at hx ⊢; exact .inr hx))
    have hi := idx_at c (joinC c (q :: l)) p (h p (by simp))
    have hn := len_not p
    simp only [List.length_cons, Nat.add_sub_cancel] at ih ⊢
    simp only [joinC, splitK, hi, hn, Bool.false_eq_true, if_false]
    rw [show (p.length : Int).toNat + 0 = p.length by omega, show (p.length : Int).toNat + [c].length = p.length + 1 by simp]
    rw [List.take_left]
    rw [show p ++ c :: joinC c (q :: l) = (p ++ [c]) ++ joinC c (q :: l) by simp, show p.length + 1 = (p ++ [c]).length by simp, List.drop_left, ih]
def baOf (l : List UInt8) : ByteArray := ⟨l.toArray⟩
theorem ba_data (l : List UInt8) : (baOf l).data.toList = l := by simp [baOf]
theorem ba_of (s : ByteArray) : baOf s.data.toList = s := by simp [baOf]
/-- strings.Split at one byte -/
theorem split_join (c : UInt8) (ps : List (List UInt8)) (h0 : ps ≠ []) (h : ∀ p ∈ ps, c ∉ p) :
    splitB ⟨#[c]⟩ 0 (countB (baOf (joinC c ps)) ⟨#[c]⟩) (baOf (joinC c ps)) = ps.map baOf ∧ countB (baOf (joinC c ps)) ⟨#[c]⟩ + 1 = ps.length := by
  have e1 : countB (baOf (joinC c ps)) ⟨#[c]⟩ = ps.length - 1 := by
    show count (baOf (joinC c ps)).data.toList [c] = _
    rw [ba_data, count_one, count_join c ps h]
  have e2 := splitB_data ⟨#[c]⟩ 0 (ps.length - 1) (baOf (joinC c ps))
  rw [ba_data, show (⟨#[c]⟩ : ByteArray).data.toList = [c] from rfl, splitK_join c ps h0 h] at e2
  have hl : 0 < ps.length := List.length_pos_iff.2 h0
  refine ⟨?_, by omega⟩
  rw [e1]
  have e3 := congrArg (List.map baOf) e2
  rw [List.map_map] at e3
  have e4 : (fun x => baOf x.data.toList) = id := funext fun x => ba_of x
  simpa [Function.comp_def, ba_of] using e3

/-! numerals -/
def dig (n : Nat) : List UInt8 := if n < 10 then [(48 + n).toUInt8] else [(48 + n / 10).toUInt8, (48 + n % 10).toUInt8]
theorem dig_dec : ∀ n : Fin 100, decDigits n.val = dig n.val := by decide +kernel
theorem dig_no : ∀ n : Fin 100, (32 : UInt8) ∉ dig n.val ∧ (10 : UInt8) ∉ dig n.val := by decide +kernel
theorem dig_len : ∀ n : Fin 100, (dig n.val).length = 1 ∨ (dig n.val).length = 2 := by decide +kernel
end Go.Proofs.YthdnpcpimggjnaaGreatDoor
