/-
  The ends of a relation's pairs: contracts of the model's l1Image and RelEnds; for lists of at most 2^20 numbers.
-/
import Derived.Test.YtcdiicckngndcabW
namespace Go.Proofs.Ytcdiicckngndcab
open Go.RowKit

def endsS (n : Nat) (pre : List (Fin n × Fin n)) : Int := pre.foldl (fun s p => bits .or .i64 s (pt p.1.val)) 0
def endsT (n : Nat) (pre : List (Fin n × Fin n)) : Int := pre.foldl (fun s p => bits .or .i64 s (pt p.2.val)) 0
theorem endsS_snoc (n : Nat) (pre : List (Fin n × Fin n)) (p : Fin n × Fin n) : endsS n (pre ++ [p]) = bits .or .i64 (endsS n pre) (pt p.1.val) := by unfold endsS; rw [List.foldl_append]; rfl
theorem endsT_snoc (n : Nat) (pre : List (Fin n × Fin n)) (p : Fin n × Fin n) : endsT n (pre ++ [p]) = bits .or .i64 (endsT n pre) (pt p.2.val) := by unfold endsT; rw [List.foldl_append]; rfl
theorem fold16 {n : Nat} (h4 : n ≤ 4) (f : Fin n × Fin n → Fin n) (l : List (Fin n × Fin n)) : ∀ s : Fin 16, ∃ z : Fin 16, l.foldl (fun s p => bits .or .i64 s (pt (f p).val)) (s.val : Int) = (z.val : Int) := by
  induction l with
  | nil => intro s; exact ⟨s, rfl⟩
  | cons p r ih =>
    intro s
    rw [List.foldl_cons]
    obtain ⟨y, hy⟩ := or16 s ⟨(f p).val, by have := (f p).isLt; omega⟩
    rw [hy]
    exact ih y
theorem endsS16 (n : Nat) (h4 : n ≤ 4) (pre : List (Fin n × Fin n)) : ∃ z : Fin 16, endsS n pre = (z.val : Int) := fold16 h4 (fun p => p.1) pre 0
theorem endsT16 (n : Nat) (h4 : n ≤ 4) (pre : List (Fin n × Fin n)) : ∃ z : Fin 16, endsT n pre = (z.val : Int) := fold16 h4 (fun p => p.2) pre 0

theorem allP_row : ∀ n : Fin 5, ∀ i : Fin n.val, (allP n.val).take ((i.val + 1) * n.val) = (allP n.val).take (i.val * n.val) ++ (List.finRange n.val).map (fun j => (i, j)) := by decide +kernel
/-- the pairs of one row -/
def rowP (n : Nat) (i : Fin n) (y : Int) : List (Fin n × Fin n) := ((List.finRange n).map (fun j => (i, j))).filter fun p => hasB y p.2.val
theorem pairsTo_row (n : Nat) (h4 : n ≤ 4) (xs : List Int) (i : Fin n) : pairsTo n xs ((i.val + 1) * n) = pairsTo n xs (i.val * n) ++ rowP n i (rowAt xs i.val) := by
  have h := allP_row ⟨n, by omega⟩ i
  unfold pairsTo rowP
  rw [h, List.filter_append]
  congr 1
  apply List.filter_congr
  intro p hp
  rw [List.mem_map] at hp
  obtain ⟨j, _, rfl⟩ := hp
  rfl

theorem rowS : ∀ n : Fin 5, ∀ i : Fin n.val, ∀ y s : Fin 16, y.val < 2 ^ n.val → (rowP n.val i (y.val : Int)).foldl (fun s p => bits .or .i64 s (pt p.1.val)) (s.val : Int) = if (y.val : Int) = 0 then (s.val : Int) else bits .or .i64 (s.val : Int) (pt i.val) := by decide +kernel
theorem rowT : ∀ n : Fin 5, ∀ i : Fin n.val, ∀ y s : Fin 16, y.val < 2 ^ n.val → (rowP n.val i (y.val : Int)).foldl (fun s p => bits .or .i64 s (pt p.2.val)) (s.val : Int) = bits .or .i64 (s.val : Int) (y.val : Int) := by decide +kernel

theorem row_lt {xs : List Int} (h : relIn xs = true) {k : Nat} {y : Fin 16} (hk : k < xs.length) (hy : rowAt xs k = (y.val : Int)) : y.val < 2 ^ xs.length := by
  have hr := relIn_row h (rowAt_get hk)
  rw [hy] at hr
  unfold rowIn at hr
  rw [Bool.and_eq_true] at hr
  have h1 := of_decide_eq_true hr.2
  have h2 : ((2 ^ xs.length : Nat) : Int) = (2 : Int) ^ xs.length := by simp
  omega

theorem endsS_row {xs : List Int} (h : relIn xs = true) (i : Nat) (hi : i < xs.length) :
    endsS xs.length (pairsTo xs.length xs ((i + 1) * xs.length)) = if rowAt xs i = 0 then endsS xs.length (pairsTo xs.length xs (i * xs.length)) else bits .or .i64 (endsS xs.length (pairsTo xs.length xs (i * xs.length))) (pt i) := by
  have h4 := (relIn_len h).2
  obtain ⟨y, hy⟩ := row16 h i
  obtain ⟨s, hs⟩ := endsS16 xs.length h4 (pairsTo xs.length xs (i * xs.length))
  have hrow := pairsTo_row xs.length h4 xs ⟨i, hi⟩
  have e0 : endsS xs.length (pairsTo xs.length xs ((i + 1) * xs.length)) = (rowP xs.length ⟨i, hi⟩ (rowAt xs i)).foldl (fun s p => bits .or .i64 s (pt p.1.val)) (endsS xs.length (pairsTo xs.length xs (i * xs.length))) := by
    refine (congrArg (endsS xs.length) hrow).trans ?_
    unfold endsS
    rw [List.foldl_append]
  have e2 := rowS ⟨xs.length, by omega⟩ ⟨i, hi⟩ y s (row_lt h hi hy)
  rw [e0, hs, hy]
  exact e2
theorem endsT_row {xs : List Int} (h : relIn xs = true) (i : Nat) (hi : i < xs.length) :
    endsT xs.length (pairsTo xs.length xs ((i + 1) * xs.length)) = bits .or .i64 (endsT xs.length (pairsTo xs.length xs (i * xs.length))) (rowAt xs i) := by
  have h4 := (relIn_len h).2
  obtain ⟨y, hy⟩ := row16 h i
  obtain ⟨s, hs⟩ := endsT16 xs.length h4 (pairsTo xs.length xs (i * xs.length))
  have hrow := pairsTo_row xs.length h4 xs ⟨i, hi⟩
  have e0 : endsT xs.length (pairsTo xs.length xs ((i + 1) * xs.length)) = (rowP xs.length ⟨i, hi⟩ (rowAt xs i)).foldl (fun s p => bits .or .i64 s (pt p.2.val)) (endsT xs.length (pairsTo xs.length xs (i * xs.length))) := by
    refine (congrArg (endsT xs.length) hrow).trans ?_
    unfold endsT
    rw [List.foldl_append]
  have e2 := rowT ⟨xs.length, by omega⟩ ⟨i, hi⟩ y s (row_lt h hi hy)
  rw [e0, hs, hy]
  exact e2

/-- whether a set has a point, as the model asks it -/
def bitB (set : Int) (i : Nat) : Bool := bits .and .i64 (set / 2 ^ i) 1 == 1
/-- the rows of a set's points, joined -/
def imgTo (xs : List Int) (set : Int) (k : Nat) : Int := (List.range k).foldl (fun o i => if bitB set i then bits .or .i64 o (rowAt xs i) else o) 0
theorem imgTo_succ (xs : List Int) (set : Int) (k : Nat) : imgTo xs set (k + 1) = if bitB set k then bits .or .i64 (imgTo xs set k) (rowAt xs k) else imgTo xs set k := by
  unfold imgTo
  rw [List.range_succ, List.foldl_append]
  rfl
theorem full_has : ∀ n : Fin 5, ∀ i : Fin n.val, bitB (2 ^ n.val - 1) i.val = true := by decide +kernel
theorem img_full {xs : List Int} (h : relIn xs = true) (k : Nat) (hk : k ≤ xs.length) : imgTo xs (2 ^ xs.length - 1) k = endsT xs.length (pairsTo xs.length xs (k * xs.length)) := by
  have h4 := (relIn_len h).2
  induction k with
  | zero => simp [imgTo, endsT, pairsTo]
  | succ k ih =>
    rw [imgTo_succ, full_has ⟨xs.length, by omega⟩ ⟨k, (by omega : k < xs.length)⟩, if_pos rfl, ih (by omega), endsT_row h k (by omega)]

set_option maxHeartbeats 2000000 in
theorem l1Image_any (ao : Option Addr) (ca : Nat) (xs : List Int) (set : Nat) (w : World) (_hs : set < 16) (h4 : xs.length ≤ 4) (hx : Rd w ao xs) :
    Calls Try.prog 48 #[.slice ao xs.length ca, .int .i64 set] w fun e w' => e = .returned (.int .i64 (imgTo xs set xs.length)) ∧ Dn w w' := by
  go_enter Try.func48, Try.ntmps48
  go_wp2
  go_loopw [5, 6] (fun o i wr => ∃ k : Nat, k ≤ xs.length ∧ i = .int .i64 k ∧ o = .int .i64 (imgTo xs set k) ∧ Dn w wr)
    (fun _ i _ => xs.length - (intOf i).toNat)
  case atStart => exact ⟨0, Nat.zero_le _, rfl, rfl, Dn.refl _⟩
  case round =>
    obtain ⟨k, hk, rfl, rfl, hd⟩ := hrel
    by_cases hlt : k < xs.length
    · obtain ⟨b, off, x, hxk, rfl, hbl, hc1⟩ := (hd.rd hx).get k hlt
      have hxy : x = rowAt xs k := by
        have := rowAt_get hlt
        rw [hxk] at this
        simpa using this
      rw [hxy] at hc1
      have hi1 : ((k : Nat) : Int) < (xs.length : Int) := by omega
      have hsn := imgTo_succ xs set k
      have HS := Lib.hid hsn
      clear hx hxk hxy hsn
      cases hb : bitB set k with
      | true =>
        have hb2 : (bits .and .i64 ((set : Int) / 2 ^ k) 1 == 1) = true := hb
        have HB := Lib.hid hb
        clear hb
        go_wp2
        go_roundw
        case rel => exact ⟨k + 1, by omega, by go_num, by rw [HS.out, HB.out]; rfl, hd⟩
        case measure => simp [intOf]; omega
      | false =>
        have hb2 : (bits .and .i64 ((set : Int) / 2 ^ k) 1 == 1) = false := hb
        have HB := Lib.hid hb
        clear hb
        go_wp2
        go_roundw
        case rel => exact ⟨k + 1, by omega, by go_num, by rw [HS.out, HB.out]; rfl, hd⟩
        case measure => simp [intOf]; omega
    · go_wp2
      go_ret
      obtain rfl : k = xs.length := by omega
      exact ⟨rfl, hd⟩
end Go.Proofs.Ytcdiicckngndcab
