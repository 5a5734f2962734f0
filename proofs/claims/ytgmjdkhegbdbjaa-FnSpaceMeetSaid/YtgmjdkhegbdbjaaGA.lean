/-
  What is below what, pair by pair; laws of residuals and of what is reached.
-/
import Derived.RangeFuncNested
import Derived.RangeFuncBound
import Derived.RangeFuncCalls
import Derived.RangeFuncLeaves
import Derived.Shelf.Abstract
import Derived.Shelf.RegionOpen
import Derived.WalkKit
import Derived.OwnWalkIn
import Derived.TacticsInMore
import Derived.LoopNIn
import Derived.LoopIn
import Derived.Test.YtgmjdkhegbdbjaaT
import Derived.Laws.Bits64
namespace Go.Proofs.Ytgmjdkhegbdbjaa
open Go.RowKit Go.Shelf
attribute [local go_sem] Oper.semAt_some

/-- whether a set has a point, as the program asks it -/
def hasB (s : Int) (j : Nat) : Bool := bits .and .i64 s (pt j) != 0

/-- all pairs of n points, in the order of lists -/
def allP (n : Nat) : List (Fin n × Fin n) := (List.finRange n).flatMap fun x => (List.finRange n).map fun y => (x, y)
/-- the pairs that a relation has, among the first m -/
def pairsTo (n : Nat) (xs : List Int) (m : Nat) : List (Fin n × Fin n) := ((allP n).take m).filter fun p => hasB (rowAt xs p.1.val) p.2.val
theorem allP_at : ∀ n : Fin 5, ∀ i j : Fin n.val, (allP n.val)[i.val * n.val + j.val]? = some (i, j) := by decide +kernel
theorem pairsTo_step (n : Nat) (h4 : n ≤ 4) (xs : List Int) (i j : Fin n) :
    pairsTo n xs (i.val * n + j.val + 1) = pairsTo n xs (i.val * n + j.val) ++ (if hasB (rowAt xs i.val) j.val then [(i, j)] else []) := by
  have h := allP_at ⟨n, by omega⟩ i j
  unfold pairsTo
  rw [List.take_add_one, h, List.filter_append]
  congr 1
  by_cases hb : hasB (rowAt xs i.val) j.val = true <;> simp [hb]
/-- the pairs of a relation -/
def pairsOf (xs : List Int) : List (Fin xs.length × Fin xs.length) := pairsTo xs.length xs (xs.length * xs.length)

/-- block B lies as it lay -/
def KeepB (B : Nat) (W W' : World) : Prop := W'.heap[B]? = W.heap[B]?
theorem KeepB.t {B : Nat} {a b c : World} (h : KeepB B a b) (k : KeepB B b c) : KeepB B a c := Eq.trans k h
theorem KeepB.b {B : Nat} {w : World} (hB : B < w.heap.size) (W : World) (l : Nat) (o o' : Obj) (hl : w.heap.size ≤ l) (_ : W.heap[l]? = some o) (_ : o.isCells = false) (_ : o.isWalk = false) : KeepB B W (W.putObj l o') :=
  World.putObj_heap_other (by omega)
theorem RelAt.keep {W W' : World} {B : Nat} {xs : List Int} (h : RelAt W B xs) (k : KeepB B W W') : RelAt W' B xs := Eq.trans k h

end Go.Proofs.Ytgmjdkhegbdbjaa

namespace Go.Proofs.Ytgmjdkhegbdbjaa
open Go.RowKit Go.Shelf
attribute [local go_sem] Oper.semAt_some

/-- pairs turned, one by one -/
def turnAcc (n : Nat) (pre : List (Fin n × Fin n)) : List Int := pre.foldl (fun zs p => addPair zs p.2.val p.1.val) (List.replicate n 0)
theorem turnAcc_snoc (n : Nat) (pre : List (Fin n × Fin n)) (p : Fin n × Fin n) : turnAcc n (pre ++ [p]) = addPair (turnAcc n pre) p.2.val p.1.val := by
  unfold turnAcc
  rw [List.foldl_append]
  rfl
theorem turnAcc_len (n : Nat) (pre : List (Fin n × Fin n)) : (turnAcc n pre).length = n := by
  have h : ∀ (l : List (Fin n × Fin n)) (zs : List Int), (l.foldl (fun zs p => addPair zs p.2.val p.1.val) zs).length = zs.length := by
    intro l
    induction l with
    | nil => intro zs; rfl
    | cons p r ih => intro zs; rw [List.foldl_cons, ih, addPair_len]
  unfold turnAcc
  rw [h]
  simp

end Go.Proofs.Ytgmjdkhegbdbjaa

namespace Go.Proofs.Ytgmjdkhegbdbjaa
open Go.RowKit

theorem or16 : ∀ z : Fin 16, ∀ i : Fin 4, ∃ y : Fin 16, bits .or .i64 (z.val : Int) (pt i.val) = (y.val : Int) := by decide +kernel
theorem turn16 (n : Nat) (h4 : n ≤ 4) (pre : List (Fin n × Fin n)) : ∀ i, ∃ z : Fin 16, rowAt (turnAcc n pre) i = (z.val : Int) := by
  have h : ∀ (l : List (Fin n × Fin n)) (zs : List Int), zs.length = n → (∀ i, ∃ z : Fin 16, rowAt zs i = (z.val : Int)) → ∀ i, ∃ z : Fin 16, rowAt (l.foldl (fun zs p => addPair zs p.2.val p.1.val) zs) i = (z.val : Int) := by
    intro l
    induction l with
    | nil => intro zs _ hz; exact hz
    | cons p r ih =>
      intro zs hl hz
      rw [List.foldl_cons]
      refine ih _ (by rw [addPair_len, hl]) ?_
      intro i
      rw [addPair_at zs p.2.val p.1.val i (by rw [hl]; exact p.2.isLt)]
      by_cases e : i = p.2.val
      · rw [if_pos e]
        obtain ⟨z, hz2⟩ := hz p.2.val
        rw [hz2]
        exact or16 z ⟨p.1.val, by have := p.1.isLt; omega⟩
      · rw [if_neg e]
        exact hz i
  refine h pre _ (by simp) ?_
  intro i
  refine ⟨0, ?_⟩
  unfold rowAt
  rw [List.getD_eq_getElem?_getD, List.getElem?_replicate]
  split <;> rfl

theorem bitStep : ∀ z y : Fin 16, ∀ i j : Fin 4, bits .or .i64 (z.val : Int) (wrap64 (bits .and .i64 ((y.val : Int) / 2 ^ j.val) 1 * 2 ^ i.val)) = if hasB (y.val : Int) j.val then bits .or .i64 (z.val : Int) (pt i.val) else (z.val : Int) := by decide +kernel

theorem set_same (zs : List Int) (j : Nat) : zs.set j (rowAt zs j) = zs := by
  apply List.ext_getElem?
  intro k
  rw [List.getElem?_set]
  by_cases e : j = k
  · subst e
    rw [if_pos rfl]
    by_cases h : j < zs.length
    · rw [if_pos h, rowAt_get h]
    · rw [if_neg h, List.getElem?_eq_none (by omega)]
  · rw [if_neg e]

theorem turn_step (xs : List Int) (h4 : xs.length ≤ 4) (i j : Nat) (hi : i < xs.length) (hj : j < xs.length) :
    turnAcc xs.length (pairsTo xs.length xs (i * xs.length + (j + 1))) =
      (turnAcc xs.length (pairsTo xs.length xs (i * xs.length + j))).set j (if hasB (rowAt xs i) j then bits .or .i64 (rowAt (turnAcc xs.length (pairsTo xs.length xs (i * xs.length + j))) j) (pt i) else rowAt (turnAcc xs.length (pairsTo xs.length xs (i * xs.length + j))) j) := by
  have hst := pairsTo_step xs.length h4 xs ⟨i, hi⟩ ⟨j, hj⟩
  rw [← Nat.add_assoc, hst]
  by_cases hb : hasB (rowAt xs i) j = true
  · rw [if_pos hb, if_pos hb, turnAcc_snoc]
    rfl
  · rw [if_neg hb, if_neg hb, List.append_nil, set_same]

set_option maxHeartbeats 4000000 in
theorem l1Turned_any (ao : Option Addr) (cap : Nat) (xs : List Int) (w : World) (hp : relIn xs = true) (hx : Rd w ao xs) :
    Calls Try.prog 109 #[.slice ao xs.length cap] w fun e w' => ∃ v, e = .returned v ∧
      w'.ownsRow w.heap.size 3 1 v xs.length ((turnAcc xs.length (pairsOf xs)).map (Value.int .i64)) ∧ Below w.heap.size w w' := by
  obtain ⟨i0, hi, hz0, hz1, hz2⟩ := info_parts Try.info3
  have h4 := (relIn_len hp).2
  have HP := Lib.hid hp
  clear hp
  go_enter Try.func109, Try.ntmps109
  go_wp2_with (at_make; refine wpList_make_full _ rfl _ _ 22 rfl w.heap.size 3 i0 (.int .i64 0) 1 Try.underlying22 hi hz0 hz1 _ _ _ _ xs.length rfl rfl rfl rfl ?c1 ?c2 ?c3 ?_)
  case c1 => rw [hz2]; omega
  case c2 => unfold maxLen; omega
  case c3 => exact Nat.le_refl _
  intro w1 hown hgrow
  have hB : Below w.heap.size w w1 := (Below.refl _ _).grown hgrow (Nat.le_refl _) (by simp)
  rw [toList_madeCells_one] at hown
  have hown0 : w1.ownsRow w.heap.size 3 1 (.slice (some ⟨w.heap.size, 0, none⟩) xs.length xs.length) xs.length ((turnAcc xs.length (pairsTo xs.length xs 0)).map (Value.int .i64)) := by
    have : pairsTo xs.length xs 0 = [] := by simp [pairsTo]
    rw [this]
    simpa [turnAcc] using hown
  clear hgrow hown
  go_wp2
  go_loopw [4, 5] (fun i _ wr => ∃ k : Nat, k ≤ xs.length ∧ i = .int .i64 k ∧ wr.ownsRow w.heap.size 3 1 (.slice (some ⟨w.heap.size, 0, none⟩) xs.length xs.length) xs.length ((turnAcc xs.length (pairsTo xs.length xs (k * xs.length))).map (Value.int .i64)) ∧ Below w.heap.size w wr)
    (fun i _ _ => xs.length - (intOf i).toNat)
  case atStart => exact ⟨0, Nat.zero_le _, rfl, by rw [Nat.zero_mul]; exact hown0, hB⟩
  case round =>
    clear hown0 hB
    obtain ⟨i, hi2, rfl, ho, hB⟩ := hrel
    obtain ⟨wo, rfl⟩ : ∃ wo : World, wo = wr := ⟨_, rfl⟩
    by_cases hlt : i < xs.length
    · go_wp2
      go_loopw [5] (fun j wr => ∃ k : Nat, k ≤ xs.length ∧ j = .int .i64 k ∧ wr.ownsRow w.heap.size 3 1 (.slice (some ⟨w.heap.size, 0, none⟩) xs.length xs.length) xs.length ((turnAcc xs.length (pairsTo xs.length xs (i * xs.length + k))).map (Value.int .i64)) ∧ Below w.heap.size w wr)
        (fun j _ => xs.length - (intOf j).toNat)
      case atStart => exact ⟨0, Nat.zero_le _, rfl, ho, hB⟩
      case round =>
        clear ho hB
        obtain ⟨j, hj, rfl, ho, hB⟩ := hrel
        by_cases hlj : j < xs.length
        · obtain ⟨b, off, x, hxk, rfl, hbl, hc1⟩ := (hx.below hB).get i hlt
          obtain ⟨y, hy⟩ := row16 HP.out i
          obtain ⟨z, hz⟩ := turn16 xs.length h4 (pairsTo xs.length xs (i * xs.length + j)) j
          have hxy : x = (y.val : Int) := by
            have := rowAt_get hlt
            rw [hxk, hy] at this
            simpa using this
          rw [hxy] at hc1
          have hc2 := ho.cellAt j (by omega)
          have hf2 := ho.frozenAt j
          have hzk : ((turnAcc xs.length (pairsTo xs.length xs (i * xs.length + j))).map (Value.int .i64))[j]? = some (.int .i64 (z.val : Int)) := by
            rw [List.getElem?_map, rowAt_get (by rw [turnAcc_len]; exact hlj), hz]
            rfl
          rw [hzk] at hc2
          have hi1 : ((i : Nat) : Int) < (xs.length : Int) := by omega
          have hj1 : ((j : Nat) : Int) < (xs.length : Int) := by omega
          have hst := pairsTo_step xs.length h4 xs ⟨i, hlt⟩ ⟨j, hlj⟩
          have HST := Lib.hid (And.intro hst (And.intro hy hz))
          clear hx hxk hxy hy hz hzk hst
          go_wp2
          go_region
          all_goals
            go_wp2
            go_roundw
            case rel =>
              refine ⟨j + 1, by omega, by go_num, ?_, hB.drew.setCell (Nat.le_refl _) _⟩
              have h := (ho.stored j (.int .i64 (bits .or .i64 (z.val : Int) (wrap64 (bits .and .i64 ((y.val : Int) / 2 ^ j) 1 * 2 ^ i))))).1
              have hl : ((turnAcc xs.length (pairsTo xs.length xs (i * xs.length + j))).map (Value.int .i64)).set j (.int .i64 (bits .or .i64 (z.val : Int) (wrap64 (bits .and .i64 ((y.val : Int) / 2 ^ j) 1 * 2 ^ i)))) = (turnAcc xs.length (pairsTo xs.length xs (i * xs.length + (j + 1)))).map (Value.int .i64) := by
                rw [← List.map_set, turn_step xs h4 i j hlt hlj, HST.out.2.1, HST.out.2.2]
                rw [bitStep z y ⟨i, by omega⟩ ⟨j, by omega⟩]
              rw [hl] at h
              exact h.drew
            case measure => simp [intOf]; omega
        · obtain rfl : j = xs.length := by omega
          go_wp2
          go_roundw
          case rel => exact ⟨i + 1, by omega, by go_num, by rw [Nat.succ_mul]; exact ho, hB⟩
          case measure => simp [intOf]; omega
    · obtain rfl : i = xs.length := by omega
      go_wp2
      go_ret
      exact ⟨_, rfl, ho, hB⟩

/-- a relation turned -/
def turnL (xs : List Int) : List Int := turnAcc xs.length (pairsOf xs)
theorem turnL_len (xs : List Int) : (turnL xs).length = xs.length := turnAcc_len _ _

end Go.Proofs.Ytgmjdkhegbdbjaa

namespace Go.Proofs.Ytgmjdkhegbdbjaa
open Go.RowKit

theorem row_lt {xs : List Int} (h : relIn xs = true) {k : Nat} {y : Fin 16} (hk : k < xs.length) (hy : rowAt xs k = (y.val : Int)) : y.val < 2 ^ xs.length := by
  have hr := relIn_row h (rowAt_get hk)
  rw [hy] at hr
  unfold rowIn at hr
  rw [Bool.and_eq_true] at hr
  have h1 := of_decide_eq_true hr.2
  have h2 : ((2 ^ xs.length : Nat) : Int) = (2 : Int) ^ xs.length := by simp
  omega

/-- whether a set has a point, as the model asks it -/
def bitB (set : Int) (i : Nat) : Bool := bits .and .i64 (set / 2 ^ i) 1 == 1
/-- the rows of a set's points, joined -/
def imgTo (xs : List Int) (set : Int) (k : Nat) : Int := (List.range k).foldl (fun o i => if bitB set i then bits .or .i64 o (rowAt xs i) else o) 0
theorem imgTo_succ (xs : List Int) (set : Int) (k : Nat) : imgTo xs set (k + 1) = if bitB set k then bits .or .i64 (imgTo xs set k) (rowAt xs k) else imgTo xs set k := by
  unfold imgTo
  rw [List.range_succ, List.foldl_append]
  rfl
set_option maxHeartbeats 2000000 in
theorem l1Image_any (ao : Option Addr) (ca : Nat) (xs : List Int) (set : Nat) (w : World) (_hs : set < 16) (h4 : xs.length ≤ 4) (hx : Rd w ao xs) :
    Calls Try.prog 58 #[.slice ao xs.length ca, .int .i64 set] w fun e w' => e = .returned (.int .i64 (imgTo xs set xs.length)) ∧ Dn w w' := by
  go_enter Try.func58, Try.ntmps58
  go_wp2
  go_loopw [5, 6] (fun o i wr => ∃ k : Nat, k ≤ xs.length ∧ i = .int .i64 k ∧ o = .int .i64 (imgTo xs set k) ∧ Dn w wr)
    (fun _ i _ => xs.length - (intOf i).toNat)
  case atStart => exact ⟨0, Nat.zero_le _, rfl, rfl, Dn.refl _⟩
  case round =>
    obtain ⟨k, hk, rfl, rfl, hd⟩ := hrel
    by_cases hlt : k < xs.length
    · obtain ⟨b, off, x, hxk, rfl, hbl, hc1⟩ := (hd.rd hx).get k hlt
      have hxy : x = rowAt xs k := by
        have := rowAt_get hlt
        rw [hxk] at this
        simpa using this
      rw [hxy] at hc1
      have hi1 : ((k : Nat) : Int) < (xs.length : Int) := by omega
      have hsn := imgTo_succ xs set k
      have HS := Lib.hid hsn
      clear hx hxk hxy hsn
      cases hb : bitB set k with
      | true =>
        have hb2 : (bits .and .i64 ((set : Int) / 2 ^ k) 1 == 1) = true := hb
        have HB := Lib.hid hb
        clear hb
        go_wp2
        go_roundw
        case rel => exact ⟨k + 1, by omega, by go_num, by rw [HS.out, HB.out]; rfl, hd⟩
        case measure => simp [intOf]; omega
      | false =>
        have hb2 : (bits .and .i64 ((set : Int) / 2 ^ k) 1 == 1) = false := hb
        have HB := Lib.hid hb
        clear hb
        go_wp2
        go_roundw
        case rel => exact ⟨k + 1, by omega, by go_num, by rw [HS.out, HB.out]; rfl, hd⟩
        case measure => simp [intOf]; omega
    · go_wp2
      go_ret
      obtain rfl : k = xs.length := by omega
      exact ⟨rfl, hd⟩
end Go.Proofs.Ytgmjdkhegbdbjaa

namespace Go.Proofs.Ytgmjdkhegbdbjaa
open Go.RowKit

/-- the slice at this address reads as these bytes -/
def RdB (w : World) (ao : Option Addr) (bs : List Nat) : Prop :=
  ∀ (k x : Nat), bs[k]? = some x → x < 256 ∧ ∃ b off, ao = some ⟨b, off, none⟩ ∧ b < w.heap.size ∧ w.cell? ⟨b, off + k, none⟩ = some (.int .u8 x)

/-- a reader in a block of its own -/
def RdrAt (w : World) (R : Nat) (ao : Option Addr) (n c p : Nat) : Prop :=
  w.heap[R]? = some (.cells #[.slice ao n c, .int .i64 p] 66)

theorem RdrAt.cell0 {w : World} {R : Nat} {ao : Option Addr} {n c p : Nat} (h : RdrAt w R ao n c p) : w.cell? ⟨R, 0, none⟩ = some (.slice ao n c) := by
  simp [World.cell?, show w.heap[R]? = _ from h]
theorem RdrAt.cell1 {w : World} {R : Nat} {ao : Option Addr} {n c p : Nat} (h : RdrAt w R ao n c p) : w.cell? ⟨R, 1, none⟩ = some (.int .i64 p) := by
  simp [World.cell?, show w.heap[R]? = _ from h]
theorem RdrAt.free {w : World} {R : Nat} {ao : Option Addr} {n c p : Nat} (h : RdrAt w R ao n c p) (j : Nat) : w.frozen? ⟨R, j, none⟩ = false := by
  simp [World.frozen?, show w.heap[R]? = _ from h]

theorem xorI (X Y : Nat) (hX : X < 4294967296) (hY : Y < 4294967296) : ∃ Z : Nat, bits .xor .i64 (X : Int) (Y : Int) = (Z : Int) ∧ Z < 4294967296 := by
  have hx : X ^^^ Y < 2 ^ 32 := Nat.xor_lt_two_pow (by omega) (by omega)
  have h1 : (BitVec.ofInt 64 (X : Int)).toNat = X := by
    rw [BitVec.ofInt_natCast, BitVec.toNat_ofNat]; exact Nat.mod_eq_of_lt (by omega)
  have h2 : (BitVec.ofInt 64 (Y : Int)).toNat = Y := by
    rw [BitVec.ofInt_natCast, BitVec.toNat_ofNat]; exact Nat.mod_eq_of_lt (by omega)
  refine ⟨X ^^^ Y, ?_, by omega⟩
  show IntKind.i64.wrap ((BitVec.ofInt 64 (X : Int) ^^^ BitVec.ofInt 64 (Y : Int)).toNat : Int) = _
  rw [BitVec.toNat_xor, h1, h2]
  simp only [IntKind.wrap, IntKind.bits, IntKind.signed]
  obtain ⟨q, hq⟩ : ∃ q, X ^^^ Y = q := ⟨_, rfl⟩
  rw [hq] at hx ⊢
  simp only [Bool.true_and]
  rw [if_neg (by intro hh; have := of_decide_eq_true hh; omega)]
  omega

theorem pick_any (R : Nat) (ao : Option Addr) (c : Nat) (bs : List Nat) (p m : Nat) (w : World) (hR : RdrAt w R ao bs.length c p) (hb : RdB w ao bs) (hbR : bs ≠ [] → ∀ a, ao = some a → a.block ≠ R)
    (hl : bs.length ≤ 2000) (hp : p ≤ 1048576) (h1 : 1 ≤ m) (hm : m ≤ 1048576) :
    Calls Try.prog 51 #[.pointer (some ⟨R, 0, none⟩), .int .i64 m] w fun e w' => ∃ k : Nat, k < m ∧ e = .returned (.int .i64 k) ∧ Dn (w.setCell ⟨R, 1, none⟩ (.int .i64 (p + 1 : Nat))) w' := by
  have p0 := hR.cell0
  have p1 := hR.cell1
  have f1 := hR.free 1
  by_cases h0 : bs.length = 0
  · have e1 : ((bs.length : Int) == 0) = true := by rw [h0]; rfl
    have hm1 : decide ((m : Int) < 1) = false := decide_eq_false (by omega)
    go_enter Try.func51, Try.ntmps51
    go_wp2
    go_ret
    exact ⟨0, h1, rfl, by push_cast; exact Dn.refl _⟩
  · have e1 : ((bs.length : Int) == 0) = false := beq_eq_false_iff_ne.2 (by omega)
    have hm1 : decide ((m : Int) < 1) = false := decide_eq_false (by omega)
    by_cases hlt : p < bs.length
    · obtain ⟨hx, b, off, rfl, hbl, hc⟩ := hb p _ (List.getElem?_eq_getElem hlt)
      have hbne : b ≠ R := hbR (fun e => h0 (by rw [e]; rfl)) _ rfl
      have hj : ((p : Nat) : Int) < (bs.length : Int) := by omega
      have hc1 : (w.setCell ⟨R, 1, none⟩ (.int .i64 ((p : Int) + 1))).cell? ⟨b, off + p, none⟩ = some (.int .u8 bs[p]) := by
        rw [← hc]; exact World.cell?_of_block (Below.heap_setCell _ _ _ _ hbne)
      obtain ⟨x, hxe⟩ : ∃ x, bs[p] = x := ⟨_, rfl⟩
      rw [hxe] at hx hc hc1
      clear hxe hb hbR hc
      go_enter Try.func51, Try.ntmps51
      go_wp2
      go_ret
      exact ⟨x % m, Nat.mod_lt _ h1, by push_cast; rfl, by push_cast; exact Dn.refl _⟩
    · have hq1 : p % bs.length < bs.length := Nat.mod_lt _ (by omega)
      have hq2 : (p * 7 + 3) % bs.length < bs.length := Nat.mod_lt _ (by omega)
      obtain ⟨hx, b, off, rfl, hbl, hc⟩ := hb _ _ (List.getElem?_eq_getElem hq1)
      obtain ⟨hy, b', off', hbo, _, hd⟩ := hb _ _ (List.getElem?_eq_getElem hq2)
      simp only [Option.some.injEq, Addr.mk.injEq, and_true] at hbo
      obtain ⟨rfl, rfl⟩ := hbo
      have hbne : b ≠ R := hbR (fun e => h0 (by rw [e]; rfl)) _ rfl
      have hj1 : ((p : Nat) : Int) % (bs.length : Int) < (bs.length : Int) := by omega
      have hj2 : (((p : Nat) : Int) * 7 + 3) % (bs.length : Int) < (bs.length : Int) := Int.emod_lt_of_pos _ (by omega)
      have hj3 : 0 ≤ ((p : Nat) : Int) % (bs.length : Int) := by omega
      have hj4 : 0 ≤ (((p : Nat) : Int) * 7 + 3) % (bs.length : Int) := Int.emod_nonneg _ (by omega)
      have hdv0 : 0 ≤ ((p : Nat) : Int) / (bs.length : Int) := Int.ediv_nonneg (by omega) (by omega)
      have hdv1 : ((p : Nat) : Int) / (bs.length : Int) ≤ 1048576 := Int.le_trans (Int.ediv_le_self _ (by omega)) (by omega)
      have hc1 : (w.setCell ⟨R, 1, none⟩ (.int .i64 ((p : Int) + 1))).cell? ⟨b, off + p % bs.length, none⟩ = some (.int .u8 bs[p % bs.length]) := by
        rw [← hc]; exact World.cell?_of_block (Below.heap_setCell _ _ _ _ hbne)
      have hd1 : (w.setCell ⟨R, 1, none⟩ (.int .i64 ((p : Int) + 1))).cell? ⟨b, off + (p * 7 + 3) % bs.length, none⟩ = some (.int .u8 bs[(p * 7 + 3) % bs.length]) := by
        rw [← hd]; exact World.cell?_of_block (Below.heap_setCell _ _ _ _ hbne)
      obtain ⟨x, hxe⟩ : ∃ x, bs[p % bs.length] = x := ⟨_, rfl⟩
      obtain ⟨y, hye⟩ : ∃ x, bs[(p * 7 + 3) % bs.length] = x := ⟨_, rfl⟩
      rw [hxe] at hx hc hc1
      rw [hye] at hy hd hd1
      clear hxe hye hb hbR hc hd
      go_enter Try.func51, Try.ntmps51
      go_wp2
      go_quiet (fail)
      obtain ⟨X, hX, hXl⟩ : ∃ X : Nat, ((x : Int) * 131 + (y : Int) * 1117 + (p : Int) * 29 + (p : Int) / (bs.length : Int) * 53) = (X : Int) ∧ X < 4294967296 := ⟨((x : Int) * 131 + (y : Int) * 1117 + (p : Int) * 29 + (p : Int) / (bs.length : Int) * 53).toNat, by omega, by omega⟩
      rw [hX]
      obtain ⟨Z, hZ, hZl⟩ := xorI X (X / 64) hXl (by omega)
      push_cast at hZ
      clear hX hc1 hd1 hj1 hj2 hj3 hj4 hdv0 hdv1
      go_wp2
      go_ret
      exact ⟨Z % m, Nat.mod_lt _ h1, by push_cast; rfl, by push_cast; exact Dn.drewN _ _⟩
theorem RdrAt.next {w w' : World} {R : Nat} {ao : Option Addr} {n c p : Nat} (h : RdrAt w R ao n c p) (hd : Dn (w.setCell ⟨R, 1, none⟩ (.int .i64 (p + 1 : Nat))) w') : RdrAt w' R ao n c (p + 1) := by
  unfold RdrAt
  rw [hd.heap]
  have hlt : R < w.heap.size := (Array.getElem?_eq_some_iff.1 h).1
  have h2 : w.heap[R] = .cells #[.slice ao n c, .int .i64 p] 66 := (Array.getElem?_eq_some_iff.1 h).2
  simp [World.setCell, hlt, h2, Array.getElem_modify]

theorem RdB.take {w : World} {ao : Option Addr} {bs : List Nat} (h : RdB w ao bs) (n : Nat) : RdB w ao (bs.take n) := by
  intro k x hk
  rw [List.getElem?_take] at hk
  split at hk
  · exact h k x hk
  · cases hk
theorem RdB.below {w w' : World} {ao : Option Addr} {bs : List Nat} (h : RdB w ao bs) (hb : Below w.heap.size w w') : RdB w' ao bs := by
  intro k x hx
  obtain ⟨h0, b, off, h1, h2, h3⟩ := h k x hx
  exact ⟨h0, b, off, h1, Nat.lt_of_lt_of_le h2 hb.size, (hb.cell (p := ⟨b, off + k, none⟩) h2).trans h3⟩

theorem open_any (ao : Option Addr) (c : Nat) (bs : List Nat) (w : World) (hc : bs.length ≤ c) :
    Calls Try.prog 50 #[.slice ao bs.length c] w fun e w' => ∃ bs', bs' = bs.take 2000 ∧ e = .returned (.pointer (some ⟨w.heap.size, 0, none⟩)) ∧ RdrAt w' w.heap.size ao bs'.length c 0 ∧ Below w.heap.size w w' := by
  by_cases h : bs.length ≤ 2000
  · go_enter Try.func50, Try.ntmps50
    go_wp2
    go_ret
    exact ⟨_, rfl, rfl, by rw [List.take_of_length_le h]; exact World.alloc_heap_new w _, below_one _ _⟩
  · go_enter Try.func50, Try.ntmps50
    go_wp2
    go_ret
    exact ⟨_, rfl, rfl, by rw [List.length_take, Nat.min_eq_left (by omega)]; exact World.alloc_heap_new w _, below_one _ _⟩
end Go.Proofs.Ytgmjdkhegbdbjaa

namespace Go.Proofs.Ytgmjdkhegbdbjaa
open Go.RowKit

/-- all numbers are sets of at most four points -/
def In16 (xs : List Int) : Prop := ∀ k, ∃ z : Fin 16, rowAt xs k = (z.val : Int)
theorem In16.rel {xs : List Int} (h : relIn xs = true) : In16 xs := row16 h
theorem or1616 : ∀ z y : Fin 16, ∃ u : Fin 16, bits .or .i64 (z.val : Int) (y.val : Int) = (u.val : Int) := by decide +kernel
theorem imgTo16 {ys : List Int} (h : In16 ys) (set : Int) : ∀ k, ∃ z : Fin 16, imgTo ys set k = (z.val : Int)
  | 0 => ⟨0, rfl⟩
  | k + 1 => by
    rw [imgTo_succ]
    obtain ⟨z, hz⟩ := imgTo16 h set k
    split
    · obtain ⟨y, hy⟩ := h k
      rw [hz, hy]
      exact or1616 z y
    · exact ⟨z, hz⟩

/-- rows of rows, joined -/
def compL (xs ys : List Int) : List Int := xs.map fun x => imgTo ys x ys.length
theorem compL_len (xs ys : List Int) : (compL xs ys).length = xs.length := List.length_map _
theorem rowAt_map (f : Int → Int) (xs : List Int) (k : Nat) (hk : k < xs.length) : rowAt (xs.map f) k = f (rowAt xs k) := by
  have h1 := rowAt_get hk
  have h2 := rowAt_get (xs := xs.map f) (k := k) (by simpa using hk)
  rw [List.getElem?_map, h1] at h2
  simpa using h2.symm
theorem rowAt_out (xs : List Int) (k : Nat) (hk : ¬ k < xs.length) : rowAt xs k = 0 := by
  unfold rowAt
  rw [List.getD_eq_getElem?_getD, List.getElem?_eq_none (by omega)]
  rfl
theorem compL16 {xs ys : List Int} (h : In16 ys) : In16 (compL xs ys) := by
  intro k
  by_cases hk : k < xs.length
  · unfold compL; rw [rowAt_map _ _ _ hk]; exact imgTo16 h _ _
  · exact ⟨0, rowAt_out _ _ (by rw [compL_len]; exact hk)⟩
theorem compL_take {xs ys : List Int} (k : Nat) (hk : k < xs.length) : (compL xs ys).take (k + 1) = (compL xs ys).take k ++ [imgTo ys (rowAt xs k) ys.length] := by
  have h : (compL xs ys)[k]? = some (imgTo ys (rowAt xs k) ys.length) := by
    unfold compL; rw [List.getElem?_map, rowAt_get hk]; rfl
  rw [List.take_add_one, h]
  rfl

set_option maxHeartbeats 1000000 in
theorem l2Comp_any (ao bo : Option Addr) (ca cb : Nat) (xs ys : List Int) (w : World) (h4 : xs.length ≤ 4) (h5 : ys.length ≤ 4) (hs : In16 xs) (hx : Rd w ao xs) (hy : Rd w bo ys) :
    Calls Try.prog 75 #[.slice ao xs.length ca, .slice bo ys.length cb] w fun e w' => ∃ v, e = .returned v ∧
      w'.ownsRow w.heap.size 3 1 v xs.length ((compL xs ys).map (Value.int .i64)) ∧ Below w.heap.size w w' := by
  obtain ⟨i0, hi, hz0, hz1, hz2⟩ := info_parts Try.info3
  go_enter Try.func75, Try.ntmps75
  go_wp2
  go_loopw [5, 6] (fun v i wr => ∃ k : Nat, k ≤ xs.length ∧ i = .int .i64 k ∧ wr.ownsRow w.heap.size 3 1 v k (((compL xs ys).take k).map (Value.int .i64)) ∧ Below w.heap.size w wr)
    (fun _ i _ => xs.length - (intOf i).toNat)
  case atStart => exact ⟨0, Nat.zero_le _, rfl, row_lit0 w, below_one _ _⟩
  case round =>
    obtain ⟨k, hk, rfl, ho, hb⟩ := hrel
    by_cases hlt : k < xs.length
    · obtain ⟨b, off, x, hxk, rfl, hbl, hc1⟩ := (hx.below hb).get k hlt
      have hyb := hy.below hb
      obtain ⟨z, hz⟩ := hs k
      have hxy : x = (z.val : Int) := by
        have := rowAt_get hlt
        rw [hxk, hz] at this
        simpa using this
      rw [hxy] at hc1
      have hi1 : ((k : Nat) : Int) < (xs.length : Int) := by omega
      have ht := compL_take (xs := xs) (ys := ys) k hlt
      rw [hz] at ht
      have HT := Lib.hid ht
      clear hx hy hxk hxy hz ht
      go_wp2_with fail
      refine (l1Image_any bo cb ys z.val _ z.isLt h5 hyb).mono ?_
      rintro e w1 ⟨rfl, hd⟩
      clear hc1 hyb
      have ho1 := hd.row ho
      have hb1 := hb.trans (hd.below _)
      have hs1 := hb1.size
      go_wp2_with (at_builtin; refine wpList_append_own _ rfl (.tmp 14) (.tmp 21) 22 rfl w.heap.size 3 i0 (.int .i64 0) 1 8 Try.underlying22 hi hz0 hz1 hz2 rfl (by decide) _ _ _ rfl (ho1.alloc _) ⟨w1.heap.size, 0, none⟩ 1 1 [_] rfl rfl (cell_one_new _ _ _) (by simp [Value.oneCell']) (by unfold maxLen; omega) (by omega) (by simp; omega) ?_)
      intro v' w2 hown' hgrow _
      have hb' := own_step' ho1 hb1 hs1 _ hgrow
      rw [← List.map_take, ← List.map_singleton (f := Value.int .i64), ← List.map_append, ← HT.out] at hown'
      clear ho hb ho1 hb1 hgrow
      go_wp2
      go_roundw
      case rel => exact ⟨k + 1, by omega, by go_num, hown', hb'⟩
      case measure => simp [intOf]; omega
    · go_wp2
      go_ret
      obtain rfl : k = xs.length := by omega
      rw [List.take_of_length_le (by rw [compL_len]; omega)] at ho
      exact ⟨_, rfl, ho, hb⟩

/-- one more power added, and again -/
def reachTo (xs : List Int) : Nat → List Int
  | 0 => xs
  | k + 1 => zipI (bits .or .i64) (reachTo xs k) (compL (reachTo xs k) xs)
def reachL (xs : List Int) : List Int := reachTo xs xs.length
theorem reachTo_len (xs : List Int) : ∀ k, (reachTo xs k).length = xs.length
  | 0 => rfl
  | k + 1 => by unfold reachTo zipI; rw [List.length_zipWith, compL_len, reachTo_len xs k, Nat.min_self]
theorem zipAt (f : Int → Int → Int) (xs ys : List Int) (k : Nat) (h1 : k < xs.length) (h2 : k < ys.length) : rowAt (zipI f xs ys) k = f (rowAt xs k) (rowAt ys k) := by
  have h := rowAt_get (xs := zipI f xs ys) (k := k) (by unfold zipI; rw [List.length_zipWith]; omega)
  unfold zipI at h
  rw [List.getElem?_zipWith, rowAt_get h1, rowAt_get h2] at h
  exact (Option.some.inj h).symm
theorem reachTo16 {xs : List Int} (h : In16 xs) : ∀ k, In16 (reachTo xs k)
  | 0 => h
  | k + 1 => fun i => by
    by_cases hi : i < xs.length
    · have e : rowAt (reachTo xs (k + 1)) i = bits .or .i64 (rowAt (reachTo xs k) i) (rowAt (compL (reachTo xs k) xs) i) := zipAt _ _ _ _ (by rw [reachTo_len]; exact hi) (by rw [compL_len, reachTo_len]; exact hi)
      obtain ⟨z, hz⟩ := reachTo16 h k i
      obtain ⟨y, hy⟩ := compL16 (xs := reachTo xs k) h i
      rw [e, hz, hy]
      exact or1616 z y
    · exact ⟨0, rowAt_out _ _ (by rw [reachTo_len]; exact hi)⟩

theorem own_keep {w w' : World} {lo B n : Nat} {v : Value} {us : List Value} (h : w.ownsRow lo 3 1 v n us) (hb : Below B w w') (hB : ∀ k, v.ownBlock = some k → k < B) : w'.ownsRow lo 3 1 v n us := by
  refine ⟨h.1, ?_⟩
  rcases h.2 with h2 | ⟨g, cap, cur, rfl, h2, h3, h4⟩
  · exact .inl h2
  · exact .inr ⟨g, cap, cur, rfl, h2, (hb.block g (hB g rfl)).trans h3, h4⟩
theorem own_form {w : World} {lo n : Nat} {v : Value} {us : List Value} (h : w.ownsRow lo 3 1 v n us) (hn : 1 ≤ n) : ∃ g cap, v = .slice (some ⟨g, 0, none⟩) n cap ∧ lo ≤ g ∧ g < w.heap.size := by
  rcases h.2 with ⟨_, h2⟩ | ⟨g, cap, cur, rfl, _⟩
  · omega
  · exact ⟨g, cap, rfl, (h.lt g rfl).1, (h.lt g rfl).2⟩
theorem rd_own {w : World} {lo g cap : Nat} {xs : List Int} {n : Nat} (h : w.ownsRow lo 3 1 (.slice (some ⟨g, 0, none⟩) n cap) n (xs.map (Value.int .i64))) (hn : xs.length = n) : Rd w (some ⟨g, 0, none⟩) xs := by
  subst hn
  obtain ⟨ao, c, he, hr⟩ := row_rd h
  cases he
  exact hr

theorem l2Reach_at (xs : List Int) (k j : Nat) (hj : j < xs.length) : (reachTo xs (k + 1))[j]? = some (bits .or .i64 (rowAt (reachTo xs k) j) (rowAt (compL (reachTo xs k) xs) j)) := by
  have h := rowAt_get (xs := reachTo xs (k + 1)) (k := j) (by rw [reachTo_len]; exact hj)
  rw [h]
  exact congrArg some (zipAt _ _ _ _ (by rw [reachTo_len]; exact hj) (by rw [compL_len, reachTo_len]; exact hj))

set_option maxHeartbeats 4000000 in
theorem l2Reach_any (ao : Option Addr) (ca : Nat) (xs : List Int) (w : World) (h1 : 1 ≤ xs.length) (h4 : xs.length ≤ 4) (hs : In16 xs) (hx : Rd w ao xs) :
    Calls Try.prog 102 #[.slice ao xs.length ca] w fun e w' => ∃ v, e = .returned v ∧
      w'.ownsRow w.heap.size 3 1 v xs.length ((reachL xs).map (Value.int .i64)) ∧ Below w.heap.size w w' := by
  obtain ⟨i0, hi, hz0, hz1, hz2⟩ := info_parts Try.info3
  obtain ⟨b0, off0, _, _, rfl, hbl0, _⟩ := hx.get 0 (by omega)
  have hnews : ∀ (j : Nat) (u : Value), (xs.map (Value.int .i64))[j]? = some u → (w.alloc (.cells #[] 3)).cell? ((⟨b0, off0, none⟩ : Addr).add j) = some u := by
    intro j u hu
    rw [List.getElem?_map] at hu
    cases hxj : xs[j]? with
    | none => rw [hxj] at hu; cases hu
    | some y =>
      rw [hxj] at hu
      cases hu
      obtain ⟨b, off, he, _, hc⟩ := (hx.below (below_one w (.cells #[] 3))) j y hxj
      cases he
      simp only [Addr.add]
      split
      · rename_i h0
        subst h0
        exact hc
      · exact hc
  have HNEWS := Lib.hid hnews
  have HS := Lib.hid hs
  clear hnews hs
  go_enter Try.func102, Try.ntmps102
  go_wp2_with (at_builtin; refine wpList_append_own _ rfl (.tmp 7) (.tmp 8) 22 rfl w.heap.size 3 i0 (.int .i64 0) 1 8 Try.underlying22 hi hz0 hz1 hz2 rfl (by decide) _ _ _ rfl (row_lit0 w) ⟨b0, off0, none⟩ xs.length ca (xs.map (Value.int .i64)) rfl (by simp) HNEWS.out (by simp [Value.oneCell']) (by unfold maxLen; omega) (by omega) (by simp) ?_)
  intro v0 w1 hown hgrow _
  have hB1 : Below w.heap.size w w1 := (below_one w (.cells #[] 3)).grown hgrow (by simp) (fun k hk => ((row_lit0 w).lt k hk).1)
  obtain ⟨g, cap, rfl, hg1, hg2⟩ := own_form hown h1
  clear hgrow HNEWS hbl0
  go_wp2
  go_loopw [4, 5, 6] (fun i _ _ wr => ∃ k : Nat, k ≤ xs.length ∧ i = .int .i64 k ∧ wr.ownsRow w.heap.size 3 1 (.slice (some ⟨g, 0, none⟩) xs.length cap) xs.length ((reachTo xs k).map (Value.int .i64)) ∧ Below w.heap.size w wr)
    (fun i _ _ _ => xs.length - (intOf i).toNat)
  case atStart => exact ⟨0, Nat.zero_le _, rfl, hown, hB1⟩
  case round =>
    clear hown hB1
    obtain ⟨k, hk, rfl, ho, hB⟩ := hrel
    obtain ⟨wo, rfl⟩ : ∃ wo : World, wo = wr := ⟨_, rfl⟩
    have hgo := (ho.lt g rfl).2
    by_cases hlt : k < xs.length
    · have hc := l2Comp_any (some ⟨g, 0, none⟩) (some ⟨b0, off0, none⟩) cap ca (reachTo xs k) xs wo (by rw [reachTo_len]; exact h4) h4 (reachTo16 HS.out k) (rd_own ho (reachTo_len _ _)) (hx.below hB)
      rw [reachTo_len] at hc
      have hi1 : ((k : Nat) : Int) < (xs.length : Int) := by omega
      go_wp2_with fail
      refine hc.mono ?_
      rintro e w2 ⟨vm, rfl, hm, hb2⟩
      obtain ⟨g2, cap2, rfl, hg3, hg4⟩ := own_form hm h1
      have ho2 := own_keep ho hb2 (fun q hq => by cases hq; exact hgo)
      have hB2 := hB.trans (hb2.mono hB.size)
      clear ho hc
      go_wp2
      go_loopw [6] (fun j wr => ∃ (k2 : Nat) (zs : List Int), k2 ≤ xs.length ∧ j = .int .i64 k2 ∧ Mix (reachTo xs k) (reachTo xs (k + 1)) k2 zs ∧ wr.ownsRow w.heap.size 3 1 (.slice (some ⟨g, 0, none⟩) xs.length cap) xs.length (zs.map (Value.int .i64)) ∧ wr.ownsRow wo.heap.size 3 1 (.slice (some ⟨g2, 0, none⟩) xs.length cap2) xs.length ((compL (reachTo xs k) xs).map (Value.int .i64)) ∧ Below w.heap.size w wr)
        (fun j _ => xs.length - (intOf j).toNat)
      case atStart => exact ⟨0, _, Nat.zero_le _, rfl, Mix.zero _ _, ho2, hm, hB2⟩
      case round =>
        clear ho2 hm hB2
        obtain ⟨j, zs, hj, rfl, hmix, ho, hm, hB2⟩ := hrel
        by_cases hlj : j < xs.length
        · have hzl : zs.length = xs.length := hmix.1.trans (reachTo_len _ _)
          have hc1 := ho.cellAt j (by omega)
          have hf1 := ho.frozenAt j
          have hc2 := hm.cellAt j (by omega)
          have hz1' : (zs.map (Value.int .i64))[j]? = some (.int .i64 (rowAt zs j)) := by rw [List.getElem?_map, rowAt_get (by omega)]; rfl
          have hz2' : ((compL (reachTo xs k) xs).map (Value.int .i64))[j]? = some (.int .i64 (rowAt (compL (reachTo xs k) xs) j)) := by rw [List.getElem?_map, rowAt_get (by rw [compL_len, reachTo_len]; exact hlj)]; rfl
          rw [hz1', hmix.at] at hc1
          rw [hz2'] at hc2
          have hstep := hmix.step (v := bits .or .i64 (rowAt (reachTo xs k) j) (rowAt (compL (reachTo xs k) xs) j)) (by rw [reachTo_len]; exact hlj) (l2Reach_at xs k j hlj)
          obtain ⟨u, hu⟩ : ∃ u, rowAt (reachTo xs k) j = u := ⟨_, rfl⟩
          obtain ⟨y, hy⟩ : ∃ y, rowAt (compL (reachTo xs k) xs) j = y := ⟨_, rfl⟩
          rw [hu] at hc1 hstep
          rw [hy] at hc2 hstep
          have hj1 : ((j : Nat) : Int) < (xs.length : Int) := by omega
          have HSTEP := Lib.hid hstep
          clear hmix hx hz1' hz2' hstep hu hy
          go_wp2
          go_region
          all_goals
            go_wp2
            go_roundw
            case rel =>
              refine ⟨j + 1, _, by omega, by go_num, HSTEP.out, ?_, (ownsRow_setCell_below hm.drew (by simp; omega) _), hB2.drew.setCell (by simp; omega) _⟩
              have h := (ho.stored j (.int .i64 (bits .or .i64 u y))).1
              rw [← List.map_set] at h
              exact h.drew
            case measure => simp [intOf]; omega
        · obtain rfl : j = xs.length := by omega
          have hfull : zs = reachTo xs (k + 1) := Mix.full (xs := reachTo xs k) (by rw [reachTo_len xs k]; exact hmix) (by rw [reachTo_len xs (k + 1), reachTo_len xs k])
          rw [hfull] at ho
          go_wp2
          go_roundw
          case rel => exact ⟨k + 1, by omega, by go_num, ho, hB2⟩
          case measure => simp [intOf]; omega
    · obtain rfl : k = xs.length := by omega
      go_wp2
      go_ret
      exact ⟨_, rfl, ho, hB⟩
end Go.Proofs.Ytgmjdkhegbdbjaa

namespace Go.Proofs.Ytgmjdkhegbdbjaa
open Go.RowKit

/-- whether a list relates two points -/
def hB (xs : List Int) (i j : Nat) : Bool := hasB (rowAt xs i) j

theorem b_or : ∀ z y : Fin 16, ∀ j : Fin 4, hasB (bits .or .i64 (z.val : Int) (y.val : Int)) j.val = (hasB (z.val : Int) j.val || hasB (y.val : Int) j.val) := by decide +kernel
theorem b_pt : ∀ i j : Fin 4, hasB (pt i.val) j.val = decide (j.val = i.val) := by decide +kernel
theorem b_bit : ∀ z : Fin 16, ∀ k : Fin 4, bitB (z.val : Int) k.val = hasB (z.val : Int) k.val := by decide +kernel
theorem b_zero : ∀ j : Fin 4, hasB 0 j.val = false := by decide +kernel
theorem b_ext : ∀ n : Fin 5, ∀ y z : Fin 16, y.val < 2 ^ n.val → z.val < 2 ^ n.val → (∀ j : Fin n.val, hasB (y.val : Int) j.val = hasB (z.val : Int) j.val) → y = z := by decide +kernel
theorem b_not : ∀ n : Fin 5, ∀ y : Fin 16, y.val < 2 ^ n.val → ∃ u : Fin 16, bits .andNot .i64 (2 ^ n.val - 1) (y.val : Int) = (u.val : Int) ∧ u.val < 2 ^ n.val ∧ ∀ j : Fin n.val, hasB (u.val : Int) j.val = !hasB (y.val : Int) j.val := by decide +kernel
theorem b_orlt : ∀ n : Fin 5, ∀ z y : Fin 16, z.val < 2 ^ n.val → y.val < 2 ^ n.val → ∃ u : Fin 16, bits .or .i64 (z.val : Int) (y.val : Int) = (u.val : Int) ∧ u.val < 2 ^ n.val := by decide +kernel
theorem b_ptlt : ∀ n : Fin 5, ∀ i : Fin n.val, ∃ u : Fin 16, pt i.val = (u.val : Int) ∧ u.val < 2 ^ n.val := by decide +kernel

/-- n rows, all of them sets of n points -/
structure Rl (n : Nat) (xs : List Int) : Prop where
  len : xs.length = n
  one : 1 ≤ n
  four : n ≤ 4
  row : ∀ i, ∃ y : Fin 16, rowAt xs i = (y.val : Int) ∧ y.val < 2 ^ n

theorem Rl.of {xs : List Int} (h : relIn xs = true) : Rl xs.length xs := by
  have h4 := relIn_len h
  refine ⟨rfl, h4.1, h4.2, fun i => ?_⟩
  by_cases hi : i < xs.length
  · obtain ⟨y, hy⟩ := row16 h i
    exact ⟨y, hy, row_lt h hi hy⟩
  · exact ⟨0, rowAt_out _ _ hi, Nat.two_pow_pos _⟩
theorem Rl.ok {n : Nat} {xs : List Int} (h : Rl n xs) : relIn xs = true := by
  unfold relIn
  rw [Bool.and_eq_true, List.all_eq_true]
  refine ⟨decide_eq_true (by rw [h.len]; exact ⟨h.one, h.four⟩), fun x hx => ?_⟩
  obtain ⟨i, hi, rfl⟩ := List.mem_iff_getElem.1 hx
  obtain ⟨y, hy, hlt⟩ := h.row i
  have e := rowAt_get hi
  rw [List.getElem?_eq_getElem hi, hy] at e
  have e := Option.some.inj e
  rw [e, h.len]
  unfold rowIn
  have h2 : ((2 ^ n : Nat) : Int) = (2 : Int) ^ n := by simp
  rw [Bool.and_eq_true]
  exact ⟨decide_eq_true (by omega), decide_eq_true (by omega)⟩
theorem Rl.ext {n : Nat} {xs ys : List Int} (h : Rl n xs) (k : Rl n ys) (e : ∀ i j, i < n → j < n → hB xs i j = hB ys i j) : xs = ys := by
  apply List.ext_getElem?
  intro i
  by_cases hi : i < n
  · rw [rowAt_get (by rw [h.len]; exact hi), rowAt_get (by rw [k.len]; exact hi)]
    obtain ⟨y, hy, hy2⟩ := h.row i
    obtain ⟨z, hz, hz2⟩ := k.row i
    have := b_ext ⟨n, by have := h.four; omega⟩ y z hy2 hz2 (fun j => by
      have := e i j.val hi j.isLt
      unfold hB at this
      rw [hy, hz] at this
      exact this)
    rw [hy, hz, this]
  · rw [List.getElem?_eq_none (by rw [h.len]; omega), List.getElem?_eq_none (by rw [k.len]; omega)]

/-- a list of n numbers told by its rows -/
theorem Rl.mk' {n : Nat} {xs : List Int} (hl : xs.length = n) (h1 : 1 ≤ n) (h4 : n ≤ 4) (hr : ∀ i, i < n → ∃ y : Fin 16, rowAt xs i = (y.val : Int) ∧ y.val < 2 ^ n) : Rl n xs :=
  ⟨hl, h1, h4, fun i => if hi : i < n then hr i hi else ⟨0, rowAt_out _ _ (by rw [hl]; exact hi), Nat.two_pow_pos _⟩⟩

/-! composition -/
theorem img_row {n : Nat} {ys : List Int} (h : Rl n ys) (z : Fin 16) : ∀ k, k ≤ n → ∃ u : Fin 16, imgTo ys (z.val : Int) k = (u.val : Int) ∧ u.val < 2 ^ n ∧
    ∀ j, j < n → (hasB (u.val : Int) j = true ↔ ∃ l, l < k ∧ hasB (z.val : Int) l = true ∧ hB ys l j = true)
  | 0, _ => ⟨0, rfl, Nat.two_pow_pos _, fun j hj => by
      have := b_zero ⟨j, by have := h.four; omega⟩
      rw [show ((0 : Fin 16).val : Int) = 0 from rfl, this]
      exact ⟨fun e => (by cases e), fun ⟨l, hl, _⟩ => absurd hl (by omega)⟩⟩
  | k + 1, hk => by
    obtain ⟨u, hu, hu2, hu3⟩ := img_row h z k (by omega)
    have h4 := h.four
    rw [imgTo_succ, b_bit z ⟨k, by omega⟩]
    by_cases hb : hasB (z.val : Int) k = true
    · rw [if_pos hb, hu]
      obtain ⟨y, hy, hy2⟩ := h.row k
      obtain ⟨v, hv, hv2⟩ := b_orlt ⟨n, by omega⟩ u y hu2 hy2
      rw [hy]
      refine ⟨v, hv, hv2, fun j hj => ?_⟩
      have hor := b_or u y ⟨j, by omega⟩
      rw [hv] at hor
      rw [hor, Bool.or_eq_true, hu3 j hj]
      constructor
      · rintro (⟨l, hl, h1, h2⟩ | h1)
        · exact ⟨l, by omega, h1, h2⟩
        · exact ⟨k, by omega, hb, by unfold hB; rw [hy]; exact h1⟩
      · rintro ⟨l, hl, h1, h2⟩
        by_cases e : l = k
        · subst e
          right
          unfold hB at h2
          rw [hy] at h2
          exact h2
        · exact .inl ⟨l, by omega, h1, h2⟩
    · rw [if_neg hb]
      refine ⟨u, hu, hu2, fun j hj => ?_⟩
      rw [hu3 j hj]
      constructor
      · rintro ⟨l, hl, h1, h2⟩
        exact ⟨l, by omega, h1, h2⟩
      · rintro ⟨l, hl, h1, h2⟩
        by_cases e : l = k
        · subst e
          exact absurd h1 hb
        · exact ⟨l, by omega, h1, h2⟩

theorem comp_row {n : Nat} {xs ys : List Int} (h : Rl n xs) (k : Rl n ys) (i : Nat) (hi : i < n) : ∃ u : Fin 16, rowAt (compL xs ys) i = (u.val : Int) ∧ u.val < 2 ^ n ∧
    ∀ j, j < n → (hasB (u.val : Int) j = true ↔ ∃ l, l < n ∧ hB xs i l = true ∧ hB ys l j = true) := by
  obtain ⟨z, hz, _⟩ := h.row i
  obtain ⟨u, hu, hu2, hu3⟩ := img_row k z n (Nat.le_refl _)
  refine ⟨u, ?_, hu2, fun j hj => ?_⟩
  · unfold compL
    rw [rowAt_map _ _ _ (by rw [h.len]; exact hi), hz, k.len, hu]
  · rw [hu3 j hj]
    unfold hB
    rw [hz]
theorem Rl.comp {n : Nat} {xs ys : List Int} (h : Rl n xs) (k : Rl n ys) : Rl n (compL xs ys) :=
  Rl.mk' (by rw [compL_len, h.len]) h.one h.four fun i hi => by
    obtain ⟨u, hu, hu2, _⟩ := comp_row h k i hi
    exact ⟨u, hu, hu2⟩
theorem hB_comp {n : Nat} {xs ys : List Int} (h : Rl n xs) (k : Rl n ys) (i j : Nat) (hi : i < n) (hj : j < n) :
    hB (compL xs ys) i j = true ↔ ∃ l, l < n ∧ hB xs i l = true ∧ hB ys l j = true := by
  obtain ⟨u, hu, _, hu3⟩ := comp_row h k i hi
  rw [← hu3 j hj]
  unfold hB
  rw [hu]

/-! others, the same, either -/
theorem other_row {n : Nat} {xs : List Int} (h : Rl n xs) (i : Nat) (hi : i < n) : ∃ u : Fin 16, rowAt (otherL xs) i = (u.val : Int) ∧ u.val < 2 ^ n ∧ ∀ j, j < n → hasB (u.val : Int) j = !hB xs i j := by
  obtain ⟨y, hy, hy2⟩ := h.row i
  obtain ⟨u, hu, hu2, hu3⟩ := b_not ⟨n, by have := h.four; omega⟩ y hy2
  refine ⟨u, ?_, hu2, fun j hj => ?_⟩
  · unfold otherL
    rw [rowAt_map _ _ _ (by rw [h.len]; exact hi), hy, h.len, hu]
  · unfold hB
    rw [hy]
    exact hu3 ⟨j, hj⟩
theorem Rl.other {n : Nat} {xs : List Int} (h : Rl n xs) : Rl n (otherL xs) :=
  Rl.mk' (by unfold otherL; rw [List.length_map, h.len]) h.one h.four fun i hi => by
    obtain ⟨u, hu, hu2, _⟩ := other_row h i hi
    exact ⟨u, hu, hu2⟩
theorem sameL_at (n i : Nat) (hi : i < n) : rowAt (sameL n) i = pt i := by
  unfold rowAt sameL
  rw [List.getD_eq_getElem?_getD, List.getElem?_map, List.getElem?_range hi]
  rfl
theorem Rl.same {n : Nat} (h1 : 1 ≤ n) (h4 : n ≤ 4) : Rl n (sameL n) :=
  Rl.mk' (sameL_len n) h1 h4 fun i hi => by
    rw [sameL_at n i hi]
    exact b_ptlt ⟨n, by omega⟩ ⟨i, hi⟩
theorem hB_same {n : Nat} (h4 : n ≤ 4) (i j : Nat) (hi : i < n) (hj : j < n) : hB (sameL n) i j = decide (j = i) := by
  unfold hB
  rw [sameL_at n i hi]
  exact b_pt ⟨i, by omega⟩ ⟨j, by omega⟩
theorem Rl.either {n : Nat} {xs ys : List Int} (h : Rl n xs) (k : Rl n ys) : Rl n (eitherL xs ys) := by
  have hl : (eitherL xs ys).length = n := by unfold eitherL zipI; rw [List.length_zipWith, h.len, k.len, Nat.min_self]
  refine Rl.mk' hl h.one h.four fun i hi => ?_
  obtain ⟨y, hy, hy2⟩ := h.row i
  obtain ⟨z, hz, hz2⟩ := k.row i
  obtain ⟨u, hu, hu2⟩ := b_orlt ⟨n, by have := h.four; omega⟩ y z hy2 hz2
  refine ⟨u, ?_, hu2⟩
  unfold eitherL
  rw [zipAt _ _ _ _ (by rw [h.len]; exact hi) (by rw [k.len]; exact hi), hy, hz, hu]
/-! turned, and composed by pairs -/
theorem zeros_at (n i : Nat) : rowAt (List.replicate n 0) i = 0 := by
  unfold rowAt
  rw [List.getD_eq_getElem?_getD, List.getElem?_replicate]
  split <;> rfl
/-- what a fold of row changes makes -/
theorem fold_rows {n : Nat} (h4 : n ≤ 4) (f : Fin n × Fin n → Fin n) (g : Fin n × Fin n → Int) (hg : ∀ p, ∃ y : Fin 16, g p = (y.val : Int) ∧ y.val < 2 ^ n) :
    ∀ (l : List (Fin n × Fin n)) (zs : List Int), zs.length = n → (∀ i, ∃ y : Fin 16, rowAt zs i = (y.val : Int) ∧ y.val < 2 ^ n) →
      (l.foldl (fun zs p => zs.set (f p).val (bits .or .i64 (rowAt zs (f p).val) (g p))) zs).length = n ∧
      (∀ i, ∃ y : Fin 16, rowAt (l.foldl (fun zs p => zs.set (f p).val (bits .or .i64 (rowAt zs (f p).val) (g p))) zs) i = (y.val : Int) ∧ y.val < 2 ^ n) ∧
      ∀ i j, i < n → j < n → (hasB (rowAt (l.foldl (fun zs p => zs.set (f p).val (bits .or .i64 (rowAt zs (f p).val) (g p))) zs) i) j = true ↔ (hasB (rowAt zs i) j = true ∨ ∃ p, p ∈ l ∧ (f p).val = i ∧ hasB (g p) j = true))
  | [], zs, hl, hz => ⟨hl, hz, fun i j _ _ => ⟨fun h => .inl h, fun h => h.elim id (fun ⟨p, hp, _⟩ => absurd hp (by simp))⟩⟩
  | q :: r, zs, hl, hz => by
    rw [List.foldl_cons]
    obtain ⟨y, hy, hy2⟩ := hz (f q).val
    obtain ⟨z, hz1, hz2⟩ := hg q
    obtain ⟨u, hu, hu2⟩ := b_orlt ⟨n, by omega⟩ y z hy2 hz2
    have hq : (f q).val < zs.length := by rw [hl]; exact (f q).isLt
    have hrow : ∀ i, rowAt (zs.set (f q).val (bits .or .i64 (rowAt zs (f q).val) (g q))) i = if i = (f q).val then (u.val : Int) else rowAt zs i := by
      intro i
      rw [rowAt_set _ _ _ _ hq, hy, hz1, hu]
    obtain ⟨a1, a2, a3⟩ := fold_rows h4 f g hg r (zs.set (f q).val (bits .or .i64 (rowAt zs (f q).val) (g q))) (by rw [List.length_set, hl]) (fun i => by
      rw [hrow i]
      by_cases e : i = (f q).val
      · rw [if_pos e]; exact ⟨u, rfl, hu2⟩
      · rw [if_neg e]; exact hz i)
    refine ⟨a1, a2, fun i j hi hj => ?_⟩
    rw [a3 i j hi hj, hrow i]
    have hor := b_or y z ⟨j, by omega⟩
    rw [hu] at hor
    by_cases e : i = (f q).val
    · rw [if_pos e, hor, Bool.or_eq_true, e, hy, ← hz1]
      constructor
      · rintro ((h | h) | ⟨p, hp, h1, h2⟩)
        · exact .inl h
        · exact .inr ⟨q, List.mem_cons_self, rfl, h⟩
        · exact .inr ⟨p, List.mem_cons_of_mem _ hp, h1, h2⟩
      · rintro (h | ⟨p, hp, h1, h2⟩)
        · exact .inl (.inl h)
        · rcases List.mem_cons.1 hp with rfl | hp
          · exact .inl (.inr h2)
          · exact .inr ⟨p, hp, h1, h2⟩
    · rw [if_neg e]
      constructor
      · rintro (h | ⟨p, hp, h1, h2⟩)
        · exact .inl h
        · exact .inr ⟨p, List.mem_cons_of_mem _ hp, h1, h2⟩
      · rintro (h | ⟨p, hp, h1, h2⟩)
        · exact .inl h
        · rcases List.mem_cons.1 hp with rfl | hp
          · exact absurd h1.symm e
          · exact .inr ⟨p, hp, h1, h2⟩
theorem zeros16 (n : Nat) : ∀ i, ∃ y : Fin 16, rowAt (List.replicate n 0) i = (y.val : Int) ∧ y.val < 2 ^ n := fun i => ⟨0, zeros_at n i, Nat.two_pow_pos _⟩

theorem Rl.turn {n : Nat} {xs : List Int} (h : Rl n xs) : Rl n (turnL xs) := by
  obtain rfl := h.len
  obtain ⟨a1, a2, _⟩ := fold_rows h.four (fun p => p.2) (fun p => pt p.1.val) (fun p => b_ptlt ⟨xs.length, by have := h.four; omega⟩ p.1) (pairsOf xs) (List.replicate xs.length 0) (List.length_replicate) (zeros16 _)
  exact ⟨a1, h.one, h.four, a2⟩
/-! residuals -/
def leftL (xs ys : List Int) : List Int := otherL (compL (turnL xs) (otherL ys))
def rightL (xs ys : List Int) : List Int := otherL (compL (otherL ys) (turnL xs))
theorem Rl.left {n : Nat} {xs ys : List Int} (h : Rl n xs) (k : Rl n ys) : Rl n (leftL xs ys) := (h.turn.comp k.other).other
theorem Rl.right {n : Nat} {xs ys : List Int} (h : Rl n xs) (k : Rl n ys) : Rl n (rightL xs ys) := (k.other.comp h.turn).other
end Go.Proofs.Ytgmjdkhegbdbjaa

namespace Go.Proofs.Ytgmjdkhegbdbjaa
open Go.RowKit

/-- the power k -/
def powL (xs : List Int) : Nat → List Int
  | 0 => sameL xs.length
  | k + 1 => compL (powL xs k) xs
theorem Rl.pow {xs : List Int} (h : Rl xs.length xs) : ∀ k, Rl xs.length (powL xs k)
  | 0 => Rl.same h.one h.four
  | k + 1 => (Rl.pow h k).comp h
theorem pow_shift {xs : List Int} {a b : Nat} (e : powL xs a = powL xs b) : ∀ t, powL xs (a + t) = powL xs (b + t)
  | 0 => e
  | t + 1 => by
    show compL (powL xs (a + t)) xs = compL (powL xs (b + t)) xs
    rw [pow_shift e t]

/-- the power m is the first that has come before, as the power a -/
structure Rep (xs : List Int) (m a : Nat) : Prop where
  lt : a < m
  eq : powL xs m = powL xs a
  new : ∀ i j, i < j → j < m → powL xs i ≠ powL xs j
/-- a power beyond the list, by what comes again and again -/
theorem Rep.at {xs : List Int} {m a : Nat} (h : Rep xs m a) : ∀ k, a ≤ k → powL xs k = powL xs (a + (k - a) % (m - a)) := by
  have hlt := h.lt
  intro k
  induction k using Nat.strongRecOn with
  | ind k ih =>
    intro hk
    by_cases hm : k - a < m - a
    · rw [Nat.mod_eq_of_lt hm]
      congr 1
      omega
    · have e1 : powL xs k = powL xs (k - (m - a)) := by
        have := pow_shift h.eq (k - m)
        rw [show m + (k - m) = k by omega, show a + (k - m) = k - (m - a) by omega] at this
        exact this
      rw [e1, ih (k - (m - a)) (by omega) (by omega)]
      congr 2
      rw [show k - (m - a) - a = k - a - (m - a) by omega]
      exact (Nat.mod_eq_sub_mod (by omega)).symm

/-! only so many relations -/
/-! what powers reach -/
/-- what the powers up to k have -/
def upL (xs : List Int) : Nat → List Int
  | 0 => sameL xs.length
  | k + 1 => eitherL (upL xs k) (compL (upL xs k) xs)
theorem Rl.up {xs : List Int} (h : Rl xs.length xs) : ∀ k, Rl xs.length (upL xs k)
  | 0 => Rl.same h.one h.four
  | k + 1 => (Rl.up h k).either ((Rl.up h k).comp h)
/-- the number of points of a set -/
def cntN (z : Nat) : Nat := z % 2 + z / 2 % 2 + z / 4 % 2 + z / 8 % 2
theorem cnt_grow : ∀ z y : Fin 16, (∀ j : Fin 4, hasB (z.val : Int) j.val = true → hasB (y.val : Int) j.val = true) → z = y ∨ cntN z.val < cntN y.val := by decide +kernel
theorem cnt_top : ∀ n : Fin 5, ∀ z : Fin 16, z.val < 2 ^ n.val → cntN z.val ≤ n.val := by decide +kernel
theorem cnt_pt : ∀ z : Fin 16, z ≠ 0 → 1 ≤ cntN z.val := by decide +kernel
/-- sets of n points that grow until they stay, the first one not being empty, stay from n less 1 on -/
theorem grow {n : Nat} (h4 : n ≤ 4) (g : Nat → Fin 16) (h0 : g 0 ≠ 0) (hlt : ∀ k, (g k).val < 2 ^ n) (hm : ∀ k, ∀ j : Fin 4, hasB ((g k).val : Int) j.val = true → hasB ((g (k + 1)).val : Int) j.val = true)
    (hst : ∀ k, g k = g (k + 1) → g (k + 1) = g (k + 2)) : ∀ t, g (n - 1 + t) = g (n - 1) := by
  have key : ∀ k, (∃ i, i < k ∧ g i = g (i + 1)) ∨ k + 1 ≤ cntN (g k).val := by
    intro k
    induction k with
    | zero => exact .inr (cnt_pt _ h0)
    | succ k ih =>
      rcases ih with ⟨i, hi, e⟩ | h
      · exact .inl ⟨i, by omega, e⟩
      · rcases cnt_grow (g k) (g (k + 1)) (hm k) with e | e
        · exact .inl ⟨k, by omega, e⟩
        · exact .inr (by omega)
  obtain ⟨i, hi, e⟩ : ∃ i, i < n ∧ g i = g (i + 1) := by
    rcases key n with h | h
    · exact h
    · have := cnt_top ⟨n, by omega⟩ (g n) (hlt n)
      dsimp only at this
      omega
  have hs : ∀ t, g (i + t) = g (i + t + 1) := by
    intro t
    induction t with
    | zero => exact e
    | succ t ih => exact hst _ ih
  have hs2 : ∀ t, g (i + t) = g i := by
    intro t
    induction t with
    | zero => rfl
    | succ t ih => exact (hs t).symm.trans ih
  intro t
  rw [show n - 1 + t = i + (n - 1 - i + t) by omega, hs2, show n - 1 = i + (n - 1 - i) by omega, hs2]

theorem Rl.reachTo {xs : List Int} (h : Rl xs.length xs) : ∀ k, Rl xs.length (reachTo xs k)
  | 0 => h
  | k + 1 => (Rl.reachTo h k).either ((Rl.reachTo h k).comp h)
theorem Rl.reach {xs : List Int} (h : Rl xs.length xs) : Rl xs.length (reachL xs) := h.reachTo _
/-- the powers from s to k, together -/
def fromL (xs : List Int) (s : Nat) : Nat → List Int
  | 0 => powL xs s
  | k + 1 => eitherL (fromL xs s k) (powL xs (s + k + 1))
theorem Rl.from {xs : List Int} (h : Rl xs.length xs) (s : Nat) : ∀ k, Rl xs.length (fromL xs s k)
  | 0 => h.pow s
  | k + 1 => (Rl.from h s k).either (h.pow _)
/-- the powers from 0 on, together -/
def starL (xs : List Int) : List Int := eitherL (reachL xs) (sameL xs.length)
theorem Rl.star {xs : List Int} (h : Rl xs.length xs) : Rl xs.length (starL xs) := h.reach.either (Rl.same h.one h.four)
/-! the first power that comes again, and distances, as told -/
end Go.Proofs.Ytgmjdkhegbdbjaa

namespace Go.Proofs.Ytgmjdkhegbdbjaa
open Go.RowKit

/-- a power of powers -/
theorem pow_add {xs : List Int} (h : Rl xs.length xs) (i j : Nat) (hi : i < xs.length) (hj : j < xs.length) (s t l : Nat) (hl : l < xs.length) (e1 : hB (powL xs s) i l = true) (e2 : hB (powL xs t) l j = true) : hB (powL xs (s + t)) i j = true := by
  induction t generalizing j with
  | zero =>
    have h2 : hB (sameL xs.length) l j = true := e2
    rw [hB_same h.four l j hl hj] at h2
    have := of_decide_eq_true h2
    subst this
    exact e1
  | succ t ih =>
    obtain ⟨m, hm, f1, f2⟩ := (hB_comp (h.pow t) h l j hl hj).1 e2
    exact (hB_comp (h.pow (s + t)) h i j hi hj).2 ⟨m, hm, ih m hm f1, f2⟩
end Go.Proofs.Ytgmjdkhegbdbjaa
