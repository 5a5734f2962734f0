/-
  The sizes of the greatest chain and antichain: greatestTogether and OrderSizes of the program, OrderSizes of the model; for lists of at most 2^20 numbers.
-/
import Derived.Test.YtillmjnkhkcedaaOC
import Derived.Test.YtillmjnkhkcedaaHB
import Derived.Deep.RegionHeld
namespace Go.Proofs.Ytillmjnkhkcedaa
open Go.RowKit

/-- the greatest number of points among the first k sets, of those of which each point is related to all -/
def togTo (xs : List Int) : Nat → Int
  | 0 => 0
  | k + 1 => if partB (k : Int) (relAll xs (k : Int)) then (if togTo xs k < cnt (k : Int) then cnt (k : Int) else togTo xs k) else togTo xs k
theorem tog_succ (xs : List Int) (k : Nat) : togTo xs (k + 1) = if partB (k : Int) (relAll xs (k : Int)) then (if togTo xs k < cnt (k : Int) then cnt (k : Int) else togTo xs k) else togTo xs k := rfl
theorem tog_le (xs : List Int) : ∀ k, 0 ≤ togTo xs k ∧ togTo xs k ≤ 4
  | 0 => ⟨Int.le_refl _, by show (0 : Int) ≤ 4; omega⟩
  | k + 1 => by
    have h := tog_le xs k
    have hc := cnt_le (k : Int)
    rw [tog_succ]
    split
    · split
      · exact hc
      · exact h
    · exact h

set_option maxHeartbeats 2000000 in
theorem greatest_any {xs : List Int} (R : Rl xs.length xs) (w : World) :
    Calls Try.prog 61 #[relOf xs] w fun e w' => e = .returned (.int .i64 (togTo xs (2 ^ xs.length))) ∧ Below w.heap.size w w' := by
  have h1 := R.one
  have h4 := R.four
  have hm := pow_le16 h4
  have hm0 : 1 ≤ 2 ^ xs.length := Nat.one_le_two_pow
  have HR := Lib.hid (fun z wr => relatedToAll_any R z wr)
  have HA := Lib.hid (fun wr => allPoints_any xs.length h1 h4 wr)
  obtain ⟨m, hm2⟩ : ∃ m, 2 ^ xs.length = m := ⟨_, rfl⟩
  rw [hm2] at HA hm hm0 ⊢
  have x0 := RelAt.new w xs
  have B0 := below_one w (.cells #[.int .i64 xs.length, .int .i64 (rowAt xs 0), .int .i64 (rowAt xs 1), .int .i64 (rowAt xs 2), .int .i64 (rowAt xs 3)] 44)
  have p0 := x0.cell0
  clear R hm2 h1 h4
  go_enter Try.func61, Try.ntmps61
  go_wp2_with (go_at_call 75; refine (HA.out _).mono ?_; rintro e w' ⟨rfl, rfl⟩)
  go_loopw [3, 9, 4] (fun g i _ wr => ∃ k : Nat, k ≤ m ∧ i = .int .i64 k ∧ g = .int .i64 (togTo xs k) ∧ RelAt wr w.heap.size xs ∧ Below w.heap.size w wr)
    (fun _ i _ _ => m - (intOf i).toNat)
  case atStart => exact ⟨0, Nat.zero_le _, rfl, rfl, x0, B0⟩
  case round =>
    obtain ⟨k, hk, rfl, rfl, hr, hB⟩ := hrel
    clear x0 B0 p0
    by_cases hlt : k < m
    · have hi1 : ((k : Nat) : Int) < ((m - 1 : Nat) : Int) + 1 := by omega
      have hs1 := tog_le xs k
      have hc1 := cnt_le (k : Int)
      have hsz := fun wr => setSize_any ⟨k, by omega⟩ wr
      have HSZ := Lib.hid hsz
      have HST := Lib.hid (tog_succ xs k)
      clear hsz
      obtain ⟨s, hs⟩ : ∃ s, relAll xs (k : Int) = s := ⟨_, rfl⟩
      have hrr := HR.out (k : Int)
      rw [hs] at hrr HST
      have HRR := Lib.hid hrr
      clear hrr hs
      obtain ⟨g, hg⟩ : ∃ g, togTo xs k = g := ⟨_, rfl⟩
      obtain ⟨c, hc⟩ : ∃ c, cnt (k : Int) = c := ⟨_, rfl⟩
      dsimp only at HSZ
      rw [hg] at HST hs1 ⊢
      rw [hc] at HST hc1 HSZ
      clear hg hc
      have p0 := hr.cell0
      have p1 := hr.cell1
      have p2 := hr.cell2
      have p3 := hr.cell3
      have p4 := hr.cell4
      go_wp2_with fail
      refine (HRR.out _).mono ?_
      rintro e w1 ⟨rfl, hb1⟩
      have hr1 := hr.below hb1 hr.lt
      have B1 := hB.trans (hb1.mono hB.size)
      clear hr hB hb1 p0 p1 p2 p3 p4
      cases hp : partB (k : Int) s with
      | false =>
        have hst := HST.out
        rw [hp] at hst
        have HST := Lib.hid hst
        clear hst
        go_wp2_with (go_at_call 78; refine (isPartOf_any _ _ _).mono ?_; rintro e w2 ⟨rfl, rfl⟩)
        go_roundw
        case rel => exact ⟨k + 1, by omega, by go_num, by rw [HST.out]; rfl, hr1, B1⟩
        case measure => simp [intOf]; omega
      | true =>
        have hst := HST.out
        rw [hp, if_pos rfl] at hst
        by_cases hgc : g < c
        · rw [if_pos hgc] at hst
          have HST := Lib.hid hst
          clear hst
          go_wp2_with (first
            | (go_at_call 78; refine (isPartOf_any _ _ _).mono ?_; rintro e w2 ⟨rfl, rfl⟩)
            | (go_at_call 85; refine (HSZ.out _).mono ?_; rintro e w2 ⟨rfl, rfl⟩))
          go_roundw
          case rel => exact ⟨k + 1, by omega, by go_num, by rw [HST.out], hr1, B1⟩
          case measure => simp [intOf]; omega
        · rw [if_neg hgc] at hst
          have HST := Lib.hid hst
          clear hst
          go_wp2_with (first
            | (go_at_call 78; refine (isPartOf_any _ _ _).mono ?_; rintro e w2 ⟨rfl, rfl⟩)
            | (go_at_call 85; refine (HSZ.out _).mono ?_; rintro e w2 ⟨rfl, rfl⟩))
          go_roundw
          case rel => exact ⟨k + 1, by omega, by go_num, by rw [HST.out], hr1, B1⟩
          case measure => simp [intOf]; omega
    · have hi1 : ¬ (((k : Nat) : Int) < ((m - 1 : Nat) : Int) + 1) := by omega
      go_wp2
      go_ret
      obtain rfl : k = m := by omega
      exact ⟨rfl, hB⟩

/-! the program's OrderSizes -/
def lnkL (xs : List Int) : List Int := eitherL xs (turnL xs)
def aptL (xs : List Int) : List Int := otherL (offI (lnkL xs))
theorem Rl.lnk {n : Nat} {xs : List Int} (h : Rl n xs) : Rl n (lnkL xs) := h.either h.turn
theorem Rl.apt {n : Nat} {xs : List Int} (h : Rl n xs) : Rl n (aptL xs) := h.lnk.off.other
def chainN (xs : List Int) : Int := ifN (ordB xs) (togTo (lnkL xs) (2 ^ xs.length))
def antiN (xs : List Int) : Int := ifN (ordB xs) (togTo (aptL xs) (2 ^ xs.length))

set_option maxRecDepth 100000 in
set_option maxHeartbeats 8000000 in
theorem implSizes_walk (xs t l d a : List Int) (c1 c2 : Int) (ao : Option Addr) (ca : Nat) (w : World)
    (h0 : Calls Try.prog 38 #[.slice ao xs.length ca] w fun e w' => e = .returned (.tuple #[relOf xs, .bool true]) ∧ Below w.heap.size w w')
    (h1 : ∀ w, Calls Try.prog 58 #[relOf xs] w fun e w' => e = .returned (relOf t) ∧ Below w.heap.size w w')
    (h2 : ∀ w, Calls Try.prog 57 #[relOf xs, relOf t] w fun e w' => e = .returned (relOf l) ∧ Below w.heap.size w w')
    (h3 : ∀ w, Calls Try.prog 59 #[relOf l] w fun e w' => e = .returned (relOf d) ∧ Below w.heap.size w w')
    (h4 : ∀ w, Calls Try.prog 60 #[relOf d] w fun e w' => e = .returned (relOf a) ∧ Below w.heap.size w w')
    (h5 : ∀ w, Calls Try.prog 61 #[relOf l] w fun e w' => e = .returned (.int .i64 c1) ∧ Below w.heap.size w w')
    (h6 : ∀ w, Calls Try.prog 61 #[relOf a] w fun e w' => e = .returned (.int .i64 c2) ∧ Below w.heap.size w w') :
    Calls Try.prog 32 #[.slice ao xs.length ca] w fun e w' => e = .returned (.tuple #[.int .i64 c1, .int .i64 c2, .bool true]) ∧ Below w.heap.size w w' := by
  have H := Lib.hid (And.intro h0 (And.intro h1 (And.intro h2 (And.intro h3 (And.intro h4 (And.intro h5 h6))))))
  clear h0 h1 h2 h3 h4 h5 h6
  go_enter Try.func32, Try.ntmps32
  go_wp2_with fail
  refine H.out.1.mono ?_
  rintro e w1 ⟨rfl, hb⟩
  have x1 := OrdAt.new w1 xs
  have B1 := hb.alloc hb.size (.cells #[.int .i64 xs.length, .int .i64 (rowAt xs 0), .int .i64 (rowAt xs 1), .int .i64 (rowAt xs 2), .int .i64 (rowAt xs 3)] 46)
  clear hb
  go_wp2
  obtain ⟨W0, hW0⟩ : ∃ W0, w1.alloc (.cells #[.int .i64 xs.length, .int .i64 (rowAt xs 0), .int .i64 (rowAt xs 1), .int .i64 (rowAt xs 2), .int .i64 (rowAt xs 3)] 46) = W0 := ⟨_, rfl⟩
  rw [hW0] at x1 B1 ⊢
  clear hW0
  have p0 := x1.cell0
  have p1 := x1.cell1
  have p2 := x1.cell2
  have p3 := x1.cell3
  have p4 := x1.cell4
  have x := x1.drew
  have B := B1.drew
  clear x1 B1
  have hwW0 : w.heap.size ≤ W0.heap.size := B.size
  have nq0 : w1.heap.size ≠ W0.heap.size := Nat.ne_of_lt (show w1.heap.size < W0.heap.size from x.lt)
  have mq0 : W0.heap.size ≠ w1.heap.size := fun e => nq0 e.symm
  have bnq0 : (w1.heap.size == W0.heap.size) = false := beq_eq_false_iff_ne.2 nq0
  have bmq0 : (W0.heap.size == w1.heap.size) = false := beq_eq_false_iff_ne.2 mq0
  go_cut [7] from 16 to 21 (fun q W => ∃ b : Nat, q = .pointer (some ⟨b, 0, none⟩) ∧ RelAt W b l ∧ Below w.heap.size w W)
  case first =>
    go_region_held (fun w' => w'.cell? ⟨w1.heap.size, 0, none⟩ = some (.int .i64 xs.length) ∧ w'.cell? ⟨w1.heap.size, 1, none⟩ = some (.int .i64 (rowAt xs 0)) ∧ w'.cell? ⟨w1.heap.size, 2, none⟩ = some (.int .i64 (rowAt xs 1)) ∧ w'.cell? ⟨w1.heap.size, 3, none⟩ = some (.int .i64 (rowAt xs 2)) ∧ w'.cell? ⟨w1.heap.size, 4, none⟩ = some (.int .i64 (rowAt xs 3))) (go_keep) (first
      | (go_at_call 58; refine (H.out.2.1 _).mono ?_; rintro e w2 ⟨rfl, hb⟩; (first | (replace x := x.below hb x.lt; replace B := B.trans (hb.mono B.size)) | (have z : RelAt w2 W0.heap.size [] := (rel_zero W0.drew).below hb (by simp); replace x := (x.alloc (.cells #[.int .i64 0, .int .i64 0, .int .i64 0, .int .i64 0, .int .i64 0] 44)).below hb (x.alloc (.cells #[.int .i64 0, .int .i64 0, .int .i64 0, .int .i64 0, .int .i64 0] 44)).lt; replace B := (B.alloc B.size (.cells #[.int .i64 0, .int .i64 0, .int .i64 0, .int .i64 0, .int .i64 0] 44)).trans (hb.mono (by have := B.size; simp at this ⊢; omega)))); have hw2 : w.heap.size ≤ w2.heap.size := B.size; have nq2 : w1.heap.size ≠ w2.heap.size := Nat.ne_of_lt (show w1.heap.size < w2.heap.size from x.lt); have mq2 : w2.heap.size ≠ w1.heap.size := fun e => nq2 e.symm; have bnq2 : (w1.heap.size == w2.heap.size) = false := beq_eq_false_iff_ne.2 nq2; have bmq2 : (w2.heap.size == w1.heap.size) = false := beq_eq_false_iff_ne.2 mq2; replace p0 := x.cell0; replace p1 := x.cell1; replace p2 := x.cell2; replace p3 := x.cell3; replace p4 := x.cell4; clear hb)
      | (go_at_call 57; refine (H.out.2.2.1 _).mono ?_; rintro e w3 ⟨rfl, hb⟩; (first | (replace z := z.below hb z.lt; replace x := x.below hb x.lt; replace B := B.trans (hb.mono B.size); have f0 := z.free 0; have f1 := z.free 1; have f2 := z.free 2; have f3 := z.free 3; have f4 := z.free 4; have u0 := z.cell0; have u1 := z.cell1; have u2 := z.cell2; have u3 := z.cell3; have u4 := z.cell4) | (replace x := x.below hb x.lt; replace B := B.trans (hb.mono B.size)) | (have z := (rel_zero w2).below hb (by simp); replace x := (x.alloc (.cells #[.int .i64 0, .int .i64 0, .int .i64 0, .int .i64 0, .int .i64 0] 44)).below hb (x.alloc (.cells #[.int .i64 0, .int .i64 0, .int .i64 0, .int .i64 0, .int .i64 0] 44)).lt; replace B := (B.alloc B.size (.cells #[.int .i64 0, .int .i64 0, .int .i64 0, .int .i64 0, .int .i64 0] 44)).trans (hb.mono (by have := B.size; simp at this ⊢; omega)); have f0 := z.free 0; have f1 := z.free 1; have f2 := z.free 2; have f3 := z.free 3; have f4 := z.free 4; have u0 := z.cell0; have u1 := z.cell1; have u2 := z.cell2; have u3 := z.cell3; have u4 := z.cell4)); replace p0 := x.cell0; replace p1 := x.cell1; replace p2 := x.cell2; replace p3 := x.cell3; replace p4 := x.cell4; clear hb))
    all_goals
      go_wp2
      go_meet
    case rel => exact ⟨w3.heap.size, rfl, RelAt.new w3 l, B.alloc B.size _⟩
    case rel =>
      have bb := fun (W : World) (j : Nat) (v : Value) (h : Below w.heap.size w W) => h.setCell (p := ⟨w2.heap.size, j, none⟩) hw2 v
      exact ⟨w2.heap.size, rfl, z.put l, bb _ _ _ (bb _ _ _ (bb _ _ _ (bb _ _ _ (bb _ _ _ B))))⟩
    case rel =>
      have bb := fun (W : World) (j : Nat) (v : Value) (h : Below w.heap.size w W) => h.setCell (p := ⟨W0.heap.size, j, none⟩) hwW0 v
      exact ⟨W0.heap.size, rfl, z.put l, bb _ _ _ (bb _ _ _ (bb _ _ _ (bb _ _ _ (bb _ _ _ B))))⟩
  case rest =>
    clear x B p0 p1 p2 p3 p4 hwW0 nq0 mq0 bnq0 bmq0
    obtain ⟨b, rfl, hl, hB⟩ := hcut
    have p0 := hl.cell0
    have p1 := hl.cell1
    have p2 := hl.cell2
    have p3 := hl.cell3
    have p4 := hl.cell4
    go_wp2_with fail
    refine (H.out.2.2.2.1 _).mono ?_
    rintro e w4 ⟨rfl, hb4⟩
    have hl4 := hl.below hb4 hl.lt
    have B4 := hB.trans (hb4.mono hB.size)
    clear hb4 hB hl p0 p1 p2 p3 p4
    go_wp2_with fail
    refine (H.out.2.2.2.2.1 _).mono ?_
    rintro e w5 ⟨rfl, hb5⟩
    have hl5 := (hl4.below hb5 hl4.lt).alloc (.cells #[.int .i64 a.length, .int .i64 (rowAt a 0), .int .i64 (rowAt a 1), .int .i64 (rowAt a 2), .int .i64 (rowAt a 3)] 44)
    have ha5 := RelAt.new w5 a
    have B5 := (B4.trans (hb5.mono B4.size)).alloc (Nat.le_trans B4.size hb5.size) (.cells #[.int .i64 a.length, .int .i64 (rowAt a 0), .int .i64 (rowAt a 1), .int .i64 (rowAt a 2), .int .i64 (rowAt a 3)] 44)
    clear hb5 B4 hl4
    go_wp2
    obtain ⟨W1, hW1⟩ : ∃ W1, w5.alloc (.cells #[.int .i64 a.length, .int .i64 (rowAt a 0), .int .i64 (rowAt a 1), .int .i64 (rowAt a 2), .int .i64 (rowAt a 3)] 44) = W1 := ⟨_, rfl⟩
    rw [hW1] at hl5 ha5 B5 ⊢
    clear hW1
    have x := hl5.drew
    have y := ha5.drew
    have B := B5.drew
    have p0 := hl5.cell0
    have p1 := hl5.cell1
    have p2 := hl5.cell2
    have p3 := hl5.cell3
    have p4 := hl5.cell4
    have q0 := ha5.cell0
    have q1 := ha5.cell1
    have q2 := ha5.cell2
    have q3 := ha5.cell3
    have q4 := ha5.cell4
    clear hl5 ha5 B5
    go_region_held (fun w' => w'.cell? ⟨b, 0, none⟩ = some (.int .i64 l.length) ∧ w'.cell? ⟨b, 1, none⟩ = some (.int .i64 (rowAt l 0)) ∧ w'.cell? ⟨b, 2, none⟩ = some (.int .i64 (rowAt l 1)) ∧ w'.cell? ⟨b, 3, none⟩ = some (.int .i64 (rowAt l 2)) ∧ w'.cell? ⟨b, 4, none⟩ = some (.int .i64 (rowAt l 3)) ∧ w'.cell? ⟨w5.heap.size, 0, none⟩ = some (.int .i64 a.length) ∧ w'.cell? ⟨w5.heap.size, 1, none⟩ = some (.int .i64 (rowAt a 0)) ∧ w'.cell? ⟨w5.heap.size, 2, none⟩ = some (.int .i64 (rowAt a 1)) ∧ w'.cell? ⟨w5.heap.size, 3, none⟩ = some (.int .i64 (rowAt a 2)) ∧ w'.cell? ⟨w5.heap.size, 4, none⟩ = some (.int .i64 (rowAt a 3))) (go_keep) (first
      | ((with_reducible refine (H.out.2.2.2.2.2.1 _).mono ?_); rintro e w6 ⟨rfl, hb⟩; replace x := x.below hb x.lt; replace y := y.below hb y.lt; replace B := B.trans (hb.mono B.size); replace p0 := x.cell0; replace p1 := x.cell1; replace p2 := x.cell2; replace p3 := x.cell3; replace p4 := x.cell4; replace q0 := y.cell0; replace q1 := y.cell1; replace q2 := y.cell2; replace q3 := y.cell3; replace q4 := y.cell4; clear hb)
      | ((with_reducible refine (H.out.2.2.2.2.2.2 _).mono ?_); rintro e w7 ⟨rfl, hb⟩; replace x := x.below hb x.lt; replace y := y.below hb y.lt; replace B := B.trans (hb.mono B.size); replace p0 := x.cell0; replace p1 := x.cell1; replace p2 := x.cell2; replace p3 := x.cell3; replace p4 := x.cell4; replace q0 := y.cell0; replace q1 := y.cell1; replace q2 := y.cell2; replace q3 := y.cell3; replace q4 := y.cell4; clear hb))
    all_goals
      go_wp2
      go_ret3
      exact ⟨rfl, B⟩

theorem implOrderSizes_any (ao : Option Addr) (ca : Nat) (xs : List Int) (w : World) (hl : xs.length ≤ 1048576) (hx : Rd w ao xs) :
    Calls Try.prog 32 #[.slice ao xs.length ca] w fun e w' => e = .returned (.tuple #[.int .i64 (chainN xs), .int .i64 (antiN xs), .bool (ordB xs)]) ∧ Below w.heap.size w w' := by
  unfold chainN antiN
  cases hp : ordB xs with
  | false =>
    have HC := Lib.hid (orderFrom_no ao ca xs w hl hp hx)
    clear hp hx
    go_enter Try.func32, Try.ntmps32
    go_wp2_with fail
    refine HC.out.mono ?_
    rintro e w1 ⟨rfl, hb⟩
    go_wp2
    go_ret3
    exact ⟨rfl, hb.alloc hb.size _⟩
  | true =>
    have R := ord_rl hp
    have L := R.lnk
    have P := R.apt
    have g1 := fun wr => greatest_any (L.len.symm ▸ L) wr
    have g2 := fun wr => greatest_any (P.len.symm ▸ P) wr
    rw [L.len] at g1
    rw [P.len] at g2
    exact implSizes_walk xs (turnL xs) (lnkL xs) (offI (lnkL xs)) (aptL xs) _ _ ao ca w (orderFrom_yes ao ca xs w hp hx)
      (fun w => turnedR R w) (fun w => eitherR' R R.turn w) (fun w => offR L w) (fun w => otherR L.off w) g1 g2
end Go.Proofs.Ytillmjnkhkcedaa
