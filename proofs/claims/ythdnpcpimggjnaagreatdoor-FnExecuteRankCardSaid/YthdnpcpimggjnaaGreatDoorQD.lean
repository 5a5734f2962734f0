/-
  Full rectangles: the model's RectAll; lists of pairs of numbers.
-/
import Derived.Test.YthdnpcpimggjnaaGreatDoorHB
import Derived.Test.YthdnpcpimggjnaaGreatDoorEE
import Derived.Deep.RegionHeld3
import Derived.Test.YthdnpcpimggjnaaGreatDoorEB
import Derived.BigQuiet
import Derived.Test.YthdnpcpimggjnaaGreatDoorAA
namespace Go.Proofs.YthdnpcpimggjnaaGreatDoor
open Go.RowKit

/-- what the first k points of a set are all related to -/
def relTo (xs : List Int) (z : Int) : Nat → Int
  | 0 => ((2 ^ xs.length - 1 : Nat) : Int)
  | k + 1 => if hasB z k then bits .and .i64 (relTo xs z k) (rowAt xs k) else relTo xs z k
/-- what all points of a set are related to -/
def relAll (xs : List Int) (z : Int) : Int := relTo xs z xs.length

theorem b_top : ∀ n : Fin 5, ∃ u : Fin 16, ((2 ^ n.val - 1 : Nat) : Int) = (u.val : Int) ∧ u.val < 2 ^ n.val ∧ ∀ j : Fin n.val, hasB (u.val : Int) j.val = true := by decide +kernel
theorem rel_row {n : Nat} {xs : List Int} (h : Rl n xs) (z : Int) : ∀ k, k ≤ n → ∃ u : Fin 16, relTo xs z k = (u.val : Int) ∧ u.val < 2 ^ n ∧
    ∀ j, j < n → (hasB (u.val : Int) j = true ↔ ∀ i, i < k → hasB z i = true → hB xs i j = true)
  | 0, _ => by
    obtain ⟨u, e, hlt, hj⟩ := b_top ⟨n, by have := h.four; omega⟩
    refine ⟨u, by rw [show relTo xs z 0 = ((2 ^ xs.length - 1 : Nat) : Int) from rfl, h.len]; exact e, hlt, fun j hjn => ?_⟩
    rw [hj ⟨j, hjn⟩]
    exact ⟨fun _ i hi => by omega, fun _ => rfl⟩
  | k + 1, hk => by
    obtain ⟨u, e, hlt, hj⟩ := rel_row h z k (by omega)
    cases hz : hasB z k with
    | false =>
      refine ⟨u, by rw [show relTo xs z (k + 1) = if hasB z k then bits .and .i64 (relTo xs z k) (rowAt xs k) else relTo xs z k from rfl, hz]; exact e, hlt, fun j hjn => ?_⟩
      rw [hj j hjn]
      constructor
      · intro g i hi hzi
        by_cases e : i = k
        · subst e
          rw [hz] at hzi
          cases hzi
        · exact g i (by omega) hzi
      · intro g i hi hzi
        exact g i (by omega) hzi
    | true =>
      obtain ⟨y, hy, hyl⟩ := h.row k
      obtain ⟨v, hv, hvl⟩ := b_andlt ⟨n, by have := h.four; omega⟩ u y hlt hyl
      refine ⟨v, ?_, hvl, fun j hjn => ?_⟩
      · rw [show relTo xs z (k + 1) = if hasB z k then bits .and .i64 (relTo xs z k) (rowAt xs k) else relTo xs z k from rfl, hz, if_pos rfl, e, hy]
        exact hv
      · have hb := b_and u y ⟨j, by have := h.four; omega⟩
        rw [hv] at hb
        rw [hb, Bool.and_eq_true, hj j hjn]
        have hyk : hasB (y.val : Int) j = hB xs k j := by unfold hB; rw [hy]
        rw [hyk]
        constructor
        · rintro ⟨g, g2⟩ i hi hzi
          by_cases e : i = k
          · subst e
            exact g2
          · exact g i (by omega) hzi
        · intro g
          exact ⟨fun i hi hzi => g i (by omega) hzi, g k (by omega) hz⟩
theorem relAll_row {n : Nat} {xs : List Int} (h : Rl n xs) (z : Int) : ∃ u : Fin 16, relAll xs z = (u.val : Int) ∧ u.val < 2 ^ n ∧
    ∀ j, j < n → (hasB (u.val : Int) j = true ↔ ∀ i, i < n → hasB z i = true → hB xs i j = true) := by
  have := rel_row h z n (Nat.le_refl _)
  unfold relAll
  rw [h.len]
  exact this

set_option maxHeartbeats 1000000 in
theorem relatedToAll_any {xs : List Int} (R : Rl xs.length xs) (z : Int) (w : World) :
    Calls Tryz.prog 170 #[relOf xs, .int .i64 z] w fun e w' => e = .returned (.int .i64 (relAll xs z)) ∧ Below w.heap.size w w' := by
  have h1 := R.one
  have h4 := R.four
  have x0 := RelAt.new w xs
  have B0 := below_one w (.cells #[.int .i64 xs.length, .int .i64 (rowAt xs 0), .int .i64 (rowAt xs 1), .int .i64 (rowAt xs 2), .int .i64 (rowAt xs 3)] 36)
  have p0 := x0.cell0
  clear R
  go_enter Tryz.func170, Tryz.ntmps170
  go_wp2_with (go_at_call 106; refine (allPoints_any _ h1 h4 _).mono ?_; rintro e w' ⟨rfl, rfl⟩)
  go_loopw [5, 12, 6] (fun f i _ wr => ∃ k : Nat, k ≤ xs.length ∧ i = .int .i64 k ∧ f = .int .i64 (relTo xs z k) ∧ RelAt wr w.heap.size xs ∧ Below w.heap.size w wr)
    (fun _ i _ _ => xs.length - (intOf i).toNat)
  case atStart => exact ⟨0, Nat.zero_le _, rfl, rfl, x0, B0⟩
  case round =>
    obtain ⟨k, hk, rfl, rfl, hr, hB⟩ := hrel
    clear x0 B0 p0
    by_cases hlt : k < xs.length
    · have hc1 := hr.row k (by omega)
      have hq : (k : Int) < 4 := by omega
      cases hz : hasB z k with
      | false =>
        have hst : relTo xs z (k + 1) = relTo xs z k := by rw [show relTo xs z (k + 1) = if hasB z k then bits .and .i64 (relTo xs z k) (rowAt xs k) else relTo xs z k from rfl, hz]; rfl
        have HST := Lib.hid hst
        clear hst
        go_wp2_with (go_at_call 236; refine (has_any _ k (by omega) _).mono ?_; rintro e w2 ⟨rfl, rfl⟩)
        go_roundw
        case rel => exact ⟨k + 1, by omega, by go_num, by rw [HST.out], hr, hB⟩
        case measure => simp [intOf]; omega
      | true =>
        have hst : relTo xs z (k + 1) = bits .and .i64 (relTo xs z k) (rowAt xs k) := by rw [show relTo xs z (k + 1) = if hasB z k then bits .and .i64 (relTo xs z k) (rowAt xs k) else relTo xs z k from rfl, hz]; rfl
        have HST := Lib.hid hst
        clear hst
        go_wp2_with (go_at_call 236; refine (has_any _ k (by omega) _).mono ?_; rintro e w2 ⟨rfl, rfl⟩)
        go_roundw
        case rel => exact ⟨k + 1, by omega, by go_num, by rw [HST.out], hr, hB⟩
        case measure => simp [intOf]; omega
    · go_wp2
      go_ret
      obtain rfl : k = xs.length := by omega
      exact ⟨rfl, hB⟩

theorem rowA {xs : List Int} {k : Nat} {x : Int} (h : xs[k]? = some x) : x = rowAt xs k := by
  unfold rowAt
  rw [List.getD_eq_getElem?_getD, h]
  rfl
theorem relTo_step (xs : List Int) (z : Int) (k : Nat) : relTo xs z (k + 1) = if hasB z k then bits .and .i64 (relTo xs z k) (rowAt xs k) else relTo xs z k := rfl
theorem top_wrap (n : Nat) (h1 : 1 ≤ n) (h4 : n ≤ 4) : wrap64 (wrap64 (2 ^ n) - 1) = ((2 ^ n - 1 : Nat) : Int) := by
  rcases (by omega : n = 1 ∨ n = 2 ∨ n = 3 ∨ n = 4) with rfl | rfl | rfl | rfl <;> decide +kernel
theorem row_fin {n : Nat} {z : Int} (h4 : n ≤ 4) (h : rowIn n z = true) : ∃ u : Fin 16, z = (u.val : Int) ∧ u.val < 2 ^ n := by
  unfold rowIn at h
  rw [Bool.and_eq_true] at h
  have h1 := of_decide_eq_true h.1
  have h2 := of_decide_eq_true h.2
  have h3 : (2 : Int) ^ n ≤ 16 := by
    rcases (by omega : n = 0 ∨ n = 1 ∨ n = 2 ∨ n = 3 ∨ n = 4) with rfl | rfl | rfl | rfl | rfl <;> decide
  refine ⟨⟨z.toNat, by omega⟩, by show z = ((z.toNat : Nat) : Int); omega, ?_⟩
  show z.toNat < 2 ^ n
  have : ((2 ^ n : Nat) : Int) = (2 : Int) ^ n := by rcases (by omega : n = 0 ∨ n = 1 ∨ n = 2 ∨ n = 3 ∨ n = 4) with rfl | rfl | rfl | rfl | rfl <;> rfl
  omega
theorem pow_le16 {n : Nat} (h4 : n ≤ 4) : 2 ^ n ≤ 16 := by
  rcases (by omega : n = 0 ∨ n = 1 ∨ n = 2 ∨ n = 3 ∨ n = 4) with rfl | rfl | rfl | rfl | rfl <;> decide
theorem top_one (n : Nat) (h1 : 1 ≤ n) (h4 : n ≤ 4) : wrap64 (((2 ^ n - 1 : Nat) : Int) + 1) = ((2 ^ n : Nat) : Int) := by
  rcases (by omega : n = 1 ∨ n = 2 ∨ n = 3 ∨ n = 4) with rfl | rfl | rfl | rfl <;> decide +kernel
theorem pow_wrap (n : Nat) (h1 : 1 ≤ n) (h4 : n ≤ 4) : wrap64 (2 ^ n) = ((2 ^ n : Nat) : Int) := by
  rcases (by omega : n = 1 ∨ n = 2 ∨ n = 3 ∨ n = 4) with rfl | rfl | rfl | rfl <;> decide +kernel

/-- a set is a part of another one -/
def partB (s t : Int) : Bool := bits .andNot .i64 s t == 0
theorem isPartOf_any (s t : Int) (w : World) : Calls Tryz.prog 250 #[.int .i64 s, .int .i64 t] w fun e w' => e = .returned (.bool (partB s t)) ∧ w = w' := by
  go_enter Tryz.func250, Tryz.ntmps250
  go_wp2
  go_ret
  exact ⟨rfl, rfl⟩
end Go.Proofs.YthdnpcpimggjnaaGreatDoor

namespace Go.Proofs.YthdnpcpimggjnaaGreatDoor
open Go.RowKit

/-- a relation and a set of its points -/
def setB (xs : List Int) (z : Int) : Bool := relIn xs && rowIn xs.length z
/-- the polar of the polar -/
def clo (xs : List Int) (z : Int) : Int := relAll (turnL xs) (relAll xs z)
def polI (xs : List Int) (z : Int) : Int := if setB xs z then relAll xs z else 0
def cloI (xs : List Int) (z : Int) : Int := if setB xs z then clo xs z else 0

set_option maxHeartbeats 4000000 in
theorem l6rPolar_any {xs : List Int} (R : Rl xs.length xs) (z : Fin 16) (ao : Option Addr) (ca : Nat) (w : World) (hx : Rd w ao xs) :
    Calls Tryz.prog 102 #[.slice ao xs.length ca, .int .i64 (z.val : Int)] w fun e w' => e = .returned (.int .i64 (relAll xs (z.val : Int))) ∧ Dn w w' := by
  have h1 := R.one
  have h4 := R.four
  have htop := top_wrap xs.length h1 h4
  have HR := Lib.hid (fun k (h : k < 4) => b_bit z ⟨k, h⟩)
  clear R
  go_enter Tryz.func102, Tryz.ntmps102
  go_wp2
  clear htop
  go_loopw [5, 6] (fun f i wr => ∃ k : Nat, k ≤ xs.length ∧ i = .int .i64 k ∧ f = .int .i64 (relTo xs (z.val : Int) k) ∧ Dn w wr)
    (fun _ i _ => xs.length - (intOf i).toNat)
  case atStart => exact ⟨0, Nat.zero_le _, rfl, rfl, Dn.refl _⟩
  case round =>
    obtain ⟨k, hk, rfl, rfl, hd⟩ := hrel
    by_cases hlt : k < xs.length
    · obtain ⟨b, off, x, hxk, rfl, hbl, hc1⟩ := (hd.rd hx).get k hlt
      rw [rowA hxk] at hc1
      have hi1 : ((k : Nat) : Int) < (xs.length : Int) := by omega
      have hbb := HR.out k (by omega)
      have HS := Lib.hid (relTo_step xs (z.val : Int) k)
      clear hx hxk
      cases hb : bitB (z.val : Int) k with
      | true =>
        rw [hb] at hbb
        have HB := Lib.hid hbb
        clear hbb
        have hb2 : (bits .and .i64 ((z.val : Int) / 2 ^ k) 1 == 1) = true := hb
        clear hb
        go_wp2
        go_roundw
        case rel => exact ⟨k + 1, by omega, by go_num, by rw [HS.out, ← HB.out]; rfl, hd⟩
        case measure => simp [intOf]; omega
      | false =>
        rw [hb] at hbb
        have HB := Lib.hid hbb
        clear hbb
        have hb2 : (bits .and .i64 ((z.val : Int) / 2 ^ k) 1 == 1) = false := hb
        clear hb
        go_wp2
        go_roundw
        case rel => exact ⟨k + 1, by omega, by go_num, by rw [HS.out, ← HB.out]; rfl, hd⟩
        case measure => simp [intOf]; omega
    · obtain rfl : k = xs.length := by omega
      go_wp2
      go_ret
      exact ⟨rfl, hd⟩

theorem l6rClosed_any {xs : List Int} (R : Rl xs.length xs) (z : Fin 16) (ao : Option Addr) (ca : Nat) (w : World) (hx : Rd w ao xs) :
    Calls Tryz.prog 101 #[.slice ao xs.length ca, .int .i64 (z.val : Int)] w fun e w' => e = .returned (.int .i64 (clo xs (z.val : Int))) ∧ Below w.heap.size w w' := by
  obtain ⟨u, hu, _, _⟩ := relAll_row R (z.val : Int)
  have T : Rl (turnL xs).length (turnL xs) := by rw [R.turn.len]; exact R.turn
  have n1 : 1 ≤ (turnL xs).length := T.one
  unfold clo
  rw [hu]
  have H := Lib.hid (And.intro (fun w h => sTurn R ao ca w h) (And.intro (fun w h => hu ▸ l6rPolar_any R z ao ca w h) (fun ao ca w h => l6rPolar_any T u ao ca w h)))
  clear hu T R
  obtain ⟨t, ht⟩ : ∃ t, turnL xs = t := ⟨_, rfl⟩
  rw [ht] at H n1 ⊢
  clear ht
  go_enter Tryz.func101, Tryz.ntmps101
  go_wp2_with fail
  refine (H.out.1 _ hx).mono ?_
  rintro e w1 ⟨v, rfl, o1, b1⟩
  obtain ⟨gb, qb, rfl, _, _, rb⟩ := GaveL.form o1 n1
  have hx := hx.below b1
  clear o1
  go_wp2_with fail
  refine (H.out.2.1 _ hx).mono ?_
  rintro e w2 ⟨rfl, hd⟩
  go_wp2_with fail
  refine (H.out.2.2 _ _ _ (hd.rd rb)).mono ?_
  rintro e w3 ⟨rfl, hd3⟩
  go_wp2
  go_ret
  exact ⟨rfl, b1.trans ((hd.trans hd3).below _)⟩

/-! the program's -/
set_option maxRecDepth 100000 in
set_option maxHeartbeats 4000000 in
theorem closed_walk (xs a : List Int) (z p q : Int) (w : World)
    (h1 : ∀ w, Calls Tryz.prog 110 #[relOf xs] w fun e w' => e = .returned (relOf a) ∧ Below w.heap.size w w')
    (h2 : ∀ w, Calls Tryz.prog 170 #[relOf xs, .int .i64 z] w fun e w' => e = .returned (.int .i64 p) ∧ Below w.heap.size w w')
    (h3 : ∀ w, Calls Tryz.prog 170 #[relOf a, .int .i64 p] w fun e w' => e = .returned (.int .i64 q) ∧ Below w.heap.size w w') :
    Calls Tryz.prog 169 #[relOf xs, .int .i64 z] w fun e w' => e = .returned (.int .i64 q) ∧ Below w.heap.size w w' := by
  have x0 := RelAt.new w xs
  have B0 := below_one w (.cells #[.int .i64 xs.length, .int .i64 (rowAt xs 0), .int .i64 (rowAt xs 1), .int .i64 (rowAt xs 2), .int .i64 (rowAt xs 3)] 36)
  have H := Lib.hid (And.intro h1 (And.intro h2 h3))
  clear h1 h2 h3
  have p0 := x0.cell0
  have p1 := x0.cell1
  have p2 := x0.cell2
  have p3 := x0.cell3
  have p4 := x0.cell4
  go_enter Tryz.func169, Tryz.ntmps169
  go_wp2
  obtain ⟨W0, hW0⟩ : ∃ W0, (w.alloc (.cells #[.int .i64 xs.length, .int .i64 (rowAt xs 0), .int .i64 (rowAt xs 1), .int .i64 (rowAt xs 2), .int .i64 (rowAt xs 3)] 36)) = W0 := ⟨_, rfl⟩
  rw [hW0] at p0 p1 p2 p3 p4 x0 B0 ⊢
  clear hW0
  have x := x0.drew
  have B := B0.drew
  clear x0 B0
  go_region_held (fun w' => w'.cell? ⟨w.heap.size, 0, none⟩ = some (.int .i64 xs.length) ∧ w'.cell? ⟨w.heap.size, 1, none⟩ = some (.int .i64 (rowAt xs 0)) ∧ w'.cell? ⟨w.heap.size, 2, none⟩ = some (.int .i64 (rowAt xs 1)) ∧ w'.cell? ⟨w.heap.size, 3, none⟩ = some (.int .i64 (rowAt xs 2)) ∧ w'.cell? ⟨w.heap.size, 4, none⟩ = some (.int .i64 (rowAt xs 3))) (go_keep) (first
    | (go_at_call 110; refine (H.out.1 _).mono ?_; rintro e w2 ⟨rfl, hb⟩; have x := x.below hb x.lt; have B := B.trans (hb.mono B.size); have p0 := x.cell0; have p1 := x.cell1; have p2 := x.cell2; have p3 := x.cell3; have p4 := x.cell4; clear hb)
    | (go_at_call 170; ((with_reducible refine (H.out.2.1 _).mono ?_); rintro e w3 ⟨rfl, hb⟩; have x := x.below hb x.lt; have B := B.trans (hb.mono B.size); have p0 := x.cell0; have p1 := x.cell1; have p2 := x.cell2; have p3 := x.cell3; have p4 := x.cell4; clear hb))
    | (go_at_call 170; ((with_reducible refine (H.out.2.2 _).mono ?_); rintro e w4 ⟨rfl, hb⟩; have x := x.below hb x.lt; have B := B.trans (hb.mono B.size); have p0 := x.cell0; have p1 := x.cell1; have p2 := x.cell2; have p3 := x.cell3; have p4 := x.cell4; clear hb)))
  all_goals
    go_wp2
    go_ret
    exact ⟨rfl, B⟩
theorem closed_any {xs : List Int} (R : Rl xs.length xs) (z : Int) (w : World) :
    Calls Tryz.prog 169 #[relOf xs, .int .i64 z] w fun e w' => e = .returned (.int .i64 (clo xs z)) ∧ Below w.heap.size w w' :=
  closed_walk xs (turnL xs) z (relAll xs z) (clo xs z) w (fun w => turnedR R w) (fun w => relatedToAll_any R z w) (fun w => relatedToAll_any (by rw [R.turn.len]; exact R.turn) (relAll xs z) w)

/-- what a call gives that answers a set and a bool -/
theorem setMadeOf_no (f : Value) (ao : Option Addr) (ca : Nat) (xs : List Int) (z : Int) (w : World) (hl : xs.length ≤ 1048576) (hx : Rd w ao xs) (hp : setB xs z = false) :
    Calls Tryz.prog 217 #[.slice ao xs.length ca, .int .i64 z, f] w fun e w' => e = .returned (.tuple #[.int .i64 0, .bool false]) ∧ Below w.heap.size w w' := by
  cases hq : relIn xs with
  | false =>
    have HQ := Lib.hid hq
    clear hp hq
    go_enter Tryz.func217, Tryz.ntmps217
    go_wp2_with (go_at_call 16; refine (relationFrom_no _ _ _ _ hl HQ.out hx).mono ?_; rintro e w1 ⟨rfl, hb⟩)
    go_ret2
    exact ⟨rfl, hb.alloc hb.size _⟩
  | true =>
    unfold setB at hp
    rw [hq, Bool.true_and] at hp
    have h4 := relIn_len hq
    have hs := fun wr => isSet_any z xs.length h4.1 h4.2 wr
    rw [hp] at hs
    have HS := Lib.hid hs
    have HQ := Lib.hid hq
    clear hq hs hp h4
    go_enter Tryz.func217, Tryz.ntmps217
    go_wp2_with fail
    refine (relationFrom_yes _ _ _ _ HQ.out hx).mono ?_
    rintro e w1 ⟨rfl, hb⟩
    have x1 := RelAt.new w1 xs
    have B1 := hb.alloc hb.size (.cells #[.int .i64 xs.length, .int .i64 (rowAt xs 0), .int .i64 (rowAt xs 1), .int .i64 (rowAt xs 2), .int .i64 (rowAt xs 3)] 36)
    have p0 := x1.cell0
    have p1 := x1.cell1
    have p2 := x1.cell2
    have p3 := x1.cell3
    have p4 := x1.cell4
    clear x1 hb
    go_wp2_with fail
    refine (HS.out _).mono ?_
    rintro e w2 ⟨rfl, rfl⟩
    go_wp2
    go_ret2
    exact ⟨rfl, B1⟩

theorem setMadeOf_yes (g : FuncId) (hcf : ∀ args w, Sem.run Tryz.prog (callFunc g args) w = .ok (.enter g args) w) (m : Int) (ao : Option Addr) (ca : Nat) (xs : List Int) (z : Int) (w : World) (hx : Rd w ao xs) (hp : setB xs z = true)
    (hg : ∀ w, Calls Tryz.prog g #[relOf xs, .int .i64 z] w fun e w' => e = .returned (.int .i64 m) ∧ Below w.heap.size w w') :
    Calls Tryz.prog 217 #[.slice ao xs.length ca, .int .i64 z, .func (.func g) #[] #[]] w fun e w' => e = .returned (.tuple #[.int .i64 m, .bool true]) ∧ Below w.heap.size w w' := by
  unfold setB at hp
  rw [Bool.and_eq_true] at hp
  have h4 := relIn_len hp.1
  have hs := fun wr => isSet_any z xs.length h4.1 h4.2 wr
  rw [hp.2] at hs
  have HS := Lib.hid hs
  have HP := Lib.hid hp.1
  have HG := Lib.hid hg
  clear hp hg hs h4
  go_enter Tryz.func217, Tryz.ntmps217
  go_wp2_with fail
  refine (relationFrom_yes _ _ _ _ HP.out hx).mono ?_
  rintro e w1 ⟨rfl, hb⟩
  have x1 := RelAt.new w1 xs
  have B1 := hb.alloc hb.size (.cells #[.int .i64 xs.length, .int .i64 (rowAt xs 0), .int .i64 (rowAt xs 1), .int .i64 (rowAt xs 2), .int .i64 (rowAt xs 3)] 36)
  have p0 := x1.cell0
  have p1 := x1.cell1
  have p2 := x1.cell2
  have p3 := x1.cell3
  have p4 := x1.cell4
  clear x1 hb
  go_wp2_with fail
  refine (HS.out _).mono ?_
  rintro e w2 ⟨rfl, rfl⟩
  go_wp2_with fail
  refine (HG.out _).mono ?_
  rintro e w3 ⟨rfl, hb3⟩
  go_wp2
  go_ret2
  exact ⟨rfl, B1.trans (hb3.mono B1.size)⟩

theorem cf_relatedToAll (args : Array Value) (w : World) : Sem.run Tryz.prog (callFunc 170 args) w = .ok (.enter 170 args) w := by kernel_rfl
theorem cf_closed (args : Array Value) (w : World) : Sem.run Tryz.prog (callFunc 169 args) w = .ok (.enter 169 args) w := by kernel_rfl

end Go.Proofs.YthdnpcpimggjnaaGreatDoor

namespace Go.Proofs.YthdnpcpimggjnaaGreatDoor
open Go.RowKit

/-- a row of two numbers in a block of its own -/
abbrev sl2 (g : Nat) : Value := .slice (some ⟨g, 0, none⟩) 2 2
theorem own_same {w w' : World} {lo n size : Nat} {e : TypeId} {v : Value} {us : List Value} (h : w.ownsRow lo e size v n us) (hb : ∀ k, v.ownBlock = some k → w'.heap[k]? = w.heap[k]?) : w'.ownsRow lo e size v n us := by
  refine ⟨h.1, ?_⟩
  rcases h.2 with h2 | ⟨g, cap, cur, rfl, h2, h3, h4⟩
  · exact .inl h2
  · exact .inr ⟨g, cap, cur, rfl, h2, (hb g rfl).trans h3, h4⟩
theorem OwnR.same {w w' : World} {lo hi : Nat} {v : Value} {xs : List Int} (h : OwnR w lo hi v xs) (hs : hi ≤ w'.heap.size) (hb : ∀ k, v.ownBlock = some k → w'.heap[k]? = w.heap[k]?) : OwnR w' lo hi v xs :=
  ⟨own_same h.row hb, h.top, hs⟩
/-- v is a list of n rows of two numbers, all in blocks of their own from lo on and below hi -/
structure Own2 (w : World) (lo hi : Nat) (v : Value) (n : Nat) (r : Nat → List Int) (gs : Nat → Nat) : Prop where
  row : w.ownsRow lo 23 1 v n ((List.range n).map fun k => sl2 (gs k))
  top : ∀ k, v.ownBlock = some k → k < hi
  size : hi ≤ w.heap.size
  apart : ∀ i j, i < j → j < n → gs i ≠ gs j
  rows : ∀ j, j < n → (r j).length = 2 ∧ OwnR w lo hi (sl2 (gs j)) (r j)
theorem Own2.same {w w' : World} {lo hi n : Nat} {v : Value} {r : Nat → List Int} {gs : Nat → Nat} (h : Own2 w lo hi v n r gs) (hs : hi ≤ w'.heap.size) (hb : ∀ k, lo ≤ k → k < hi → w'.heap[k]? = w.heap[k]?) : Own2 w' lo hi v n r gs :=
  ⟨own_same h.row fun k hk => hb k (h.row.lt k hk).1 (h.top k hk), h.top, hs, h.apart, fun j hj => ⟨(h.rows j hj).1, (h.rows j hj).2.same hs fun k hk => hb k ((h.rows j hj).2.base hk) ((h.rows j hj).2.top k hk)⟩⟩
theorem Own2.below {w w' : World} {lo hi n B : Nat} {v : Value} {r : Nat → List Int} {gs : Nat → Nat} (h : Own2 w lo hi v n r gs) (hb : Below B w w') (hB : hi ≤ B) : Own2 w' lo hi v n r gs :=
  h.same (Nat.le_trans h.size hb.size) fun k _ h2 => hb.block k (by omega)
theorem Own2.dn {w w' : World} {lo hi n : Nat} {v : Value} {r : Nat → List Int} {gs : Nat → Nat} (h : Own2 w lo hi v n r gs) (hd : Dn w w') : Own2 w' lo hi v n r gs :=
  h.same (by rw [hd.heap]; exact h.size) fun k _ _ => by rw [hd.heap]
theorem Own2.grown {w w' : World} {lo hi n : Nat} {v : Value} {r : Nat → List Int} {gs : Nat → Nat} {row : Option Nat} (h : Own2 w lo hi v n r gs) (hg : w.grownBy w' row) (hr : ∀ k, row = some k → hi ≤ k ∨ k < lo) : Own2 w' lo hi v n r gs :=
  h.same (Nat.le_trans h.size hg.size) fun k h1 h2 => hg.block k (Nat.lt_of_lt_of_le h2 h.size) (by
    intro e
    rcases hr k e.symm with h3 | h3 <;> omega)
/-- what the list reads as, cell by cell -/
theorem Own2.rd {w : World} {lo hi n : Nat} {v : Value} {r : Nat → List Int} {gs : Nat → Nat} (h : Own2 w lo hi v n r gs) : ∃ ao cap, v = .slice ao n cap ∧ ∀ k, k < n → ∃ b, ao = some ⟨b, 0, none⟩ ∧ w.cell? ⟨b, k, none⟩ = some (sl2 (gs k)) := by
  rcases h.row.2 with ⟨rfl, h2⟩ | ⟨g, cap, cur, rfl, _⟩
  · subst h2
    exact ⟨none, 0, rfl, fun k hk => absurd hk (by omega)⟩
  · refine ⟨_, cap, rfl, fun k hk => ⟨g, rfl, ?_⟩⟩
    rw [h.row.cellAt k (by omega), List.getElem?_map, List.getElem?_range hk]
    rfl

/-- only blocks from lo on and below hi may have changed -/
structure Only (lo hi : Nat) (w w' : World) : Prop where
  below : Below lo w w'
  above : ∀ b, hi ≤ b → b < w.heap.size → w'.heap[b]? = w.heap[b]?
theorem Only.refl {lo hi : Nat} {w : World} : Only lo hi w w := ⟨Below.refl _ _, fun _ _ _ => rfl⟩
theorem Only.grown {lo hi : Nat} {w w1 w2 : World} {g : Nat} (h : Only lo hi w w1) (hg : w1.grownBy w2 (some g)) (h1 : lo ≤ g) (h2 : g < hi) (hs : lo ≤ w1.heap.size) : Only lo hi w w2 :=
  ⟨h.below.grown hg hs (fun q hq => by cases hq; exact h1), fun b hb hlt => (hg.block b (Nat.lt_of_lt_of_le hlt h.below.size) (by simp; omega)).trans (h.above b hb hlt)⟩
theorem rows_apart2 {w : World} {b1 b2 s1 s2 n1 m1 n2 g gp c1 c2 : Nat} {u1 u2 : List Value} (h : w.ownsRow b1 3 s1 (.slice (some ⟨g, 0, none⟩) n1 c1) m1 u1) (k : w.ownsRow b2 23 s2 (.slice (some ⟨gp, 0, none⟩) n2 c2) n2 u2) : g ≠ gp := by
  rcases h.2 with ⟨h2, _⟩ | ⟨g', cap', cur', he, _, hh, _⟩
  · cases h2
  · cases he
    rcases k.2 with ⟨k2, _⟩ | ⟨gp', cap2, cur2, ke, _, kh, _⟩
    · cases k2
    · cases ke
      rintro rfl
      rw [hh] at kh
      simp at kh

end Go.Proofs.YthdnpcpimggjnaaGreatDoor

namespace Go.Proofs.YthdnpcpimggjnaaGreatDoor
open Go.RowKit

theorem Tryz.info223 : (Tryz.prog.info? 23).map (fun i => (i.zero, i.size, i.bytes)) = some (some (.slice none 0 0), 1, 24) := by kernel_rfl

/-- the rows of a list of pairs -/
def PR {n : Nat} (L : List (Fin n × Fin n)) (j : Nat) : List Int := match L[j]? with
  | some p => [(p.1.val : Int), (p.2.val : Int)]
  | none => []
theorem PR_old {n : Nat} (L : List (Fin n × Fin n)) (p : Fin n × Fin n) (j : Nat) (hj : j < L.length) : PR (L ++ [p]) j = PR L j := by
  unfold PR
  rw [List.getElem?_append_left hj]
theorem PR_new {n : Nat} (L : List (Fin n × Fin n)) (p : Fin n × Fin n) : PR (L ++ [p]) L.length = [(p.1.val : Int), (p.2.val : Int)] := by
  unfold PR
  rw [List.getElem?_append_right (Nat.le_refl _), Nat.sub_self]
  rfl
theorem Own2.empty {w : World} {lo : Nat} {v : Value} {r : Nat → List Int} {gs : Nat → Nat} (h : w.ownsRow lo 23 1 v 0 []) : Own2 w lo w.heap.size v 0 r gs :=
  ⟨h, fun k hk => (h.lt k hk).2, Nat.le_refl _, fun i j _ hj => by omega, fun j hj => by omega⟩
theorem Own2.hi {w : World} {lo hi n : Nat} {v : Value} {r : Nat → List Int} {gs : Nat → Nat} (h : Own2 w lo hi v n r gs) : Own2 w lo w.heap.size v n r gs :=
  ⟨h.row, fun k hk => (h.row.lt k hk).2, Nat.le_refl _, h.apart, fun j hj => ⟨(h.rows j hj).1, (h.rows j hj).2.row, fun k hk => ((h.rows j hj).2.row.lt k hk).2, Nat.le_refl _⟩⟩
/-- a row more -/
theorem Own2.push {W w3 : World} {lo n : Nat} {v v' : Value} {r r' : Nat → List Int} {gs : Nat → Nat} (h : Own2 W lo W.heap.size v n r gs) (hlo : lo ≤ W.heap.size) (a b : Int)
    (hown : w3.ownsRow lo 23 1 v' (n + 1) ((List.range n).map (fun k => sl2 (gs k)) ++ [sl2 W.heap.size]))
    (hgrow : ((W.alloc (.cells #[.int .i64 a, .int .i64 b] 3)).alloc (.cells #[sl2 W.heap.size] 23)).grownBy w3 v.ownBlock)
    (hr : ∀ j, j < n → r' j = r j) (hrn : r' n = [a, b]) : Own2 w3 lo w3.heap.size v' (n + 1) r' (fun j => if j = n then W.heap.size else gs j) := by
  have hsz := hgrow.size
  simp only [World.size_alloc] at hsz
  have hold : ∀ j, j < n → gs j < W.heap.size := fun j hj => ((h.rows j hj).2.row.lt _ rfl).2
  refine ⟨?_, fun k hk => (hown.lt k hk).2, Nat.le_refl _, ?_, ?_⟩
  · have e : (List.range (n + 1)).map (fun k => sl2 (if k = n then W.heap.size else gs k)) = (List.range n).map (fun k => sl2 (gs k)) ++ [sl2 W.heap.size] := by
      rw [List.range_succ, List.map_append]
      congr 1
      · apply List.map_congr_left
        intro k hk
        have := List.mem_range.1 hk
        rw [if_neg (by omega)]
      · simp
    rw [e]
    exact hown
  · intro i j hij hj
    show (if i = n then W.heap.size else gs i) ≠ (if j = n then W.heap.size else gs j)
    rw [if_neg (by omega)]
    by_cases e : j = n
    · rw [if_pos e]
      have := hold i (by omega)
      omega
    · rw [if_neg e]
      exact h.apart i j hij (by omega)
  · intro j hj
    by_cases e : j = n
    · subst e
      show (r' j).length = 2 ∧ OwnR w3 lo w3.heap.size (sl2 (if j = j then W.heap.size else gs j)) (r' j)
      rw [if_pos rfl, hrn]
      refine ⟨rfl, ?_, ?_, Nat.le_refl _⟩
      · have h0 : (W.alloc (.cells #[.int .i64 a, .int .i64 b] 3)).ownsRow lo 3 1 (sl2 W.heap.size) 2 [.int .i64 a, .int .i64 b] := World.ownsRow_lit W _ 2 hlo (by unfold maxLen; omega) rfl
        refine own_same (h0.alloc (.cells #[sl2 W.heap.size] 23)) fun k hk => ?_
        cases hk
        refine hgrow.block W.heap.size (by simp; omega) fun e => ?_
        have := (h.row.lt _ e.symm).2
        omega
      · intro k hk
        cases hk
        show W.heap.size < w3.heap.size
        omega
    · show (r' j).length = 2 ∧ OwnR w3 lo w3.heap.size (sl2 (if j = n then W.heap.size else gs j)) (r' j)
      rw [if_neg e, hr j (by omega)]
      obtain ⟨l1, r1⟩ := h.rows j (by omega)
      have hj1 := hold j (by omega)
      refine ⟨l1, own_same r1.row fun k hk => ?_, ?_, Nat.le_refl _⟩
      · cases hk
        refine (hgrow.block (gs j) (by simp; omega) fun e => ?_).trans ((Below.heap_alloc _ _ _ (by simp; omega)).trans (Below.heap_alloc _ _ _ hj1))
        rcases h.row.2 with ⟨rfl, _⟩ | ⟨gp, cap, cur, rfl, _⟩
        · simp [Value.ownBlock] at e
        · have := rows_apart2 r1.row h.row
          simp [Value.ownBlock] at e
          exact this e
      · intro k hk
        cases hk
        show gs j < w3.heap.size
        omega

/-- a contract over lists of rows of two -/
def Gave2 (w : World) (n : Nat) (r : Nat → List Int) (ok : Bool) (e : Ending) (w' : World) : Prop :=
  ∃ v gs, e = .returned (.tuple #[v, .bool ok]) ∧ Own2 w' w.heap.size w'.heap.size v n r gs ∧ Below w.heap.size w w'
def ifPn (xs : List Int) : Nat := if relIn xs then (pairsOf xs).length else 0

end Go.Proofs.YthdnpcpimggjnaaGreatDoor

namespace Go.Proofs.YthdnpcpimggjnaaGreatDoor
open Go.RowKit

/-- the slice at this address reads as these lists -/
def RdS (w : World) (ao : Option Addr) (xss : List (List Int)) : Prop :=
  ∀ k xs, xss[k]? = some xs → ∃ b off ak ck, ao = some ⟨b, off, none⟩ ∧ b < w.heap.size ∧ w.cell? ⟨b, off + k, none⟩ = some (.slice ak xs.length ck) ∧ Rd w ak xs
theorem RdS.below {w w' : World} {ao : Option Addr} {xss : List (List Int)} (h : RdS w ao xss) (hb : Below w.heap.size w w') : RdS w' ao xss := by
  intro k xs hx
  obtain ⟨b, off, ak, ck, h1, h2, h3, h4⟩ := h k xs hx
  exact ⟨b, off, ak, ck, h1, Nat.lt_of_lt_of_le h2 hb.size, (hb.cell (p := ⟨b, off + k, none⟩) h2).trans h3, h4.below hb⟩
def sumTo (xss : List (List Int)) (k : Nat) : Nat := ((xss.take k).map List.length).sum
theorem sumTo_succ (xss : List (List Int)) (k : Nat) (xs : List Int) (h : xss[k]? = some xs) : sumTo xss (k + 1) = sumTo xss k + xs.length := by
  unfold sumTo
  rw [List.take_add_one, h]
  simp
theorem sumTo_le (xss : List (List Int)) (k : Nat) (xs : List Int) (h : xss[k]? = some xs) : xs.length ≤ sumTo xss xss.length := by
  have hk : k < xss.length := (List.getElem?_eq_some_iff.1 h).1
  have h2 : ∀ m, k < m → m ≤ xss.length → xs.length ≤ sumTo xss m := by
    intro m hm
    induction m with
    | zero => omega
    | succ m ih =>
      intro hle
      rw [sumTo_succ xss m _ (List.getElem?_eq_getElem (by omega))]
      by_cases e : k = m
      · subst e
        rw [List.getElem?_eq_getElem hk] at h
        have := Option.some.inj h
        rw [this]
        omega
      · have := ih (by omega) (by omega)
        omega
  exact h2 _ hk (Nat.le_refl _)
theorem sumTo_mono (xss : List (List Int)) : ∀ k m, k ≤ m → m ≤ xss.length → sumTo xss k ≤ sumTo xss m := by
  intro k m hkm
  induction m with
  | zero => intro _; rw [show k = 0 by omega]; exact Nat.le_refl _
  | succ m ih =>
    intro hm
    by_cases e : k = m + 1
    · rw [e]; exact Nat.le_refl _
    · have := ih (by omega) (by omega)
      rw [sumTo_succ xss m _ (List.getElem?_eq_getElem (by omega))]
      omega

/-- v is a list of lists of the call's own, all in blocks from lo on and below hi -/
structure OwnS (w : World) (lo hi : Nat) (v : Value) (xss : List (List Int)) (us : Nat → Value) : Prop where
  row : w.ownsRow lo 23 1 v xss.length ((List.range xss.length).map us)
  top : ∀ k, v.ownBlock = some k → k < hi
  size : hi ≤ w.heap.size
  apart : ∀ i j k, i < j → j < xss.length → (us i).ownBlock = some k → (us j).ownBlock ≠ some k
  rows : ∀ j xs, xss[j]? = some xs → OwnR w lo hi (us j) xs
theorem OwnS.same {w w' : World} {lo hi : Nat} {v : Value} {xss : List (List Int)} {us : Nat → Value} (h : OwnS w lo hi v xss us) (hs : hi ≤ w'.heap.size) (hb : ∀ k, lo ≤ k → k < hi → w'.heap[k]? = w.heap[k]?) : OwnS w' lo hi v xss us :=
  ⟨own_same h.row fun k hk => hb k (h.row.lt k hk).1 (h.top k hk), h.top, hs, h.apart, fun j xs hj => (h.rows j xs hj).same hs fun k hk => hb k ((h.rows j xs hj).base hk) ((h.rows j xs hj).top k hk)⟩
theorem OwnS.below {w w' : World} {lo hi B : Nat} {v : Value} {xss : List (List Int)} {us : Nat → Value} (h : OwnS w lo hi v xss us) (hb : Below B w w') (hB : hi ≤ B) : OwnS w' lo hi v xss us :=
  h.same (Nat.le_trans h.size hb.size) fun k _ h2 => hb.block k (by omega)
theorem OwnS.dn {w w' : World} {lo hi : Nat} {v : Value} {xss : List (List Int)} {us : Nat → Value} (h : OwnS w lo hi v xss us) (hd : Dn w w') : OwnS w' lo hi v xss us :=
  h.same (by rw [hd.heap]; exact h.size) fun k _ _ => by rw [hd.heap]
theorem OwnS.at {w : World} {lo hi : Nat} {v : Value} {xss : List (List Int)} {us : Nat → Value} (h : OwnS w lo hi v xss us) : ∃ ao cap, v = .slice ao xss.length cap ∧ ∀ k, k < xss.length → ∃ b, ao = some ⟨b, 0, none⟩ ∧ b < w.heap.size ∧ w.cell? ⟨b, k, none⟩ = some (us k) := by
  rcases h.row.2 with ⟨rfl, h2⟩ | ⟨g, cap, cur, rfl, _⟩
  · rw [h2]
    exact ⟨none, 0, rfl, fun k hk => absurd hk (by omega)⟩
  · refine ⟨_, cap, rfl, fun k hk => ⟨g, rfl, (h.row.lt g rfl).2, ?_⟩⟩
    rw [h.row.cellAt k (by omega), List.getElem?_map, List.getElem?_range hk]
    rfl
theorem OwnS.rd {w : World} {lo hi : Nat} {v : Value} {xss : List (List Int)} {us : Nat → Value} (h : OwnS w lo hi v xss us) : ∃ ao cap, v = .slice ao xss.length cap ∧ RdS w ao xss := by
  obtain ⟨ao, cap, rfl, hx⟩ := h.at
  refine ⟨ao, cap, rfl, fun k xs hk => ?_⟩
  obtain ⟨b, rfl, hb, hc⟩ := hx k (List.getElem?_eq_some_iff.1 hk).1
  obtain ⟨ak, ck, he, hr⟩ := (h.rows k xs hk).rd
  exact ⟨b, 0, ak, ck, rfl, hb, by rw [Nat.zero_add, hc, he], hr⟩

end Go.Proofs.YthdnpcpimggjnaaGreatDoor

namespace Go.Proofs.YthdnpcpimggjnaaGreatDoor
open Go.RowKit

theorem setS (us : Nat → Value) (z v : Value) (n k : Nat) (hk : k < n) :
    ((List.range k).map us ++ List.replicate (n - k) z).set k v = (List.range (k + 1)).map (fun j => if j = k then v else us j) ++ List.replicate (n - (k + 1)) z := by
  obtain ⟨m, hm⟩ : ∃ m, n - k = m + 1 := ⟨n - k - 1, by omega⟩
  have hm2 : n - (k + 1) = m := by omega
  have h0 : k - ((List.range k).map us).length = 0 := by simp
  rw [hm, hm2, List.set_append_right _ _ (by simp), h0, List.replicate_succ, List.set_cons_zero, List.range_succ, List.map_append, List.append_assoc]
  congr 1
  · apply List.map_congr_left
    intro j hj
    have := List.mem_range.1 hj
    rw [if_neg (by omega)]
  · simp

end Go.Proofs.YthdnpcpimggjnaaGreatDoor

namespace Go.Proofs.YthdnpcpimggjnaaGreatDoor
open Go.RowKit

/-! pairs of numbers -/
/-- the rows of a list of pairs of numbers -/
def PI (L : List (Int × Int)) (j : Nat) : List Int := match L[j]? with
  | some p => [p.1, p.2]
  | none => []
theorem PI_old (L : List (Int × Int)) (p : Int × Int) (j : Nat) (hj : j < L.length) : PI (L ++ [p]) j = PI L j := by
  unfold PI
  rw [List.getElem?_append_left hj]
theorem PI_new (L : List (Int × Int)) (p : Int × Int) : PI (L ++ [p]) L.length = [p.1, p.2] := by
  unfold PI
  rw [List.getElem?_append_right (Nat.le_refl _), Nat.sub_self]
  rfl
theorem PI_at {L : List (Int × Int)} {j : Nat} {p : Int × Int} (h : L[j]? = some p) : PI L j = [p.1, p.2] := by
  unfold PI
  rw [h]
/-- the cells of pairs, one behind the other -/
def pairC : List (Int × Int) → List Value
  | [] => []
  | p :: r => .int .i64 p.1 :: .int .i64 p.2 :: pairC r
theorem pairC_app (L M : List (Int × Int)) : pairC (L ++ M) = pairC L ++ pairC M := by
  induction L with
  | nil => rfl
  | cons p r ih =>
    show _ :: _ :: pairC (r ++ M) = _ :: _ :: (pairC r ++ pairC M)
    rw [ih]
theorem pairC_len (L : List (Int × Int)) : (pairC L).length = L.length * 2 := by
  induction L with
  | nil => rfl
  | cons p r ih =>
    show (pairC r).length + 1 + 1 = (r.length + 1) * 2
    rw [ih]
    omega
theorem pairC_at (L : List (Int × Int)) (k : Nat) (p : Int × Int) (h : L[k]? = some p) : (pairC L)[k * 2]? = some (.int .i64 p.1) ∧ (pairC L)[k * 2 + 1]? = some (.int .i64 p.2) := by
  induction L generalizing k with
  | nil => simp at h
  | cons q r ih =>
    cases k with
    | zero =>
      simp at h
      subst h
      exact ⟨rfl, rfl⟩
    | succ k =>
      have h2 : r[k]? = some p := by simpa using h
      obtain ⟨a, b⟩ := ih k h2
      rw [show (k + 1) * 2 = k * 2 + 1 + 1 by omega]
      exact ⟨a, b⟩

/-! full rectangles -/
/-- the full ones among the first k sets -/
def fullTo (xs : List Int) (k : Nat) : List (Int × Int) := ((List.range k).filter fun (z : Nat) => clo xs (z : Int) == (z : Int)).map fun (z : Nat) => ((z : Int), relAll xs (z : Int))
def fullL (xs : List Int) : List (Int × Int) := fullTo xs (2 ^ xs.length)
theorem full_yes {xs : List Int} {k : Nat} (h : (clo xs (k : Int) == (k : Int)) = true) : fullTo xs (k + 1) = fullTo xs k ++ [((k : Int), relAll xs (k : Int))] := by
  unfold fullTo
  rw [List.range_succ, List.filter_append, List.map_append, List.filter_cons_of_pos (by exact h)]
  rfl
theorem full_no {xs : List Int} {k : Nat} (h : (clo xs (k : Int) == (k : Int)) = false) : fullTo xs (k + 1) = fullTo xs k := by
  unfold fullTo
  rw [List.range_succ, List.filter_append, List.map_append, List.filter_cons_of_neg (by rw [h]; exact Bool.false_ne_true)]
  simp
theorem full_len (xs : List Int) (k : Nat) : (fullTo xs k).length ≤ k := by
  unfold fullTo
  rw [List.length_map]
  exact Nat.le_trans (List.length_filter_le _ _) (by simp)

set_option maxRecDepth 100000 in
set_option maxHeartbeats 4000000 in
theorem l6rAll_any {xs : List Int} (R : Rl xs.length xs) (ao : Option Addr) (ca : Nat) (w : World) (hx : Rd w ao xs) :
    Calls Tryz.prog 32 #[.slice ao xs.length ca] w fun e w' => ∃ v gs, e = .returned v ∧ Own2 w' w.heap.size w'.heap.size v (fullL xs).length (PI (fullL xs)) gs ∧ Below w.heap.size w w' := by
  obtain ⟨i0, hi, hz0, hz1, hz2⟩ := info_parts Tryz.info223
  have h1' := R.one
  have h4 := R.four
  have hw := pow_wrap xs.length h1' h4
  have hm := pow_le16 h4
  unfold fullL
  obtain ⟨m, hm2⟩ : ∃ m, 2 ^ xs.length = m := ⟨_, rfl⟩
  rw [hm2] at hw hm ⊢
  have HC := Lib.hid (And.intro (fun (z : Fin 16) wr h => l6rClosed_any R z ao ca wr h) (fun (z : Fin 16) wr h => l6rPolar_any R z ao ca wr h))
  have hown0 : (w.alloc (.cells #[] 23)).ownsRow w.heap.size 23 1 (.slice (some ⟨w.heap.size, 0, none⟩) 0 0) 0 [] := World.ownsRow_lit w #[] 0 (Nat.le_refl _) (by unfold maxLen; omega) rfl
  have E0 : Own2 (w.alloc (.cells #[] 23)) w.heap.size (w.alloc (.cells #[] 23)).heap.size (.slice (some ⟨w.heap.size, 0, none⟩) 0 0) (fullTo xs 0).length (PI (fullTo xs 0)) (fun _ => 0) := Own2.empty hown0
  have B1 := below_one w (.cells #[] 23)
  have HX := Lib.hid hx
  clear R hm2 hown0 hx
  go_enter Tryz.func32, Tryz.ntmps32
  go_wp2
  go_loopw [3, 4] (fun v i wr => ∃ (k : Nat) (gs : Nat → Nat), k ≤ m ∧ i = .int .i64 k ∧ Own2 wr w.heap.size wr.heap.size v (fullTo xs k).length (PI (fullTo xs k)) gs ∧ Below w.heap.size w wr)
    (fun _ i _ => m - (intOf i).toNat)
  case atStart => exact ⟨0, _, Nat.zero_le _, rfl, E0, B1⟩
  case round =>
    clear E0 B1
    obtain ⟨k, gs, hk, rfl, ho, hB⟩ := hrel
    by_cases hlt : k < m
    · have hi1 : ((k : Nat) : Int) < (m : Int) := by omega
      have hx2 := HX.out.below hB
      have hcc := HC.out.1 ⟨k, by omega⟩ wr hx2
      have hpp := fun wr h => HC.out.2 ⟨k, by omega⟩ wr h
      dsimp only at hcc hpp
      have hlen := full_len xs k
      cases hb : (clo xs (k : Int) == (k : Int)) with
      | false =>
        have hst := full_no hb
        have HST := Lib.hid hst
        have HCC := Lib.hid hcc
        have hb2 := hb
        clear hst hcc hb hpp
        obtain ⟨c, hc⟩ : ∃ c, clo xs (k : Int) = c := ⟨_, rfl⟩
        rw [hc] at hb2 HCC
        clear hc
        go_wp2_with fail
        refine HCC.out.mono ?_
        rintro e w2 ⟨rfl, hb3⟩
        have ho2 := (ho.below hb3 (Nat.le_refl _)).hi
        have hB2 := hB.trans (hb3.mono hB.size)
        clear ho hB hb3 hx2
        go_wp2
        go_roundw
        case rel => exact ⟨k + 1, gs, by omega, by go_num, by rw [HST.out]; exact ho2, hB2⟩
        case measure => simp [intOf]; omega
      | true =>
        have hst := full_yes hb
        have HST := Lib.hid hst
        have HCC := Lib.hid hcc
        have HPP := Lib.hid hpp
        have hb2 := hb
        clear hst hcc hb hpp
        obtain ⟨c, hc⟩ : ∃ c, clo xs (k : Int) = c := ⟨_, rfl⟩
        rw [hc] at hb2 HCC
        clear hc
        go_wp2_with fail
        refine HCC.out.mono ?_
        rintro e w2 ⟨rfl, hb3⟩
        have ho2 := (ho.below hb3 (Nat.le_refl _)).hi
        have hB2 := hB.trans (hb3.mono hB.size)
        have hx3 := hx2.below hb3
        clear ho hB hb3 hx2
        go_wp2_with fail
        refine (HPP.out _ hx3).mono ?_
        rintro e w3 ⟨rfl, hd⟩
        have ho3 := (ho2.dn hd).hi
        have hB3 := hB2.trans (hd.below _)
        clear ho2 hB2 hx3 hd hb2 HPP HCC
        obtain ⟨p, hp⟩ : ∃ p, relAll xs (k : Int) = p := ⟨_, rfl⟩
        rw [hp] at HST ⊢
        clear hp
        have h6 := cell_one_new (w3.alloc (.cells #[.int .i64 k, .int .i64 p] 3)) (sl2 w3.heap.size) 23
        rw [World.size_alloc] at h6
        have H6 := Lib.hid h6
        clear h6
        go_wp2_with (at_builtin; refine wpList_append_own _ rfl (.tmp 18) (.tmp 24) 64 rfl w.heap.size 23 i0 (.slice none 0 0) 1 24 Tryz.underlying64 hi hz0 hz1 hz2 rfl (by decide) _ _ _ rfl ((ho3.row.alloc _).alloc _) ⟨w3.heap.size + 1, 0, none⟩ 1 1 [_] rfl rfl H6.out (by simp [Value.oneCell']) (by unfold maxLen; omega) (by omega) (by have := hB3.size; simp; omega) ?_)
        intro v' w6 hown' hgrow _
        have hB6 : Below w.heap.size w w6 := (hB3.trans ((below_two w3 _ _).mono hB3.size)).grown hgrow (Nat.le_trans hB3.size (below_two w3 _ _).size) (fun q hq => (ho3.row.lt q hq).1)
        have hpush := ho3.push hB3.size (k : Int) p hown' hgrow (r' := PI (fullTo xs k ++ [((k : Int), p)])) (fun t ht => PI_old _ _ t ht) (PI_new _ _)
        have HO := Lib.hid (And.intro hpush hB6)
        clear hown' hgrow hpush hB6 ho3 hB3
        go_wp2
        go_roundw
        case rel => exact ⟨k + 1, _, by omega, by go_num, by rw [HST.out, List.length_append]; exact HO.out.1, HO.out.2⟩
        case measure => simp [intOf]; omega
    · go_wp2
      go_ret
      obtain rfl : k = m := by omega
      exact ⟨_, gs, rfl, ho, hB⟩

/-- how many rows RectAll has -/
def fullN (xs : List Int) : Nat := if relIn xs then (fullL xs).length else 0
end Go.Proofs.YthdnpcpimggjnaaGreatDoor
