/-
  Polars and closed sets: the program's closed and setMadeOf, RectPolar and RectClosed, and the model's; for lists of at most 2^20 numbers.
-/
import Derived.Test.YtnmgoeklcmoalaaOBA
import Derived.Test.YtnmgoeklcmoalaaEE
import Derived.Deep.RegionHeld3
namespace Go.Proofs.Ytnmgoeklcmoalaa
open Go.RowKit

/-- a relation and a set of its points -/
def setB (xs : List Int) (z : Int) : Bool := relIn xs && rowIn xs.length z
/-- the polar of the polar -/
def clo (xs : List Int) (z : Int) : Int := relAll (turnL xs) (relAll xs z)
def polI (xs : List Int) (z : Int) : Int := if setB xs z then relAll xs z else 0
def cloI (xs : List Int) (z : Int) : Int := if setB xs z then clo xs z else 0

set_option maxHeartbeats 4000000 in
theorem l6rPolar_any {xs : List Int} (R : Rl xs.length xs) (z : Fin 16) (ao : Option Addr) (ca : Nat) (w : World) (hx : Rd w ao xs) :
    Calls Try.prog 88 #[.slice ao xs.length ca, .int .i64 (z.val : Int)] w fun e w' => e = .returned (.int .i64 (relAll xs (z.val : Int))) ∧ Dn w w' := by
  have h1 := R.one
  have h4 := R.four
  have htop := top_wrap xs.length h1 h4
  have HR := Lib.hid (fun k (h : k < 4) => b_bit z ⟨k, h⟩)
  clear R
  go_enter Try.func88, Try.ntmps88
  go_wp2
  clear htop
  go_loopw [5, 6] (fun f i wr => ∃ k : Nat, k ≤ xs.length ∧ i = .int .i64 k ∧ f = .int .i64 (relTo xs (z.val : Int) k) ∧ Dn w wr)
    (fun _ i _ => xs.length - (intOf i).toNat)
  case atStart => exact ⟨0, Nat.zero_le _, rfl, rfl, Dn.refl _⟩
  case round =>
    obtain ⟨k, hk, rfl, rfl, hd⟩ := hrel
    by_cases hlt : k < xs.length
    · obtain ⟨b, off, x, hxk, rfl, hbl, hc1⟩ := (hd.rd hx).get k hlt
      rw [rowA hxk] at hc1
      have hi1 : ((k : Nat) : Int) < (xs.length : Int) := by omega
      have hbb := HR.out k (by omega)
      have HS := Lib.hid (relTo_step xs (z.val : Int) k)
      clear hx hxk
      cases hb : bitB (z.val : Int) k with
      | true =>
        rw [hb] at hbb
        have HB := Lib.hid hbb
        clear hbb
        have hb2 : (bits .and .i64 ((z.val : Int) / 2 ^ k) 1 == 1) = true := hb
        clear hb
        go_wp2
        go_roundw
        case rel => exact ⟨k + 1, by omega, by go_num, by rw [HS.out, ← HB.out]; rfl, hd⟩
        case measure => simp [intOf]; omega
      | false =>
        rw [hb] at hbb
        have HB := Lib.hid hbb
        clear hbb
        have hb2 : (bits .and .i64 ((z.val : Int) / 2 ^ k) 1 == 1) = false := hb
        clear hb
        go_wp2
        go_roundw
        case rel => exact ⟨k + 1, by omega, by go_num, by rw [HS.out, ← HB.out]; rfl, hd⟩
        case measure => simp [intOf]; omega
    · obtain rfl : k = xs.length := by omega
      go_wp2
      go_ret
      exact ⟨rfl, hd⟩

theorem l6rClosed_any {xs : List Int} (R : Rl xs.length xs) (z : Fin 16) (ao : Option Addr) (ca : Nat) (w : World) (hx : Rd w ao xs) :
    Calls Try.prog 87 #[.slice ao xs.length ca, .int .i64 (z.val : Int)] w fun e w' => e = .returned (.int .i64 (clo xs (z.val : Int))) ∧ Below w.heap.size w w' := by
  obtain ⟨u, hu, _, _⟩ := relAll_row R (z.val : Int)
  have T : Rl (turnL xs).length (turnL xs) := by rw [R.turn.len]; exact R.turn
  have n1 : 1 ≤ (turnL xs).length := T.one
  unfold clo
  rw [hu]
  have H := Lib.hid (And.intro (fun w h => sTurn R ao ca w h) (And.intro (fun w h => hu ▸ l6rPolar_any R z ao ca w h) (fun ao ca w h => l6rPolar_any T u ao ca w h)))
  clear hu T R
  obtain ⟨t, ht⟩ : ∃ t, turnL xs = t := ⟨_, rfl⟩
  rw [ht] at H n1 ⊢
  clear ht
  go_enter Try.func87, Try.ntmps87
  go_wp2_with fail
  refine (H.out.1 _ hx).mono ?_
  rintro e w1 ⟨v, rfl, o1, b1⟩
  obtain ⟨gb, qb, rfl, _, _, rb⟩ := GaveL.form o1 n1
  have hx := hx.below b1
  clear o1
  go_wp2_with fail
  refine (H.out.2.1 _ hx).mono ?_
  rintro e w2 ⟨rfl, hd⟩
  go_wp2_with fail
  refine (H.out.2.2 _ _ _ (hd.rd rb)).mono ?_
  rintro e w3 ⟨rfl, hd3⟩
  go_wp2
  go_ret
  exact ⟨rfl, b1.trans ((hd.trans hd3).below _)⟩

/-! the program's -/
set_option maxRecDepth 100000 in
set_option maxHeartbeats 4000000 in
theorem closed_walk (xs a : List Int) (z p q : Int) (w : World)
    (h1 : ∀ w, Calls Try.prog 47 #[relOf xs] w fun e w' => e = .returned (relOf a) ∧ Below w.heap.size w w')
    (h2 : ∀ w, Calls Try.prog 86 #[relOf xs, .int .i64 z] w fun e w' => e = .returned (.int .i64 p) ∧ Below w.heap.size w w')
    (h3 : ∀ w, Calls Try.prog 86 #[relOf a, .int .i64 p] w fun e w' => e = .returned (.int .i64 q) ∧ Below w.heap.size w w') :
    Calls Try.prog 85 #[relOf xs, .int .i64 z] w fun e w' => e = .returned (.int .i64 q) ∧ Below w.heap.size w w' := by
  have x0 := RelAt.new w xs
  have B0 := below_one w (.cells #[.int .i64 xs.length, .int .i64 (rowAt xs 0), .int .i64 (rowAt xs 1), .int .i64 (rowAt xs 2), .int .i64 (rowAt xs 3)] 47)
  have H := Lib.hid (And.intro h1 (And.intro h2 h3))
  clear h1 h2 h3
  have p0 := x0.cell0
  have p1 := x0.cell1
  have p2 := x0.cell2
  have p3 := x0.cell3
  have p4 := x0.cell4
  go_enter Try.func85, Try.ntmps85
  go_wp2
  obtain ⟨W0, hW0⟩ : ∃ W0, (w.alloc (.cells #[.int .i64 xs.length, .int .i64 (rowAt xs 0), .int .i64 (rowAt xs 1), .int .i64 (rowAt xs 2), .int .i64 (rowAt xs 3)] 47)) = W0 := ⟨_, rfl⟩
  rw [hW0] at p0 p1 p2 p3 p4 x0 B0 ⊢
  clear hW0
  have x := x0.drew
  have B := B0.drew
  clear x0 B0
  go_region_held (fun w' => w'.cell? ⟨w.heap.size, 0, none⟩ = some (.int .i64 xs.length) ∧ w'.cell? ⟨w.heap.size, 1, none⟩ = some (.int .i64 (rowAt xs 0)) ∧ w'.cell? ⟨w.heap.size, 2, none⟩ = some (.int .i64 (rowAt xs 1)) ∧ w'.cell? ⟨w.heap.size, 3, none⟩ = some (.int .i64 (rowAt xs 2)) ∧ w'.cell? ⟨w.heap.size, 4, none⟩ = some (.int .i64 (rowAt xs 3))) (go_keep) (first
    | (go_at_call 47; refine (H.out.1 _).mono ?_; rintro e w2 ⟨rfl, hb⟩; have x := x.below hb x.lt; have B := B.trans (hb.mono B.size); have p0 := x.cell0; have p1 := x.cell1; have p2 := x.cell2; have p3 := x.cell3; have p4 := x.cell4; clear hb)
    | (go_at_call 86; ((with_reducible refine (H.out.2.1 _).mono ?_); rintro e w3 ⟨rfl, hb⟩; have x := x.below hb x.lt; have B := B.trans (hb.mono B.size); have p0 := x.cell0; have p1 := x.cell1; have p2 := x.cell2; have p3 := x.cell3; have p4 := x.cell4; clear hb))
    | (go_at_call 86; ((with_reducible refine (H.out.2.2 _).mono ?_); rintro e w4 ⟨rfl, hb⟩; have x := x.below hb x.lt; have B := B.trans (hb.mono B.size); have p0 := x.cell0; have p1 := x.cell1; have p2 := x.cell2; have p3 := x.cell3; have p4 := x.cell4; clear hb)))
  all_goals
    go_wp2
    go_ret
    exact ⟨rfl, B⟩
theorem closed_any {xs : List Int} (R : Rl xs.length xs) (z : Int) (w : World) :
    Calls Try.prog 85 #[relOf xs, .int .i64 z] w fun e w' => e = .returned (.int .i64 (clo xs z)) ∧ Below w.heap.size w w' :=
  closed_walk xs (turnL xs) z (relAll xs z) (clo xs z) w (fun w => turnedR R w) (fun w => relatedToAll_any R z w) (fun w => relatedToAll_any (by rw [R.turn.len]; exact R.turn) (relAll xs z) w)

theorem cf_relatedToAll (args : Array Value) (w : World) : Sem.run Try.prog (callFunc 86 args) w = .ok (.enter 86 args) w := by kernel_rfl
theorem cf_closed (args : Array Value) (w : World) : Sem.run Try.prog (callFunc 85 args) w = .ok (.enter 85 args) w := by kernel_rfl

end Go.Proofs.Ytnmgoeklcmoalaa
