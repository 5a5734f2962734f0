/-
  Polars and closed sets: the program's closed and setMadeOf, RectPolar and RectClosed, and the model's; for lists of at most 2^20 numbers.
-/
import Derived.Test.YtnmgoeklcmoalabOBA
import Derived.Test.YtnmgoeklcmoalabEE
import Derived.Deep.RegionHeld3
namespace Go.Proofs.Ytnmgoeklcmoalab
open Go.RowKit

/-- a relation and a set of its points -/
def setB (xs : List Int) (z : Int) : Bool := relIn xs && rowIn xs.length z
/-- the polar of the polar -/
def clo (xs : List Int) (z : Int) : Int := relAll (turnL xs) (relAll xs z)
def polI (xs : List Int) (z : Int) : Int := if setB xs z then relAll xs z else 0
def cloI (xs : List Int) (z : Int) : Int := if setB xs z then clo xs z else 0

set_option maxHeartbeats 4000000 in
theorem l6rPolar_any {xs : List Int} (R : Rl xs.length xs) (z : Fin 16) (ao : Option Addr) (ca : Nat) (w : World) (hx : Rd w ao xs) :
    Calls Try.prog 66 #[.slice ao xs.length ca, .int .i64 (z.val : Int)] w fun e w' => e = .returned (.int .i64 (relAll xs (z.val : Int))) ∧ Dn w w' := by
  have h1 := R.one
  have h4 := R.four
  have htop := top_wrap xs.length h1 h4
  have HR := Lib.hid (fun k (h : k < 4) => b_bit z ⟨k, h⟩)
  clear R
  go_enter Try.func66, Try.ntmps66
  go_wp2
  clear htop
  go_loopw [5, 6] (fun f i wr => ∃ k : Nat, k ≤ xs.length ∧ i = .int .i64 k ∧ f = .int .i64 (relTo xs (z.val : Int) k) ∧ Dn w wr)
    (fun _ i _ => xs.length - (intOf i).toNat)
  case atStart => exact ⟨0, Nat.zero_le _, rfl, rfl, Dn.refl _⟩
  case round =>
    obtain ⟨k, hk, rfl, rfl, hd⟩ := hrel
    by_cases hlt : k < xs.length
    · obtain ⟨b, off, x, hxk, rfl, hbl, hc1⟩ := (hd.rd hx).get k hlt
      rw [rowA hxk] at hc1
      have hi1 : ((k : Nat) : Int) < (xs.length : Int) := by omega
      have hbb := HR.out k (by omega)
      have HS := Lib.hid (relTo_step xs (z.val : Int) k)
      clear hx hxk
      cases hb : bitB (z.val : Int) k with
      | true =>
        rw [hb] at hbb
        have HB := Lib.hid hbb
        clear hbb
        have hb2 : (bits .and .i64 ((z.val : Int) / 2 ^ k) 1 == 1) = true := hb
        clear hb
        go_wp2
        go_roundw
        case rel => exact ⟨k + 1, by omega, by go_num, by rw [HS.out, ← HB.out]; rfl, hd⟩
        case measure => simp [intOf]; omega
      | false =>
        rw [hb] at hbb
        have HB := Lib.hid hbb
        clear hbb
        have hb2 : (bits .and .i64 ((z.val : Int) / 2 ^ k) 1 == 1) = false := hb
        clear hb
        go_wp2
        go_roundw
        case rel => exact ⟨k + 1, by omega, by go_num, by rw [HS.out, ← HB.out]; rfl, hd⟩
        case measure => simp [intOf]; omega
    · obtain rfl : k = xs.length := by omega
      go_wp2
      go_ret
      exact ⟨rfl, hd⟩

theorem l6rClosed_any {xs : List Int} (R : Rl xs.length xs) (z : Fin 16) (ao : Option Addr) (ca : Nat) (w : World) (hx : Rd w ao xs) :
    Calls Try.prog 65 #[.slice ao xs.length ca, .int .i64 (z.val : Int)] w fun e w' => e = .returned (.int .i64 (clo xs (z.val : Int))) ∧ Below w.heap.size w w' := by
  obtain ⟨u, hu, _, _⟩ := relAll_row R (z.val : Int)
  have T : Rl (turnL xs).length (turnL xs) := by rw [R.turn.len]; exact R.turn
  have n1 : 1 ≤ (turnL xs).length := T.one
  unfold clo
  rw [hu]
  have H := Lib.hid (And.intro (fun w h => sTurn R ao ca w h) (And.intro (fun w h => hu ▸ l6rPolar_any R z ao ca w h) (fun ao ca w h => l6rPolar_any T u ao ca w h)))
  clear hu T R
  obtain ⟨t, ht⟩ : ∃ t, turnL xs = t := ⟨_, rfl⟩
  rw [ht] at H n1 ⊢
  clear ht
  go_enter Try.func65, Try.ntmps65
  go_wp2_with fail
  refine (H.out.1 _ hx).mono ?_
  rintro e w1 ⟨v, rfl, o1, b1⟩
  obtain ⟨gb, qb, rfl, _, _, rb⟩ := GaveL.form o1 n1
  have hx := hx.below b1
  clear o1
  go_wp2_with fail
  refine (H.out.2.1 _ hx).mono ?_
  rintro e w2 ⟨rfl, hd⟩
  go_wp2_with fail
  refine (H.out.2.2 _ _ _ (hd.rd rb)).mono ?_
  rintro e w3 ⟨rfl, hd3⟩
  go_wp2
  go_ret
  exact ⟨rfl, b1.trans ((hd.trans hd3).below _)⟩

/-! the program's -/
set_option maxRecDepth 100000 in
set_option maxHeartbeats 4000000 in
theorem closed_walk (xs a : List Int) (z p q : Int) (w : World)
    (h1 : ∀ w, Calls Try.prog 42 #[relOf xs] w fun e w' => e = .returned (relOf a) ∧ Below w.heap.size w w')
    (h2 : ∀ w, Calls Try.prog 44 #[relOf xs, .int .i64 z] w fun e w' => e = .returned (.int .i64 p) ∧ Below w.heap.size w w')
    (h3 : ∀ w, Calls Try.prog 44 #[relOf a, .int .i64 p] w fun e w' => e = .returned (.int .i64 q) ∧ Below w.heap.size w w') :
    Calls Try.prog 64 #[relOf xs, .int .i64 z] w fun e w' => e = .returned (.int .i64 q) ∧ Below w.heap.size w w' := by
  have x0 := RelAt.new w xs
  have B0 := below_one w (.cells #[.int .i64 xs.length, .int .i64 (rowAt xs 0), .int .i64 (rowAt xs 1), .int .i64 (rowAt xs 2), .int .i64 (rowAt xs 3)] 46)
  have H := Lib.hid (And.intro h1 (And.intro h2 h3))
  clear h1 h2 h3
  have p0 := x0.cell0
  have p1 := x0.cell1
  have p2 := x0.cell2
  have p3 := x0.cell3
  have p4 := x0.cell4
  go_enter Try.func64, Try.ntmps64
  go_wp2
  obtain ⟨W0, hW0⟩ : ∃ W0, (w.alloc (.cells #[.int .i64 xs.length, .int .i64 (rowAt xs 0), .int .i64 (rowAt xs 1), .int .i64 (rowAt xs 2), .int .i64 (rowAt xs 3)] 46)) = W0 := ⟨_, rfl⟩
  rw [hW0] at p0 p1 p2 p3 p4 x0 B0 ⊢
  clear hW0
  have x := x0.drew
  have B := B0.drew
  clear x0 B0
  go_region_held (fun w' => w'.cell? ⟨w.heap.size, 0, none⟩ = some (.int .i64 xs.length) ∧ w'.cell? ⟨w.heap.size, 1, none⟩ = some (.int .i64 (rowAt xs 0)) ∧ w'.cell? ⟨w.heap.size, 2, none⟩ = some (.int .i64 (rowAt xs 1)) ∧ w'.cell? ⟨w.heap.size, 3, none⟩ = some (.int .i64 (rowAt xs 2)) ∧ w'.cell? ⟨w.heap.size, 4, none⟩ = some (.int .i64 (rowAt xs 3))) (go_keep) (first
    | (go_at_call 42; refine (H.out.1 _).mono ?_; rintro e w2 ⟨rfl, hb⟩; have x := x.below hb x.lt; have B := B.trans (hb.mono B.size); have p0 := x.cell0; have p1 := x.cell1; have p2 := x.cell2; have p3 := x.cell3; have p4 := x.cell4; clear hb)
    | (go_at_call 44; ((with_reducible refine (H.out.2.1 _).mono ?_); rintro e w3 ⟨rfl, hb⟩; have x := x.below hb x.lt; have B := B.trans (hb.mono B.size); have p0 := x.cell0; have p1 := x.cell1; have p2 := x.cell2; have p3 := x.cell3; have p4 := x.cell4; clear hb))
    | (go_at_call 44; ((with_reducible refine (H.out.2.2 _).mono ?_); rintro e w4 ⟨rfl, hb⟩; have x := x.below hb x.lt; have B := B.trans (hb.mono B.size); have p0 := x.cell0; have p1 := x.cell1; have p2 := x.cell2; have p3 := x.cell3; have p4 := x.cell4; clear hb)))
  all_goals
    go_wp2
    go_ret
    exact ⟨rfl, B⟩
theorem closed_any {xs : List Int} (R : Rl xs.length xs) (z : Int) (w : World) :
    Calls Try.prog 64 #[relOf xs, .int .i64 z] w fun e w' => e = .returned (.int .i64 (clo xs z)) ∧ Below w.heap.size w w' :=
  closed_walk xs (turnL xs) z (relAll xs z) (clo xs z) w (fun w => turnedR R w) (fun w => relatedToAll_any R z w) (fun w => relatedToAll_any (by rw [R.turn.len]; exact R.turn) (relAll xs z) w)

/-- what a call gives that answers a set and a bool -/
theorem setMadeOf_no (f : Value) (ao : Option Addr) (ca : Nat) (xs : List Int) (z : Int) (w : World) (hl : xs.length ≤ 1048576) (hx : Rd w ao xs) (hp : setB xs z = false) :
    Calls Try.prog 43 #[.slice ao xs.length ca, .int .i64 z, f] w fun e w' => e = .returned (.tuple #[.int .i64 0, .bool false]) ∧ Below w.heap.size w w' := by
  cases hq : relIn xs with
  | false =>
    have HQ := Lib.hid hq
    clear hp hq
    go_enter Try.func43, Try.ntmps43
    go_wp2_with (go_at_call 32; refine (relationFrom_no _ _ _ _ hl HQ.out hx).mono ?_; rintro e w1 ⟨rfl, hb⟩)
    go_ret2
    exact ⟨rfl, hb.alloc hb.size _⟩
  | true =>
    unfold setB at hp
    rw [hq, Bool.true_and] at hp
    have h4 := relIn_len hq
    have hs := fun wr => isSet_any z xs.length h4.1 h4.2 wr
    rw [hp] at hs
    have HS := Lib.hid hs
    have HQ := Lib.hid hq
    clear hq hs hp h4
    go_enter Try.func43, Try.ntmps43
    go_wp2_with fail
    refine (relationFrom_yes _ _ _ _ HQ.out hx).mono ?_
    rintro e w1 ⟨rfl, hb⟩
    have x1 := RelAt.new w1 xs
    have B1 := hb.alloc hb.size (.cells #[.int .i64 xs.length, .int .i64 (rowAt xs 0), .int .i64 (rowAt xs 1), .int .i64 (rowAt xs 2), .int .i64 (rowAt xs 3)] 46)
    have p0 := x1.cell0
    have p1 := x1.cell1
    have p2 := x1.cell2
    have p3 := x1.cell3
    have p4 := x1.cell4
    clear x1 hb
    go_wp2_with fail
    refine (HS.out _).mono ?_
    rintro e w2 ⟨rfl, rfl⟩
    go_wp2
    go_ret2
    exact ⟨rfl, B1⟩

theorem setMadeOf_yes (g : FuncId) (hcf : ∀ args w, Sem.run Try.prog (callFunc g args) w = .ok (.enter g args) w) (m : Int) (ao : Option Addr) (ca : Nat) (xs : List Int) (z : Int) (w : World) (hx : Rd w ao xs) (hp : setB xs z = true)
    (hg : ∀ w, Calls Try.prog g #[relOf xs, .int .i64 z] w fun e w' => e = .returned (.int .i64 m) ∧ Below w.heap.size w w') :
    Calls Try.prog 43 #[.slice ao xs.length ca, .int .i64 z, .func (.func g) #[] #[]] w fun e w' => e = .returned (.tuple #[.int .i64 m, .bool true]) ∧ Below w.heap.size w w' := by
  unfold setB at hp
  rw [Bool.and_eq_true] at hp
  have h4 := relIn_len hp.1
  have hs := fun wr => isSet_any z xs.length h4.1 h4.2 wr
  rw [hp.2] at hs
  have HS := Lib.hid hs
  have HP := Lib.hid hp.1
  have HG := Lib.hid hg
  clear hp hg hs h4
  go_enter Try.func43, Try.ntmps43
  go_wp2_with fail
  refine (relationFrom_yes _ _ _ _ HP.out hx).mono ?_
  rintro e w1 ⟨rfl, hb⟩
  have x1 := RelAt.new w1 xs
  have B1 := hb.alloc hb.size (.cells #[.int .i64 xs.length, .int .i64 (rowAt xs 0), .int .i64 (rowAt xs 1), .int .i64 (rowAt xs 2), .int .i64 (rowAt xs 3)] 46)
  have p0 := x1.cell0
  have p1 := x1.cell1
  have p2 := x1.cell2
  have p3 := x1.cell3
  have p4 := x1.cell4
  clear x1 hb
  go_wp2_with fail
  refine (HS.out _).mono ?_
  rintro e w2 ⟨rfl, rfl⟩
  go_wp2_with fail
  refine (HG.out _).mono ?_
  rintro e w3 ⟨rfl, hb3⟩
  go_wp2
  go_ret2
  exact ⟨rfl, B1.trans (hb3.mono B1.size)⟩

theorem cf_relatedToAll (args : Array Value) (w : World) : Sem.run Try.prog (callFunc 44 args) w = .ok (.enter 44 args) w := by kernel_rfl
theorem cf_closed (args : Array Value) (w : World) : Sem.run Try.prog (callFunc 64 args) w = .ok (.enter 64 args) w := by kernel_rfl

theorem implRectPolar_any (ao : Option Addr) (ca : Nat) (xs : List Int) (z : Int) (w : World) (hl : xs.length ≤ 1048576) (hx : Rd w ao xs) :
    Calls Try.prog 14 #[.slice ao xs.length ca, .int .i64 z] w fun e w' => e = .returned (.tuple #[.int .i64 (polI xs z), .bool (setB xs z)]) ∧ Below w.heap.size w w' := by
  unfold polI
  cases hp : setB xs z with
  | false =>
    have h1 := Lib.hid (setMadeOf_no (.func (.func 44) #[] #[]) ao ca xs z w hl hx hp)
    clear hp
    go_enter Try.func14, Try.ntmps14
    go_wp2_with (go_at_call 43; refine h1.out.mono ?_; rintro e w1 ⟨rfl, hb⟩)
    go_ret2
    exact ⟨rfl, hb⟩
  | true =>
    have hp2 := hp
    unfold setB at hp2
    rw [Bool.and_eq_true] at hp2
    have R := Rl.of hp2.1
    have h1 := Lib.hid (setMadeOf_yes 44 cf_relatedToAll (relAll xs z) ao ca xs z w hx hp (fun w => relatedToAll_any R z w))
    clear hp hp2 R
    go_enter Try.func14, Try.ntmps14
    go_wp2_with (go_at_call 43; refine h1.out.mono ?_; rintro e w1 ⟨rfl, hb⟩)
    go_ret2
    exact ⟨rfl, hb⟩
end Go.Proofs.Ytnmgoeklcmoalab
