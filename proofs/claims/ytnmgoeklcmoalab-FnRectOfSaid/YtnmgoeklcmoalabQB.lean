/-
  Stepped relations: the program's isStepped and RectStepped, and the model's; for lists of at most 2^20 numbers.
-/
import Derived.Test.YtnmgoeklcmoalabQA
import Derived.Test.YtnmgoeklcmoalabHG
namespace Go.Proofs.Ytnmgoeklcmoalab
open Go.RowKit

/-- a relation composed with itself turned and with itself -/
def trip (xs : List Int) : List Int := compL (compL xs (turnL xs)) xs
def stepB (xs : List Int) : Bool := belowB (trip xs) xs
theorem Rl.trip {n : Nat} {xs : List Int} (h : Rl n xs) : Rl n (trip xs) := (h.comp h.turn).comp h

set_option maxRecDepth 100000 in
set_option maxHeartbeats 4000000 in
theorem isStepped_walk (xs a b c : List Int) (s : Bool) (w : World)
    (h1 : ∀ w, Calls Try.prog 42 #[relOf xs] w fun e w' => e = .returned (relOf a) ∧ Below w.heap.size w w')
    (h2 : ∀ w, Calls Try.prog 60 #[relOf xs, relOf a] w fun e w' => e = .returned (relOf b) ∧ Below w.heap.size w w')
    (h3 : ∀ w, Calls Try.prog 60 #[relOf b, relOf xs] w fun e w' => e = .returned (relOf c) ∧ Below w.heap.size w w')
    (h4 : ∀ w, Calls Try.prog 69 #[relOf c, relOf xs] w fun e w' => e = .returned (.bool s) ∧ Below w.heap.size w w') :
    Calls Try.prog 46 #[relOf xs] w fun e w' => e = .returned (.bool s) ∧ Below w.heap.size w w' := by
  have x0 := RelAt.new w xs
  have B0 := below_one w (.cells #[.int .i64 xs.length, .int .i64 (rowAt xs 0), .int .i64 (rowAt xs 1), .int .i64 (rowAt xs 2), .int .i64 (rowAt xs 3)] 46)
  have H := Lib.hid (And.intro h1 (And.intro h2 (And.intro h3 h4)))
  clear h1 h2 h3 h4
  have p0 := x0.cell0
  have p1 := x0.cell1
  have p2 := x0.cell2
  have p3 := x0.cell3
  have p4 := x0.cell4
  go_enter Try.func46, Try.ntmps46
  go_wp2
  obtain ⟨W0, hW0⟩ : ∃ W0, (w.alloc (.cells #[.int .i64 xs.length, .int .i64 (rowAt xs 0), .int .i64 (rowAt xs 1), .int .i64 (rowAt xs 2), .int .i64 (rowAt xs 3)] 46)) = W0 := ⟨_, rfl⟩
  rw [hW0] at p0 p1 p2 p3 p4 x0 B0 ⊢
  clear hW0
  have x := x0.drew
  have B := B0.drew
  clear x0 B0
  go_region_held (fun w' => w'.cell? ⟨w.heap.size, 0, none⟩ = some (.int .i64 xs.length) ∧ w'.cell? ⟨w.heap.size, 1, none⟩ = some (.int .i64 (rowAt xs 0)) ∧ w'.cell? ⟨w.heap.size, 2, none⟩ = some (.int .i64 (rowAt xs 1)) ∧ w'.cell? ⟨w.heap.size, 3, none⟩ = some (.int .i64 (rowAt xs 2)) ∧ w'.cell? ⟨w.heap.size, 4, none⟩ = some (.int .i64 (rowAt xs 3))) (go_keep) (first
    | (go_at_call 42; refine (H.out.1 _).mono ?_; rintro e w2 ⟨rfl, hb⟩; have x := x.below hb x.lt; have B := B.trans (hb.mono B.size); have p0 := x.cell0; have p1 := x.cell1; have p2 := x.cell2; have p3 := x.cell3; have p4 := x.cell4; clear hb)
    | (go_at_call 60; ((with_reducible refine (H.out.2.1 _).mono ?_); rintro e w3 ⟨rfl, hb⟩; have x := x.below hb x.lt; have B := B.trans (hb.mono B.size); have p0 := x.cell0; have p1 := x.cell1; have p2 := x.cell2; have p3 := x.cell3; have p4 := x.cell4; clear hb))
    | (go_at_call 60; ((with_reducible refine (H.out.2.2.1 _).mono ?_); rintro e w4 ⟨rfl, hb⟩; have x := x.below hb x.lt; have B := B.trans (hb.mono B.size); have p0 := x.cell0; have p1 := x.cell1; have p2 := x.cell2; have p3 := x.cell3; have p4 := x.cell4; clear hb))
    | (go_at_call 69; refine (H.out.2.2.2 _).mono ?_; rintro e w5 ⟨rfl, hb⟩; have x := x.below hb x.lt; have B := B.trans (hb.mono B.size); have p0 := x.cell0; have p1 := x.cell1; have p2 := x.cell2; have p3 := x.cell3; have p4 := x.cell4; clear hb))
  all_goals
    go_wp2
    go_ret
    exact ⟨rfl, B⟩
theorem isStepped_any {n : Nat} {xs : List Int} (R : Rl n xs) (w : World) :
    Calls Try.prog 46 #[relOf xs] w fun e w' => e = .returned (.bool (stepB xs)) ∧ Below w.heap.size w w' :=
  isStepped_walk xs (turnL xs) (compL xs (turnL xs)) (trip xs) (stepB xs) w (fun w => turnedR R w) (fun w => then_any R R.turn w) (fun w => then_any (R.comp R.turn) R w) (fun w => belowR R.trip R w)

/-! the model's -/
set_option maxHeartbeats 4000000 in
theorem l6rStepped_walk (xs a b c : List Int) (s : Bool) (ao : Option Addr) (ca : Nat) (w : World) (na : 1 ≤ a.length) (nb : 1 ≤ b.length) (nc : 1 ≤ c.length) (hx : Rd w ao xs)
    (h1 : ∀ ao ca w, Rd w ao xs → Calls Try.prog 80 #[.slice ao xs.length ca] w (GaveL w a))
    (h2 : ∀ ao bo ca cb w, Rd w ao xs → Rd w bo a → Calls Try.prog 82 #[.slice ao xs.length ca, .slice bo a.length cb] w (GaveL w b))
    (h3 : ∀ ao bo ca cb w, Rd w ao b → Rd w bo xs → Calls Try.prog 82 #[.slice ao b.length ca, .slice bo xs.length cb] w (GaveL w c))
    (h4 : ∀ ao bo ca cb w, Rd w ao c → Rd w bo xs → Calls Try.prog 84 #[.slice ao c.length ca, .slice bo xs.length cb] w fun e w' => e = .returned (.bool s) ∧ Dn w w') :
    Calls Try.prog 71 #[.slice ao xs.length ca] w fun e w' => e = .returned (.bool s) ∧ Below w.heap.size w w' := by
  have H := Lib.hid (And.intro h1 (And.intro h2 (And.intro h3 h4)))
  clear h1 h2 h3 h4
  have rxs := hx
  clear hx
  have B0 := Below.refl w.heap.size w
  go_enter Try.func71, Try.ntmps71
  go_wp2_with fail
  refine (H.out.1 _ _ _ rxs).mono ?_
  rintro e w1 ⟨v, rfl, o1, b1⟩
  obtain ⟨ga, qa, rfl, _, _, ra⟩ := GaveL.form o1 na
  have rxs := rxs.below b1
  have B0 := B0.trans (b1.mono B0.size)
  clear o1 b1
  go_wp2_with fail
  refine (H.out.2.1 _ _ _ _ _ rxs ra).mono ?_
  rintro e w2 ⟨v, rfl, o1, b1⟩
  obtain ⟨gb, qb, rfl, _, _, rb⟩ := GaveL.form o1 nb
  have rxs := rxs.below b1
  have B0 := B0.trans (b1.mono B0.size)
  clear o1 b1 ra
  go_wp2_with fail
  refine (H.out.2.2.1 _ _ _ _ _ rb rxs).mono ?_
  rintro e w3 ⟨v, rfl, o1, b1⟩
  obtain ⟨gc, qc, rfl, _, _, rc⟩ := GaveL.form o1 nc
  have rxs := rxs.below b1
  have B0 := B0.trans (b1.mono B0.size)
  clear o1 b1 rb
  go_wp2_with fail
  refine (H.out.2.2.2 _ _ _ _ _ rc rxs).mono ?_
  rintro e w4 ⟨rfl, hd⟩
  have B0 := B0.trans (hd.below _)
  go_wp2
  go_ret
  exact ⟨rfl, B0⟩
theorem l6rStepped_any {n : Nat} {xs : List Int} (h : Rl n xs) (ao : Option Addr) (ca : Nat) (w : World) (hx : Rd w ao xs) :
    Calls Try.prog 71 #[.slice ao xs.length ca] w fun e w' => e = .returned (.bool (stepB xs)) ∧ Below w.heap.size w w' :=
  l6rStepped_walk xs (turnL xs) (compL xs (turnL xs)) (trip xs) (stepB xs) ao ca w (Rl.pos h.turn) (Rl.pos (h.comp h.turn)) (Rl.pos h.trip) hx (fun ao ca w => sTurn h ao ca w) (fun ao bo ca cb w => sComp h h.turn ao bo ca cb w) (fun ao bo ca cb w => sComp (h.comp h.turn) h ao bo ca cb w) (fun ao bo ca cb w => sBelow h.trip h ao bo ca cb w)

theorem specRectStepped_any (ao : Option Addr) (ca : Nat) (xs : List Int) (w : World) (hl : xs.length ≤ 1048576) (hx : Rd w ao xs) :
    Calls Try.prog 48 #[.slice ao xs.length ca] w fun e w' => e = .returned (.bool (relIn xs && stepB xs)) ∧ Below w.heap.size w w' := by
  have h1 := specRelIn_any ao ca xs w hl hx
  cases hp : relIn xs with
  | false =>
    rw [hp] at h1
    rw [Bool.false_and]
    have H1 := Lib.hid h1
    clear h1 hp hx
    go_enter Try.func48, Try.ntmps48
    go_wp2_with fail
    refine H1.out.mono ?_
    rintro e w1 ⟨rfl, hd⟩
    go_wp2
    go_ret
    exact ⟨rfl, hd.below _⟩
  | true =>
    rw [hp] at h1
    rw [Bool.true_and]
    have H1 := Lib.hid h1
    have HC := Lib.hid (fun w h => l6rStepped_any (Rl.of hp) ao ca w h)
    clear h1 hp
    go_enter Try.func48, Try.ntmps48
    go_wp2_with fail
    refine H1.out.mono ?_
    rintro e w1 ⟨rfl, hd⟩
    go_wp2_with fail
    refine (HC.out _ (hd.rd hx)).mono ?_
    rintro e w2 ⟨rfl, hb⟩
    go_wp2
    go_ret
    exact ⟨rfl, (hd.below _).trans (hb.mono (hd.below w.heap.size).size)⟩
end Go.Proofs.Ytnmgoeklcmoalab
