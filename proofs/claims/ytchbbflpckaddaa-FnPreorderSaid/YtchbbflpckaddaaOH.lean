/-
  Classes of preorders: OrderClasses of the program and of the model; for lists of at most 2^20 numbers.
-/
import Derived.Test.YtchbbflpckaddaaHH
import Derived.Test.YtchbbflpckaddaaHM
import Derived.Test.YtchbbflpckaddaaJO
namespace Go.Proofs.Ytchbbflpckaddaa
open Go.RowKit

/-- the letters r, t -/
def rtT : ByteArray := ⟨#[114, 116]⟩
theorem rt_text : textTo rtT risat rtT.size = true := by decide +kernel
theorem rt_all (xs : List Int) : allK xs rtT = (kindR xs && kindT xs) := by
  have e : allK xs rtT = ((List.range 2).all fun i => kindB (byt rtT i) xs) := rfl
  rw [e]
  have h0 : kindB (byt rtT 0) xs = kindR xs := rfl
  have h1 : kindB (byt rtT 1) xs = kindT xs := rfl
  rw [show List.range 2 = [0, 1] from rfl]
  simp [h0, h1]
/-- whether a list is a preorder -/
def preB (xs : List Int) : Bool := relIn xs && (kindR xs && kindT xs)
theorem isPre_any {xs : List Int} (R : Rl xs.length xs) (w : World) :
    Calls Try.prog 58 #[relOf xs, .string rtT] w fun e w' => e = .returned (.bool (preB xs)) ∧ Below w.heap.size w w' := by
  have hc := isOf_any R rtT w (by decide)
  have he : (textTo rtT risat rtT.size && allK xs rtT) = preB xs := by
    rw [rt_text, rt_all, Bool.true_and]
    unfold preB
    rw [R.ok, Bool.true_and]
  rw [he] at hc
  exact hc
theorem pre_in {xs : List Int} (h : preB xs = true) : relIn xs = true := by
  unfold preB at h
  rw [Bool.and_eq_true] at h
  exact h.1
theorem pre_eqv {xs : List Int} (h : preB xs = true) : Eqv xs.length (twoW xs) := by
  have R := Rl.of (pre_in h)
  unfold preB at h
  rw [Bool.and_eq_true, Bool.and_eq_true] at h
  have hr := (same_below R).1 h.2.1
  have ht := (kindT_iff R).1 h.2.2
  refine ⟨R.twoW, fun i hi => ?_, fun i j hi hj g => ?_, fun i j k hi hj hk g g2 => ?_⟩
  · rw [hB_twoW R i i hi hi, hr i hi]
    rfl
  · rw [hB_twoW R i j hi hj, Bool.and_eq_true] at g
    rw [hB_twoW R j i hj hi, g.1, g.2]
    rfl
  · rw [hB_twoW R i j hi hj, Bool.and_eq_true] at g
    rw [hB_twoW R j k hj hk, Bool.and_eq_true] at g2
    rw [hB_twoW R i k hi hk, ht i j k hi hj hk g.1 g2.1, ht k j i hk hj hi g2.2 g.2]
    rfl

set_option maxRecDepth 100000 in
set_option maxHeartbeats 8000000 in
theorem implClasses_walk (xs d s : List Int) (ao : Option Addr) (ca : Nat) (w : World) (hd4 : d.length ≤ 4) (hs4 : s.length ≤ 4)
    (h0 : Calls Try.prog 57 #[.slice ao xs.length ca] w fun e w' => e = .returned (.tuple #[relOf xs, .bool true]) ∧ Below w.heap.size w w')
    (h1 : ∀ w, Calls Try.prog 58 #[relOf xs, .string rtT] w fun e w' => e = .returned (.bool true) ∧ Below w.heap.size w w')
    (h2 : ∀ w, Calls Try.prog 76 #[relOf xs] w fun e w' => e = .returned (relOf d) ∧ Below w.heap.size w w')
    (h3 : ∀ w, Calls Try.prog 77 #[relOf xs, relOf d] w fun e w' => e = .returned (relOf s) ∧ Below w.heap.size w w') :
    Calls Try.prog 39 #[.slice ao xs.length ca] w (GaveLL w d s true) := by
  have H := Lib.hid (And.intro h0 (And.intro h1 (And.intro h2 h3)))
  clear h0 h1 h2 h3
  go_enter Try.func39, Try.ntmps39
  go_wp2_with fail
  refine H.out.1.mono ?_
  rintro e w1 ⟨rfl, hb⟩
  have x1 := RelAt.new w1 xs
  have B1 := hb.alloc hb.size (.cells #[.int .i64 xs.length, .int .i64 (rowAt xs 0), .int .i64 (rowAt xs 1), .int .i64 (rowAt xs 2), .int .i64 (rowAt xs 3)] 43)
  clear hb
  have p0 := x1.cell0
  have p1 := x1.cell1
  have p2 := x1.cell2
  have p3 := x1.cell3
  have p4 := x1.cell4
  go_wp2_with fail
  refine (H.out.2.1 _).mono ?_
  rintro e w2 ⟨rfl, hb⟩
  have x2 := x1.below hb x1.lt
  have B2 := B1.trans (hb.mono B1.size)
  clear hb B1 x1 p0 p1 p2 p3 p4
  have p0 := x2.cell0
  have p1 := x2.cell1
  have p2 := x2.cell2
  have p3 := x2.cell3
  have p4 := x2.cell4
  go_wp2_with fail
  refine (H.out.2.2.1 _).mono ?_
  rintro e w3 ⟨rfl, hb⟩
  have x3 := (x2.below hb x2.lt).alloc (.cells #[.int .i64 d.length, .int .i64 (rowAt d 0), .int .i64 (rowAt d 1), .int .i64 (rowAt d 2), .int .i64 (rowAt d 3)] 43)
  have d3 := RelAt.new w3 d
  have B3 := (B2.trans (hb.mono B2.size)).alloc (Nat.le_trans B2.size hb.size) (.cells #[.int .i64 d.length, .int .i64 (rowAt d 0), .int .i64 (rowAt d 1), .int .i64 (rowAt d 2), .int .i64 (rowAt d 3)] 43)
  clear hb B2 x2 p0 p1 p2 p3 p4
  go_wp2
  obtain ⟨W0, hW0⟩ : ∃ W0, w3.alloc (.cells #[.int .i64 d.length, .int .i64 (rowAt d 0), .int .i64 (rowAt d 1), .int .i64 (rowAt d 2), .int .i64 (rowAt d 3)] 43) = W0 := ⟨_, rfl⟩
  rw [hW0] at x3 d3 B3 ⊢
  clear hW0
  have p0 := x3.cell0
  have p1 := x3.cell1
  have p2 := x3.cell2
  have p3 := x3.cell3
  have p4 := x3.cell4
  have q0 := d3.cell0
  have q1 := d3.cell1
  have q2 := d3.cell2
  have q3 := d3.cell3
  have q4 := d3.cell4
  have x := x3.drew
  have y := d3.drew
  have B := B3.drew
  clear x3 d3 B3
  go_region_held (fun w' => w'.cell? ⟨w1.heap.size, 0, none⟩ = some (.int .i64 xs.length) ∧ w'.cell? ⟨w1.heap.size, 1, none⟩ = some (.int .i64 (rowAt xs 0)) ∧ w'.cell? ⟨w1.heap.size, 2, none⟩ = some (.int .i64 (rowAt xs 1)) ∧ w'.cell? ⟨w1.heap.size, 3, none⟩ = some (.int .i64 (rowAt xs 2)) ∧ w'.cell? ⟨w1.heap.size, 4, none⟩ = some (.int .i64 (rowAt xs 3)) ∧ w'.cell? ⟨w3.heap.size, 0, none⟩ = some (.int .i64 d.length) ∧ w'.cell? ⟨w3.heap.size, 1, none⟩ = some (.int .i64 (rowAt d 0)) ∧ w'.cell? ⟨w3.heap.size, 2, none⟩ = some (.int .i64 (rowAt d 1)) ∧ w'.cell? ⟨w3.heap.size, 3, none⟩ = some (.int .i64 (rowAt d 2)) ∧ w'.cell? ⟨w3.heap.size, 4, none⟩ = some (.int .i64 (rowAt d 3))) (go_keep) (first
    | (go_at_call 77; refine (H.out.2.2.2 _).mono ?_; rintro e w4 ⟨rfl, hb⟩; replace x := x.below hb x.lt; replace y := y.below hb y.lt; replace B := B.trans (hb.mono B.size); (try replace oS := oS.below hb oS.size); replace p0 := x.cell0; replace p1 := x.cell1; replace p2 := x.cell2; replace p3 := x.cell3; replace p4 := x.cell4; replace q0 := y.cell0; replace q1 := y.cell1; replace q2 := y.cell2; replace q3 := y.cell3; replace q4 := y.cell4; clear hb)
    | ((with_reducible refine (list_any d _ hd4).mono ?_); rintro e w5 ⟨u, rfl, os, hb⟩; have bS := B.size; (try have aP := oP.size); replace x := x.below hb x.lt; replace y := y.below hb y.lt; replace B := B.trans (hb.mono B.size); (try replace oP := oP.below hb oP.size); have oS := OwnR.made os; replace p0 := x.cell0; replace p1 := x.cell1; replace p2 := x.cell2; replace p3 := x.cell3; replace p4 := x.cell4; replace q0 := y.cell0; replace q1 := y.cell1; replace q2 := y.cell2; replace q3 := y.cell3; replace q4 := y.cell4; clear hb os)
    | ((with_reducible refine (list_any s _ hs4).mono ?_); rintro e w6 ⟨v, rfl, op, hb⟩; have bP := B.size; (try have aS := oS.size); replace x := x.below hb x.lt; replace y := y.below hb y.lt; replace B := B.trans (hb.mono B.size); (try replace oS := oS.below hb oS.size); have oP := OwnR.made op; replace p0 := x.cell0; replace p1 := x.cell1; replace p2 := x.cell2; replace p3 := x.cell3; replace p4 := x.cell4; replace q0 := y.cell0; replace q1 := y.cell1; replace q2 := y.cell2; replace q3 := y.cell3; replace q4 := y.cell4; clear hb op))
  all_goals
    go_wp2
    go_ret3
    exact ⟨_, _, _, _, _, _, rfl, oS, oP, bS, bP, (by first | exact .inl aS | exact .inr aP), B⟩

theorem implOrderClasses_any (ao : Option Addr) (ca : Nat) (xs : List Int) (w : World) (hl : xs.length ≤ 1048576) (hx : Rd w ao xs) :
    Calls Try.prog 39 #[.slice ao xs.length ca] w (GaveLL w (ifR (preB xs) (twoW xs)) (ifR (preB xs) (quoL xs (twoW xs))) (preB xs)) := by
  cases hp : relIn xs with
  | false =>
    have hq : preB xs = false := by unfold preB; rw [hp]; rfl
    rw [hq]
    have HP := Lib.hid hp
    clear hp hq
    go_enter Try.func39, Try.ntmps39
    go_wp2_with (go_at_call 57; refine (relationFrom_no _ _ _ _ hl HP.out hx).mono ?_; rintro e w1 ⟨rfl, hb⟩)
    go_ret3
    have hB := hb.alloc hb.size (.cells #[.int .i64 0, .int .i64 0, .int .i64 0, .int .i64 0, .int .i64 0] 43)
    exact ⟨.slice none 0 0, .slice none 0 0, w.heap.size, w.heap.size, w.heap.size, w.heap.size, rfl, ⟨World.ownsRow_nil _ _ _ _, fun k hk => (by cases hk), hB.size⟩, ⟨World.ownsRow_nil _ _ _ _, fun k hk => (by cases hk), hB.size⟩, Nat.le_refl _, Nat.le_refl _, .inl (Nat.le_refl _), hB⟩
  | true =>
    have R := Rl.of hp
    have hi := fun wr => isPre_any R wr
    cases hq : preB xs with
    | false =>
      rw [hq] at hi
      have HI := Lib.hid hi
      have HP := Lib.hid hp
      clear hp hq hi R
      go_enter Try.func39, Try.ntmps39
      go_wp2_with fail
      refine (relationFrom_yes _ _ _ _ HP.out hx).mono ?_
      rintro e w1 ⟨rfl, hb⟩
      have x1 := RelAt.new w1 xs
      have B1 := hb.alloc hb.size (.cells #[.int .i64 xs.length, .int .i64 (rowAt xs 0), .int .i64 (rowAt xs 1), .int .i64 (rowAt xs 2), .int .i64 (rowAt xs 3)] 43)
      clear hb
      have p0 := x1.cell0
      have p1 := x1.cell1
      have p2 := x1.cell2
      have p3 := x1.cell3
      have p4 := x1.cell4
      go_wp2_with fail
      refine (HI.out _).mono ?_
      rintro e w2 ⟨rfl, hb⟩
      have hB := B1.trans (hb.mono B1.size)
      clear hb B1 x1 p0 p1 p2 p3 p4
      go_wp2
      go_ret3
      exact ⟨.slice none 0 0, .slice none 0 0, w.heap.size, w.heap.size, w.heap.size, w.heap.size, rfl, ⟨World.ownsRow_nil _ _ _ _, fun k hk => (by cases hk), hB.size⟩, ⟨World.ownsRow_nil _ _ _ _, fun k hk => (by cases hk), hB.size⟩, Nat.le_refl _, Nat.le_refl _, .inl (Nat.le_refl _), hB⟩
    | true =>
      have E := pre_eqv hq
      rw [hq] at hi
      exact implClasses_walk xs (twoW xs) (quoL xs (twoW xs)) ao ca w (by rw [E.rl.len]; exact R.four) (by rw [quoL_len]; exact Nat.le_trans (clsTo_le _ _) (by rw [E.rl.len]; exact R.four))
        (relationFrom_yes _ _ _ _ hp hx) hi (fun w => twoR R w) (fun w => quotientBy_any R E w)

/-! the model's -/
set_option maxHeartbeats 2000000 in
theorem specClasses_walk (xs t d s : List Int) (ao : Option Addr) (ca : Nat) (w : World) (hx : Rd w ao xs)
    (h0 : Calls Try.prog 45 #[.slice ao xs.length ca] w fun e w' => e = .returned (.bool true) ∧ Dn w w')
    (h1 : ∀ w, Rd w ao xs → Calls Try.prog 46 #[.slice ao xs.length ca, .string rtT] w fun e w' => e = .returned (.bool true) ∧ Below w.heap.size w w')
    (h2 : ∀ w, Rd w ao xs → Calls Try.prog 79 #[.slice ao xs.length ca] w fun e w' => ∃ v, e = .returned v ∧ w'.ownsRow w.heap.size 3 1 v t.length (t.map (Value.int .i64)) ∧ Below w.heap.size w w')
    (h3 : ∀ w bo cb, Rd w ao xs → Rd w bo t → Calls Try.prog 78 #[.slice ao xs.length ca, .slice bo t.length cb] w fun e w' => ∃ v, e = .returned v ∧ w'.ownsRow w.heap.size 3 1 v d.length (d.map (Value.int .i64)) ∧ Below w.heap.size w w')
    (h4 : ∀ w bo cb, Rd w ao xs → Rd w bo d → Calls Try.prog 80 #[.slice ao xs.length ca, .slice bo d.length cb] w (Gave w s true)) :
    Calls Try.prog 40 #[.slice ao xs.length ca] w (GaveLLS w d s true) := by
  have H := Lib.hid (And.intro h0 (And.intro h1 (And.intro h2 (And.intro h3 h4))))
  clear h0 h1 h2 h3 h4
  go_enter Try.func40, Try.ntmps40
  go_wp2_with fail
  refine H.out.1.mono ?_
  rintro e w1 ⟨rfl, hd⟩
  have hx1 := hd.rd hx
  have B1 := hd.below w.heap.size
  clear hd hx
  go_wp2_with fail
  refine (H.out.2.1 _ hx1).mono ?_
  rintro e w2 ⟨rfl, hb⟩
  have hx2 := hx1.below hb
  have B2 := B1.trans (hb.mono B1.size)
  clear hb hx1 B1
  go_wp2_with fail
  refine (H.out.2.2.1 _ hx2).mono ?_
  rintro e w3 ⟨v, rfl, ho, hb⟩
  have hx3 := hx2.below hb
  have B3 := B2.trans (hb.mono B2.size)
  obtain ⟨so, ct, rfl, ht⟩ := row_rd ho
  clear hb hx2 B2 ho
  go_wp2_with fail
  refine (H.out.2.2.2.1 _ _ _ hx3 ht).mono ?_
  rintro e w4 ⟨v, rfl, ho, hb⟩
  have hx4 := hx3.below hb
  have B4 := B3.trans (hb.mono B3.size)
  have oD := own_mono ho B3.size
  obtain ⟨eo, ce, rfl, he⟩ := row_rd ho
  clear hb hx3 B3 ho ht
  go_wp2_with fail
  refine (H.out.2.2.2.2 _ _ _ hx4 he).mono ?_
  rintro e w5 ⟨v, rfl, ho, hb⟩
  have oD5 := own_keep oD hb (fun q hq => (oD.lt q hq).2)
  have oS5 := own_mono ho B4.size
  have B5 := B4.trans (hb.mono B4.size)
  clear hb hx4 he oD ho B4
  go_wp2
  go_ret3
  exact ⟨_, _, rfl, OwnR.made oD5, OwnR.made oS5, B5⟩

set_option maxHeartbeats 1000000 in
theorem specOrderClasses_any (ao : Option Addr) (ca : Nat) (xs : List Int) (w : World) (hl : xs.length ≤ 1048576) (hx : Rd w ao xs) :
    Calls Try.prog 40 #[.slice ao xs.length ca] w (GaveLLS w (ifR (preB xs) (twoW xs)) (ifR (preB xs) (quoL xs (twoW xs))) (preB xs)) := by
  have h1 := specRelIn_any ao ca xs w hl hx
  cases hp : relIn xs with
  | false =>
    have hq : preB xs = false := by unfold preB; rw [hp]; rfl
    rw [hq]
    rw [hp] at h1
    have H1 := Lib.hid h1
    clear h1 hp hq
    go_enter Try.func40, Try.ntmps40
    go_wp2_with fail
    refine H1.out.mono ?_
    rintro e w1 ⟨rfl, hd⟩
    have B1 := hd.below w.heap.size
    clear hd hx
    have o1 := own_mono ((row_lit0 w1).alloc (.cells #[] 3)) B1.size
    have o2 := own_mono (row_lit0 (w1.alloc (.cells #[] 3))) (Nat.le_trans B1.size (by simp))
    rw [World.size_alloc] at o2
    have B2 := (B1.alloc B1.size (.cells #[] 3)).alloc (by have := B1.size; simp; omega) (.cells #[] 3)
    go_wp2
    go_ret3
    exact ⟨_, _, rfl, OwnR.made (xs := []) o1, OwnR.made (xs := []) o2, B2⟩
  | true =>
    rw [hp] at h1
    have R := Rl.of hp
    have h4 := R.four
    have hal : allK xs rtT = preB xs := by rw [rt_all]; unfold preB; rw [hp, Bool.true_and]
    have h2 := fun wr h => l3All_any R rtT ao ca wr (by decide) (fun k hk => letters_of rt_text k hk) h
    rw [hal] at h2
    cases hq : preB xs with
    | false =>
      rw [hq] at h2
      have H1 := Lib.hid h1
      have H2 := Lib.hid h2
      clear h1 h2 hp hq hal R
      go_enter Try.func40, Try.ntmps40
      go_wp2_with fail
      refine H1.out.mono ?_
      rintro e w0 ⟨rfl, hd⟩
      have B0 := hd.below w.heap.size
      have hx0 := hd.rd hx
      clear hd hx
      go_wp2_with fail
      refine (H2.out _ hx0).mono ?_
      rintro e w1 ⟨rfl, hb⟩
      have B1 := B0.trans (hb.mono B0.size)
      clear hb B0 hx0
      have o1 := own_mono ((row_lit0 w1).alloc (.cells #[] 3)) B1.size
      have o2 := own_mono (row_lit0 (w1.alloc (.cells #[] 3))) (Nat.le_trans B1.size (by simp))
      rw [World.size_alloc] at o2
      have B2 := (B1.alloc B1.size (.cells #[] 3)).alloc (by have := B1.size; simp; omega) (.cells #[] 3)
      go_wp2
      go_ret3
      exact ⟨_, _, rfl, OwnR.made (xs := []) o1, OwnR.made (xs := []) o2, B2⟩
    | true =>
      rw [hq] at h2
      have E := pre_eqv hq
      have hok : quoOK xs (twoW xs) = true := by
        unfold quoOK
        rw [(equ_iff (twoW xs)).2 (by rw [E.rl.len]; exact E), Bool.and_true]
        unfold twoIn
        rw [hp, show relIn (twoW xs) = true from E.rl.ok, decide_eq_true E.rl.len.symm]
        rfl
      refine specClasses_walk xs (turnL xs) (twoW xs) (quoL xs (twoW xs)) ao ca w hx h1 h2 (fun w h => ?_) (fun w bo cb h k => ?_) (fun w bo cb h k => ?_)
      · rw [R.turn.len]
        exact l1Turned_any ao ca xs w hp h
      · rw [R.twoW.len]
        exact l1Both_any ao bo ca cb xs (turnL xs) w h4 R.turn.len.symm h k
      · have := specEquQuotient_any ao bo ca cb xs (twoW xs) w hl (by rw [E.rl.len]; exact hl) h k
        rw [hok] at this
        exact this
end Go.Proofs.Ytchbbflpckaddaa
