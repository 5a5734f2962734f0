/-
  Whether a list is an equivalence, of the program and of the model: equivalenceFrom, twoEquivalencesFrom, EquIn, EquMeet.
-/
import Derived.Test.YtebkeebgjjmdbaaGreatDoorHH
import Derived.Test.YtebkeebgjjmdbaaGreatDoorJA
namespace Go.Proofs.YtebkeebgjjmdbaaGreatDoor
open Go.RowKit

/-- the letters r, s, t -/
def rstT : ByteArray := ⟨#[114, 115, 116]⟩
theorem rst_text : textTo rstT risat rstT.size = true := by decide +kernel
theorem rst_all (xs : List Int) : allK xs rstT = (kindR xs && (kindS xs && kindT xs)) := by
  have e : allK xs rstT = ((List.range 3).all fun i => kindB (byt rstT i) xs) := rfl
  rw [e]
  have h0 : kindB (byt rstT 0) xs = kindR xs := rfl
  have h1 : kindB (byt rstT 1) xs = kindS xs := rfl
  have h2 : kindB (byt rstT 2) xs = kindT xs := rfl
  rw [show List.range 3 = [0, 1, 2] from rfl]
  simp [h0, h1, h2]
theorem equ_yes {xs : List Int} (h : equB xs = true) : relIn xs = true ∧ (kindR xs && (kindS xs && kindT xs)) = true := by
  unfold equB at h
  rw [Bool.and_eq_true] at h
  exact h
theorem isEquivalence_any {xs : List Int} (R : Rl xs.length xs) (w : World) :
    Calls Tryz.prog 36 #[relOf xs] w fun e w' => e = .returned (.bool (equB xs)) ∧ Below w.heap.size w w' := by
  have hc := fun wr => isOf_any R rstT wr (by decide)
  have he : (textTo rstT risat rstT.size && allK xs rstT) = equB xs := by
    rw [rst_text, rst_all, Bool.true_and]
    unfold equB
    rw [R.ok, Bool.true_and]
  rw [he] at hc
  have HC := Lib.hid hc
  have x1 := RelAt.new w xs
  have p0 := x1.cell0
  have p1 := x1.cell1
  have p2 := x1.cell2
  have p3 := x1.cell3
  have p4 := x1.cell4
  have B0 := below_one w (.cells #[.int .i64 xs.length, .int .i64 (rowAt xs 0), .int .i64 (rowAt xs 1), .int .i64 (rowAt xs 2), .int .i64 (rowAt xs 3)] 36)
  clear hc he x1 R
  go_enter Tryz.func36, Tryz.ntmps36
  go_wp2_with fail
  refine (HC.out _).mono ?_
  rintro e w2 ⟨rfl, hb⟩
  go_wp2
  go_ret
  exact ⟨rfl, B0.trans (hb.mono B0.size)⟩

/-- what equivalenceFrom gives -/
theorem equivalenceFrom_yes (ao : Option Addr) (ca : Nat) (xs : List Int) (w : World) (hp : equB xs = true) (hx : Rd w ao xs) :
    Calls Tryz.prog 15 #[.slice ao xs.length ca] w fun e w' => e = .returned (.tuple #[relOf xs, .bool true]) ∧ Below w.heap.size w w' := by
  have hR := (equ_yes hp).1
  have HR := Lib.hid hR
  have hE := fun wr => isEquivalence_any (Rl.of hR) wr
  rw [hp] at hE
  have HE := Lib.hid hE
  have h4 := (relIn_len hR).2
  clear hR hE hp
  have z0 := rel_zero w
  have B0 := below_one w (.cells #[.int .i64 0, .int .i64 0, .int .i64 0, .int .i64 0, .int .i64 0] 36)
  have hx0 := hx.below B0
  clear hx
  go_enter Tryz.func15, Tryz.ntmps15
  go_wp2_with fail
  refine (relationFrom_yes _ _ _ _ HR.out hx0).mono ?_
  rintro e w1 ⟨rfl, hb⟩
  have z1 := (z0.below hb z0.lt).alloc (.cells #[.int .i64 xs.length, .int .i64 (rowAt xs 0), .int .i64 (rowAt xs 1), .int .i64 (rowAt xs 2), .int .i64 (rowAt xs 3)] 36)
  have x1 := RelAt.new w1 xs
  have B1 := (B0.trans (hb.mono B0.size)).alloc (by have := B0.size; have := hb.size; omega) (.cells #[.int .i64 xs.length, .int .i64 (rowAt xs 0), .int .i64 (rowAt xs 1), .int .i64 (rowAt xs 2), .int .i64 (rowAt xs 3)] 36)
  have p0 := x1.cell0
  have p1 := x1.cell1
  have p2 := x1.cell2
  have p3 := x1.cell3
  have p4 := x1.cell4
  clear hb z0 B0 hx0
  go_wp2_with fail
  refine (HE.out _).mono ?_
  rintro e w2 ⟨rfl, hb2⟩
  have z2 := z1.below hb2 z1.lt
  have x2 := x1.below hb2 x1.lt
  have B2 := B1.trans (hb2.mono B1.size)
  have q0 := x2.cell0
  have q1 := x2.cell1
  have q2 := x2.cell2
  have q3 := x2.cell3
  have q4 := x2.cell4
  have y0 := z2.cell0
  have y1 := z2.cell1
  have y2 := z2.cell2
  have y3 := z2.cell3
  have y4 := z2.cell4
  have f0 := z2.free 0
  have f1 := z2.free 1
  have f2 := z2.free 2
  have f3 := z2.free 3
  have f4 := z2.free 4
  have bb := fun (W : World) (j : Nat) (v : Value) (h : Below w.heap.size w W) => h.setCell (p := ⟨w.heap.size, j, none⟩) (Nat.le_refl _) v
  clear hb2 z1 x1 B1 p0 p1 p2 p3 p4
  go_wp2
  refine bodyPost_ret (v := .tuple #[relOf xs, .bool true]) (by simp [results, Tryz.results15, go_sem, y0, y1, y2, y3, y4]) rfl ⟨rfl, ?_⟩
  exact bb _ _ _ (bb _ _ _ (bb _ _ _ (bb _ _ _ (bb _ _ _ B2))))
theorem equivalenceFrom_no (ao : Option Addr) (ca : Nat) (xs : List Int) (w : World) (hl : xs.length ≤ 1048576) (hp : equB xs = false) (hx : Rd w ao xs) :
    Calls Tryz.prog 15 #[.slice ao xs.length ca] w fun e w' => e = .returned (.tuple #[rel5 0 0 0 0 0, .bool false]) ∧ Below w.heap.size w w' := by
  have z0 := rel_zero w
  have B0 := below_one w (.cells #[.int .i64 0, .int .i64 0, .int .i64 0, .int .i64 0, .int .i64 0] 36)
  have hx0 := hx.below B0
  have bb := fun (W : World) (j : Nat) (v : Value) (h : Below w.heap.size w W) => h.setCell (p := ⟨w.heap.size, j, none⟩) (Nat.le_refl _) v
  clear hx
  cases hR : relIn xs with
  | false =>
    have HR := Lib.hid hR
    clear hR hp
    go_enter Tryz.func15, Tryz.ntmps15
    go_wp2_with fail
    refine (relationFrom_no _ _ _ _ hl HR.out hx0).mono ?_
    rintro e w1 ⟨rfl, hb⟩
    have z1 := (z0.below hb z0.lt).alloc (.cells #[.int .i64 0, .int .i64 0, .int .i64 0, .int .i64 0, .int .i64 0] 36)
    have B1 := (B0.trans (hb.mono B0.size)).alloc (by have := B0.size; have := hb.size; omega) (.cells #[.int .i64 0, .int .i64 0, .int .i64 0, .int .i64 0, .int .i64 0] 36)
    have y0 := z1.cell0
    have y1 := z1.cell1
    have y2 := z1.cell2
    have y3 := z1.cell3
    have y4 := z1.cell4
    have f0 := z1.free 0
    have f1 := z1.free 1
    have f2 := z1.free 2
    have f3 := z1.free 3
    have f4 := z1.free 4
    clear hb z0 B0 hx0
    go_wp2
    refine bodyPost_ret (v := .tuple #[rel5 0 0 0 0 0, .bool false]) (by simp [results, Tryz.results15, go_sem, y0, y1, y2, y3, y4]) rfl ⟨rfl, ?_⟩
    exact bb _ _ _ (bb _ _ _ (bb _ _ _ (bb _ _ _ (bb _ _ _ B1))))
  | true =>
    have HR := Lib.hid hR
    have hE := fun wr => isEquivalence_any (Rl.of hR) wr
    rw [hp] at hE
    have HE := Lib.hid hE
    have h4 := (relIn_len hR).2
    clear hR hE hp
    go_enter Tryz.func15, Tryz.ntmps15
    go_wp2_with fail
    refine (relationFrom_yes _ _ _ _ HR.out hx0).mono ?_
    rintro e w1 ⟨rfl, hb⟩
    have z1 := (z0.below hb z0.lt).alloc (.cells #[.int .i64 xs.length, .int .i64 (rowAt xs 0), .int .i64 (rowAt xs 1), .int .i64 (rowAt xs 2), .int .i64 (rowAt xs 3)] 36)
    have x1 := RelAt.new w1 xs
    have B1 := (B0.trans (hb.mono B0.size)).alloc (by have := B0.size; have := hb.size; omega) (.cells #[.int .i64 xs.length, .int .i64 (rowAt xs 0), .int .i64 (rowAt xs 1), .int .i64 (rowAt xs 2), .int .i64 (rowAt xs 3)] 36)
    have p0 := x1.cell0
    have p1 := x1.cell1
    have p2 := x1.cell2
    have p3 := x1.cell3
    have p4 := x1.cell4
    clear hb z0 B0 hx0
    go_wp2_with fail
    refine (HE.out _).mono ?_
    rintro e w2 ⟨rfl, hb2⟩
    have z2 := z1.below hb2 z1.lt
    have B2 := B1.trans (hb2.mono B1.size)
    have y0 := z2.cell0
    have y1 := z2.cell1
    have y2 := z2.cell2
    have y3 := z2.cell3
    have y4 := z2.cell4
    have f0 := z2.free 0
    have f1 := z2.free 1
    have f2 := z2.free 2
    have f3 := z2.free 3
    have f4 := z2.free 4
    clear hb2 z1 x1 B1 p0 p1 p2 p3 p4
    go_wp2
    refine bodyPost_ret (v := .tuple #[rel5 0 0 0 0 0, .bool false]) (by simp [results, Tryz.results15, go_sem, y0, y1, y2, y3, y4]) rfl ⟨rfl, ?_⟩
    exact bb _ _ _ (bb _ _ _ (bb _ _ _ (bb _ _ _ (bb _ _ _ B2))))

theorem implEquIn_any (ao : Option Addr) (ca : Nat) (xs : List Int) (w : World) (hl : xs.length ≤ 1048576) (hx : Rd w ao xs) :
    Calls Tryz.prog 6 #[.slice ao xs.length ca] w fun e w' => e = .returned (.bool (equB xs)) ∧ Below w.heap.size w w' := by
  cases hp : equB xs with
  | false =>
    have HC := Lib.hid (equivalenceFrom_no ao ca xs w hl hp hx)
    clear hp hx
    go_enter Tryz.func6, Tryz.ntmps6
    go_wp2_with fail
    refine HC.out.mono ?_
    rintro e w1 ⟨rfl, hb⟩
    go_wp2
    go_ret
    exact ⟨rfl, hb.alloc hb.size _⟩
  | true =>
    have HC := Lib.hid (equivalenceFrom_yes ao ca xs w hp hx)
    clear hp hx
    go_enter Tryz.func6, Tryz.ntmps6
    go_wp2_with fail
    refine HC.out.mono ?_
    rintro e w1 ⟨rfl, hb⟩
    go_wp2
    go_ret
    exact ⟨rfl, hb.alloc hb.size _⟩
theorem specEquIn_any (ao : Option Addr) (ca : Nat) (xs : List Int) (w : World) (hl : xs.length ≤ 1048576) (hx : Rd w ao xs) :
    Calls Tryz.prog 7 #[.slice ao xs.length ca] w fun e w' => e = .returned (.bool (equB xs)) ∧ Below w.heap.size w w' := by
  have h1 := specRelIn_any ao ca xs w hl hx
  cases hp : relIn xs with
  | false =>
    have he : equB xs = false := by unfold equB; rw [hp]; rfl
    rw [hp] at h1
    rw [he]
    have H1 := Lib.hid h1
    clear h1 hp he hx
    go_enter Tryz.func7, Tryz.ntmps7
    go_wp2_with fail
    refine H1.out.mono ?_
    rintro e w1 ⟨rfl, hd⟩
    go_wp2
    go_ret
    exact ⟨rfl, hd.below _⟩
  | true =>
    have he : equB xs = allK xs rstT := by rw [rst_all]; unfold equB; rw [hp, Bool.true_and]
    have h2 := fun wr h => l3All_any (Rl.of hp) rstT ao ca wr (by decide) (fun k hk => letters_of rst_text k hk) h
    rw [← he] at h2
    rw [hp] at h1
    have H1 := Lib.hid h1
    have H2 := Lib.hid h2
    clear h1 h2 hp he
    go_enter Tryz.func7, Tryz.ntmps7
    go_wp2_with fail
    refine H1.out.mono ?_
    rintro e w1 ⟨rfl, hd⟩
    have hx1 := hd.rd hx
    have hh : w1.heap.size = w.heap.size := by rw [hd.heap]
    have HH := Lib.hid hh
    clear hh
    go_wp2_with fail
    refine (H2.out _ hx1).mono ?_
    rintro e w2 ⟨rfl, hb⟩
    go_wp2
    go_ret
    rw [HH.out] at hb
    exact ⟨rfl, (hd.below _).trans hb⟩
end Go.Proofs.YtebkeebgjjmdbaaGreatDoor
