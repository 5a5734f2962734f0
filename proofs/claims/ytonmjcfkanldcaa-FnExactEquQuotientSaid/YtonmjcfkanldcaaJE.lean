/-
  Two equivalences: twoEquivalencesFrom, l4Two, EquMeet.
-/
import Derived.Test.YtonmjcfkanldcaaHH
import Derived.Test.YtonmjcfkanldcaaJA
namespace Go.Proofs.Ytonmjcfkanldcaa
open Go.RowKit

/-- the letters r, s, t -/
def rstT : ByteArray := ⟨#[114, 115, 116]⟩
theorem rst_text : textTo rstT risat rstT.size = true := by decide +kernel
theorem rst_all (xs : List Int) : allK xs rstT = (kindR xs && (kindS xs && kindT xs)) := by
  have e : allK xs rstT = ((List.range 3).all fun i => kindB (byt rstT i) xs) := rfl
  rw [e]
  have h0 : kindB (byt rstT 0) xs = kindR xs := rfl
  have h1 : kindB (byt rstT 1) xs = kindS xs := rfl
  have h2 : kindB (byt rstT 2) xs = kindT xs := rfl
  rw [show List.range 3 = [0, 1, 2] from rfl]
  simp [h0, h1, h2]
theorem equ_yes {xs : List Int} (h : equB xs = true) : relIn xs = true ∧ (kindR xs && (kindS xs && kindT xs)) = true := by
  unfold equB at h
  rw [Bool.and_eq_true] at h
  exact h
theorem isEquivalence_any {xs : List Int} (R : Rl xs.length xs) (w : World) :
    Calls Try.prog 76 #[relOf xs] w fun e w' => e = .returned (.bool (equB xs)) ∧ Below w.heap.size w w' := by
  have hc := fun wr => isOf_any R rstT wr (by decide)
  have he : (textTo rstT risat rstT.size && allK xs rstT) = equB xs := by
    rw [rst_text, rst_all, Bool.true_and]
    unfold equB
    rw [R.ok, Bool.true_and]
  rw [he] at hc
  have HC := Lib.hid hc
  have x1 := RelAt.new w xs
  have p0 := x1.cell0
  have p1 := x1.cell1
  have p2 := x1.cell2
  have p3 := x1.cell3
  have p4 := x1.cell4
  have B0 := below_one w (.cells #[.int .i64 xs.length, .int .i64 (rowAt xs 0), .int .i64 (rowAt xs 1), .int .i64 (rowAt xs 2), .int .i64 (rowAt xs 3)] 58)
  clear hc he x1 R
  go_enter Try.func76, Try.ntmps76
  go_wp2_with fail
  refine (HC.out _).mono ?_
  rintro e w2 ⟨rfl, hb⟩
  go_wp2
  go_ret
  exact ⟨rfl, B0.trans (hb.mono B0.size)⟩

/-- what equivalenceFrom gives -/
theorem equivalenceFrom_yes (ao : Option Addr) (ca : Nat) (xs : List Int) (w : World) (hp : equB xs = true) (hx : Rd w ao xs) :
    Calls Try.prog 55 #[.slice ao xs.length ca] w fun e w' => e = .returned (.tuple #[relOf xs, .bool true]) ∧ Below w.heap.size w w' := by
  have hR := (equ_yes hp).1
  have HR := Lib.hid hR
  have hE := fun wr => isEquivalence_any (Rl.of hR) wr
  rw [hp] at hE
  have HE := Lib.hid hE
  have h4 := (relIn_len hR).2
  clear hR hE hp
  have z0 := rel_zero w
  have B0 := below_one w (.cells #[.int .i64 0, .int .i64 0, .int .i64 0, .int .i64 0, .int .i64 0] 58)
  have hx0 := hx.below B0
  clear hx
  go_enter Try.func55, Try.ntmps55
  go_wp2_with fail
  refine (relationFrom_yes _ _ _ _ HR.out hx0).mono ?_
  rintro e w1 ⟨rfl, hb⟩
  have z1 := (z0.below hb z0.lt).alloc (.cells #[.int .i64 xs.length, .int .i64 (rowAt xs 0), .int .i64 (rowAt xs 1), .int .i64 (rowAt xs 2), .int .i64 (rowAt xs 3)] 58)
  have x1 := RelAt.new w1 xs
  have B1 := (B0.trans (hb.mono B0.size)).alloc (by have := B0.size; have := hb.size; omega) (.cells #[.int .i64 xs.length, .int .i64 (rowAt xs 0), .int .i64 (rowAt xs 1), .int .i64 (rowAt xs 2), .int .i64 (rowAt xs 3)] 58)
  have p0 := x1.cell0
  have p1 := x1.cell1
  have p2 := x1.cell2
  have p3 := x1.cell3
  have p4 := x1.cell4
  clear hb z0 B0 hx0
  go_wp2_with fail
  refine (HE.out _).mono ?_
  rintro e w2 ⟨rfl, hb2⟩
  have z2 := z1.below hb2 z1.lt
  have x2 := x1.below hb2 x1.lt
  have B2 := B1.trans (hb2.mono B1.size)
  have q0 := x2.cell0
  have q1 := x2.cell1
  have q2 := x2.cell2
  have q3 := x2.cell3
  have q4 := x2.cell4
  have y0 := z2.cell0
  have y1 := z2.cell1
  have y2 := z2.cell2
  have y3 := z2.cell3
  have y4 := z2.cell4
  have f0 := z2.free 0
  have f1 := z2.free 1
  have f2 := z2.free 2
  have f3 := z2.free 3
  have f4 := z2.free 4
  have bb := fun (W : World) (j : Nat) (v : Value) (h : Below w.heap.size w W) => h.setCell (p := ⟨w.heap.size, j, none⟩) (Nat.le_refl _) v
  clear hb2 z1 x1 B1 p0 p1 p2 p3 p4
  go_wp2
  refine bodyPost_ret (v := .tuple #[relOf xs, .bool true]) (by simp [results, Try.results55, go_sem, y0, y1, y2, y3, y4]) rfl ⟨rfl, ?_⟩
  exact bb _ _ _ (bb _ _ _ (bb _ _ _ (bb _ _ _ (bb _ _ _ B2))))
theorem equivalenceFrom_no (ao : Option Addr) (ca : Nat) (xs : List Int) (w : World) (hl : xs.length ≤ 1048576) (hp : equB xs = false) (hx : Rd w ao xs) :
    Calls Try.prog 55 #[.slice ao xs.length ca] w fun e w' => e = .returned (.tuple #[rel5 0 0 0 0 0, .bool false]) ∧ Below w.heap.size w w' := by
  have z0 := rel_zero w
  have B0 := below_one w (.cells #[.int .i64 0, .int .i64 0, .int .i64 0, .int .i64 0, .int .i64 0] 58)
  have hx0 := hx.below B0
  have bb := fun (W : World) (j : Nat) (v : Value) (h : Below w.heap.size w W) => h.setCell (p := ⟨w.heap.size, j, none⟩) (Nat.le_refl _) v
  clear hx
  cases hR : relIn xs with
  | false =>
    have HR := Lib.hid hR
    clear hR hp
    go_enter Try.func55, Try.ntmps55
    go_wp2_with fail
    refine (relationFrom_no _ _ _ _ hl HR.out hx0).mono ?_
    rintro e w1 ⟨rfl, hb⟩
    have z1 := (z0.below hb z0.lt).alloc (.cells #[.int .i64 0, .int .i64 0, .int .i64 0, .int .i64 0, .int .i64 0] 58)
    have B1 := (B0.trans (hb.mono B0.size)).alloc (by have := B0.size; have := hb.size; omega) (.cells #[.int .i64 0, .int .i64 0, .int .i64 0, .int .i64 0, .int .i64 0] 58)
    have y0 := z1.cell0
    have y1 := z1.cell1
    have y2 := z1.cell2
    have y3 := z1.cell3
    have y4 := z1.cell4
    have f0 := z1.free 0
    have f1 := z1.free 1
    have f2 := z1.free 2
    have f3 := z1.free 3
    have f4 := z1.free 4
    clear hb z0 B0 hx0
    go_wp2
    refine bodyPost_ret (v := .tuple #[rel5 0 0 0 0 0, .bool false]) (by simp [results, Try.results55, go_sem, y0, y1, y2, y3, y4]) rfl ⟨rfl, ?_⟩
    exact bb _ _ _ (bb _ _ _ (bb _ _ _ (bb _ _ _ (bb _ _ _ B1))))
  | true =>
    have HR := Lib.hid hR
    have hE := fun wr => isEquivalence_any (Rl.of hR) wr
    rw [hp] at hE
    have HE := Lib.hid hE
    have h4 := (relIn_len hR).2
    clear hR hE hp
    go_enter Try.func55, Try.ntmps55
    go_wp2_with fail
    refine (relationFrom_yes _ _ _ _ HR.out hx0).mono ?_
    rintro e w1 ⟨rfl, hb⟩
    have z1 := (z0.below hb z0.lt).alloc (.cells #[.int .i64 xs.length, .int .i64 (rowAt xs 0), .int .i64 (rowAt xs 1), .int .i64 (rowAt xs 2), .int .i64 (rowAt xs 3)] 58)
    have x1 := RelAt.new w1 xs
    have B1 := (B0.trans (hb.mono B0.size)).alloc (by have := B0.size; have := hb.size; omega) (.cells #[.int .i64 xs.length, .int .i64 (rowAt xs 0), .int .i64 (rowAt xs 1), .int .i64 (rowAt xs 2), .int .i64 (rowAt xs 3)] 58)
    have p0 := x1.cell0
    have p1 := x1.cell1
    have p2 := x1.cell2
    have p3 := x1.cell3
    have p4 := x1.cell4
    clear hb z0 B0 hx0
    go_wp2_with fail
    refine (HE.out _).mono ?_
    rintro e w2 ⟨rfl, hb2⟩
    have z2 := z1.below hb2 z1.lt
    have B2 := B1.trans (hb2.mono B1.size)
    have y0 := z2.cell0
    have y1 := z2.cell1
    have y2 := z2.cell2
    have y3 := z2.cell3
    have y4 := z2.cell4
    have f0 := z2.free 0
    have f1 := z2.free 1
    have f2 := z2.free 2
    have f3 := z2.free 3
    have f4 := z2.free 4
    clear hb2 z1 x1 B1 p0 p1 p2 p3 p4
    go_wp2
    refine bodyPost_ret (v := .tuple #[rel5 0 0 0 0 0, .bool false]) (by simp [results, Try.results55, go_sem, y0, y1, y2, y3, y4]) rfl ⟨rfl, ?_⟩
    exact bb _ _ _ (bb _ _ _ (bb _ _ _ (bb _ _ _ (bb _ _ _ B2))))

theorem implEquIn_any (ao : Option Addr) (ca : Nat) (xs : List Int) (w : World) (hl : xs.length ≤ 1048576) (hx : Rd w ao xs) :
    Calls Try.prog 26 #[.slice ao xs.length ca] w fun e w' => e = .returned (.bool (equB xs)) ∧ Below w.heap.size w w' := by
  cases hp : equB xs with
  | false =>
    have HC := Lib.hid (equivalenceFrom_no ao ca xs w hl hp hx)
    clear hp hx
    go_enter Try.func26, Try.ntmps26
    go_wp2_with fail
    refine HC.out.mono ?_
    rintro e w1 ⟨rfl, hb⟩
    go_wp2
    go_ret
    exact ⟨rfl, hb.alloc hb.size _⟩
  | true =>
    have HC := Lib.hid (equivalenceFrom_yes ao ca xs w hp hx)
    clear hp hx
    go_enter Try.func26, Try.ntmps26
    go_wp2_with fail
    refine HC.out.mono ?_
    rintro e w1 ⟨rfl, hb⟩
    go_wp2
    go_ret
    exact ⟨rfl, hb.alloc hb.size _⟩
theorem specEquIn_any (ao : Option Addr) (ca : Nat) (xs : List Int) (w : World) (hl : xs.length ≤ 1048576) (hx : Rd w ao xs) :
    Calls Try.prog 24 #[.slice ao xs.length ca] w fun e w' => e = .returned (.bool (equB xs)) ∧ Below w.heap.size w w' := by
  have h1 := specRelIn_any ao ca xs w hl hx
  cases hp : relIn xs with
  | false =>
    have he : equB xs = false := by unfold equB; rw [hp]; rfl
    rw [hp] at h1
    rw [he]
    have H1 := Lib.hid h1
    clear h1 hp he hx
    go_enter Try.func24, Try.ntmps24
    go_wp2_with fail
    refine H1.out.mono ?_
    rintro e w1 ⟨rfl, hd⟩
    go_wp2
    go_ret
    exact ⟨rfl, hd.below _⟩
  | true =>
    have he : equB xs = allK xs rstT := by rw [rst_all]; unfold equB; rw [hp, Bool.true_and]
    have h2 := fun wr h => l3All_any (Rl.of hp) rstT ao ca wr (by decide) (fun k hk => letters_of rst_text k hk) h
    rw [← he] at h2
    rw [hp] at h1
    have H1 := Lib.hid h1
    have H2 := Lib.hid h2
    clear h1 h2 hp he
    go_enter Try.func24, Try.ntmps24
    go_wp2_with fail
    refine H1.out.mono ?_
    rintro e w1 ⟨rfl, hd⟩
    have hx1 := hd.rd hx
    have hh : w1.heap.size = w.heap.size := by rw [hd.heap]
    have HH := Lib.hid hh
    clear hh
    go_wp2_with fail
    refine (H2.out _ hx1).mono ?_
    rintro e w2 ⟨rfl, hb⟩
    go_wp2
    go_ret
    rw [HH.out] at hb
    exact ⟨rfl, (hd.below _).trans hb⟩
end Go.Proofs.Ytonmjcfkanldcaa

namespace Go.Proofs.Ytonmjcfkanldcaa
open Go.RowKit

def twoEq (xs ys : List Int) : Bool := twoIn xs ys && (equB xs && equB ys)
theorem twoEq_yes {xs ys : List Int} (h : twoEq xs ys = true) : twoIn xs ys = true ∧ equB xs = true ∧ equB ys = true := by
  unfold twoEq at h
  rw [Bool.and_eq_true, Bool.and_eq_true] at h
  exact h
theorem twoEq_model (xs ys : List Int) : (equB xs && (equB ys && decide (xs.length = ys.length))) = twoEq xs ys := by
  unfold twoEq twoIn
  cases h1 : relIn xs with
  | false =>
    have : equB xs = false := by unfold equB; rw [h1]; rfl
    rw [this]; rfl
  | true =>
    cases h2 : relIn ys with
    | false =>
      have : equB ys = false := by unfold equB; rw [h2]; rfl
      rw [this]
      simp
    | true =>
      cases equB xs <;> cases equB ys <;> simp


set_option maxHeartbeats 4000000 in
theorem twoEqu_yes (ao bo : Option Addr) (ca cb : Nat) (xs ys : List Int) (w : World) (hp : twoEq xs ys = true) (hx : Rd w ao xs) (hy : Rd w bo ys) :
    Calls Try.prog 63 #[.slice ao xs.length ca, .slice bo ys.length cb] w fun e w' => e = .returned (.tuple #[relOf xs, relOf ys, .bool true]) ∧ Below w.heap.size w w' := by
  obtain ⟨h2, hex, hey⟩ := twoEq_yes hp
  obtain ⟨hrx, hry, hn⟩ := twoIn_yes h2
  have hEx := fun wr => isEquivalence_any (Rl.of hrx) wr
  have hEy := fun wr => isEquivalence_any (Rl.of hry) wr
  rw [hex] at hEx
  rw [hey] at hEy
  have HEx := Lib.hid hEx
  have HEy := Lib.hid hEy
  have H2 := Lib.hid (And.intro hrx (And.intro hry hn))
  have z0 := (rel_zero w).alloc (.cells #[.int .i64 0, .int .i64 0, .int .i64 0, .int .i64 0, .int .i64 0] 58)
  have k0 := rel_zero (w.alloc (.cells #[.int .i64 0, .int .i64 0, .int .i64 0, .int .i64 0, .int .i64 0] 58))
  have B0 := below_two w (.cells #[.int .i64 0, .int .i64 0, .int .i64 0, .int .i64 0, .int .i64 0] 58) (.cells #[.int .i64 0, .int .i64 0, .int .i64 0, .int .i64 0, .int .i64 0] 58)
  simp only [World.size_alloc] at k0
  have hx0 := hx.below B0
  have hy0 := hy.below B0
  clear hx hy hEx hEy h2 hex hey hp hrx hry hn
  go_enter Try.func63, Try.ntmps63
  go_wp2_with fail
  refine (two_yes _ _ _ _ _ _ _ hx0 hy0 H2.out.1 H2.out.2.1 H2.out.2.2).mono ?_
  rintro e w1 ⟨rfl, hb⟩
  have z1 := ((z0.below hb z0.lt).alloc (.cells #[.int .i64 xs.length, .int .i64 (rowAt xs 0), .int .i64 (rowAt xs 1), .int .i64 (rowAt xs 2), .int .i64 (rowAt xs 3)] 58)).alloc (.cells #[.int .i64 ys.length, .int .i64 (rowAt ys 0), .int .i64 (rowAt ys 1), .int .i64 (rowAt ys 2), .int .i64 (rowAt ys 3)] 58)
  have k1 := ((k0.below hb k0.lt).alloc (.cells #[.int .i64 xs.length, .int .i64 (rowAt xs 0), .int .i64 (rowAt xs 1), .int .i64 (rowAt xs 2), .int .i64 (rowAt xs 3)] 58)).alloc (.cells #[.int .i64 ys.length, .int .i64 (rowAt ys 0), .int .i64 (rowAt ys 1), .int .i64 (rowAt ys 2), .int .i64 (rowAt ys 3)] 58)
  have x1 := (RelAt.new w1 xs).alloc (.cells #[.int .i64 ys.length, .int .i64 (rowAt ys 0), .int .i64 (rowAt ys 1), .int .i64 (rowAt ys 2), .int .i64 (rowAt ys 3)] 58)
  have s1 := RelAt.new (w1.alloc (.cells #[.int .i64 xs.length, .int .i64 (rowAt xs 0), .int .i64 (rowAt xs 1), .int .i64 (rowAt xs 2), .int .i64 (rowAt xs 3)] 58)) ys
  simp only [World.size_alloc] at s1
  have hs1 : w.heap.size + 2 ≤ w1.heap.size := by have := hb.size; simp at this; omega
  have B1 := ((B0.trans (hb.mono B0.size)).alloc (by omega) (.cells #[.int .i64 xs.length, .int .i64 (rowAt xs 0), .int .i64 (rowAt xs 1), .int .i64 (rowAt xs 2), .int .i64 (rowAt xs 3)] 58)).alloc (by simp; omega) (.cells #[.int .i64 ys.length, .int .i64 (rowAt ys 0), .int .i64 (rowAt ys 1), .int .i64 (rowAt ys 2), .int .i64 (rowAt ys 3)] 58)
  have p0 := x1.cell0
  have p1 := x1.cell1
  have p2 := x1.cell2
  have p3 := x1.cell3
  have p4 := x1.cell4
  clear hb z0 k0 B0 hx0 hy0
  go_wp2_with fail
  refine (HEx.out _).mono ?_
  rintro e w2 ⟨rfl, hb2⟩
  have z3 := z1.below hb2 z1.lt
  have k3 := k1.below hb2 k1.lt
  have x3 := x1.below hb2 x1.lt
  have s3 := s1.below hb2 s1.lt
  have B3 := B1.trans (hb2.mono B1.size)
  have p0 := s3.cell0
  have p1 := s3.cell1
  have p2 := s3.cell2
  have p3 := s3.cell3
  have p4 := s3.cell4
  clear hb2 z1 k1 x1 s1 B1
  go_wp2_with fail
  refine (HEy.out _).mono ?_
  rintro e w3 ⟨rfl, hb3⟩
  have z2 := z3.below hb3 z3.lt
  have k2 := k3.below hb3 k3.lt
  have x2 := x3.below hb3 x3.lt
  have s2 := s3.below hb3 s3.lt
  have B2 := B3.trans (hb3.mono B3.size)
  clear hb3 z3 k3 x3 s3 B3 p0 p1 p2 p3 p4
  have y0 := z2.cell0
  have y1 := z2.cell1
  have y2 := z2.cell2
  have y3 := z2.cell3
  have y4 := z2.cell4
  have f0 := z2.free 0
  have f1 := z2.free 1
  have f2 := z2.free 2
  have f3 := z2.free 3
  have f4 := z2.free 4
  have v0 := k2.cell0
  have v1 := k2.cell1
  have v2 := k2.cell2
  have v3 := k2.cell3
  have v4 := k2.cell4
  have g0 := k2.free 0
  have g1 := k2.free 1
  have g2 := k2.free 2
  have g3 := k2.free 3
  have g4 := k2.free 4
  have bb := fun (W : World) (j : Nat) (v : Value) (h : Below w.heap.size w W) => h.setCell (p := ⟨w.heap.size, j, none⟩) (Nat.le_refl _) v
  have bc := fun (W : World) (j : Nat) (v : Value) (h : Below w.heap.size w W) => h.setCell (p := ⟨w.heap.size + 1, j, none⟩) (Nat.le_succ _) v
  have p0 := x2.cell0
  have p1 := x2.cell1
  have p2 := x2.cell2
  have p3 := x2.cell3
  have p4 := x2.cell4
  have r0 := s2.cell0
  have r1 := s2.cell1
  have r2 := s2.cell2
  have r3 := s2.cell3
  have r4 := s2.cell4
  go_wp2
  go_region
  go_wp2
  refine bodyPost_ret (v := .tuple #[relOf xs, relOf ys, .bool true]) (by simp [results, Try.results63, go_sem, y0, y1, y2, y3, y4, v0, v1, v2, v3, v4]) rfl ⟨rfl, ?_⟩
  exact (bc _ _ _ (bc _ _ _ (bc _ _ _ (bc _ _ _ (bc _ _ _ (bb _ _ _ (bb _ _ _ (bb _ _ _ (bb _ _ _ (bb _ _ _ B2)))))))))).drew

set_option maxHeartbeats 4000000 in
theorem twoEqu_no (ao bo : Option Addr) (ca cb : Nat) (xs ys : List Int) (w : World) (hl : xs.length ≤ 1048576) (hl2 : ys.length ≤ 1048576) (hp : twoEq xs ys = false) (hx : Rd w ao xs) (hy : Rd w bo ys) :
    Calls Try.prog 63 #[.slice ao xs.length ca, .slice bo ys.length cb] w fun e w' => e = .returned (.tuple #[rel5 0 0 0 0 0, rel5 0 0 0 0 0, .bool false]) ∧ Below w.heap.size w w' := by
  have z0 := (rel_zero w).alloc (.cells #[.int .i64 0, .int .i64 0, .int .i64 0, .int .i64 0, .int .i64 0] 58)
  have k0 := rel_zero (w.alloc (.cells #[.int .i64 0, .int .i64 0, .int .i64 0, .int .i64 0, .int .i64 0] 58))
  have B0 := below_two w (.cells #[.int .i64 0, .int .i64 0, .int .i64 0, .int .i64 0, .int .i64 0] 58) (.cells #[.int .i64 0, .int .i64 0, .int .i64 0, .int .i64 0, .int .i64 0] 58)
  simp only [World.size_alloc] at k0
  have hx0 := hx.below B0
  have hy0 := hy.below B0
  have bb := fun (W : World) (j : Nat) (v : Value) (h : Below w.heap.size w W) => h.setCell (p := ⟨w.heap.size, j, none⟩) (Nat.le_refl _) v
  have bc := fun (W : World) (j : Nat) (v : Value) (h : Below w.heap.size w W) => h.setCell (p := ⟨w.heap.size + 1, j, none⟩) (Nat.le_succ _) v
  clear hx hy
  cases h2 : twoIn xs ys with
  | false =>
    have H2 := Lib.hid h2
    clear h2 hp
    go_enter Try.func63, Try.ntmps63
    go_wp2_with fail
    refine (two_no _ _ _ _ _ _ _ hl hl2 hx0 hy0 H2.out).mono ?_
    rintro e w1 ⟨rfl, hb⟩
    have hs1 : w.heap.size + 2 ≤ w1.heap.size := by have := hb.size; simp at this; omega
    have z2 := ((z0.below hb z0.lt).alloc (.cells #[.int .i64 0, .int .i64 0, .int .i64 0, .int .i64 0, .int .i64 0] 58)).alloc (.cells #[.int .i64 0, .int .i64 0, .int .i64 0, .int .i64 0, .int .i64 0] 58)
    have k2 := ((k0.below hb k0.lt).alloc (.cells #[.int .i64 0, .int .i64 0, .int .i64 0, .int .i64 0, .int .i64 0] 58)).alloc (.cells #[.int .i64 0, .int .i64 0, .int .i64 0, .int .i64 0, .int .i64 0] 58)
    have B2 := ((B0.trans (hb.mono B0.size)).alloc (by omega) (.cells #[.int .i64 0, .int .i64 0, .int .i64 0, .int .i64 0, .int .i64 0] 58)).alloc (by simp; omega) (.cells #[.int .i64 0, .int .i64 0, .int .i64 0, .int .i64 0, .int .i64 0] 58)
    clear hb z0 k0 B0 hx0 hy0
    have y0 := z2.cell0
    have y1 := z2.cell1
    have y2 := z2.cell2
    have y3 := z2.cell3
    have y4 := z2.cell4
    have f0 := z2.free 0
    have f1 := z2.free 1
    have f2 := z2.free 2
    have f3 := z2.free 3
    have f4 := z2.free 4
    have v0 := k2.cell0
    have v1 := k2.cell1
    have v2 := k2.cell2
    have v3 := k2.cell3
    have v4 := k2.cell4
    have g0 := k2.free 0
    have g1 := k2.free 1
    have g2 := k2.free 2
    have g3 := k2.free 3
    have g4 := k2.free 4
    go_wp2
    refine bodyPost_ret (v := .tuple #[rel5 0 0 0 0 0, rel5 0 0 0 0 0, .bool false]) (by simp [results, Try.results63, go_sem, y0, y1, y2, y3, y4, v0, v1, v2, v3, v4]) rfl ⟨rfl, ?_⟩
    exact bc _ _ _ (bc _ _ _ (bc _ _ _ (bc _ _ _ (bc _ _ _ (bb _ _ _ (bb _ _ _ (bb _ _ _ (bb _ _ _ (bb _ _ _ B2)))))))))
  | true =>
    obtain ⟨hrx, hry, hn⟩ := twoIn_yes h2
    have hEx := fun wr => isEquivalence_any (Rl.of hrx) wr
    have hEy := fun wr => isEquivalence_any (Rl.of hry) wr
    have H2 := Lib.hid (And.intro hrx (And.intro hry hn))
    have hor : equB xs = false ∨ (equB xs = true ∧ equB ys = false) := by
      unfold twoEq at hp
      rw [h2, Bool.true_and] at hp
      cases h : equB xs with
      | false => exact .inl rfl
      | true => rw [h, Bool.true_and] at hp; exact .inr ⟨rfl, hp⟩
    clear hrx hry hn h2 hp
    rcases hor with h | ⟨h, h'⟩
    · rw [h] at hEx
      have HEx := Lib.hid hEx
      clear hEx hEy h
      go_enter Try.func63, Try.ntmps63
      go_wp2_with fail
      refine (two_yes _ _ _ _ _ _ _ hx0 hy0 H2.out.1 H2.out.2.1 H2.out.2.2).mono ?_
      rintro e w1 ⟨rfl, hb⟩
      have z1 := ((z0.below hb z0.lt).alloc (.cells #[.int .i64 xs.length, .int .i64 (rowAt xs 0), .int .i64 (rowAt xs 1), .int .i64 (rowAt xs 2), .int .i64 (rowAt xs 3)] 58)).alloc (.cells #[.int .i64 ys.length, .int .i64 (rowAt ys 0), .int .i64 (rowAt ys 1), .int .i64 (rowAt ys 2), .int .i64 (rowAt ys 3)] 58)
      have k1 := ((k0.below hb k0.lt).alloc (.cells #[.int .i64 xs.length, .int .i64 (rowAt xs 0), .int .i64 (rowAt xs 1), .int .i64 (rowAt xs 2), .int .i64 (rowAt xs 3)] 58)).alloc (.cells #[.int .i64 ys.length, .int .i64 (rowAt ys 0), .int .i64 (rowAt ys 1), .int .i64 (rowAt ys 2), .int .i64 (rowAt ys 3)] 58)
      have x1 := (RelAt.new w1 xs).alloc (.cells #[.int .i64 ys.length, .int .i64 (rowAt ys 0), .int .i64 (rowAt ys 1), .int .i64 (rowAt ys 2), .int .i64 (rowAt ys 3)] 58)
      have hs1 : w.heap.size + 2 ≤ w1.heap.size := by have := hb.size; simp at this; omega
      have B1 := ((B0.trans (hb.mono B0.size)).alloc (by omega) (.cells #[.int .i64 xs.length, .int .i64 (rowAt xs 0), .int .i64 (rowAt xs 1), .int .i64 (rowAt xs 2), .int .i64 (rowAt xs 3)] 58)).alloc (by simp; omega) (.cells #[.int .i64 ys.length, .int .i64 (rowAt ys 0), .int .i64 (rowAt ys 1), .int .i64 (rowAt ys 2), .int .i64 (rowAt ys 3)] 58)
      have p0 := x1.cell0
      have p1 := x1.cell1
      have p2 := x1.cell2
      have p3 := x1.cell3
      have p4 := x1.cell4
      clear hb z0 k0 B0 hx0 hy0
      go_wp2_with fail
      refine (HEx.out _).mono ?_
      rintro e w2 ⟨rfl, hb2⟩
      have z2 := z1.below hb2 z1.lt
      have k2 := k1.below hb2 k1.lt
      have B2 := B1.trans (hb2.mono B1.size)
      clear hb2 z1 k1 x1 B1 p0 p1 p2 p3 p4
      have y0 := z2.cell0
      have y1 := z2.cell1
      have y2 := z2.cell2
      have y3 := z2.cell3
      have y4 := z2.cell4
      have f0 := z2.free 0
      have f1 := z2.free 1
      have f2 := z2.free 2
      have f3 := z2.free 3
      have f4 := z2.free 4
      have v0 := k2.cell0
      have v1 := k2.cell1
      have v2 := k2.cell2
      have v3 := k2.cell3
      have v4 := k2.cell4
      have g0 := k2.free 0
      have g1 := k2.free 1
      have g2 := k2.free 2
      have g3 := k2.free 3
      have g4 := k2.free 4
      go_wp2
      refine bodyPost_ret (v := .tuple #[rel5 0 0 0 0 0, rel5 0 0 0 0 0, .bool false]) (by simp [results, Try.results63, go_sem, y0, y1, y2, y3, y4, v0, v1, v2, v3, v4]) rfl ⟨rfl, ?_⟩
      exact bc _ _ _ (bc _ _ _ (bc _ _ _ (bc _ _ _ (bc _ _ _ (bb _ _ _ (bb _ _ _ (bb _ _ _ (bb _ _ _ (bb _ _ _ B2)))))))))
    · rw [h] at hEx
      rw [h'] at hEy
      have HEx := Lib.hid hEx
      have HEy := Lib.hid hEy
      clear hEx hEy h h'
      go_enter Try.func63, Try.ntmps63
      go_wp2_with fail
      refine (two_yes _ _ _ _ _ _ _ hx0 hy0 H2.out.1 H2.out.2.1 H2.out.2.2).mono ?_
      rintro e w1 ⟨rfl, hb⟩
      have z1 := ((z0.below hb z0.lt).alloc (.cells #[.int .i64 xs.length, .int .i64 (rowAt xs 0), .int .i64 (rowAt xs 1), .int .i64 (rowAt xs 2), .int .i64 (rowAt xs 3)] 58)).alloc (.cells #[.int .i64 ys.length, .int .i64 (rowAt ys 0), .int .i64 (rowAt ys 1), .int .i64 (rowAt ys 2), .int .i64 (rowAt ys 3)] 58)
      have k1 := ((k0.below hb k0.lt).alloc (.cells #[.int .i64 xs.length, .int .i64 (rowAt xs 0), .int .i64 (rowAt xs 1), .int .i64 (rowAt xs 2), .int .i64 (rowAt xs 3)] 58)).alloc (.cells #[.int .i64 ys.length, .int .i64 (rowAt ys 0), .int .i64 (rowAt ys 1), .int .i64 (rowAt ys 2), .int .i64 (rowAt ys 3)] 58)
      have x1 := (RelAt.new w1 xs).alloc (.cells #[.int .i64 ys.length, .int .i64 (rowAt ys 0), .int .i64 (rowAt ys 1), .int .i64 (rowAt ys 2), .int .i64 (rowAt ys 3)] 58)
      have s1 := RelAt.new (w1.alloc (.cells #[.int .i64 xs.length, .int .i64 (rowAt xs 0), .int .i64 (rowAt xs 1), .int .i64 (rowAt xs 2), .int .i64 (rowAt xs 3)] 58)) ys
      simp only [World.size_alloc] at s1
      have hs1 : w.heap.size + 2 ≤ w1.heap.size := by have := hb.size; simp at this; omega
      have B1 := ((B0.trans (hb.mono B0.size)).alloc (by omega) (.cells #[.int .i64 xs.length, .int .i64 (rowAt xs 0), .int .i64 (rowAt xs 1), .int .i64 (rowAt xs 2), .int .i64 (rowAt xs 3)] 58)).alloc (by simp; omega) (.cells #[.int .i64 ys.length, .int .i64 (rowAt ys 0), .int .i64 (rowAt ys 1), .int .i64 (rowAt ys 2), .int .i64 (rowAt ys 3)] 58)
      have p0 := x1.cell0
      have p1 := x1.cell1
      have p2 := x1.cell2
      have p3 := x1.cell3
      have p4 := x1.cell4
      clear hb z0 k0 B0 hx0 hy0
      go_wp2_with fail
      refine (HEx.out _).mono ?_
      rintro e w2 ⟨rfl, hb2⟩
      have z3 := z1.below hb2 z1.lt
      have k3 := k1.below hb2 k1.lt
      have s3 := s1.below hb2 s1.lt
      have B3 := B1.trans (hb2.mono B1.size)
      have p0 := s3.cell0
      have p1 := s3.cell1
      have p2 := s3.cell2
      have p3 := s3.cell3
      have p4 := s3.cell4
      clear hb2 z1 k1 x1 s1 B1
      go_wp2_with fail
      refine (HEy.out _).mono ?_
      rintro e w3 ⟨rfl, hb3⟩
      have z2 := z3.below hb3 z3.lt
      have k2 := k3.below hb3 k3.lt
      have B2 := B3.trans (hb3.mono B3.size)
      clear hb3 z3 k3 s3 B3 p0 p1 p2 p3 p4
      have y0 := z2.cell0
      have y1 := z2.cell1
      have y2 := z2.cell2
      have y3 := z2.cell3
      have y4 := z2.cell4
      have f0 := z2.free 0
      have f1 := z2.free 1
      have f2 := z2.free 2
      have f3 := z2.free 3
      have f4 := z2.free 4
      have v0 := k2.cell0
      have v1 := k2.cell1
      have v2 := k2.cell2
      have v3 := k2.cell3
      have v4 := k2.cell4
      have g0 := k2.free 0
      have g1 := k2.free 1
      have g2 := k2.free 2
      have g3 := k2.free 3
      have g4 := k2.free 4
      go_wp2
      refine bodyPost_ret (v := .tuple #[rel5 0 0 0 0 0, rel5 0 0 0 0 0, .bool false]) (by simp [results, Try.results63, go_sem, y0, y1, y2, y3, y4, v0, v1, v2, v3, v4]) rfl ⟨rfl, ?_⟩
      exact bc _ _ _ (bc _ _ _ (bc _ _ _ (bc _ _ _ (bc _ _ _ (bb _ _ _ (bb _ _ _ (bb _ _ _ (bb _ _ _ (bb _ _ _ B2)))))))))

theorem l4Two_any (ao bo : Option Addr) (ca cb : Nat) (xs ys : List Int) (w : World) (hl : xs.length ≤ 1048576) (hl2 : ys.length ≤ 1048576) (hx : Rd w ao xs) (hy : Rd w bo ys) :
    Calls Try.prog 61 #[.slice ao xs.length ca, .slice bo ys.length cb] w fun e w' => e = .returned (.bool (twoEq xs ys)) ∧ Below w.heap.size w w' := by
  have h1 := specEquIn_any ao ca xs w hl hx
  have hm := twoEq_model xs ys
  cases hp : equB xs with
  | false =>
    rw [hp, Bool.false_and] at hm
    rw [hp] at h1
    rw [← hm]
    have H1 := Lib.hid h1
    clear h1 hp hm hx hy
    go_enter Try.func61, Try.ntmps61
    go_wp2_with fail
    refine H1.out.mono ?_
    rintro e w1 ⟨rfl, hb⟩
    go_wp2
    go_ret
    exact ⟨rfl, hb⟩
  | true =>
    rw [hp, Bool.true_and] at hm
    rw [hp] at h1
    have h2 := fun wr h => specEquIn_any bo cb ys wr hl2 h
    cases hq : equB ys with
    | false =>
      rw [hq, Bool.false_and] at hm
      rw [hq] at h2
      rw [← hm]
      have H1 := Lib.hid h1
      have H2 := Lib.hid h2
      clear h1 h2 hp hq hm hx
      go_enter Try.func61, Try.ntmps61
      go_wp2_with fail
      refine H1.out.mono ?_
      rintro e w1 ⟨rfl, hb⟩
      have hy1 := hy.below hb
      clear hy
      go_wp2_with fail
      refine (H2.out _ hy1).mono ?_
      rintro e w2 ⟨rfl, hb2⟩
      go_wp2
      go_ret
      exact ⟨rfl, hb.trans (hb2.mono hb.size)⟩
    | true =>
      rw [hq, Bool.true_and] at hm
      rw [hq] at h2
      rw [← hm]
      have H1 := Lib.hid h1
      have H2 := Lib.hid h2
      clear h1 h2 hp hq hm hx
      go_enter Try.func61, Try.ntmps61
      go_wp2_with fail
      refine H1.out.mono ?_
      rintro e w1 ⟨rfl, hb⟩
      have hy1 := hy.below hb
      clear hy
      go_wp2_with fail
      refine (H2.out _ hy1).mono ?_
      rintro e w2 ⟨rfl, hb2⟩
      go_wp2
      go_ret
      have e : ((xs.length : Int) == (ys.length : Int)) = decide (xs.length = ys.length) := by
        by_cases h : xs.length = ys.length
        · simp [h]
        · simp [h]
          omega
      exact ⟨by rw [← e]; rfl, hb.trans (hb2.mono hb.size)⟩

theorem specEquMeet_any (ao bo : Option Addr) (ca cb : Nat) (xs ys : List Int) (w : World) (hl : xs.length ≤ 1048576) (hl2 : ys.length ≤ 1048576) (hx : Rd w ao xs) (hy : Rd w bo ys) :
    Calls Try.prog 30 #[.slice ao xs.length ca, .slice bo ys.length cb] w (Gave w (ifR (twoEq xs ys) (bothL xs ys)) (twoEq xs ys)) := by
  have h1 := l4Two_any ao bo ca cb xs ys w hl hl2 hx hy
  cases hp : twoEq xs ys with
  | false =>
    rw [hp] at h1
    have H1 := Lib.hid h1
    clear h1 hp hx hy
    go_enter Try.func30, Try.ntmps30
    go_wp2_with fail
    refine H1.out.mono ?_
    rintro e w1 ⟨rfl, hb⟩
    have hr := own_mono (row_lit0 w1) hb.size
    go_wp2
    go_ret2
    exact ⟨_, rfl, hr, hb.alloc hb.size _⟩
  | true =>
    rw [hp] at h1
    obtain ⟨h2, _, _⟩ := twoEq_yes hp
    obtain ⟨hrx, hry, hn⟩ := twoIn_yes h2
    have h4 := (relIn_len hrx).2
    have hbl := both_len xs ys hn
    have hB := fun wr h h' => l1Both_any ao bo ca cb xs ys wr h4 hn h h'
    have H1 := Lib.hid h1
    have HB := Lib.hid (And.intro hB hbl)
    clear h1 hp h2 hrx hry hn hB hbl
    go_enter Try.func30, Try.ntmps30
    go_wp2_with fail
    refine H1.out.mono ?_
    rintro e w1 ⟨rfl, hb⟩
    have hx1 := hx.below hb
    have hy1 := hy.below hb
    clear hx hy
    go_wp2_with fail
    refine (HB.out.1 _ hx1 hy1).mono ?_
    rintro e w2 ⟨v, rfl, ho, hb2⟩
    have hr := own_mono ho hb.size
    go_wp2
    go_ret2
    exact ⟨v, rfl, by rw [show (ifR true (bothL xs ys)).length = xs.length from HB.out.2]; exact hr, hb.trans (hb2.mono hb.size)⟩

set_option maxHeartbeats 1000000 in
theorem implEquMeet_any (ao bo : Option Addr) (ca cb : Nat) (xs ys : List Int) (w : World) (hl : xs.length ≤ 1048576) (hl2 : ys.length ≤ 1048576) (hx : Rd w ao xs) (hy : Rd w bo ys) :
    Calls Try.prog 31 #[.slice ao xs.length ca, .slice bo ys.length cb] w (Gave w (ifR (twoEq xs ys) (bothL xs ys)) (twoEq xs ys)) := by
  cases hp : twoEq xs ys with
  | false =>
    have H1 := Lib.hid (twoEqu_no ao bo ca cb xs ys w hl hl2 hp hx hy)
    clear hp hx hy
    go_enter Try.func31, Try.ntmps31
    go_wp2_with fail
    refine H1.out.mono ?_
    rintro e w1 ⟨rfl, hb⟩
    go_wp2
    go_ret2
    exact ⟨.slice none 0 0, rfl, World.ownsRow_nil _ _ _ _, (hb.alloc hb.size _).alloc (by have := hb.size; simp; omega) _⟩
  | true =>
    obtain ⟨h2, _, _⟩ := twoEq_yes hp
    obtain ⟨hrx, hry, hn⟩ := twoIn_yes h2
    have h4 := (relIn_len hrx).2
    have hbl := both_len xs ys hn
    have hB := fun wr => both_any xs ys wr h4 hn
    have hL := fun wr => list_any (bothL xs ys) wr (by rw [hbl]; exact h4)
    rw [hbl] at hL
    have H1 := Lib.hid (twoEqu_yes ao bo ca cb xs ys w hp hx hy)
    have HB := Lib.hid (And.intro hB hbl)
    have HL := Lib.hid hL
    clear hp hx hy h2 hrx hry hn hB hbl hL
    go_enter Try.func31, Try.ntmps31
    go_wp2_with fail
    refine H1.out.mono ?_
    rintro e w1 ⟨rfl, hb⟩
    have x1 := (RelAt.new w1 xs).alloc (.cells #[.int .i64 ys.length, .int .i64 (rowAt ys 0), .int .i64 (rowAt ys 1), .int .i64 (rowAt ys 2), .int .i64 (rowAt ys 3)] 58)
    have s1 := RelAt.new (w1.alloc (.cells #[.int .i64 xs.length, .int .i64 (rowAt xs 0), .int .i64 (rowAt xs 1), .int .i64 (rowAt xs 2), .int .i64 (rowAt xs 3)] 58)) ys
    simp only [World.size_alloc] at s1
    have B1 := (hb.alloc hb.size (.cells #[.int .i64 xs.length, .int .i64 (rowAt xs 0), .int .i64 (rowAt xs 1), .int .i64 (rowAt xs 2), .int .i64 (rowAt xs 3)] 58)).alloc (by have := hb.size; simp; omega) (.cells #[.int .i64 ys.length, .int .i64 (rowAt ys 0), .int .i64 (rowAt ys 1), .int .i64 (rowAt ys 2), .int .i64 (rowAt ys 3)] 58)
    have p0 := x1.cell0
    have p1 := x1.cell1
    have p2 := x1.cell2
    have p3 := x1.cell3
    have p4 := x1.cell4
    have r0 := s1.cell0
    have r1 := s1.cell1
    have r2 := s1.cell2
    have r3 := s1.cell3
    have r4 := s1.cell4
    clear x1 s1 hb
    go_wp2_with fail
    refine (HB.out.1 _).mono ?_
    rintro e w2 ⟨rfl, hb2⟩
    have B2 := B1.trans (hb2.mono B1.size)
    clear hb2 B1 p0 p1 p2 p3 p4 r0 r1 r2 r3 r4
    go_wp2_with fail
    refine (HL.out _).mono ?_
    rintro e w3 ⟨v, rfl, ho, hb3⟩
    have hr := own_mono ho B2.size
    go_wp2
    go_ret2
    exact ⟨v, rfl, by rw [show (ifR true (bothL xs ys)).length = xs.length from HB.out.2]; exact hr, B2.trans (hb3.mono B2.size)⟩
end Go.Proofs.Ytonmjcfkanldcaa
