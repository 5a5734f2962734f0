/-
  Least bounds and lattices of the model, and OrderBound and OrderLattice of both; for lists of at most 2^20 numbers.
-/
import Derived.Test.YtchbbflpckaddaaHH
import Derived.Test.YtchbbflpckaddaaJA
namespace Go.Proofs.Ytchbbflpckaddaa
open Go.RowKit

/-- block b holds the order made of these rows -/
def OrdAt (w : World) (b : Nat) (xs : List Int) : Prop :=
  w.heap[b]? = some (.cells #[.int .i64 xs.length, .int .i64 (rowAt xs 0), .int .i64 (rowAt xs 1), .int .i64 (rowAt xs 2), .int .i64 (rowAt xs 3)] 45 (0, 0))
theorem OrdAt.cell0 {w : World} {b : Nat} {xs : List Int} (h : OrdAt w b xs) : w.cell? ⟨b, 0, none⟩ = some (.int .i64 xs.length) := by
  unfold OrdAt at h
  simp [World.cell?, h]
theorem OrdAt.cell1 {w : World} {b : Nat} {xs : List Int} (h : OrdAt w b xs) : w.cell? ⟨b, 1, none⟩ = some (.int .i64 (rowAt xs 0)) := by
  unfold OrdAt at h
  simp [World.cell?, h]
theorem OrdAt.cell2 {w : World} {b : Nat} {xs : List Int} (h : OrdAt w b xs) : w.cell? ⟨b, 2, none⟩ = some (.int .i64 (rowAt xs 1)) := by
  unfold OrdAt at h
  simp [World.cell?, h]
theorem OrdAt.cell3 {w : World} {b : Nat} {xs : List Int} (h : OrdAt w b xs) : w.cell? ⟨b, 3, none⟩ = some (.int .i64 (rowAt xs 2)) := by
  unfold OrdAt at h
  simp [World.cell?, h]
theorem OrdAt.cell4 {w : World} {b : Nat} {xs : List Int} (h : OrdAt w b xs) : w.cell? ⟨b, 4, none⟩ = some (.int .i64 (rowAt xs 3)) := by
  unfold OrdAt at h
  simp [World.cell?, h]
theorem OrdAt.row {w : World} {b : Nat} {xs : List Int} (h : OrdAt w b xs) (k : Nat) (hk : k < 4) : w.cell? ⟨b, 1 + k, none⟩ = some (.int .i64 (rowAt xs k)) := by
  rcases (by omega : k = 0 ∨ k = 1 ∨ k = 2 ∨ k = 3) with rfl | rfl | rfl | rfl
  · exact h.cell1
  · exact h.cell2
  · exact h.cell3
  · exact h.cell4
theorem OrdAt.free {w : World} {b : Nat} {xs : List Int} (h : OrdAt w b xs) (j : Nat) : w.frozen? ⟨b, j, none⟩ = false := by
  unfold OrdAt at h
  simp [World.frozen?, h]
theorem OrdAt.lt {w : World} {b : Nat} {xs : List Int} (h : OrdAt w b xs) : b < w.heap.size := (Array.getElem?_eq_some_iff.1 h).1
theorem OrdAt.new (w : World) (xs : List Int) :
    OrdAt (w.alloc (.cells #[.int .i64 xs.length, .int .i64 (rowAt xs 0), .int .i64 (rowAt xs 1), .int .i64 (rowAt xs 2), .int .i64 (rowAt xs 3)] 45)) w.heap.size xs :=
  heap_alloc_new w _
theorem OrdAt.alloc {w : World} {b : Nat} {xs : List Int} (h : OrdAt w b xs) (o : Obj) : OrdAt (w.alloc o) b xs :=
  (Below.heap_alloc w o b h.lt).trans h
theorem OrdAt.below {w w' : World} {B b : Nat} {xs : List Int} (h : OrdAt w b xs) (hb : Below B w w') (hlt : b < B) : OrdAt w' b xs :=
  (hb.block b hlt).trans h
theorem OrdAt.other {w : World} {b : Nat} {xs : List Int} (h : OrdAt w b xs) {p : Addr} (hp : b ≠ p.block) (v : Value) : OrdAt (w.setCell p v) b xs :=
  (Below.heap_setCell w p v b hp).trans h
theorem OrdAt.drew {w : World} {b : Nat} {xs : List Int} (h : OrdAt w b xs) : OrdAt w.drew b xs := h
theorem OrdAt.dn {w w' : World} {b : Nat} {xs : List Int} (h : OrdAt w b xs) (hd : Dn w w') : OrdAt w' b xs := by
  obtain ⟨q, rfl⟩ := hd
  exact h
theorem ord_zero (w : World) : OrdAt (w.alloc (.cells #[.int .i64 0, .int .i64 0, .int .i64 0, .int .i64 0, .int .i64 0] 45)) w.heap.size [] := by
  have := OrdAt.new w []
  simpa [rowAt] using this

/-- the letters r, a, t -/
def ratT : ByteArray := ⟨#[114, 97, 116]⟩
theorem rat_text : textTo ratT risat ratT.size = true := by decide +kernel
theorem rat_all (xs : List Int) : allK xs ratT = (kindR xs && (kindA xs && kindT xs)) := by
  have e : allK xs ratT = ((List.range 3).all fun i => kindB (byt ratT i) xs) := rfl
  rw [e]
  have h0 : kindB (byt ratT 0) xs = kindR xs := rfl
  have h1 : kindB (byt ratT 1) xs = kindA xs := rfl
  have h2 : kindB (byt ratT 2) xs = kindT xs := rfl
  rw [show List.range 3 = [0, 1, 2] from rfl]
  simp [h0, h1, h2]
/-- whether a list is an order -/
def ordB (xs : List Int) : Bool := relIn xs && (kindR xs && (kindA xs && kindT xs))
theorem ord_yes {xs : List Int} (h : ordB xs = true) : relIn xs = true ∧ (kindR xs && (kindA xs && kindT xs)) = true := by
  unfold ordB at h
  rw [Bool.and_eq_true] at h
  exact h
theorem ord_rl {xs : List Int} (h : ordB xs = true) : Rl xs.length xs := Rl.of (ord_yes h).1
theorem isOrd_any {xs : List Int} (R : Rl xs.length xs) (w : World) :
    Calls Try.prog 58 #[relOf xs, .string ratT] w fun e w' => e = .returned (.bool (ordB xs)) ∧ Below w.heap.size w w' := by
  have hc := isOf_any R ratT w (by decide)
  have he : (textTo ratT risat ratT.size && allK xs ratT) = ordB xs := by
    rw [rat_text, rat_all, Bool.true_and]
    unfold ordB
    rw [R.ok, Bool.true_and]
  rw [he] at hc
  exact hc

theorem asOrder_yes {xs : List Int} (R : Rl xs.length xs) (hp : ordB xs = true) (w : World) :
    Calls Try.prog 62 #[relOf xs] w fun e w' => e = .returned (.tuple #[relOf xs, .bool true]) ∧ Below w.heap.size w w' := by
  have hc := fun wr => isOrd_any R wr
  rw [hp] at hc
  have HC := Lib.hid hc
  have x1 := (RelAt.new w xs).alloc (.cells #[.int .i64 0, .int .i64 0, .int .i64 0, .int .i64 0, .int .i64 0] 45)
  have z1 := ord_zero (w.alloc (.cells #[.int .i64 xs.length, .int .i64 (rowAt xs 0), .int .i64 (rowAt xs 1), .int .i64 (rowAt xs 2), .int .i64 (rowAt xs 3)] 43))
  have B0 := below_two w (.cells #[.int .i64 xs.length, .int .i64 (rowAt xs 0), .int .i64 (rowAt xs 1), .int .i64 (rowAt xs 2), .int .i64 (rowAt xs 3)] 43) (.cells #[.int .i64 0, .int .i64 0, .int .i64 0, .int .i64 0, .int .i64 0] 45)
  simp only [World.size_alloc] at z1
  have bb := fun (W : World) (j : Nat) (v : Value) (h : Below w.heap.size w W) => h.setCell (p := ⟨w.heap.size + 1, j, none⟩) (Nat.le_succ _) v
  have p0 := x1.cell0
  have p1 := x1.cell1
  have p2 := x1.cell2
  have p3 := x1.cell3
  have p4 := x1.cell4
  clear hc R hp
  go_enter Try.func62, Try.ntmps62
  go_wp2_with fail
  refine (HC.out _).mono ?_
  rintro e w2 ⟨rfl, hb⟩
  have z2 := z1.below hb z1.lt
  have x2 := x1.below hb x1.lt
  have B2 := B0.trans (hb.mono B0.size)
  have q0 := x2.cell0
  have q1 := x2.cell1
  have q2 := x2.cell2
  have q3 := x2.cell3
  have q4 := x2.cell4
  have y0 := z2.cell0
  have y1 := z2.cell1
  have y2 := z2.cell2
  have y3 := z2.cell3
  have y4 := z2.cell4
  have f0 := z2.free 0
  have f1 := z2.free 1
  have f2 := z2.free 2
  have f3 := z2.free 3
  have f4 := z2.free 4
  clear hb z1 x1 B0 p0 p1 p2 p3 p4
  go_wp2
  refine bodyPost_ret (v := .tuple #[relOf xs, .bool true]) (by simp [results, Try.results62, go_sem, y0, y1, y2, y3, y4]) rfl ⟨rfl, ?_⟩
  exact bb _ _ _ (bb _ _ _ (bb _ _ _ (bb _ _ _ (bb _ _ _ B2))))

theorem asOrder_no {xs : List Int} (R : Rl xs.length xs) (hp : ordB xs = false) (w : World) :
    Calls Try.prog 62 #[relOf xs] w fun e w' => e = .returned (.tuple #[rel5 0 0 0 0 0, .bool false]) ∧ Below w.heap.size w w' := by
  have hc := fun wr => isOrd_any R wr
  rw [hp] at hc
  have HC := Lib.hid hc
  have x1 := (RelAt.new w xs).alloc (.cells #[.int .i64 0, .int .i64 0, .int .i64 0, .int .i64 0, .int .i64 0] 45)
  have z1 := ord_zero (w.alloc (.cells #[.int .i64 xs.length, .int .i64 (rowAt xs 0), .int .i64 (rowAt xs 1), .int .i64 (rowAt xs 2), .int .i64 (rowAt xs 3)] 43))
  have B0 := below_two w (.cells #[.int .i64 xs.length, .int .i64 (rowAt xs 0), .int .i64 (rowAt xs 1), .int .i64 (rowAt xs 2), .int .i64 (rowAt xs 3)] 43) (.cells #[.int .i64 0, .int .i64 0, .int .i64 0, .int .i64 0, .int .i64 0] 45)
  simp only [World.size_alloc] at z1
  have bb := fun (W : World) (j : Nat) (v : Value) (h : Below w.heap.size w W) => h.setCell (p := ⟨w.heap.size + 1, j, none⟩) (Nat.le_succ _) v
  have p0 := x1.cell0
  have p1 := x1.cell1
  have p2 := x1.cell2
  have p3 := x1.cell3
  have p4 := x1.cell4
  clear hc R hp
  go_enter Try.func62, Try.ntmps62
  go_wp2_with fail
  refine (HC.out _).mono ?_
  rintro e w2 ⟨rfl, hb⟩
  have z2 := z1.below hb z1.lt
  have x2 := x1.below hb x1.lt
  have B2 := B0.trans (hb.mono B0.size)
  have q0 := x2.cell0
  have q1 := x2.cell1
  have q2 := x2.cell2
  have q3 := x2.cell3
  have q4 := x2.cell4
  have y0 := z2.cell0
  have y1 := z2.cell1
  have y2 := z2.cell2
  have y3 := z2.cell3
  have y4 := z2.cell4
  have f0 := z2.free 0
  have f1 := z2.free 1
  have f2 := z2.free 2
  have f3 := z2.free 3
  have f4 := z2.free 4
  clear hb z1 x1 B0 p0 p1 p2 p3 p4
  go_wp2
  refine bodyPost_ret (v := .tuple #[rel5 0 0 0 0 0, .bool false]) (by simp [results, Try.results62, go_sem, y0, y1, y2, y3, y4]) rfl ⟨rfl, ?_⟩
  exact bb _ _ _ (bb _ _ _ (bb _ _ _ (bb _ _ _ (bb _ _ _ B2))))

theorem orderFrom_yes (ao : Option Addr) (ca : Nat) (xs : List Int) (w : World) (hp : ordB xs = true) (hx : Rd w ao xs) :
    Calls Try.prog 44 #[.slice ao xs.length ca] w fun e w' => e = .returned (.tuple #[relOf xs, .bool true]) ∧ Below w.heap.size w w' := by
  have hR := (ord_yes hp).1
  have HR := Lib.hid hR
  have HE := Lib.hid (fun wr => asOrder_yes (Rl.of hR) hp wr)
  clear hR hp
  have z0 := ord_zero w
  have B0 := below_one w (.cells #[.int .i64 0, .int .i64 0, .int .i64 0, .int .i64 0, .int .i64 0] 45)
  have hx0 := hx.below B0
  clear hx
  go_enter Try.func44, Try.ntmps44
  go_wp2_with fail
  refine (relationFrom_yes _ _ _ _ HR.out hx0).mono ?_
  rintro e w1 ⟨rfl, hb⟩
  have z1 := (z0.below hb z0.lt).alloc (.cells #[.int .i64 xs.length, .int .i64 (rowAt xs 0), .int .i64 (rowAt xs 1), .int .i64 (rowAt xs 2), .int .i64 (rowAt xs 3)] 43)
  have x1 := RelAt.new w1 xs
  have B1 := (B0.trans (hb.mono B0.size)).alloc (by have := B0.size; have := hb.size; omega) (.cells #[.int .i64 xs.length, .int .i64 (rowAt xs 0), .int .i64 (rowAt xs 1), .int .i64 (rowAt xs 2), .int .i64 (rowAt xs 3)] 43)
  have p0 := x1.cell0
  have p1 := x1.cell1
  have p2 := x1.cell2
  have p3 := x1.cell3
  have p4 := x1.cell4
  clear hb z0 B0 hx0
  go_wp2_with fail
  refine (HE.out _).mono ?_
  rintro e w2 ⟨rfl, hb2⟩
  have z2 := z1.below hb2 z1.lt
  have B2 := B1.trans (hb2.mono B1.size)
  have y0 := z2.cell0
  have y1 := z2.cell1
  have y2 := z2.cell2
  have y3 := z2.cell3
  have y4 := z2.cell4
  have f0 := z2.free 0
  have f1 := z2.free 1
  have f2 := z2.free 2
  have f3 := z2.free 3
  have f4 := z2.free 4
  have bb := fun (W : World) (j : Nat) (v : Value) (h : Below w.heap.size w W) => h.setCell (p := ⟨w.heap.size, j, none⟩) (Nat.le_refl _) v
  clear hb2 z1 x1 B1 p0 p1 p2 p3 p4
  go_wp2
  refine bodyPost_ret (v := .tuple #[relOf xs, .bool true]) (by simp [results, Try.results44, go_sem, y0, y1, y2, y3, y4]) rfl ⟨rfl, ?_⟩
  exact bb _ _ _ (bb _ _ _ (bb _ _ _ (bb _ _ _ (bb _ _ _ B2))))

theorem orderFrom_no (ao : Option Addr) (ca : Nat) (xs : List Int) (w : World) (hl : xs.length ≤ 1048576) (hp : ordB xs = false) (hx : Rd w ao xs) :
    Calls Try.prog 44 #[.slice ao xs.length ca] w fun e w' => e = .returned (.tuple #[rel5 0 0 0 0 0, .bool false]) ∧ Below w.heap.size w w' := by
  have z0 := ord_zero w
  have B0 := below_one w (.cells #[.int .i64 0, .int .i64 0, .int .i64 0, .int .i64 0, .int .i64 0] 45)
  have hx0 := hx.below B0
  have bb := fun (W : World) (j : Nat) (v : Value) (h : Below w.heap.size w W) => h.setCell (p := ⟨w.heap.size, j, none⟩) (Nat.le_refl _) v
  clear hx
  cases hR : relIn xs with
  | false =>
    have HR := Lib.hid hR
    clear hR hp
    go_enter Try.func44, Try.ntmps44
    go_wp2_with fail
    refine (relationFrom_no _ _ _ _ hl HR.out hx0).mono ?_
    rintro e w1 ⟨rfl, hb⟩
    have z2 := (z0.below hb z0.lt).alloc (.cells #[.int .i64 0, .int .i64 0, .int .i64 0, .int .i64 0, .int .i64 0] 43)
    have B2 := (B0.trans (hb.mono B0.size)).alloc (by have := B0.size; have := hb.size; omega) (.cells #[.int .i64 0, .int .i64 0, .int .i64 0, .int .i64 0, .int .i64 0] 43)
    have y0 := z2.cell0
    have y1 := z2.cell1
    have y2 := z2.cell2
    have y3 := z2.cell3
    have y4 := z2.cell4
    have f0 := z2.free 0
    have f1 := z2.free 1
    have f2 := z2.free 2
    have f3 := z2.free 3
    have f4 := z2.free 4
    clear hb z0 B0 hx0
    go_wp2
    refine bodyPost_ret (v := .tuple #[rel5 0 0 0 0 0, .bool false]) (by simp [results, Try.results44, go_sem, y0, y1, y2, y3, y4]) rfl ⟨rfl, ?_⟩
    exact bb _ _ _ (bb _ _ _ (bb _ _ _ (bb _ _ _ (bb _ _ _ B2))))
  | true =>
    have HR := Lib.hid hR
    have HE := Lib.hid (fun wr => asOrder_no (Rl.of hR) hp wr)
    clear hR hp
    go_enter Try.func44, Try.ntmps44
    go_wp2_with fail
    refine (relationFrom_yes _ _ _ _ HR.out hx0).mono ?_
    rintro e w1 ⟨rfl, hb⟩
    have z1 := (z0.below hb z0.lt).alloc (.cells #[.int .i64 xs.length, .int .i64 (rowAt xs 0), .int .i64 (rowAt xs 1), .int .i64 (rowAt xs 2), .int .i64 (rowAt xs 3)] 43)
    have x1 := RelAt.new w1 xs
    have B1 := (B0.trans (hb.mono B0.size)).alloc (by have := B0.size; have := hb.size; omega) (.cells #[.int .i64 xs.length, .int .i64 (rowAt xs 0), .int .i64 (rowAt xs 1), .int .i64 (rowAt xs 2), .int .i64 (rowAt xs 3)] 43)
    have p0 := x1.cell0
    have p1 := x1.cell1
    have p2 := x1.cell2
    have p3 := x1.cell3
    have p4 := x1.cell4
    clear hb z0 B0 hx0
    go_wp2_with fail
    refine (HE.out _).mono ?_
    rintro e w2 ⟨rfl, hb2⟩
    have z2 := z1.below hb2 z1.lt
    have B2 := B1.trans (hb2.mono B1.size)
    have y0 := z2.cell0
    have y1 := z2.cell1
    have y2 := z2.cell2
    have y3 := z2.cell3
    have y4 := z2.cell4
    have f0 := z2.free 0
    have f1 := z2.free 1
    have f2 := z2.free 2
    have f3 := z2.free 3
    have f4 := z2.free 4
    clear hb2 z1 x1 B1 p0 p1 p2 p3 p4
    go_wp2
    refine bodyPost_ret (v := .tuple #[rel5 0 0 0 0 0, .bool false]) (by simp [results, Try.results44, go_sem, y0, y1, y2, y3, y4]) rfl ⟨rfl, ?_⟩
    exact bb _ _ _ (bb _ _ _ (bb _ _ _ (bb _ _ _ (bb _ _ _ B2))))

theorem implOrderIn_any (ao : Option Addr) (ca : Nat) (xs : List Int) (w : World) (hl : xs.length ≤ 1048576) (hx : Rd w ao xs) :
    Calls Try.prog 12 #[.slice ao xs.length ca] w fun e w' => e = .returned (.bool (ordB xs)) ∧ Below w.heap.size w w' := by
  cases hp : ordB xs with
  | false =>
    have HC := Lib.hid (orderFrom_no ao ca xs w hl hp hx)
    clear hp hx
    go_enter Try.func12, Try.ntmps12
    go_wp2_with fail
    refine HC.out.mono ?_
    rintro e w1 ⟨rfl, hb⟩
    go_wp2
    go_ret
    exact ⟨rfl, hb.alloc hb.size _⟩
  | true =>
    have HC := Lib.hid (orderFrom_yes ao ca xs w hp hx)
    clear hp hx
    go_enter Try.func12, Try.ntmps12
    go_wp2_with fail
    refine HC.out.mono ?_
    rintro e w1 ⟨rfl, hb⟩
    go_wp2
    go_ret
    exact ⟨rfl, hb.alloc hb.size _⟩
theorem specOrderIn_any (ao : Option Addr) (ca : Nat) (xs : List Int) (w : World) (hl : xs.length ≤ 1048576) (hx : Rd w ao xs) :
    Calls Try.prog 13 #[.slice ao xs.length ca] w fun e w' => e = .returned (.bool (ordB xs)) ∧ Below w.heap.size w w' := by
  have h1 := specRelIn_any ao ca xs w hl hx
  cases hp : relIn xs with
  | false =>
    have he : ordB xs = false := by unfold ordB; rw [hp]; rfl
    rw [hp] at h1
    rw [he]
    have H1 := Lib.hid h1
    clear h1 hp he hx
    go_enter Try.func13, Try.ntmps13
    go_wp2_with fail
    refine H1.out.mono ?_
    rintro e w1 ⟨rfl, hd⟩
    go_wp2
    go_ret
    exact ⟨rfl, hd.below _⟩
  | true =>
    have he : ordB xs = allK xs ratT := by rw [rat_all]; unfold ordB; rw [hp, Bool.true_and]
    have h2 := fun wr h => l3All_any (Rl.of hp) ratT ao ca wr (by decide) (fun k hk => letters_of rat_text k hk) h
    rw [← he] at h2
    rw [hp] at h1
    have H1 := Lib.hid h1
    have H2 := Lib.hid h2
    clear h1 h2 hp he
    go_enter Try.func13, Try.ntmps13
    go_wp2_with fail
    refine H1.out.mono ?_
    rintro e w1 ⟨rfl, hd⟩
    have hx1 := hd.rd hx
    have hh : w1.heap.size = w.heap.size := by rw [hd.heap]
    have HH := Lib.hid hh
    clear hh
    go_wp2_with fail
    refine (H2.out _ hx1).mono ?_
    rintro e w2 ⟨rfl, hb⟩
    go_wp2
    go_ret
    rw [HH.out] at hb
    exact ⟨rfl, (hd.below _).trans hb⟩
end Go.Proofs.Ytchbbflpckaddaa

namespace Go.Proofs.Ytchbbflpckaddaa
open Go.RowKit

/-- a set is a part of another one -/
def partB (s t : Int) : Bool := bits .andNot .i64 s t == 0
theorem isPartOf_any (s t : Int) (w : World) : Calls Try.prog 92 #[.int .i64 s, .int .i64 t] w fun e w' => e = .returned (.bool (partB s t)) ∧ w = w' := by
  go_enter Try.func92, Try.ntmps92
  go_wp2
  go_ret
  exact ⟨rfl, rfl⟩

/-- what the first k points of a set are all related to -/
def relTo (xs : List Int) (z : Int) : Nat → Int
  | 0 => ((2 ^ xs.length - 1 : Nat) : Int)
  | k + 1 => if hasB z k then bits .and .i64 (relTo xs z k) (rowAt xs k) else relTo xs z k
/-- what all points of a set are related to -/
def relAll (xs : List Int) (z : Int) : Int := relTo xs z xs.length

theorem b_top : ∀ n : Fin 5, ∃ u : Fin 16, ((2 ^ n.val - 1 : Nat) : Int) = (u.val : Int) ∧ u.val < 2 ^ n.val ∧ ∀ j : Fin n.val, hasB (u.val : Int) j.val = true := by decide +kernel
theorem rel_row {n : Nat} {xs : List Int} (h : Rl n xs) (z : Int) : ∀ k, k ≤ n → ∃ u : Fin 16, relTo xs z k = (u.val : Int) ∧ u.val < 2 ^ n ∧
    ∀ j, j < n → (hasB (u.val : Int) j = true ↔ ∀ i, i < k → hasB z i = true → hB xs i j = true)
  | 0, _ => by
    obtain ⟨u, e, hlt, hj⟩ := b_top ⟨n, by have := h.four; omega⟩
    refine ⟨u, by rw [show relTo xs z 0 = ((2 ^ xs.length - 1 : Nat) : Int) from rfl, h.len]; exact e, hlt, fun j hjn => ?_⟩
    rw [hj ⟨j, hjn⟩]
    exact ⟨fun _ i hi => by omega, fun _ => rfl⟩
  | k + 1, hk => by
    obtain ⟨u, e, hlt, hj⟩ := rel_row h z k (by omega)
    cases hz : hasB z k with
    | false =>
      refine ⟨u, by rw [show relTo xs z (k + 1) = if hasB z k then bits .and .i64 (relTo xs z k) (rowAt xs k) else relTo xs z k from rfl, hz]; exact e, hlt, fun j hjn => ?_⟩
      rw [hj j hjn]
      constructor
      · intro g i hi hzi
        by_cases e : i = k
        · subst e
          rw [hz] at hzi
          cases hzi
        · exact g i (by omega) hzi
      · intro g i hi hzi
        exact g i (by omega) hzi
    | true =>
      obtain ⟨y, hy, hyl⟩ := h.row k
      obtain ⟨v, hv, hvl⟩ := b_andlt ⟨n, by have := h.four; omega⟩ u y hlt hyl
      refine ⟨v, ?_, hvl, fun j hjn => ?_⟩
      · rw [show relTo xs z (k + 1) = if hasB z k then bits .and .i64 (relTo xs z k) (rowAt xs k) else relTo xs z k from rfl, hz, if_pos rfl, e, hy]
        exact hv
      · have hb := b_and u y ⟨j, by have := h.four; omega⟩
        rw [hv] at hb
        rw [hb, Bool.and_eq_true, hj j hjn]
        have hyk : hasB (y.val : Int) j = hB xs k j := by unfold hB; rw [hy]
        rw [hyk]
        constructor
        · rintro ⟨g, g2⟩ i hi hzi
          by_cases e : i = k
          · subst e
            exact g2
          · exact g i (by omega) hzi
        · intro g
          exact ⟨fun i hi hzi => g i (by omega) hzi, g k (by omega) hz⟩
theorem relAll_row {n : Nat} {xs : List Int} (h : Rl n xs) (z : Int) : ∃ u : Fin 16, relAll xs z = (u.val : Int) ∧ u.val < 2 ^ n ∧
    ∀ j, j < n → (hasB (u.val : Int) j = true ↔ ∀ i, i < n → hasB z i = true → hB xs i j = true) := by
  have := rel_row h z n (Nat.le_refl _)
  unfold relAll
  rw [h.len]
  exact this

set_option maxHeartbeats 1000000 in
theorem relatedToAll_any {xs : List Int} (R : Rl xs.length xs) (z : Int) (w : World) :
    Calls Try.prog 105 #[relOf xs, .int .i64 z] w fun e w' => e = .returned (.int .i64 (relAll xs z)) ∧ Below w.heap.size w w' := by
  have h1 := R.one
  have h4 := R.four
  have x0 := RelAt.new w xs
  have B0 := below_one w (.cells #[.int .i64 xs.length, .int .i64 (rowAt xs 0), .int .i64 (rowAt xs 1), .int .i64 (rowAt xs 2), .int .i64 (rowAt xs 3)] 43)
  have p0 := x0.cell0
  clear R
  go_enter Try.func105, Try.ntmps105
  go_wp2_with (go_at_call 104; refine (allPoints_any _ h1 h4 _).mono ?_; rintro e w' ⟨rfl, rfl⟩)
  go_loopw [5, 12, 6] (fun f i _ wr => ∃ k : Nat, k ≤ xs.length ∧ i = .int .i64 k ∧ f = .int .i64 (relTo xs z k) ∧ RelAt wr w.heap.size xs ∧ Below w.heap.size w wr)
    (fun _ i _ _ => xs.length - (intOf i).toNat)
  case atStart => exact ⟨0, Nat.zero_le _, rfl, rfl, x0, B0⟩
  case round =>
    obtain ⟨k, hk, rfl, rfl, hr, hB⟩ := hrel
    clear x0 B0 p0
    by_cases hlt : k < xs.length
    · have hc1 := hr.row k (by omega)
      have hq : (k : Int) < 4 := by omega
      cases hz : hasB z k with
      | false =>
        have hst : relTo xs z (k + 1) = relTo xs z k := by rw [show relTo xs z (k + 1) = if hasB z k then bits .and .i64 (relTo xs z k) (rowAt xs k) else relTo xs z k from rfl, hz]; rfl
        have HST := Lib.hid hst
        clear hst
        go_wp2_with (go_at_call 91; refine (has_any _ k (by omega) _).mono ?_; rintro e w2 ⟨rfl, rfl⟩)
        go_roundw
        case rel => exact ⟨k + 1, by omega, by go_num, by rw [HST.out], hr, hB⟩
        case measure => simp [intOf]; omega
      | true =>
        have hst : relTo xs z (k + 1) = bits .and .i64 (relTo xs z k) (rowAt xs k) := by rw [show relTo xs z (k + 1) = if hasB z k then bits .and .i64 (relTo xs z k) (rowAt xs k) else relTo xs z k from rfl, hz]; rfl
        have HST := Lib.hid hst
        clear hst
        go_wp2_with (go_at_call 91; refine (has_any _ k (by omega) _).mono ?_; rintro e w2 ⟨rfl, rfl⟩)
        go_roundw
        case rel => exact ⟨k + 1, by omega, by go_num, by rw [HST.out], hr, hB⟩
        case measure => simp [intOf]; omega
    · go_wp2
      go_ret
      obtain rfl : k = xs.length := by omega
      exact ⟨rfl, hB⟩

/-! least bounds -/
/-- the first point below which all bounds of a set are, from the point k on -/
def bndB (xs : List Int) (z : Int) (k : Nat) : Bool := hasB (relAll xs z) k && partB (relAll xs z) (rowAt xs k)
def bndO (xs : List Int) (z : Int) : Option Nat := (List.range xs.length).find? fun k => bndB xs z k
theorem bnd_some {xs : List Int} {z : Int} {k : Nat} (hk : k < xs.length) (h : bndB xs z k = true) (hn : ∀ t, t < k → bndB xs z t = false) : bndO xs z = some k := by
  unfold bndO
  rw [List.find?_range_eq_some]
  exact ⟨h, List.mem_range.2 hk, fun j hj => by rw [hn j hj]; rfl⟩
theorem bnd_none {xs : List Int} {z : Int} (hn : ∀ t, t < xs.length → bndB xs z t = false) : bndO xs z = none := by
  unfold bndO
  rw [List.find?_eq_none]
  intro t ht
  rw [hn t (List.mem_range.1 ht)]
  exact Bool.false_ne_true
theorem bnd_lt {xs : List Int} {z : Int} {k : Nat} (h : bndO xs z = some k) : k < xs.length := by
  have := List.mem_of_find?_eq_some h
  exact List.mem_range.1 this

set_option maxHeartbeats 2000000 in
theorem leastBound_any {xs : List Int} (R : Rl xs.length xs) (z : Int) (w : World) :
    Calls Try.prog 67 #[relOf xs, .int .i64 z] w fun e w' => e = .returned (.tuple #[.int .i64 (((bndO xs z).getD 0 : Nat) : Int), .bool (bndO xs z).isSome]) ∧ Below w.heap.size w w' := by
  have h4 := R.four
  have hc := fun wr => relatedToAll_any R z wr
  have x0 := OrdAt.new w xs
  have B0 := below_one w (.cells #[.int .i64 xs.length, .int .i64 (rowAt xs 0), .int .i64 (rowAt xs 1), .int .i64 (rowAt xs 2), .int .i64 (rowAt xs 3)] 45)
  have p0 := x0.cell0
  have p1 := x0.cell1
  have p2 := x0.cell2
  have p3 := x0.cell3
  have p4 := x0.cell4
  have HC := Lib.hid hc
  clear R hc
  go_enter Try.func67, Try.ntmps67
  go_wp2_with fail
  refine (HC.out _).mono ?_
  rintro e w1 ⟨rfl, hb⟩
  have x1 := x0.below hb x0.lt
  have B1 := B0.trans (hb.mono B0.size)
  have q0 := x1.cell0
  clear x0 B0 p0 p1 p2 p3 p4 hb
  go_wp2
  go_loopw [15, 7] (fun i _ wr => ∃ k : Nat, k ≤ xs.length ∧ i = .int .i64 k ∧ (∀ t, t < k → bndB xs z t = false) ∧ OrdAt wr w.heap.size xs ∧ Below w.heap.size w wr)
    (fun i _ _ => xs.length - (intOf i).toNat)
  case atStart => exact ⟨0, Nat.zero_le _, rfl, fun t ht => by omega, x1, B1⟩
  case round =>
    obtain ⟨k, hk, rfl, hn, hr, hB⟩ := hrel
    clear x1 B1 q0
    have HN := Lib.hid hn
    clear hn
    by_cases hlt : k < xs.length
    · have hc1 := hr.row k (by omega)
      have hq : (k : Int) < 4 := by omega
      cases hz : hasB (relAll xs z) k with
      | false =>
        go_wp2_with (go_at_call 91; refine (has_any _ k (by omega) _).mono ?_; rintro e w2 ⟨rfl, rfl⟩)
        go_roundw
        case rel => exact ⟨k + 1, by omega, by go_num, fun t ht => by
          by_cases e : t = k
          · subst e
            unfold bndB
            rw [hz, Bool.false_and]
          · exact HN.out t (by omega), hr, hB⟩
        case measure => simp [intOf]; omega
      | true =>
        cases hp : partB (relAll xs z) (rowAt xs k) with
        | false =>
          go_wp2_with (first
            | (go_at_call 91; refine (has_any _ k (by omega) _).mono ?_; rintro e w2 ⟨rfl, rfl⟩)
            | (go_at_call 92; refine (isPartOf_any _ _ _).mono ?_; rintro e w2 ⟨rfl, rfl⟩))
          go_roundw
          case rel => exact ⟨k + 1, by omega, by go_num, fun t ht => by
            by_cases e : t = k
            · subst e
              unfold bndB
              rw [hp, Bool.and_false]
            · exact HN.out t (by omega), hr, hB⟩
          case measure => simp [intOf]; omega
        | true =>
          have ho : bndO xs z = some k := bnd_some hlt (by unfold bndB; rw [hz, hp]; rfl) HN.out
          have HO := Lib.hid ho
          clear ho
          go_wp2_with (first
            | (go_at_call 91; refine (has_any _ k (by omega) _).mono ?_; rintro e w2 ⟨rfl, rfl⟩)
            | (go_at_call 92; refine (isPartOf_any _ _ _).mono ?_; rintro e w2 ⟨rfl, rfl⟩))
          go_ret2
          exact ⟨by rw [HO.out]; rfl, hB⟩
    · go_wp2
      go_ret2
      obtain rfl : k = xs.length := by omega
      exact ⟨by rw [bnd_none HN.out]; rfl, hB⟩
end Go.Proofs.Ytchbbflpckaddaa

namespace Go.Proofs.Ytchbbflpckaddaa
open Go.RowKit

/-- a least bound, or -1 -/
def bndI (xs : List Int) (z : Int) : Int := match bndO xs z with | some k => (k : Int) | none => -1

theorem rowA {xs : List Int} {k : Nat} {x : Int} (h : xs[k]? = some x) : x = rowAt xs k := by
  unfold rowAt
  rw [List.getD_eq_getElem?_getD, h]
  rfl
theorem relTo_step (xs : List Int) (z : Int) (k : Nat) : relTo xs z (k + 1) = if hasB z k then bits .and .i64 (relTo xs z k) (rowAt xs k) else relTo xs z k := rfl
theorem top_wrap (n : Nat) (h1 : 1 ≤ n) (h4 : n ≤ 4) : wrap64 (wrap64 (2 ^ n) - 1) = ((2 ^ n - 1 : Nat) : Int) := by
  rcases (by omega : n = 1 ∨ n = 2 ∨ n = 3 ∨ n = 4) with rfl | rfl | rfl | rfl <;> decide +kernel

set_option maxHeartbeats 4000000 in
theorem l5Bound_any {xs : List Int} (R : Rl xs.length xs) (z : Fin 16) (ao : Option Addr) (ca : Nat) (w : World) (hx : Rd w ao xs) :
    Calls Try.prog 69 #[.slice ao xs.length ca, .int .i64 (z.val : Int)] w fun e w' => e = .returned (.int .i64 (bndI xs (z.val : Int))) ∧ Dn w w' := by
  have h1 := R.one
  have h4 := R.four
  have htop := top_wrap xs.length h1 h4
  have hrel := fun k (h : k < 4) => b_bit z ⟨k, h⟩
  have hrow := relAll_row R (z.val : Int)
  have HR := Lib.hid (And.intro hrel hrow)
  clear R hrel hrow
  go_enter Try.func69, Try.ntmps69
  go_wp2
  clear htop
  go_loopw [5, 6] (fun f i wr => ∃ k : Nat, k ≤ xs.length ∧ i = .int .i64 k ∧ f = .int .i64 (relTo xs (z.val : Int) k) ∧ Dn w wr)
    (fun _ i _ => xs.length - (intOf i).toNat)
  case atStart => exact ⟨0, Nat.zero_le _, rfl, rfl, Dn.refl _⟩
  case round =>
    obtain ⟨k, hk, rfl, rfl, hd⟩ := hrel
    by_cases hlt : k < xs.length
    · obtain ⟨b, off, x, hxk, rfl, hbl, hc1⟩ := (hd.rd hx).get k hlt
      rw [rowA hxk] at hc1
      have hi1 : ((k : Nat) : Int) < (xs.length : Int) := by omega
      have hbb := HR.out.1 k (by omega)
      have HS := Lib.hid (relTo_step xs (z.val : Int) k)
      clear hx hxk
      cases hb : bitB (z.val : Int) k with
      | true =>
        rw [hb] at hbb
        have HB := Lib.hid hbb
        clear hbb
        have hb2 : (bits .and .i64 ((z.val : Int) / 2 ^ k) 1 == 1) = true := hb
        clear hb
        go_wp2
        go_roundw
        case rel => exact ⟨k + 1, by omega, by go_num, by rw [HS.out, ← HB.out]; rfl, hd⟩
        case measure => simp [intOf]; omega
      | false =>
        rw [hb] at hbb
        have HB := Lib.hid hbb
        clear hbb
        have hb2 : (bits .and .i64 ((z.val : Int) / 2 ^ k) 1 == 1) = false := hb
        clear hb
        go_wp2
        go_roundw
        case rel => exact ⟨k + 1, by omega, by go_num, by rw [HS.out, ← HB.out]; rfl, hd⟩
        case measure => simp [intOf]; omega
    · obtain rfl : k = xs.length := by omega
      obtain ⟨u, hu, hul, _⟩ := HR.out.2
      have hu' : relTo xs (z.val : Int) xs.length = (u.val : Int) := hu
      have hbu := fun k (h : k < 4) => b_bit u ⟨k, h⟩
      have hbd : ∀ k, bndB xs (z.val : Int) k = (hasB (u.val : Int) k && partB (u.val : Int) (rowAt xs k)) := fun k => by unfold bndB; rw [hu]
      have HU := Lib.hid (And.intro hbu (And.intro hbd hu))
      rw [hu']
      clear hu hu' hbu hbd HR
      go_wp2
      go_loopw [7] (fun i wr => ∃ k : Nat, k ≤ xs.length ∧ i = .int .i64 k ∧ (∀ t, t < k → bndB xs (z.val : Int) t = false) ∧ Dn w wr)
        (fun i _ => xs.length - (intOf i).toNat)
      case atStart => exact ⟨0, Nat.zero_le _, rfl, fun t ht => by omega, hd⟩
      case round =>
        clear hd
        obtain ⟨k, hk, rfl, hn, hd⟩ := hrel
        have HN := Lib.hid hn
        clear hn
        by_cases hlt : k < xs.length
        · obtain ⟨b, off, x, hxk, rfl, hbl, hc1⟩ := (hd.rd hx).get k hlt
          rw [rowA hxk] at hc1
          have hi1 : ((k : Nat) : Int) < (xs.length : Int) := by omega
          have hbb := HU.out.1 k (by omega)
          have hbd := HU.out.2.1 k
          clear hx hxk
          cases hb : bitB (u.val : Int) k with
          | false =>
            rw [hb] at hbb
            rw [← hbb, Bool.false_and] at hbd
            have HB := Lib.hid hbd
            clear hbb hbd
            have hb2 : (bits .and .i64 ((u.val : Int) / 2 ^ k) 1 == 1) = false := hb
            clear hb
            go_wp2
            go_roundw
            case rel => exact ⟨k + 1, by omega, by go_num, fun t ht => by
              by_cases e : t = k
              · subst e
                exact HB.out
              · exact HN.out t (by omega), hd⟩
            case measure => simp [intOf]; omega
          | true =>
            rw [hb] at hbb
            rw [← hbb, Bool.true_and] at hbd
            have hb2 : (bits .and .i64 ((u.val : Int) / 2 ^ k) 1 == 1) = true := hb
            clear hb hbb
            cases hp : partB (u.val : Int) (rowAt xs k) with
            | false =>
              rw [hp] at hbd
              have HB := Lib.hid hbd
              clear hbd
              have hp2 : (bits .andNot .i64 (u.val : Int) (rowAt xs k) == 0) = false := hp
              clear hp
              go_wp2
              go_roundw
              case rel => exact ⟨k + 1, by omega, by go_num, fun t ht => by
                by_cases e : t = k
                · subst e
                  exact HB.out
                · exact HN.out t (by omega), hd⟩
              case measure => simp [intOf]; omega
            | true =>
              rw [hp] at hbd
              have HB := Lib.hid (bnd_some hlt hbd HN.out)
              clear hbd
              have hp2 : (bits .andNot .i64 (u.val : Int) (rowAt xs k) == 0) = true := hp
              clear hp
              go_wp2
              go_ret
              have he : bndI xs (z.val : Int) = (k : Int) := by unfold bndI; rw [HB.out]
              exact ⟨by rw [he]; rfl, hd⟩
        · go_wp2
          go_ret
          obtain rfl : k = xs.length := by omega
          have he : bndI xs (z.val : Int) = -1 := by unfold bndI; rw [bnd_none HN.out]
          exact ⟨by rw [he]; rfl, hd⟩

/-- what OrderBound tells -/
def ordS (xs : List Int) (z : Int) : Bool := ordB xs && rowIn xs.length z
def ordO (xs : List Int) (z : Int) : Option Nat := if ordS xs z then bndO xs z else none
theorem row_fin {n : Nat} {z : Int} (h4 : n ≤ 4) (h : rowIn n z = true) : ∃ u : Fin 16, z = (u.val : Int) ∧ u.val < 2 ^ n := by
  unfold rowIn at h
  rw [Bool.and_eq_true] at h
  have h1 := of_decide_eq_true h.1
  have h2 := of_decide_eq_true h.2
  have h3 : (2 : Int) ^ n ≤ 16 := by
    rcases (by omega : n = 0 ∨ n = 1 ∨ n = 2 ∨ n = 3 ∨ n = 4) with rfl | rfl | rfl | rfl | rfl <;> decide
  refine ⟨⟨z.toNat, by omega⟩, by show z = ((z.toNat : Nat) : Int); omega, ?_⟩
  show z.toNat < 2 ^ n
  have : ((2 ^ n : Nat) : Int) = (2 : Int) ^ n := by rcases (by omega : n = 0 ∨ n = 1 ∨ n = 2 ∨ n = 3 ∨ n = 4) with rfl | rfl | rfl | rfl | rfl <;> rfl
  omega

set_option maxHeartbeats 1000000 in
theorem specOrderBound_any (ao : Option Addr) (ca : Nat) (xs : List Int) (z : Int) (w : World) (hl : xs.length ≤ 1048576) (hx : Rd w ao xs) :
    Calls Try.prog 28 #[.slice ao xs.length ca, .int .i64 z] w fun e w' => e = .returned (.tuple #[.int .i64 (((ordO xs z).getD 0 : Nat) : Int), .bool (ordO xs z).isSome]) ∧ Below w.heap.size w w' := by
  have h1 := specOrderIn_any ao ca xs w hl hx
  unfold ordO ordS
  cases hp : ordB xs with
  | false =>
    rw [hp] at h1
    rw [Bool.false_and]
    have H1 := Lib.hid h1
    clear h1 hp hx
    go_enter Try.func28, Try.ntmps28
    go_wp2_with fail
    refine H1.out.mono ?_
    rintro e w1 ⟨rfl, hb⟩
    go_wp2
    go_ret2
    exact ⟨rfl, hb⟩
  | true =>
    rw [hp] at h1
    rw [Bool.true_and]
    have R := ord_rl hp
    have hi : inB z 0 (wrap64 (wrap64 (2 ^ xs.length) - 1)) = rowIn xs.length z := row_top _ _ R.one R.four
    cases hz : rowIn xs.length z with
    | false =>
      rw [hz] at hi
      have H1 := Lib.hid h1
      have HI := Lib.hid hi
      have h4 := R.four
      have h0 := R.one
      clear h1 hp hx R hi hz
      go_enter Try.func28, Try.ntmps28
      go_wp2_with fail
      refine H1.out.mono ?_
      rintro e w1 ⟨rfl, hb⟩
      go_wp2_with fail
      refine (l6In_any _ _ _ _).mono ?_
      rintro e w2 ⟨rfl, rfl⟩
      rw [HI.out]
      go_wp2
      go_ret2
      exact ⟨rfl, hb⟩
    | true =>
      rw [hz] at hi
      obtain ⟨u, rfl, hu⟩ := row_fin R.four hz
      have H2 := Lib.hid (fun wr h => l5Bound_any R u ao ca wr h)
      have H1 := Lib.hid h1
      have HI := Lib.hid hi
      have h4 := R.four
      have h0 := R.one
      clear h1 hp R hi hz
      go_enter Try.func28, Try.ntmps28
      go_wp2_with fail
      refine H1.out.mono ?_
      rintro e w1 ⟨rfl, hb⟩
      have hx1 := hx.below hb
      clear hx
      go_wp2_with fail
      refine (l6In_any _ _ _ _).mono ?_
      rintro e w2 ⟨rfl, rfl⟩
      rw [HI.out]
      go_wp2_with fail
      refine (H2.out _ hx1).mono ?_
      rintro e w3 ⟨rfl, hd⟩
      unfold bndI
      cases hbo : bndO xs (u.val : Int) with
      | none =>
        have HBO := Lib.hid hbo
        clear hbo
        go_wp2
        go_ret2
        exact ⟨by rw [HBO.out]; rfl, hb.trans (hd.below _)⟩
      | some k =>
        have hk := bnd_lt hbo
        have HBO := Lib.hid hbo
        clear hbo
        have hk2 : (k : Int) ≥ 0 := by omega
        rcases (by omega : k = 0 ∨ (0 : Int) < (k : Int)) with rfl | hk3
        · go_wp2
          go_ret2
          exact ⟨by rw [HBO.out]; rfl, hb.trans (hd.below _)⟩
        · go_wp2
          go_ret2
          exact ⟨by rw [HBO.out]; rfl, hb.trans (hd.below _)⟩

set_option maxHeartbeats 1000000 in
theorem implOrderBound_any (ao : Option Addr) (ca : Nat) (xs : List Int) (z : Int) (w : World) (hl : xs.length ≤ 1048576) (hx : Rd w ao xs) :
    Calls Try.prog 27 #[.slice ao xs.length ca, .int .i64 z] w fun e w' => e = .returned (.tuple #[.int .i64 (((ordO xs z).getD 0 : Nat) : Int), .bool (ordO xs z).isSome]) ∧ Below w.heap.size w w' := by
  unfold ordO ordS
  cases hp : ordB xs with
  | false =>
    rw [Bool.false_and]
    have HC := Lib.hid (orderFrom_no ao ca xs w hl hp hx)
    clear hp hx
    go_enter Try.func27, Try.ntmps27
    go_wp2_with fail
    refine HC.out.mono ?_
    rintro e w1 ⟨rfl, hb⟩
    go_wp2
    go_ret2
    exact ⟨rfl, hb.alloc hb.size _⟩
  | true =>
    rw [Bool.true_and]
    have HC := Lib.hid (orderFrom_yes ao ca xs w hp hx)
    have R := ord_rl hp
    have h1 := R.one
    have h4 := R.four
    have hs := fun wr => isSet_any z xs.length h1 h4 wr
    cases hz : rowIn xs.length z with
    | false =>
      rw [hz] at hs
      have HS := Lib.hid hs
      clear hp hx hs hz R
      go_enter Try.func27, Try.ntmps27
      go_wp2_with fail
      refine HC.out.mono ?_
      rintro e w1 ⟨rfl, hb⟩
      have x1 := OrdAt.new w1 xs
      have B1 := hb.alloc hb.size (.cells #[.int .i64 xs.length, .int .i64 (rowAt xs 0), .int .i64 (rowAt xs 1), .int .i64 (rowAt xs 2), .int .i64 (rowAt xs 3)] 45)
      have p0 := x1.cell0
      have p1 := x1.cell1
      have p2 := x1.cell2
      have p3 := x1.cell3
      have p4 := x1.cell4
      clear x1 hb
      go_wp2_with fail
      refine (HS.out _).mono ?_
      rintro e w2 ⟨rfl, rfl⟩
      go_wp2
      go_ret2
      exact ⟨rfl, B1⟩
    | true =>
      rw [hz] at hs
      have HS := Lib.hid hs
      have HB := Lib.hid (fun wr => leastBound_any R z wr)
      clear hp hx hs hz R
      go_enter Try.func27, Try.ntmps27
      go_wp2_with fail
      refine HC.out.mono ?_
      rintro e w1 ⟨rfl, hb⟩
      have x1 := OrdAt.new w1 xs
      have B1 := hb.alloc hb.size (.cells #[.int .i64 xs.length, .int .i64 (rowAt xs 0), .int .i64 (rowAt xs 1), .int .i64 (rowAt xs 2), .int .i64 (rowAt xs 3)] 45)
      have p0 := x1.cell0
      have p1 := x1.cell1
      have p2 := x1.cell2
      have p3 := x1.cell3
      have p4 := x1.cell4
      clear x1 hb
      go_wp2_with fail
      refine (HS.out _).mono ?_
      rintro e w2 ⟨rfl, rfl⟩
      go_wp2_with fail
      refine (HB.out _).mono ?_
      rintro e w3 ⟨rfl, hb3⟩
      go_wp2
      go_ret2
      exact ⟨rfl, B1.trans (hb3.mono B1.size)⟩

/-! lattices -/
/-- whether each of the first k sets has a least bound -/
def latTo (xs : List Int) (k : Nat) : Bool := (List.range k).all fun z => (bndO xs (z : Int)).isSome
theorem lat_succ (xs : List Int) (k : Nat) : latTo xs (k + 1) = (latTo xs k && (bndO xs (k : Int)).isSome) := by
  unfold latTo
  rw [List.range_succ, List.all_append]
  simp
theorem lat_no (xs : List Int) (k m : Nat) (hk : k < m) (h : (bndO xs (k : Int)).isSome = false) : latTo xs m = false := by
  unfold latTo
  rw [List.all_eq_false]
  exact ⟨k, List.mem_range.2 hk, by rw [h]; exact Bool.false_ne_true⟩
def latB (xs : List Int) : Bool := ordB xs && latTo xs (2 ^ xs.length)
theorem pow_le16 {n : Nat} (h4 : n ≤ 4) : 2 ^ n ≤ 16 := by
  rcases (by omega : n = 0 ∨ n = 1 ∨ n = 2 ∨ n = 3 ∨ n = 4) with rfl | rfl | rfl | rfl | rfl <;> decide
theorem top_one (n : Nat) (h1 : 1 ≤ n) (h4 : n ≤ 4) : wrap64 (((2 ^ n - 1 : Nat) : Int) + 1) = ((2 ^ n : Nat) : Int) := by
  rcases (by omega : n = 1 ∨ n = 2 ∨ n = 3 ∨ n = 4) with rfl | rfl | rfl | rfl <;> decide +kernel
theorem pow_wrap (n : Nat) (h1 : 1 ≤ n) (h4 : n ≤ 4) : wrap64 (2 ^ n) = ((2 ^ n : Nat) : Int) := by
  rcases (by omega : n = 1 ∨ n = 2 ∨ n = 3 ∨ n = 4) with rfl | rfl | rfl | rfl <;> decide +kernel

set_option maxHeartbeats 1000000 in
theorem isLattice_any {xs : List Int} (R : Rl xs.length xs) (w : World) :
    Calls Try.prog 70 #[relOf xs] w fun e w' => e = .returned (.bool (latTo xs (2 ^ xs.length))) ∧ Below w.heap.size w w' := by
  have h1 := R.one
  have h4 := R.four
  have hm0 : 1 ≤ 2 ^ xs.length := Nat.one_le_two_pow
  have hm := pow_le16 h4
  obtain ⟨m, hm2⟩ : ∃ m, 2 ^ xs.length = m := ⟨_, rfl⟩
  have HC := Lib.hid (fun z wr => leastBound_any R z wr)
  have HA := Lib.hid (fun wr => allPoints_any xs.length h1 h4 wr)
  rw [hm2] at HA hm hm0 ⊢
  have x0 := OrdAt.new w xs
  have B0 := below_one w (.cells #[.int .i64 xs.length, .int .i64 (rowAt xs 0), .int .i64 (rowAt xs 1), .int .i64 (rowAt xs 2), .int .i64 (rowAt xs 3)] 45)
  have p0 := x0.cell0
  clear R hm2 h1 h4
  go_enter Try.func70, Try.ntmps70
  go_wp2_with (go_at_call 104; refine (HA.out _).mono ?_; rintro e w' ⟨rfl, rfl⟩)
  go_loopw [11, 3, 4, 5, 14, 15, 16, 17, 18, 19, 20, 21] (fun i _ _ _ _ _ _ _ _ _ _ _ wr => ∃ k : Nat, k ≤ m ∧ i = .int .i64 k ∧ latTo xs k = true ∧ OrdAt wr w.heap.size xs ∧ Below w.heap.size w wr)
    (fun i _ _ _ _ _ _ _ _ _ _ _ _ => m - (intOf i).toNat)
  case atStart => exact ⟨0, Nat.zero_le _, rfl, rfl, x0, B0⟩
  case round =>
    obtain ⟨k, hk, rfl, ht, hr, hB⟩ := hrel
    have HT := Lib.hid ht
    clear x0 B0 p0 ht
    by_cases hlt : k < m
    · have hi1 : ((k : Nat) : Int) < ((m - 1 : Nat) : Int) + 1 := by omega
      have p0 := hr.cell0
      have p1 := hr.cell1
      have p2 := hr.cell2
      have p3 := hr.cell3
      have p4 := hr.cell4
      cases hb : (bndO xs (k : Int)).isSome with
      | true =>
        have hst := lat_succ xs k
        rw [hb] at hst
        have HST := Lib.hid hst
        have hcc := fun wr => HC.out (k : Int) wr
        rw [hb] at hcc
        have HCC := Lib.hid hcc
        clear hst hcc hb
        go_wp2_with fail
        refine (HCC.out _).mono ?_
        rintro e w1 ⟨rfl, hb1⟩
        have hr1 := hr.below hb1 hr.lt
        have B1 := hB.trans (hb1.mono hB.size)
        clear hr hB hb1 p0 p1 p2 p3 p4
        go_wp2
        go_roundw
        case rel => exact ⟨k + 1, by omega, by go_num, by rw [HST.out, HT.out]; rfl, hr1, B1⟩
        case measure => simp [intOf]; omega
      | false =>
        have HST := Lib.hid (lat_no xs k m hlt hb)
        have hcc := fun wr => HC.out (k : Int) wr
        rw [hb] at hcc
        have HCC := Lib.hid hcc
        clear hcc hb
        go_wp2_with fail
        refine (HCC.out _).mono ?_
        rintro e w1 ⟨rfl, hb1⟩
        have B1 := hB.trans (hb1.mono hB.size)
        clear hr hB hb1 p0 p1 p2 p3 p4
        go_wp2
        go_ret
        exact ⟨by rw [HST.out]; rfl, B1⟩
    · have hi1 : ¬ (((k : Nat) : Int) < ((m - 1 : Nat) : Int) + 1) := by omega
      go_wp2
      go_ret
      obtain rfl : k = m := by omega
      exact ⟨by rw [HT.out]; rfl, hB⟩

set_option maxHeartbeats 1000000 in
theorem specOrderLattice_any (ao : Option Addr) (ca : Nat) (xs : List Int) (w : World) (hl : xs.length ≤ 1048576) (hx : Rd w ao xs) :
    Calls Try.prog 31 #[.slice ao xs.length ca] w fun e w' => e = .returned (.bool (latB xs)) ∧ Below w.heap.size w w' := by
  have h1 := specOrderIn_any ao ca xs w hl hx
  unfold latB
  cases hp : ordB xs with
  | false =>
    rw [hp] at h1
    rw [Bool.false_and]
    have H1 := Lib.hid h1
    clear h1 hp hx
    go_enter Try.func31, Try.ntmps31
    go_wp2_with fail
    refine H1.out.mono ?_
    rintro e w1 ⟨rfl, hb⟩
    go_wp2
    go_ret
    exact ⟨rfl, hb⟩
  | true =>
    rw [hp] at h1
    rw [Bool.true_and]
    have R := ord_rl hp
    have h1' := R.one
    have h4 := R.four
    have hw := pow_wrap xs.length h1' h4
    have hm := pow_le16 h4
    obtain ⟨m, hm2⟩ : ∃ m, 2 ^ xs.length = m := ⟨_, rfl⟩
    rw [hm2] at hw hm ⊢
    have HC := Lib.hid (fun (z : Fin 16) wr h => l5Bound_any R z ao ca wr h)
    have H1 := Lib.hid h1
    clear h1 hp R hm2
    go_enter Try.func31, Try.ntmps31
    go_wp2_with fail
    refine H1.out.mono ?_
    rintro e w1 ⟨rfl, hb⟩
    have hx1 := hx.below hb
    clear hx
    go_wp2
    go_loopw [3] (fun i wr => ∃ k : Nat, k ≤ m ∧ i = .int .i64 k ∧ latTo xs k = true ∧ Dn w1 wr)
      (fun i _ => m - (intOf i).toNat)
    case atStart => exact ⟨0, Nat.zero_le _, rfl, rfl, Dn.refl _⟩
    case round =>
      obtain ⟨k, hk, rfl, ht, hd⟩ := hrel
      have HT := Lib.hid ht
      clear ht
      by_cases hlt : k < m
      · have hi1 : ((k : Nat) : Int) < (m : Int) := by omega
        have hx2 := hd.rd hx1
        have hcc := fun wr h => HC.out ⟨k, by omega⟩ wr h
        clear hx1
        dsimp only at hcc
        unfold bndI at hcc
        cases hbo : bndO xs (k : Int) with
        | none =>
          rw [hbo] at hcc
          dsimp only at hcc
          have HST := Lib.hid (lat_no xs k m hlt (by rw [hbo]; rfl))
          have HCC := Lib.hid hcc
          clear hcc hbo
          go_wp2_with fail
          refine (HCC.out _ hx2).mono ?_
          rintro e w2 ⟨rfl, hd2⟩
          go_wp2
          go_ret
          exact ⟨by rw [HST.out]; rfl, hb.trans ((hd.trans hd2).below _)⟩
        | some j =>
          rw [hbo] at hcc
          dsimp only at hcc
          have hst := lat_succ xs k
          rw [hbo] at hst
          have HST := Lib.hid hst
          have HCC := Lib.hid hcc
          clear hcc hbo hst
          have hj : ¬ ((j : Int) < 0) := by omega
          go_wp2_with fail
          refine (HCC.out _ hx2).mono ?_
          rintro e w2 ⟨rfl, hd2⟩
          go_wp2
          go_roundw
          case rel => exact ⟨k + 1, by omega, by go_num, by rw [HST.out, HT.out]; rfl, hd.trans hd2⟩
          case measure => simp [intOf]; omega
      · go_wp2
        go_ret
        obtain rfl : k = m := by omega
        exact ⟨by rw [HT.out]; rfl, hb.trans (hd.below _)⟩

set_option maxHeartbeats 1000000 in
theorem implOrderLattice_any (ao : Option Addr) (ca : Nat) (xs : List Int) (w : World) (hl : xs.length ≤ 1048576) (hx : Rd w ao xs) :
    Calls Try.prog 30 #[.slice ao xs.length ca] w fun e w' => e = .returned (.bool (latB xs)) ∧ Below w.heap.size w w' := by
  unfold latB
  cases hp : ordB xs with
  | false =>
    rw [Bool.false_and]
    have HC := Lib.hid (orderFrom_no ao ca xs w hl hp hx)
    clear hp hx
    go_enter Try.func30, Try.ntmps30
    go_wp2_with fail
    refine HC.out.mono ?_
    rintro e w1 ⟨rfl, hb⟩
    go_wp2
    go_ret
    exact ⟨rfl, hb.alloc hb.size _⟩
  | true =>
    rw [Bool.true_and]
    have HC := Lib.hid (orderFrom_yes ao ca xs w hp hx)
    have HB := Lib.hid (fun wr => isLattice_any (ord_rl hp) wr)
    clear hp hx
    go_enter Try.func30, Try.ntmps30
    go_wp2_with fail
    refine HC.out.mono ?_
    rintro e w1 ⟨rfl, hb⟩
    have x1 := OrdAt.new w1 xs
    have B1 := hb.alloc hb.size (.cells #[.int .i64 xs.length, .int .i64 (rowAt xs 0), .int .i64 (rowAt xs 1), .int .i64 (rowAt xs 2), .int .i64 (rowAt xs 3)] 45)
    have p0 := x1.cell0
    have p1 := x1.cell1
    have p2 := x1.cell2
    have p3 := x1.cell3
    have p4 := x1.cell4
    clear x1 hb
    go_wp2_with fail
    refine (HB.out _).mono ?_
    rintro e w3 ⟨rfl, hb3⟩
    go_wp2
    go_ret
    exact ⟨rfl, B1.trans (hb3.mono B1.size)⟩
end Go.Proofs.Ytchbbflpckaddaa
