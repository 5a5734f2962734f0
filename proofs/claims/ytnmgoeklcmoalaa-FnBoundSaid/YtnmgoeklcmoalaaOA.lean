/-
  Orders: a block that holds one; asOrder, orderFrom and OrderIn of the program, OrderIn of the model; for lists of at most 2^20 numbers.
-/
import Derived.Test.YtnmgoeklcmoalaaHH
import Derived.Test.YtnmgoeklcmoalaaJA
namespace Go.Proofs.Ytnmgoeklcmoalaa
open Go.RowKit

/-- block b holds the order made of these rows -/
def OrdAt (w : World) (b : Nat) (xs : List Int) : Prop :=
  w.heap[b]? = some (.cells #[.int .i64 xs.length, .int .i64 (rowAt xs 0), .int .i64 (rowAt xs 1), .int .i64 (rowAt xs 2), .int .i64 (rowAt xs 3)] 64 (0, 0))
theorem OrdAt.cell0 {w : World} {b : Nat} {xs : List Int} (h : OrdAt w b xs) : w.cell? ⟨b, 0, none⟩ = some (.int .i64 xs.length) := by
  unfold OrdAt at h
  simp [World.cell?, h]
theorem OrdAt.cell1 {w : World} {b : Nat} {xs : List Int} (h : OrdAt w b xs) : w.cell? ⟨b, 1, none⟩ = some (.int .i64 (rowAt xs 0)) := by
  unfold OrdAt at h
  simp [World.cell?, h]
theorem OrdAt.cell2 {w : World} {b : Nat} {xs : List Int} (h : OrdAt w b xs) : w.cell? ⟨b, 2, none⟩ = some (.int .i64 (rowAt xs 1)) := by
  unfold OrdAt at h
  simp [World.cell?, h]
theorem OrdAt.cell3 {w : World} {b : Nat} {xs : List Int} (h : OrdAt w b xs) : w.cell? ⟨b, 3, none⟩ = some (.int .i64 (rowAt xs 2)) := by
  unfold OrdAt at h
  simp [World.cell?, h]
theorem OrdAt.cell4 {w : World} {b : Nat} {xs : List Int} (h : OrdAt w b xs) : w.cell? ⟨b, 4, none⟩ = some (.int .i64 (rowAt xs 3)) := by
  unfold OrdAt at h
  simp [World.cell?, h]
theorem OrdAt.row {w : World} {b : Nat} {xs : List Int} (h : OrdAt w b xs) (k : Nat) (hk : k < 4) : w.cell? ⟨b, 1 + k, none⟩ = some (.int .i64 (rowAt xs k)) := by
  rcases (by omega : k = 0 ∨ k = 1 ∨ k = 2 ∨ k = 3) with rfl | rfl | rfl | rfl
  · exact h.cell1
  · exact h.cell2
  · exact h.cell3
  · exact h.cell4
theorem OrdAt.free {w : World} {b : Nat} {xs : List Int} (h : OrdAt w b xs) (j : Nat) : w.frozen? ⟨b, j, none⟩ = false := by
  unfold OrdAt at h
  simp [World.frozen?, h]
theorem OrdAt.lt {w : World} {b : Nat} {xs : List Int} (h : OrdAt w b xs) : b < w.heap.size := (Array.getElem?_eq_some_iff.1 h).1
theorem OrdAt.new (w : World) (xs : List Int) :
    OrdAt (w.alloc (.cells #[.int .i64 xs.length, .int .i64 (rowAt xs 0), .int .i64 (rowAt xs 1), .int .i64 (rowAt xs 2), .int .i64 (rowAt xs 3)] 64)) w.heap.size xs :=
  heap_alloc_new w _
theorem OrdAt.alloc {w : World} {b : Nat} {xs : List Int} (h : OrdAt w b xs) (o : Obj) : OrdAt (w.alloc o) b xs :=
  (Below.heap_alloc w o b h.lt).trans h
theorem OrdAt.below {w w' : World} {B b : Nat} {xs : List Int} (h : OrdAt w b xs) (hb : Below B w w') (hlt : b < B) : OrdAt w' b xs :=
  (hb.block b hlt).trans h
theorem OrdAt.other {w : World} {b : Nat} {xs : List Int} (h : OrdAt w b xs) {p : Addr} (hp : b ≠ p.block) (v : Value) : OrdAt (w.setCell p v) b xs :=
  (Below.heap_setCell w p v b hp).trans h
theorem OrdAt.drew {w : World} {b : Nat} {xs : List Int} (h : OrdAt w b xs) : OrdAt w.drew b xs := h
theorem OrdAt.dn {w w' : World} {b : Nat} {xs : List Int} (h : OrdAt w b xs) (hd : Dn w w') : OrdAt w' b xs := by
  obtain ⟨q, rfl⟩ := hd
  exact h
theorem ord_zero (w : World) : OrdAt (w.alloc (.cells #[.int .i64 0, .int .i64 0, .int .i64 0, .int .i64 0, .int .i64 0] 64)) w.heap.size [] := by
  have := OrdAt.new w []
  simpa [rowAt] using this

/-- the letters r, a, t -/
def ratT : ByteArray := ⟨#[114, 97, 116]⟩
theorem rat_text : textTo ratT risat ratT.size = true := by decide +kernel
theorem rat_all (xs : List Int) : allK xs ratT = (kindR xs && (kindA xs && kindT xs)) := by
  have e : allK xs ratT = ((List.range 3).all fun i => kindB (byt ratT i) xs) := rfl
  rw [e]
  have h0 : kindB (byt ratT 0) xs = kindR xs := rfl
  have h1 : kindB (byt ratT 1) xs = kindA xs := rfl
  have h2 : kindB (byt ratT 2) xs = kindT xs := rfl
  rw [show List.range 3 = [0, 1, 2] from rfl]
  simp [h0, h1, h2]
/-- whether a list is an order -/
def ordB (xs : List Int) : Bool := relIn xs && (kindR xs && (kindA xs && kindT xs))
theorem ord_yes {xs : List Int} (h : ordB xs = true) : relIn xs = true ∧ (kindR xs && (kindA xs && kindT xs)) = true := by
  unfold ordB at h
  rw [Bool.and_eq_true] at h
  exact h
theorem ord_rl {xs : List Int} (h : ordB xs = true) : Rl xs.length xs := Rl.of (ord_yes h).1
theorem isOrd_any {xs : List Int} (R : Rl xs.length xs) (w : World) :
    Calls Try.prog 73 #[relOf xs, .string ratT] w fun e w' => e = .returned (.bool (ordB xs)) ∧ Below w.heap.size w w' := by
  have hc := isOf_any R ratT w (by decide)
  have he : (textTo ratT risat ratT.size && allK xs ratT) = ordB xs := by
    rw [rat_text, rat_all, Bool.true_and]
    unfold ordB
    rw [R.ok, Bool.true_and]
  rw [he] at hc
  exact hc

theorem asOrder_yes {xs : List Int} (R : Rl xs.length xs) (hp : ordB xs = true) (w : World) :
    Calls Try.prog 94 #[relOf xs] w fun e w' => e = .returned (.tuple #[relOf xs, .bool true]) ∧ Below w.heap.size w w' := by
  have hc := fun wr => isOrd_any R wr
  rw [hp] at hc
  have HC := Lib.hid hc
  have x1 := (RelAt.new w xs).alloc (.cells #[.int .i64 0, .int .i64 0, .int .i64 0, .int .i64 0, .int .i64 0] 64)
  have z1 := ord_zero (w.alloc (.cells #[.int .i64 xs.length, .int .i64 (rowAt xs 0), .int .i64 (rowAt xs 1), .int .i64 (rowAt xs 2), .int .i64 (rowAt xs 3)] 47))
  have B0 := below_two w (.cells #[.int .i64 xs.length, .int .i64 (rowAt xs 0), .int .i64 (rowAt xs 1), .int .i64 (rowAt xs 2), .int .i64 (rowAt xs 3)] 47) (.cells #[.int .i64 0, .int .i64 0, .int .i64 0, .int .i64 0, .int .i64 0] 64)
  simp only [World.size_alloc] at z1
  have bb := fun (W : World) (j : Nat) (v : Value) (h : Below w.heap.size w W) => h.setCell (p := ⟨w.heap.size + 1, j, none⟩) (Nat.le_succ _) v
  have p0 := x1.cell0
  have p1 := x1.cell1
  have p2 := x1.cell2
  have p3 := x1.cell3
  have p4 := x1.cell4
  clear hc R hp
  go_enter Try.func94, Try.ntmps94
  go_wp2_with fail
  refine (HC.out _).mono ?_
  rintro e w2 ⟨rfl, hb⟩
  have z2 := z1.below hb z1.lt
  have x2 := x1.below hb x1.lt
  have B2 := B0.trans (hb.mono B0.size)
  have q0 := x2.cell0
  have q1 := x2.cell1
  have q2 := x2.cell2
  have q3 := x2.cell3
  have q4 := x2.cell4
  have y0 := z2.cell0
  have y1 := z2.cell1
  have y2 := z2.cell2
  have y3 := z2.cell3
  have y4 := z2.cell4
  have f0 := z2.free 0
  have f1 := z2.free 1
  have f2 := z2.free 2
  have f3 := z2.free 3
  have f4 := z2.free 4
  clear hb z1 x1 B0 p0 p1 p2 p3 p4
  go_wp2
  refine bodyPost_ret (v := .tuple #[relOf xs, .bool true]) (by simp [results, Try.results94, go_sem, y0, y1, y2, y3, y4]) rfl ⟨rfl, ?_⟩
  exact bb _ _ _ (bb _ _ _ (bb _ _ _ (bb _ _ _ (bb _ _ _ B2))))

theorem asOrder_no {xs : List Int} (R : Rl xs.length xs) (hp : ordB xs = false) (w : World) :
    Calls Try.prog 94 #[relOf xs] w fun e w' => e = .returned (.tuple #[rel5 0 0 0 0 0, .bool false]) ∧ Below w.heap.size w w' := by
  have hc := fun wr => isOrd_any R wr
  rw [hp] at hc
  have HC := Lib.hid hc
  have x1 := (RelAt.new w xs).alloc (.cells #[.int .i64 0, .int .i64 0, .int .i64 0, .int .i64 0, .int .i64 0] 64)
  have z1 := ord_zero (w.alloc (.cells #[.int .i64 xs.length, .int .i64 (rowAt xs 0), .int .i64 (rowAt xs 1), .int .i64 (rowAt xs 2), .int .i64 (rowAt xs 3)] 47))
  have B0 := below_two w (.cells #[.int .i64 xs.length, .int .i64 (rowAt xs 0), .int .i64 (rowAt xs 1), .int .i64 (rowAt xs 2), .int .i64 (rowAt xs 3)] 47) (.cells #[.int .i64 0, .int .i64 0, .int .i64 0, .int .i64 0, .int .i64 0] 64)
  simp only [World.size_alloc] at z1
  have bb := fun (W : World) (j : Nat) (v : Value) (h : Below w.heap.size w W) => h.setCell (p := ⟨w.heap.size + 1, j, none⟩) (Nat.le_succ _) v
  have p0 := x1.cell0
  have p1 := x1.cell1
  have p2 := x1.cell2
  have p3 := x1.cell3
  have p4 := x1.cell4
  clear hc R hp
  go_enter Try.func94, Try.ntmps94
  go_wp2_with fail
  refine (HC.out _).mono ?_
  rintro e w2 ⟨rfl, hb⟩
  have z2 := z1.below hb z1.lt
  have x2 := x1.below hb x1.lt
  have B2 := B0.trans (hb.mono B0.size)
  have q0 := x2.cell0
  have q1 := x2.cell1
  have q2 := x2.cell2
  have q3 := x2.cell3
  have q4 := x2.cell4
  have y0 := z2.cell0
  have y1 := z2.cell1
  have y2 := z2.cell2
  have y3 := z2.cell3
  have y4 := z2.cell4
  have f0 := z2.free 0
  have f1 := z2.free 1
  have f2 := z2.free 2
  have f3 := z2.free 3
  have f4 := z2.free 4
  clear hb z1 x1 B0 p0 p1 p2 p3 p4
  go_wp2
  refine bodyPost_ret (v := .tuple #[rel5 0 0 0 0 0, .bool false]) (by simp [results, Try.results94, go_sem, y0, y1, y2, y3, y4]) rfl ⟨rfl, ?_⟩
  exact bb _ _ _ (bb _ _ _ (bb _ _ _ (bb _ _ _ (bb _ _ _ B2))))

theorem orderFrom_yes (ao : Option Addr) (ca : Nat) (xs : List Int) (w : World) (hp : ordB xs = true) (hx : Rd w ao xs) :
    Calls Try.prog 54 #[.slice ao xs.length ca] w fun e w' => e = .returned (.tuple #[relOf xs, .bool true]) ∧ Below w.heap.size w w' := by
  have hR := (ord_yes hp).1
  have HR := Lib.hid hR
  have HE := Lib.hid (fun wr => asOrder_yes (Rl.of hR) hp wr)
  clear hR hp
  have z0 := ord_zero w
  have B0 := below_one w (.cells #[.int .i64 0, .int .i64 0, .int .i64 0, .int .i64 0, .int .i64 0] 64)
  have hx0 := hx.below B0
  clear hx
  go_enter Try.func54, Try.ntmps54
  go_wp2_with fail
  refine (relationFrom_yes _ _ _ _ HR.out hx0).mono ?_
  rintro e w1 ⟨rfl, hb⟩
  have z1 := (z0.below hb z0.lt).alloc (.cells #[.int .i64 xs.length, .int .i64 (rowAt xs 0), .int .i64 (rowAt xs 1), .int .i64 (rowAt xs 2), .int .i64 (rowAt xs 3)] 47)
  have x1 := RelAt.new w1 xs
  have B1 := (B0.trans (hb.mono B0.size)).alloc (by have := B0.size; have := hb.size; omega) (.cells #[.int .i64 xs.length, .int .i64 (rowAt xs 0), .int .i64 (rowAt xs 1), .int .i64 (rowAt xs 2), .int .i64 (rowAt xs 3)] 47)
  have p0 := x1.cell0
  have p1 := x1.cell1
  have p2 := x1.cell2
  have p3 := x1.cell3
  have p4 := x1.cell4
  clear hb z0 B0 hx0
  go_wp2_with fail
  refine (HE.out _).mono ?_
  rintro e w2 ⟨rfl, hb2⟩
  have z2 := z1.below hb2 z1.lt
  have B2 := B1.trans (hb2.mono B1.size)
  have y0 := z2.cell0
  have y1 := z2.cell1
  have y2 := z2.cell2
  have y3 := z2.cell3
  have y4 := z2.cell4
  have f0 := z2.free 0
  have f1 := z2.free 1
  have f2 := z2.free 2
  have f3 := z2.free 3
  have f4 := z2.free 4
  have bb := fun (W : World) (j : Nat) (v : Value) (h : Below w.heap.size w W) => h.setCell (p := ⟨w.heap.size, j, none⟩) (Nat.le_refl _) v
  clear hb2 z1 x1 B1 p0 p1 p2 p3 p4
  go_wp2
  refine bodyPost_ret (v := .tuple #[relOf xs, .bool true]) (by simp [results, Try.results54, go_sem, y0, y1, y2, y3, y4]) rfl ⟨rfl, ?_⟩
  exact bb _ _ _ (bb _ _ _ (bb _ _ _ (bb _ _ _ (bb _ _ _ B2))))

theorem orderFrom_no (ao : Option Addr) (ca : Nat) (xs : List Int) (w : World) (hl : xs.length ≤ 1048576) (hp : ordB xs = false) (hx : Rd w ao xs) :
    Calls Try.prog 54 #[.slice ao xs.length ca] w fun e w' => e = .returned (.tuple #[rel5 0 0 0 0 0, .bool false]) ∧ Below w.heap.size w w' := by
  have z0 := ord_zero w
  have B0 := below_one w (.cells #[.int .i64 0, .int .i64 0, .int .i64 0, .int .i64 0, .int .i64 0] 64)
  have hx0 := hx.below B0
  have bb := fun (W : World) (j : Nat) (v : Value) (h : Below w.heap.size w W) => h.setCell (p := ⟨w.heap.size, j, none⟩) (Nat.le_refl _) v
  clear hx
  cases hR : relIn xs with
  | false =>
    have HR := Lib.hid hR
    clear hR hp
    go_enter Try.func54, Try.ntmps54
    go_wp2_with fail
    refine (relationFrom_no _ _ _ _ hl HR.out hx0).mono ?_
    rintro e w1 ⟨rfl, hb⟩
    have z2 := (z0.below hb z0.lt).alloc (.cells #[.int .i64 0, .int .i64 0, .int .i64 0, .int .i64 0, .int .i64 0] 47)
    have B2 := (B0.trans (hb.mono B0.size)).alloc (by have := B0.size; have := hb.size; omega) (.cells #[.int .i64 0, .int .i64 0, .int .i64 0, .int .i64 0, .int .i64 0] 47)
    have y0 := z2.cell0
    have y1 := z2.cell1
    have y2 := z2.cell2
    have y3 := z2.cell3
    have y4 := z2.cell4
    have f0 := z2.free 0
    have f1 := z2.free 1
    have f2 := z2.free 2
    have f3 := z2.free 3
    have f4 := z2.free 4
    clear hb z0 B0 hx0
    go_wp2
    refine bodyPost_ret (v := .tuple #[rel5 0 0 0 0 0, .bool false]) (by simp [results, Try.results54, go_sem, y0, y1, y2, y3, y4]) rfl ⟨rfl, ?_⟩
    exact bb _ _ _ (bb _ _ _ (bb _ _ _ (bb _ _ _ (bb _ _ _ B2))))
  | true =>
    have HR := Lib.hid hR
    have HE := Lib.hid (fun wr => asOrder_no (Rl.of hR) hp wr)
    clear hR hp
    go_enter Try.func54, Try.ntmps54
    go_wp2_with fail
    refine (relationFrom_yes _ _ _ _ HR.out hx0).mono ?_
    rintro e w1 ⟨rfl, hb⟩
    have z1 := (z0.below hb z0.lt).alloc (.cells #[.int .i64 xs.length, .int .i64 (rowAt xs 0), .int .i64 (rowAt xs 1), .int .i64 (rowAt xs 2), .int .i64 (rowAt xs 3)] 47)
    have x1 := RelAt.new w1 xs
    have B1 := (B0.trans (hb.mono B0.size)).alloc (by have := B0.size; have := hb.size; omega) (.cells #[.int .i64 xs.length, .int .i64 (rowAt xs 0), .int .i64 (rowAt xs 1), .int .i64 (rowAt xs 2), .int .i64 (rowAt xs 3)] 47)
    have p0 := x1.cell0
    have p1 := x1.cell1
    have p2 := x1.cell2
    have p3 := x1.cell3
    have p4 := x1.cell4
    clear hb z0 B0 hx0
    go_wp2_with fail
    refine (HE.out _).mono ?_
    rintro e w2 ⟨rfl, hb2⟩
    have z2 := z1.below hb2 z1.lt
    have B2 := B1.trans (hb2.mono B1.size)
    have y0 := z2.cell0
    have y1 := z2.cell1
    have y2 := z2.cell2
    have y3 := z2.cell3
    have y4 := z2.cell4
    have f0 := z2.free 0
    have f1 := z2.free 1
    have f2 := z2.free 2
    have f3 := z2.free 3
    have f4 := z2.free 4
    clear hb2 z1 x1 B1 p0 p1 p2 p3 p4
    go_wp2
    refine bodyPost_ret (v := .tuple #[rel5 0 0 0 0 0, .bool false]) (by simp [results, Try.results54, go_sem, y0, y1, y2, y3, y4]) rfl ⟨rfl, ?_⟩
    exact bb _ _ _ (bb _ _ _ (bb _ _ _ (bb _ _ _ (bb _ _ _ B2))))

theorem specOrderIn_any (ao : Option Addr) (ca : Nat) (xs : List Int) (w : World) (hl : xs.length ≤ 1048576) (hx : Rd w ao xs) :
    Calls Try.prog 57 #[.slice ao xs.length ca] w fun e w' => e = .returned (.bool (ordB xs)) ∧ Below w.heap.size w w' := by
  have h1 := specRelIn_any ao ca xs w hl hx
  cases hp : relIn xs with
  | false =>
    have he : ordB xs = false := by unfold ordB; rw [hp]; rfl
    rw [hp] at h1
    rw [he]
    have H1 := Lib.hid h1
    clear h1 hp he hx
    go_enter Try.func57, Try.ntmps57
    go_wp2_with fail
    refine H1.out.mono ?_
    rintro e w1 ⟨rfl, hd⟩
    go_wp2
    go_ret
    exact ⟨rfl, hd.below _⟩
  | true =>
    have he : ordB xs = allK xs ratT := by rw [rat_all]; unfold ordB; rw [hp, Bool.true_and]
    have h2 := fun wr h => l3All_any (Rl.of hp) ratT ao ca wr (by decide) (fun k hk => letters_of rat_text k hk) h
    rw [← he] at h2
    rw [hp] at h1
    have H1 := Lib.hid h1
    have H2 := Lib.hid h2
    clear h1 h2 hp he
    go_enter Try.func57, Try.ntmps57
    go_wp2_with fail
    refine H1.out.mono ?_
    rintro e w1 ⟨rfl, hd⟩
    have hx1 := hd.rd hx
    have hh : w1.heap.size = w.heap.size := by rw [hd.heap]
    have HH := Lib.hid hh
    clear hh
    go_wp2_with fail
    refine (H2.out _ hx1).mono ?_
    rintro e w2 ⟨rfl, hb⟩
    go_wp2
    go_ret
    rw [HH.out] at hb
    exact ⟨rfl, (hd.below _).trans hb⟩
end Go.Proofs.Ytnmgoeklcmoalaa
