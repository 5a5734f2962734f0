/-
  Contracts of the program's madeOfTwo, RelEither, RelBoth, below and RelBelow, and of the model's l1Below and RelBelow; for lists of at most 2^20 numbers.
-/
import Derived.Test.YthdnpcpimggjnaaGreatDoorM
namespace Go.Proofs.YthdnpcpimggjnaaGreatDoor
open Go.RowKit

set_option maxHeartbeats 4000000 in
theorem two_yes (ao bo : Option Addr) (ca cb : Nat) (xs ys : List Int) (w : World) (hx : Rd w ao xs) (hy : Rd w bo ys) (hp : relIn xs = true) (hq : relIn ys = true) (hn : xs.length = ys.length) :
    Calls Tryz.prog 260 #[.slice ao xs.length ca, .slice bo ys.length cb] w fun e w' => e = .returned (.tuple #[relOf xs, relOf ys, .bool true]) ∧ Below w.heap.size w w' := by
  have HP := Lib.hid hp
  have HQ := Lib.hid hq
  have HN := Lib.hid hn
  have e1 : ((xs.length : Int) != (ys.length : Int)) = false := by simp [hn]
  clear hp hq hn
  have z4 := (rel_zero w).alloc (.cells #[.int .i64 0, .int .i64 0, .int .i64 0, .int .i64 0, .int .i64 0] 36)
  have z5 := rel_zero (w.alloc (.cells #[.int .i64 0, .int .i64 0, .int .i64 0, .int .i64 0, .int .i64 0] 36))
  rw [World.size_alloc] at z5
  have B0 := below_two w (.cells #[.int .i64 0, .int .i64 0, .int .i64 0, .int .i64 0, .int .i64 0] 36) (.cells #[.int .i64 0, .int .i64 0, .int .i64 0, .int .i64 0, .int .i64 0] 36)
  go_enter Tryz.func260, Tryz.ntmps260
  go_wp2_with fail
  refine (relationFrom_yes ao ca xs _ HP.out (hx.below B0)).mono ?_
  rintro e w1 ⟨rfl, hb⟩
  have s1 : w.heap.size + 2 ≤ w1.heap.size := by have := hb.size; simpa using this
  have z41 := (z4.below hb (by simp; omega)).alloc (.cells #[.int .i64 xs.length, .int .i64 (rowAt xs 0), .int .i64 (rowAt xs 1), .int .i64 (rowAt xs 2), .int .i64 (rowAt xs 3)] 36)
  have z51 := (z5.below hb (by simp)).alloc (.cells #[.int .i64 xs.length, .int .i64 (rowAt xs 0), .int .i64 (rowAt xs 1), .int .i64 (rowAt xs 2), .int .i64 (rowAt xs 3)] 36)
  have x71 := RelAt.new w1 xs
  have B1 := (B0.trans (hb.mono (by simp; omega))).alloc (by omega) (.cells #[.int .i64 xs.length, .int .i64 (rowAt xs 0), .int .i64 (rowAt xs 1), .int .i64 (rowAt xs 2), .int .i64 (rowAt xs 3)] 36)
  clear z4 z5 hb B0
  go_wp2_with fail
  refine (relationFrom_yes bo cb ys _ HQ.out (hy.below B1)).mono ?_
  rintro e w2 ⟨rfl, hb⟩
  have s2 : w1.heap.size + 1 ≤ w2.heap.size := by have := hb.size; simpa using this
  have z42 := (z41.below hb (by simp; omega)).alloc (.cells #[.int .i64 ys.length, .int .i64 (rowAt ys 0), .int .i64 (rowAt ys 1), .int .i64 (rowAt ys 2), .int .i64 (rowAt ys 3)] 36)
  have z52 := (z51.below hb (by simp; omega)).alloc (.cells #[.int .i64 ys.length, .int .i64 (rowAt ys 0), .int .i64 (rowAt ys 1), .int .i64 (rowAt ys 2), .int .i64 (rowAt ys 3)] 36)
  have x72 := (x71.below hb (by simp)).alloc (.cells #[.int .i64 ys.length, .int .i64 (rowAt ys 0), .int .i64 (rowAt ys 1), .int .i64 (rowAt ys 2), .int .i64 (rowAt ys 3)] 36)
  have y92 := RelAt.new w2 ys
  have B2 := (B1.trans (hb.mono (by simp; omega))).alloc (by omega) (.cells #[.int .i64 ys.length, .int .i64 (rowAt ys 0), .int .i64 (rowAt ys 1), .int .i64 (rowAt ys 2), .int .i64 (rowAt ys 3)] 36)
  clear z41 z51 x71 hb B1
  obtain ⟨w3, hw3⟩ : ∃ w3, w2.alloc (.cells #[.int .i64 ys.length, .int .i64 (rowAt ys 0), .int .i64 (rowAt ys 1), .int .i64 (rowAt ys 2), .int .i64 (rowAt ys 3)] 36) = w3 := ⟨_, rfl⟩
  rw [hw3] at z42 z52 x72 y92 B2
  have n1 := x72.cell0
  have n2 := y92.cell0
  go_wp2_with fail
  clear hw3 hx hy e1 n1 n2
  have p0 := x72.cell0
  have p1 := x72.cell1
  have p2 := x72.cell2
  have p3 := x72.cell3
  have p4 := x72.cell4
  have q0 := y92.cell0
  have q1 := y92.cell1
  have q2 := y92.cell2
  have q3 := y92.cell3
  have q4 := y92.cell4
  have u0 := z42.cell0
  have u1 := z42.cell1
  have u2 := z42.cell2
  have u3 := z42.cell3
  have u4 := z42.cell4
  have v0 := z52.cell0
  have v1 := z52.cell1
  have v2 := z52.cell2
  have v3 := z52.cell3
  have v4 := z52.cell4
  have g0 := z42.free 0
  have g1 := z42.free 1
  have g2 := z42.free 2
  have g3 := z42.free 3
  have g4 := z42.free 4
  have h0 := z52.free 0
  have h1 := z52.free 1
  have h2 := z52.free 2
  have h3 := z52.free 3
  have h4 := z52.free 4
  have bb := fun (W : World) (j : Nat) (v : Value) (h : Below w.heap.size w W) => h.setCell (p := ⟨w.heap.size, j, none⟩) (Nat.le_refl _) v
  have bc := fun (W : World) (j : Nat) (v : Value) (h : Below w.heap.size w W) => h.setCell (p := ⟨w.heap.size + 1, j, none⟩) (Nat.le_succ _) v
  go_region
  all_goals
    go_wp2
    refine bodyPost_ret (v := .tuple #[relOf xs, relOf ys, .bool true]) (by simp [results, Tryz.results260, go_sem, u0, u1, u2, u3, u4, v0, v1, v2, v3, v4]) rfl ⟨rfl, ?_⟩
    exact (bc _ _ _ (bc _ _ _ (bc _ _ _ (bc _ _ _ (bc _ _ _ (bb _ _ _ (bb _ _ _ (bb _ _ _ (bb _ _ _ (bb _ _ _ B2)))))))))).drew

set_option maxHeartbeats 4000000 in
theorem two_no_gen (ao bo : Option Addr) (ca cb : Nat) (xs ys : List Int) (w : World) (n1 a1 b1 c1 d1 n2 a2 b2 c2 d2 : Int) (o1 o2 : Bool)
    (hcond : o1 = false ∨ (o1 = true ∧ o2 = false) ∨ (o1 = true ∧ o2 = true ∧ n1 ≠ n2)) (hx : Rd w ao xs) (hy : Rd w bo ys)
    (h1 : ∀ w, Rd w ao xs → Calls Tryz.prog 16 #[.slice ao xs.length ca] w fun e w' => e = .returned (.tuple #[rel5 n1 a1 b1 c1 d1, .bool o1]) ∧ Below w.heap.size w w')
    (h2 : ∀ w, Rd w bo ys → Calls Tryz.prog 16 #[.slice bo ys.length cb] w fun e w' => e = .returned (.tuple #[rel5 n2 a2 b2 c2 d2, .bool o2]) ∧ Below w.heap.size w w') :
    Calls Tryz.prog 260 #[.slice ao xs.length ca, .slice bo ys.length cb] w fun e w' => e = .returned (.tuple #[rel5 0 0 0 0 0, rel5 0 0 0 0 0, .bool false]) ∧ Below w.heap.size w w' := by
  have H1 := Lib.hid h1
  have H2 := Lib.hid h2
  clear h1 h2
  have z4 := (rel_zero w).alloc (.cells #[.int .i64 0, .int .i64 0, .int .i64 0, .int .i64 0, .int .i64 0] 36)
  have z5 := rel_zero (w.alloc (.cells #[.int .i64 0, .int .i64 0, .int .i64 0, .int .i64 0, .int .i64 0] 36))
  rw [World.size_alloc] at z5
  have B0 := below_two w (.cells #[.int .i64 0, .int .i64 0, .int .i64 0, .int .i64 0, .int .i64 0] 36) (.cells #[.int .i64 0, .int .i64 0, .int .i64 0, .int .i64 0, .int .i64 0] 36)
  have HC := Lib.hid hcond
  clear hcond
  go_enter Tryz.func260, Tryz.ntmps260
  go_wp2_with fail
  refine (H1.out _ (hx.below B0)).mono ?_
  rintro e w1 ⟨rfl, hb⟩
  have s1 : w.heap.size + 2 ≤ w1.heap.size := by have := hb.size; simpa using this
  have z41 := (z4.below hb (by simp; omega)).alloc (.cells #[.int .i64 n1, .int .i64 a1, .int .i64 b1, .int .i64 c1, .int .i64 d1] 36)
  have z51 := (z5.below hb (by simp)).alloc (.cells #[.int .i64 n1, .int .i64 a1, .int .i64 b1, .int .i64 c1, .int .i64 d1] 36)
  have x71 : (w1.alloc (.cells #[.int .i64 n1, .int .i64 a1, .int .i64 b1, .int .i64 c1, .int .i64 d1] 36)).cell? ⟨w1.heap.size, 0, none⟩ = some (.int .i64 n1) := by simp
  have B1 := (B0.trans (hb.mono (by simp; omega))).alloc (by omega) (.cells #[.int .i64 n1, .int .i64 a1, .int .i64 b1, .int .i64 c1, .int .i64 d1] 36)
  clear z4 z5 hb B0
  go_wp2_with fail
  refine (H2.out _ (hy.below B1)).mono ?_
  rintro e w2 ⟨rfl, hb⟩
  have s2 : w1.heap.size + 1 ≤ w2.heap.size := by have := hb.size; simpa using this
  have z42 := (z41.below hb (by simp; omega)).alloc (.cells #[.int .i64 n2, .int .i64 a2, .int .i64 b2, .int .i64 c2, .int .i64 d2] 36)
  have z52 := (z51.below hb (by simp; omega)).alloc (.cells #[.int .i64 n2, .int .i64 a2, .int .i64 b2, .int .i64 c2, .int .i64 d2] 36)
  have x7 := (hb.cell (p := ⟨w1.heap.size, 0, none⟩) (by simp)).trans x71
  have x72 : (w2.alloc (.cells #[.int .i64 n2, .int .i64 a2, .int .i64 b2, .int .i64 c2, .int .i64 d2] 36)).cell? ⟨w1.heap.size, 0, none⟩ = some (.int .i64 n1) := by
    rw [World.cell?_of_block (w := w2) (Below.heap_alloc w2 _ w1.heap.size (by omega)), x7]
  have x92 : (w2.alloc (.cells #[.int .i64 n2, .int .i64 a2, .int .i64 b2, .int .i64 c2, .int .i64 d2] 36)).cell? ⟨w2.heap.size, 0, none⟩ = some (.int .i64 n2) := by simp
  have B2 := (B1.trans (hb.mono (by simp; omega))).alloc (by omega) (.cells #[.int .i64 n2, .int .i64 a2, .int .i64 b2, .int .i64 c2, .int .i64 d2] 36)
  clear z41 z51 x71 x7 hb B1
  obtain ⟨w3, hw3⟩ : ∃ w3, w2.alloc (.cells #[.int .i64 n2, .int .i64 a2, .int .i64 b2, .int .i64 c2, .int .i64 d2] 36) = w3 := ⟨_, rfl⟩
  rw [hw3] at z42 z52 x72 x92 B2
  have bb := fun (W : World) (j : Nat) (v : Value) (h : Below w.heap.size w W) => h.setCell (p := ⟨w.heap.size, j, none⟩) (Nat.le_refl _) v
  have bc := fun (W : World) (j : Nat) (v : Value) (h : Below w.heap.size w W) => h.setCell (p := ⟨w.heap.size + 1, j, none⟩) (Nat.le_succ _) v
  have u0 := z42.cell0
  have u1 := z42.cell1
  have u2 := z42.cell2
  have u3 := z42.cell3
  have u4 := z42.cell4
  have v0 := z52.cell0
  have v1 := z52.cell1
  have v2 := z52.cell2
  have v3 := z52.cell3
  have v4 := z52.cell4
  have g0 := z42.free 0
  have g1 := z42.free 1
  have g2 := z42.free 2
  have g3 := z42.free 3
  have g4 := z42.free 4
  have h0 := z52.free 0
  have h1 := z52.free 1
  have h2 := z52.free 2
  have h3 := z52.free 3
  have h4 := z52.free 4
  rcases HC.out with rfl | ⟨rfl, rfl⟩ | ⟨rfl, rfl, hne⟩
  · go_wp2
    refine bodyPost_ret (v := .tuple #[rel5 0 0 0 0 0, rel5 0 0 0 0 0, .bool false]) (by simp [results, Tryz.results260, go_sem, u0, u1, u2, u3, u4, v0, v1, v2, v3, v4]) rfl ⟨rfl, ?_⟩
    exact (bc _ _ _ (bc _ _ _ (bc _ _ _ (bc _ _ _ (bc _ _ _ (bb _ _ _ (bb _ _ _ (bb _ _ _ (bb _ _ _ (bb _ _ _ B2))))))))))
  · go_wp2
    refine bodyPost_ret (v := .tuple #[rel5 0 0 0 0 0, rel5 0 0 0 0 0, .bool false]) (by simp [results, Tryz.results260, go_sem, u0, u1, u2, u3, u4, v0, v1, v2, v3, v4]) rfl ⟨rfl, ?_⟩
    exact (bc _ _ _ (bc _ _ _ (bc _ _ _ (bc _ _ _ (bc _ _ _ (bb _ _ _ (bb _ _ _ (bb _ _ _ (bb _ _ _ (bb _ _ _ B2))))))))))
  · have e1 : (n1 != n2) = true := by simp [hne]
    go_wp2
    refine bodyPost_ret (v := .tuple #[rel5 0 0 0 0 0, rel5 0 0 0 0 0, .bool false]) (by simp [results, Tryz.results260, go_sem, u0, u1, u2, u3, u4, v0, v1, v2, v3, v4]) rfl ⟨rfl, ?_⟩
    exact (bc _ _ _ (bc _ _ _ (bc _ _ _ (bc _ _ _ (bc _ _ _ (bb _ _ _ (bb _ _ _ (bb _ _ _ (bb _ _ _ (bb _ _ _ B2))))))))))

theorem two_no (ao bo : Option Addr) (ca cb : Nat) (xs ys : List Int) (w : World) (hl : xs.length ≤ 1048576) (hl2 : ys.length ≤ 1048576) (hx : Rd w ao xs) (hy : Rd w bo ys) (hp : twoIn xs ys = false) :
    Calls Tryz.prog 260 #[.slice ao xs.length ca, .slice bo ys.length cb] w fun e w' => e = .returned (.tuple #[rel5 0 0 0 0 0, rel5 0 0 0 0 0, .bool false]) ∧ Below w.heap.size w w' := by
  unfold twoIn at hp
  cases h1 : relIn xs with
  | false =>
    cases h2 : relIn ys with
    | false => exact two_no_gen ao bo ca cb xs ys w 0 0 0 0 0 0 0 0 0 0 false false (.inl rfl) hx hy (fun w h => relationFrom_no ao ca xs w hl h1 h) (fun w h => relationFrom_no bo cb ys w hl2 h2 h)
    | true => exact two_no_gen ao bo ca cb xs ys w 0 0 0 0 0 _ _ _ _ _ false true (.inl rfl) hx hy (fun w h => relationFrom_no ao ca xs w hl h1 h) (fun w h => relationFrom_yes bo cb ys w h2 h)
  | true =>
    cases h2 : relIn ys with
    | false => exact two_no_gen ao bo ca cb xs ys w _ _ _ _ _ 0 0 0 0 0 true false (.inr (.inl ⟨rfl, rfl⟩)) hx hy (fun w h => relationFrom_yes ao ca xs w h1 h) (fun w h => relationFrom_no bo cb ys w hl2 h2 h)
    | true =>
      rw [h1, h2] at hp
      have hne : ¬ xs.length = ys.length := by simpa using hp
      exact two_no_gen ao bo ca cb xs ys w _ _ _ _ _ _ _ _ _ _ true true (.inr (.inr ⟨rfl, rfl, by omega⟩)) hx hy (fun w h => relationFrom_yes ao ca xs w h1 h) (fun w h => relationFrom_yes bo cb ys w h2 h)
end Go.Proofs.YthdnpcpimggjnaaGreatDoor

namespace Go.Proofs.YthdnpcpimggjnaaGreatDoor
open Go.RowKit

theorem madeOfTwo_no (f : Value) (ao bo : Option Addr) (ca cb : Nat) (xs ys : List Int) (w : World) (hl : xs.length ≤ 1048576) (hl2 : ys.length ≤ 1048576) (hx : Rd w ao xs) (hy : Rd w bo ys) (hp : twoIn xs ys = false) :
    Calls Tryz.prog 209 #[.slice ao xs.length ca, .slice bo ys.length cb, f] w (Gave w [] false) := by
  have HP := Lib.hid hp
  clear hp
  go_enter Tryz.func209, Tryz.ntmps209
  go_wp2_with (go_at_call 260; refine (two_no _ _ _ _ _ _ _ hl hl2 hx hy HP.out).mono ?_; rintro e w1 ⟨rfl, hb⟩)
  go_ret2
  exact ⟨.slice none 0 0, rfl, World.ownsRow_nil _ _ _ _, (hb.alloc hb.size _).alloc (by have := hb.size; simp; omega) _⟩

theorem madeOfTwo_yes (g : FuncId) (hcf : ∀ args w, Sem.run Tryz.prog (callFunc g args) w = .ok (.enter g args) w) (m : List Int → List Int → List Int) (ao bo : Option Addr) (ca cb : Nat) (xs ys : List Int) (w : World) (hx : Rd w ao xs) (hy : Rd w bo ys)
    (hp : twoIn xs ys = true) (hm : (m xs ys).length = xs.length)
    (hg : ∀ w, Calls Tryz.prog g #[relOf xs, relOf ys] w fun e w' => e = .returned (relOf (m xs ys)) ∧ Below w.heap.size w w') :
    Calls Tryz.prog 209 #[.slice ao xs.length ca, .slice bo ys.length cb, .func (.func g) #[] #[]] w (Gave w (m xs ys) true) := by
  obtain ⟨h1, h2, h3⟩ := twoIn_yes hp
  have h4 := (relIn_len h1).2
  have HP := Lib.hid h1
  have HQ := Lib.hid h2
  have HN := Lib.hid h3
  have HM := Lib.hid hm
  have HG := Lib.hid hg
  clear hp hm hg h1 h2 h3
  go_enter Tryz.func209, Tryz.ntmps209
  go_wp2_with fail
  refine (two_yes _ _ _ _ _ _ _ hx hy HP.out HQ.out HN.out).mono ?_
  rintro e w1 ⟨rfl, hb⟩
  have x1 := (RelAt.new w1 xs).alloc (.cells #[.int .i64 ys.length, .int .i64 (rowAt ys 0), .int .i64 (rowAt ys 1), .int .i64 (rowAt ys 2), .int .i64 (rowAt ys 3)] 36)
  have p0 := x1.cell0
  have p1 := x1.cell1
  have p2 := x1.cell2
  have p3 := x1.cell3
  have p4 := x1.cell4
  clear x1
  go_wp2_with fail
  refine (HG.out _).mono ?_
  clear p0 p1 p2 p3 p4
  rintro e w2 ⟨rfl, hb2⟩
  go_wp2_with fail
  refine (list_any (m xs ys) w2 (by rw [HM.out]; exact h4)).mono ?_
  rintro e w3 ⟨v, rfl, ho, hb3⟩
  go_wp2
  go_ret2
  have h12 : Below w.heap.size w w2 := ((hb.alloc hb.size _).alloc (by have := hb.size; simp; omega) _).trans (hb2.mono (by have := hb.size; simp; omega))
  exact ⟨v, rfl, own_mono ho h12.size, h12.trans (hb3.mono h12.size)⟩

theorem cf_either (args : Array Value) (w : World) : Sem.run Tryz.prog (callFunc 114 args) w = .ok (.enter 114 args) w := by kernel_rfl

theorem implRelEither_any (ao bo : Option Addr) (ca cb : Nat) (xs ys : List Int) (w : World) (hl : xs.length ≤ 1048576) (hl2 : ys.length ≤ 1048576) (hx : Rd w ao xs) (hy : Rd w bo ys) :
    Calls Tryz.prog 148 #[.slice ao xs.length ca, .slice bo ys.length cb] w (Gave w (ifR (twoIn xs ys) (eitherL xs ys)) (twoIn xs ys)) := by
  cases hp : twoIn xs ys with
  | false =>
    have h1 := Lib.hid (madeOfTwo_no (.func (.func 114) #[] #[]) ao bo ca cb xs ys w hl hl2 hx hy hp)
    clear hp
    go_enter Tryz.func148, Tryz.ntmps148
    go_wp2_with (go_at_call 209; refine h1.out.mono ?_; rintro e w1 ⟨v, rfl, ho, hb⟩)
    go_ret2
    exact ⟨v, rfl, ho, hb⟩
  | true =>
    obtain ⟨h1, h2, h3⟩ := twoIn_yes hp
    have h4 := relIn_len h1
    have h1 := Lib.hid (madeOfTwo_yes 114 cf_either eitherL ao bo ca cb xs ys w hx hy hp (by unfold eitherL zipI; rw [List.length_zipWith, h3, Nat.min_self]) (fun w => either_any xs ys w h4.2 h3))
    clear hp h2 h3
    go_enter Tryz.func148, Tryz.ntmps148
    go_wp2_with (go_at_call 209; refine h1.out.mono ?_; rintro e w1 ⟨v, rfl, ho, hb⟩)
    go_ret2
    exact ⟨v, rfl, ho, hb⟩

theorem cf_both (args : Array Value) (w : World) : Sem.run Tryz.prog (callFunc 176 args) w = .ok (.enter 176 args) w := by kernel_rfl

theorem implRelBoth_any (ao bo : Option Addr) (ca cb : Nat) (xs ys : List Int) (w : World) (hl : xs.length ≤ 1048576) (hl2 : ys.length ≤ 1048576) (hx : Rd w ao xs) (hy : Rd w bo ys) :
    Calls Tryz.prog 150 #[.slice ao xs.length ca, .slice bo ys.length cb] w (Gave w (ifR (twoIn xs ys) (bothL xs ys)) (twoIn xs ys)) := by
  cases hp : twoIn xs ys with
  | false =>
    have h1 := Lib.hid (madeOfTwo_no (.func (.func 176) #[] #[]) ao bo ca cb xs ys w hl hl2 hx hy hp)
    clear hp
    go_enter Tryz.func150, Tryz.ntmps150
    go_wp2_with (go_at_call 209; refine h1.out.mono ?_; rintro e w1 ⟨v, rfl, ho, hb⟩)
    go_ret2
    exact ⟨v, rfl, ho, hb⟩
  | true =>
    obtain ⟨h1, h2, h3⟩ := twoIn_yes hp
    have h4 := relIn_len h1
    have h1 := Lib.hid (madeOfTwo_yes 176 cf_both bothL ao bo ca cb xs ys w hx hy hp (by unfold bothL zipI; rw [List.length_zipWith, h3, Nat.min_self]) (fun w => both_any xs ys w h4.2 h3))
    clear hp h2 h3
    go_enter Tryz.func150, Tryz.ntmps150
    go_wp2_with (go_at_call 209; refine h1.out.mono ?_; rintro e w1 ⟨v, rfl, ho, hb⟩)
    go_ret2
    exact ⟨v, rfl, ho, hb⟩

/-- each row of the first one is a part of the second one's -/
def belowB (xs ys : List Int) : Bool := (zipI (bits .andNot .i64) xs ys).all (fun x => x == 0)

set_option maxHeartbeats 1000000 in
theorem l1Below_any (ao bo : Option Addr) (ca cb : Nat) (xs ys : List Int) (w : World) (h4 : xs.length ≤ 4) (hn : xs.length = ys.length) (hx : Rd w ao xs) (hy : Rd w bo ys) :
    Calls Tryz.prog 49 #[.slice ao xs.length ca, .slice bo ys.length cb] w fun e w' => e = .returned (.bool (belowB xs ys)) ∧ Dn w w' := by
  have HN := Lib.hid hn
  clear hn
  go_enter Tryz.func49, Tryz.ntmps49
  go_wp2
  go_loopw [5] (fun i wr => ∃ k : Nat, k ≤ xs.length ∧ i = .int .i64 k ∧ ((zipI (bits .andNot .i64) xs ys).take k).all (fun x => x == 0) = true ∧ Dn w wr)
    (fun i _ => xs.length - (intOf i).toNat)
  case atStart => exact ⟨0, Nat.zero_le _, rfl, rfl, Dn.refl _⟩
  case round =>
    obtain ⟨k, hk, rfl, ht, hd⟩ := hrel
    have HT := Lib.hid ht
    clear ht
    by_cases hlt : k < xs.length
    · have hlt2 : k < ys.length := by rw [← HN.out]; exact hlt
      obtain ⟨b, off, x, hxk, rfl, hbl, hc1⟩ := (hd.rd hx).get k hlt
      obtain ⟨b2, off2, y, hyk, rfl, hbl2, hc2⟩ := (hd.rd hy).get k hlt2
      have hi1 : ((k : Nat) : Int) < (xs.length : Int) := by omega
      have hi2 : ((k : Nat) : Int) < (ys.length : Int) := by omega
      have HX := Lib.hid hxk
      have HY := Lib.hid hyk
      clear hx hy hxk hyk
      go_wp2
      go_quiet (fail)
      obtain ⟨z, hz⟩ : ∃ z, bits .andNot .i64 x y = z := ⟨_, rfl⟩
      rw [hz]
      have HZ := Lib.hid hz
      clear hz
      have hzk : (zipI (bits .andNot .i64) xs ys)[k]? = some z := by unfold zipI; rw [List.getElem?_zipWith, HX.out, HY.out, ← HZ.out]
      have HK := Lib.hid hzk
      clear hzk
      by_cases he : z = 0
      · have h2 : (z != 0) = false := by simp [he]
        have HE := Lib.hid he
        clear he
        go_wp2
        go_roundw
        case rel => exact ⟨k + 1, by omega, by go_num, by rw [List.take_add_one, HK.out]; simp [HT.out, HE.out], hd.trans (Dn.drewN _ _)⟩
        case measure => simp [intOf]; omega
      · have h2 : (z != 0) = true := by simp [he]
        go_wp2
        go_ret
        refine ⟨?_, hd.trans (Dn.drewN _ _)⟩
        have hf : belowB xs ys = false := by
          unfold belowB
          rw [List.all_eq_false]
          exact ⟨z, List.mem_of_getElem? HK.out, by simp [he]⟩
        rw [hf]
        rfl
    · go_wp2
      go_ret
      obtain rfl : k = xs.length := by omega
      have ht := HT.out
      rw [List.take_of_length_le (by unfold zipI; simp; omega)] at ht
      exact ⟨by unfold belowB; rw [ht]; rfl, hd⟩

end Go.Proofs.YthdnpcpimggjnaaGreatDoor
