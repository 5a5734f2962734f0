/-
  The program's powers, at a place.
-/
import Derived.Test.YtpbkgdohfnjjpabEH
import Derived.Deep.RegionHeld3
namespace Go.Proofs.Ytpbkgdohfnjjpab
open Go.RowKit

set_option maxHeartbeats 40000000 in
theorem at_any {xs : List Int} {m a : Nat} (h : Rl xs.length xs) (r : Rep xs m a) (g cap k : Nat) (hk : k ≤ 100) (w : World) (ho : w.ownsRow 0 50 5 (.slice (some ⟨g, 0, none⟩) (m + 1) cap) (m + 1) (powC xs (m + 1))) :
    Calls Try.prog 42 #[plV g cap m a, .int .i64 k] w fun e w' => e = .returned (relOf (powL xs k)) ∧ Below w.heap.size w w' := by
  have hm := new_le h m r.new
  have hg := (ho.lt g rfl).2
  have ho2 := (ho.alloc (.cells #[.slice (some ⟨g, 0, none⟩) (m + 1) cap, .int .i64 a] 55)).alloc (.cells #[.int .i64 0, .int .i64 0, .int .i64 0, .int .i64 0, .int .i64 0] 50)
  have R := Lib.hid r
  by_cases hlt : k < m + 1
  · obtain ⟨c0, c1, c2, c3, c4⟩ := pow_cells ho2 k hlt
    have hi1 : (k : Int) < (m : Int) + 1 := by omega
    have hi2 : (k : Int) < ((m + 1 : Nat) : Int) := by omega
    have z1 := rel_zero (w.alloc (.cells #[.slice (some ⟨g, 0, none⟩) (m + 1) cap, .int .i64 a] 55))
    have B0 := below_two w (.cells #[.slice (some ⟨g, 0, none⟩) (m + 1) cap, .int .i64 a] 55) (.cells #[.int .i64 0, .int .i64 0, .int .i64 0, .int .i64 0, .int .i64 0] 50)
    rw [World.size_alloc] at z1
    clear ho ho2 r
    go_enter Try.func42, Try.ntmps42
    go_wp2
    have bb := fun (W : World) (j : Nat) (v : Value) (h : Below w.heap.size w W) => h.setCell (p := ⟨w.heap.size + 1, j, none⟩) (Nat.le_succ _) v
    first
      | exact bodyPost_ret (v := relOf (powL xs k)) (by simp [results, Try.results42, go_sem]) rfl ⟨rfl, below_two _ _ _⟩
      | exact bodyPost_ret (v := relOf (powL xs k)) (by simp [results, Try.results42, go_sem]) rfl ⟨rfl, bb _ _ _ (bb _ _ _ (bb _ _ _ (bb _ _ _ (bb _ _ _ B0))))⟩
      | trace_state
  · obtain ⟨d, rfl⟩ : ∃ d, m = a + d := ⟨m - a, by have := r.lt; omega⟩
    have hlta := r.lt
    have hd : 0 < d := by omega
    have hq := Nat.mod_lt (k - a) hd
    obtain ⟨q, hqe⟩ : ∃ q, (k - a) % d = q := ⟨_, rfl⟩
    rw [hqe] at hq
    have hE : powL xs k = powL xs (a + q) := by
      have := r.at k (by omega)
      rw [show a + d - a = d by omega, hqe] at this
      exact this
    rw [hE]
    obtain ⟨c0, c1, c2, c3, c4⟩ := pow_cells ho2 (a + q) (by omega)
    obtain ⟨x, rfl⟩ : ∃ x, k = a + x := ⟨k - a, by omega⟩
    have hqx : x % d = q := by rw [← hqe]; congr 1; omega
    have hmod : (x : Int) % (d : Int) = (q : Int) := by rw [← hqx]; rfl
    have hmod2 : Int.tmod (x : Int) (d : Int) = (q : Int) := by rw [← hqx]; exact (Int.ofNat_tmod x d).symm
    have hx0 : 0 ≤ (x : Int) := by omega
    have z1 := rel_zero (w.alloc (.cells #[.slice (some ⟨g, 0, none⟩) (a + d + 1) cap, .int .i64 a] 55))
    have B0 := below_two w (.cells #[.slice (some ⟨g, 0, none⟩) (a + d + 1) cap, .int .i64 a] 55) (.cells #[.int .i64 0, .int .i64 0, .int .i64 0, .int .i64 0, .int .i64 0] 50)
    rw [World.size_alloc] at z1
    have hdn : ¬ (d : Int) = 0 := by omega
    have hdz : ((d : Int) == 0) = false := beq_eq_false_iff_ne.2 hdn
    have hdp : (0 : Int) < (d : Int) := by omega
    have hq0 : (0 : Int) ≤ (q : Int) := by omega
    have hw1 := wrap_of (x : Int) (by omega) (by omega)
    have hw3 := wrap_of (q : Int) (by omega) (by omega)
    have hw2 := wrap_of ((a : Int) + (q : Int)) (by omega) (by omega)
    have hj1 : (a : Int) + (q : Int) < (a : Int) + (d : Int) + 1 := by omega
    have hj0 : 0 ≤ (a : Int) + (q : Int) := by omega
    have hj2 : ((a : Int) + (q : Int)).toNat = a + q := by omega
    have pb := (PbAt.new w (.slice (some ⟨g, 0, none⟩) (a + d + 1) cap) a).alloc (.cells #[.int .i64 0, .int .i64 0, .int .i64 0, .int .i64 0, .int .i64 0] 50)
    have hper := fun w => period_any g cap (a + d) a (by omega) (by omega) w
    rw [show a + d - a = d by omega] at hper
    have HP := Lib.hid hper
    have HO := Lib.hid ho2
    clear ho ho2 r hper hE hqe
    obtain ⟨K, hK⟩ : ∃ K : Int, ((a + x : Nat) : Int) = K := ⟨_, rfl⟩
    have hKa : K - (a : Int) = (x : Int) := by omega
    have hKn : ¬ K < (a : Int) + (d : Int) + 1 := by omega
    have hKn2 : ¬ K < ((a + d + 1 : Nat) : Int) := by omega
    rw [hK]
    clear hK
    go_enter Try.func42, Try.ntmps42
    go_wp2
    have hgne : g ≠ w.heap.size := by omega
    have hgne1 : g ≠ w.heap.size + 1 := by omega
    have hgne2 : w.heap.size + 1 ≠ g := by omega
    have hgb : (w.heap.size + 1 == g) = false := beq_eq_false_iff_ne.2 hgne2
    have hgb2 : (g == w.heap.size + 1) = false := beq_eq_false_iff_ne.2 hgne1
    obtain ⟨W0, hW0⟩ : ∃ W0, (w.alloc (.cells #[.slice (some ⟨g, 0, none⟩) (a + d + 1) cap, .int .i64 a] 55)).alloc (.cells #[.int .i64 0, .int .i64 0, .int .i64 0, .int .i64 0, .int .i64 0] 50) = W0 := ⟨_, rfl⟩
    have HO2 := HO.out
    rw [hW0] at c0 c1 c2 c3 c4 pb z1 B0 HO2 ⊢
    clear HO hW0
    obtain ⟨L, hL⟩ : ∃ L, powL xs (a + q) = L := ⟨_, rfl⟩
    try rw [hL] at c0
    try rw [hL] at c1
    try rw [hL] at c2
    try rw [hL] at c3
    try rw [hL] at c4
    try rw [hL]
    have HL := Lib.hid hL
    have HO := Lib.hid HO2
    have HB := Lib.hid (And.intro B0 (And.intro pb z1))
    have pbl := pb.lt
    have z1l := z1.lt
    have v0 := pb.cell0
    have v1 := pb.cell1
    clear hL HO2 B0 pb z1 R h hlt hk hg hm hlta hqx
    go_region_held (fun w' => w'.cell? ⟨w.heap.size, 0, none⟩ = some (.slice (some ⟨g, 0, none⟩) (a + d + 1) cap) ∧ w'.cell? ⟨w.heap.size, 1, none⟩ = some (.int .i64 a) ∧ w'.cell? ⟨g, (a + q) * 5, none⟩ = some (.int .i64 L.length) ∧ w'.cell? ⟨g, (a + q) * 5 + 1, none⟩ = some (.int .i64 (rowAt L 0)) ∧ w'.cell? ⟨g, (a + q) * 5 + 2, none⟩ = some (.int .i64 (rowAt L 1)) ∧ w'.cell? ⟨g, (a + q) * 5 + 3, none⟩ = some (.int .i64 (rowAt L 2)) ∧ w'.cell? ⟨g, (a + q) * 5 + 4, none⟩ = some (.int .i64 (rowAt L 3))) (go_keep) (first | (go_at_call 50; refine (HP.out _).mono ?_; rintro e w2 ⟨rfl, hb2⟩; obtain ⟨e0, e1, e2, e3, e4⟩ := pow_cells (own_keepR HO.out.drew hb2 (fun y hy => (HO.out.drew.lt y hy).2)) (a + q) (by omega); rw [HL.out] at e0 e1 e2 e3 e4; have pb2 := HB.out.2.1.drew.below hb2 pbl; have u0 := pb2.cell0; have u1 := pb2.cell1; have z2 := HB.out.2.2.drew.below hb2 z1l; have f0 := z2.free 0; have f1 := z2.free 1; have f2 := z2.free 2; have f3 := z2.free 3; have f4 := z2.free 4; have x0 := z2.cell0; have x1 := z2.cell1; have x2 := z2.cell2; have x3 := z2.cell3; have x4 := z2.cell4; have B2 := HB.out.1.drew.trans (hb2.mono HB.out.1.drew.size)))
    all_goals
      go_wp2
      have bb := fun (W : World) (j : Nat) (v : Value) (h : Below w.heap.size w W) => h.setCell (p := ⟨w.heap.size + 1, j, none⟩) (Nat.le_succ _) v
      exact bodyPost_ret (v := relOf L) (by simp [results, Try.results42, go_sem, x0, x1, x2, x3, x4]) rfl ⟨by rw [HL.out], bb _ _ _ (bb _ _ _ (bb _ _ _ (bb _ _ _ (bb _ _ _ B2))))⟩
end Go.Proofs.Ytpbkgdohfnjjpab
