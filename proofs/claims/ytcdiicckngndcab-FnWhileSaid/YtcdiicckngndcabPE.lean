/-
  The program's inBranch: programs by tests; for relations of at most 4 points.
-/
import Derived.Test.YtcdiicckngndcabPD
namespace Go.Proofs.Ytcdiicckngndcab
open Go.RowKit


set_option maxRecDepth 100000 in
set_option maxHeartbeats 8000000 in
theorem inBranch_any {xs ys : List Int} (R : Rl xs.length xs) (K : Rl xs.length ys) {t : Int} (ht : St xs.length t) (w : World) :
    Calls Try.prog 66 #[relOf xs, .int .i64 t, relOf ys] w fun e w' => e = .returned (relOf (ifL t xs ys)) ∧ Below w.heap.size w w' := by
  have hyl : ys.length = xs.length := K.len
  have K2 : Rl ys.length ys := by rw [hyl]; exact K
  have ht2 : St ys.length (notA xs.length t) := by rw [hyl]; exact St.not R.four ht
  have hw1 := R.wi t
  have hw2 := K.wi (notA xs.length t)
  have hfin : eitherL (wiL t xs) (wiL (notA xs.length t) ys) = ifL t xs ys := if_either R K ht
  have H := Lib.hid (And.intro (fun w => onceFrom_any t xs w) (And.intro (fun b w h => relationOn_wi rfl R ht b w h) (And.intro (fun w => otherStates_any t xs.length R.one R.four w) (And.intro (fun w => onceFrom_any (notA xs.length t) ys w) (And.intro (fun b w h => relationOn_wi hyl K2 ht2 b w h) (fun w => eitherR hw1 hw2 w))))))
  rw [hfin] at H
  have HL := Lib.hid (And.intro (wi_len t xs) (And.intro (wi_len (notA xs.length t) ys) hyl))
  have x0 := ((RelAt.new w xs).alloc (.cells #[.int .i64 ys.length, .int .i64 (rowAt ys 0), .int .i64 (rowAt ys 1), .int .i64 (rowAt ys 2), .int .i64 (rowAt ys 3)] 47)).alloc (.cells #[.int .i64 0, .int .i64 0, .int .i64 0, .int .i64 0, .int .i64 0] 47)
  have y0 := (RelAt.new (w.alloc (.cells #[.int .i64 xs.length, .int .i64 (rowAt xs 0), .int .i64 (rowAt xs 1), .int .i64 (rowAt xs 2), .int .i64 (rowAt xs 3)] 47)) ys).alloc (.cells #[.int .i64 0, .int .i64 0, .int .i64 0, .int .i64 0, .int .i64 0] 47)
  have z0 := rel_zero ((w.alloc (.cells #[.int .i64 xs.length, .int .i64 (rowAt xs 0), .int .i64 (rowAt xs 1), .int .i64 (rowAt xs 2), .int .i64 (rowAt xs 3)] 47)).alloc (.cells #[.int .i64 ys.length, .int .i64 (rowAt ys 0), .int .i64 (rowAt ys 1), .int .i64 (rowAt ys 2), .int .i64 (rowAt ys 3)] 47))
  have B0 := below_three w (.cells #[.int .i64 xs.length, .int .i64 (rowAt xs 0), .int .i64 (rowAt xs 1), .int .i64 (rowAt xs 2), .int .i64 (rowAt xs 3)] 47) (.cells #[.int .i64 ys.length, .int .i64 (rowAt ys 0), .int .i64 (rowAt ys 1), .int .i64 (rowAt ys 2), .int .i64 (rowAt ys 3)] 47) (.cells #[.int .i64 0, .int .i64 0, .int .i64 0, .int .i64 0, .int .i64 0] 47)
  simp only [World.size_alloc] at y0 z0
  clear R K hyl K2 ht2 ht hw1 hw2 hfin
  obtain ⟨u, hu⟩ : ∃ u, wiL t xs = u := ⟨_, rfl⟩
  obtain ⟨v, hv⟩ : ∃ v, wiL (notA xs.length t) ys = v := ⟨_, rfl⟩
  obtain ⟨nt, hnt⟩ : ∃ nt, notA xs.length t = nt := ⟨_, rfl⟩
  obtain ⟨d, hd⟩ : ∃ d, ifL t xs ys = d := ⟨_, rfl⟩
  rw [hu, hv, hd, hnt] at H
  rw [hu, hv] at HL
  rw [hd]
  clear hu hv hnt hd
  have p0 := x0.cell0
  have p1 := x0.cell1
  have p2 := x0.cell2
  have p3 := x0.cell3
  have p4 := x0.cell4
  go_enter Try.func66, Try.ntmps66
  go_wp2
  obtain ⟨W0, hW0⟩ : ∃ W0, ((w.alloc (.cells #[.int .i64 xs.length, .int .i64 (rowAt xs 0), .int .i64 (rowAt xs 1), .int .i64 (rowAt xs 2), .int .i64 (rowAt xs 3)] 47)).alloc (.cells #[.int .i64 ys.length, .int .i64 (rowAt ys 0), .int .i64 (rowAt ys 1), .int .i64 (rowAt ys 2), .int .i64 (rowAt ys 3)] 47)).alloc (.cells #[.int .i64 0, .int .i64 0, .int .i64 0, .int .i64 0, .int .i64 0] 47) = W0 := ⟨_, rfl⟩
  rw [hW0] at p0 p1 p2 p3 p4 x0 y0 z0 B0 ⊢
  clear hW0
  have lW : w.heap.size + 1 + 1 < W0.heap.size := z0.lt
  have eW : ¬ w.heap.size = W0.heap.size := (by have := x0.lt; omega)
  have eW' : ¬ W0.heap.size = w.heap.size := (by have := x0.lt; omega)
  have x := x0.drew
  have y := y0.drew
  have z := z0.drew
  have B := B0.drew
  clear x0 y0 z0 B0

  refine wp_part (fun a' w' => ∃ (b7 : Nat) (s9 s10 s11 s12 s13 s14 : Value), a' = { tmps := #[relOf xs, .int .i64 t, relOf ys, .pointer (some ⟨w.heap.size, 0, none⟩), undef, .pointer (some ⟨w.heap.size + 1, 0, none⟩), .pointer (some ⟨w.heap.size + 1 + 1, 0, none⟩), .pointer (some ⟨b7, 0, none⟩), undef, s9, s10, s11, s12, s13, s14, undef, undef, undef, undef, undef, undef, undef, undef, undef, undef, undef, undef], defers := [] } ∧ w.heap.size + 1 + 1 < b7 ∧ RelAt w' b7 u ∧ RelAt w' w.heap.size xs ∧ RelAt w' (w.heap.size + 1) ys ∧ RelAt w' (w.heap.size + 1 + 1) [] ∧ Below w.heap.size w w') ?_ ?_
  · go_region_held (fun w' => w'.cell? ⟨w.heap.size, 0, none⟩ = some (.int .i64 xs.length) ∧ w'.cell? ⟨w.heap.size, 1, none⟩ = some (.int .i64 (rowAt xs 0)) ∧ w'.cell? ⟨w.heap.size, 2, none⟩ = some (.int .i64 (rowAt xs 1)) ∧ w'.cell? ⟨w.heap.size, 3, none⟩ = some (.int .i64 (rowAt xs 2)) ∧ w'.cell? ⟨w.heap.size, 4, none⟩ = some (.int .i64 (rowAt xs 3))) (go_keep) (first
    | (go_at_call 90; refine (H.out.1 _).mono ?_; rintro e w2 ⟨bs, rfl, hle, hq, hb⟩; have x : RelAt w2 w.heap.size xs := (by first | exact x.below hb x.lt | exact (x.alloc _).below hb (x.alloc _).lt); have p0 := x.cell0; have p1 := x.cell1; have p2 := x.cell2; have p3 := x.cell3; have p4 := x.cell4; have y : RelAt w2 (w.heap.size + 1) ys := (by first | exact y.below hb y.lt | exact (y.alloc _).below hb (y.alloc _).lt); have z : RelAt w2 (w.heap.size + 1 + 1) [] := (by first | exact z.below hb z.lt | exact (z.alloc _).below hb (z.alloc _).lt); have ew2 : ¬ w.heap.size = w2.heap.size := (by have := x.lt; omega); have e'w2 : ¬ w2.heap.size = w.heap.size := (by have := x.lt; omega); have lw2 : (w.heap.size + 1 + 1) < w2.heap.size := z.lt; have B : Below w.heap.size w w2 := (by first | exact B.trans (hb.mono B.size) | exact (B.alloc B.size _).trans (hb.mono (B.alloc B.size _).size)); (try have n7 := n7.below hb n7.lt); (try have n7 : RelAt w2 W0.heap.size [] := RelAt.below (rel_zero W0.drew) hb (by simp)); (try (have g0 := n7.cell0; have g1 := n7.cell1; have g2 := n7.cell2; have g3 := n7.cell3; have g4 := n7.cell4; have h0 := n7.free 0; have h1 := n7.free 1; have h2 := n7.free 2; have h3 := n7.free 3; have h4 := n7.free 4)); clear hb)
    | (go_at_call 91; refine (H.out.2.1 _ _ (by first | exact hq | exact hq.alloc _)).mono ?_; rintro e w3 ⟨rfl, hb⟩; have x : RelAt w3 w.heap.size xs := (by first | exact x.below hb x.lt | exact (x.alloc _).below hb (x.alloc _).lt); have p0 := x.cell0; have p1 := x.cell1; have p2 := x.cell2; have p3 := x.cell3; have p4 := x.cell4; have y : RelAt w3 (w.heap.size + 1) ys := (by first | exact y.below hb y.lt | exact (y.alloc _).below hb (y.alloc _).lt); have z : RelAt w3 (w.heap.size + 1 + 1) [] := (by first | exact z.below hb z.lt | exact (z.alloc _).below hb (z.alloc _).lt); have ew3 : ¬ w.heap.size = w3.heap.size := (by have := x.lt; omega); have e'w3 : ¬ w3.heap.size = w.heap.size := (by have := x.lt; omega); have lw3 : (w.heap.size + 1 + 1) < w3.heap.size := z.lt; have B : Below w.heap.size w w3 := (by first | exact B.trans (hb.mono B.size) | exact (B.alloc B.size _).trans (hb.mono (B.alloc B.size _).size)); (try have n7 := n7.below hb n7.lt); (try have n7 : RelAt w3 w2.heap.size [] := RelAt.below (rel_zero w2) hb (by simp)); (try (have g0 := n7.cell0; have g1 := n7.cell1; have g2 := n7.cell2; have g3 := n7.cell3; have g4 := n7.cell4; have h0 := n7.free 0; have h1 := n7.free 1; have h2 := n7.free 2; have h3 := n7.free 3; have h4 := n7.free 4)); clear hb))
    · exact ⟨_, _, _, _, _, _, _, rfl, (by omega), RelAt.new _ u, x.alloc _, y.alloc _, z.alloc _, B.alloc B.size _⟩
    all_goals
      exact ⟨_, _, _, _, _, _, _, rfl, (by omega), n7.put u, x.put_other (by omega) _ _ _ _ _, y.put_other (by omega) _ _ _ _ _, z.put_other (by omega) _ _ _ _ _, below_put B (by omega) _ _ _ _ _⟩
  · clear p0 p1 p2 p3 p4 x y z B lW eW eW'
    rintro _ W3 ⟨b7, s9, s10, s11, s12, s13, s14, rfl, l7, k7, x0, y0, z0, B0⟩
    have p0 := x0.cell0
    have p1 := x0.cell1
    have p2 := x0.cell2
    have p3 := x0.cell3
    have p4 := x0.cell4
    have q0 := y0.cell0
    have q1 := y0.cell1
    have q2 := y0.cell2
    have q3 := y0.cell3
    have q4 := y0.cell4
    have lW : w.heap.size + 1 + 1 < W3.heap.size := z0.lt
    have l7W := k7.lt
    have eW : ¬ w.heap.size = W3.heap.size := (by have := x0.lt; omega)
    have eW' : ¬ W3.heap.size = w.heap.size := (by have := x0.lt; omega)
    have fW : ¬ w.heap.size + 1 = W3.heap.size := (by have := x0.lt; omega)
    have fW' : ¬ W3.heap.size = w.heap.size + 1 := (by have := x0.lt; omega)
    have x := x0.drew
    have y := y0.drew
    have z := z0.drew
    have k := k7.drew
    have B := B0.drew
    clear x0 y0 z0 B0 k7
    go_wp2
    refine wp_part (fun a' w' => ∃ (b8 : Nat) (s15 s16 s17 s18 s19 s20 s21 s22 s23 : Value), a' = { tmps := #[relOf xs, .int .i64 t, relOf ys, .pointer (some ⟨w.heap.size, 0, none⟩), undef, .pointer (some ⟨w.heap.size + 1, 0, none⟩), .pointer (some ⟨w.heap.size + 1 + 1, 0, none⟩), .pointer (some ⟨b7, 0, none⟩), .pointer (some ⟨b8, 0, none⟩), s9, s10, s11, s12, s13, s14, s15, s16, s17, s18, s19, s20, s21, s22, s23, undef, undef, undef], defers := [] } ∧ w.heap.size + 1 + 1 < b8 ∧ RelAt w' b8 v ∧ RelAt w' b7 u ∧ RelAt w' (w.heap.size + 1 + 1) [] ∧ Below w.heap.size w w') ?_ ?_
    · go_region_held (fun w' => w'.cell? ⟨w.heap.size, 0, none⟩ = some (.int .i64 xs.length) ∧ w'.cell? ⟨w.heap.size, 1, none⟩ = some (.int .i64 (rowAt xs 0)) ∧ w'.cell? ⟨w.heap.size, 2, none⟩ = some (.int .i64 (rowAt xs 1)) ∧ w'.cell? ⟨w.heap.size, 3, none⟩ = some (.int .i64 (rowAt xs 2)) ∧ w'.cell? ⟨w.heap.size, 4, none⟩ = some (.int .i64 (rowAt xs 3)) ∧ w'.cell? ⟨w.heap.size + 1, 0, none⟩ = some (.int .i64 ys.length) ∧ w'.cell? ⟨w.heap.size + 1, 1, none⟩ = some (.int .i64 (rowAt ys 0)) ∧ w'.cell? ⟨w.heap.size + 1, 2, none⟩ = some (.int .i64 (rowAt ys 1)) ∧ w'.cell? ⟨w.heap.size + 1, 3, none⟩ = some (.int .i64 (rowAt ys 2)) ∧ w'.cell? ⟨w.heap.size + 1, 4, none⟩ = some (.int .i64 (rowAt ys 3))) (go_keep) (first
    | (go_at_call 89; refine (H.out.2.2.1 _).mono ?_; rintro e w4 ⟨rfl, rfl⟩ )
    | (go_at_call 90; refine (H.out.2.2.2.1 _).mono ?_; rintro e w5 ⟨bs, rfl, hle, hq, hb⟩; have x : RelAt w5 w.heap.size xs := (by first | exact x.below hb x.lt | exact (x.alloc _).below hb (x.alloc _).lt); have p0 := x.cell0; have p1 := x.cell1; have p2 := x.cell2; have p3 := x.cell3; have p4 := x.cell4; have y : RelAt w5 (w.heap.size + 1) ys := (by first | exact y.below hb y.lt | exact (y.alloc _).below hb (y.alloc _).lt); have q0 := y.cell0; have q1 := y.cell1; have q2 := y.cell2; have q3 := y.cell3; have q4 := y.cell4; have z : RelAt w5 (w.heap.size + 1 + 1) [] := (by first | exact z.below hb z.lt | exact (z.alloc _).below hb (z.alloc _).lt); have k : RelAt w5 b7 u := (by first | exact k.below hb k.lt | exact (k.alloc _).below hb (k.alloc _).lt); have ew5 : ¬ w.heap.size = w5.heap.size := (by have := x.lt; omega); have e'w5 : ¬ w5.heap.size = w.heap.size := (by have := x.lt; omega); have dw5 : ¬ (w.heap.size + 1) = w5.heap.size := (by have := y.lt; omega); have d'w5 : ¬ w5.heap.size = (w.heap.size + 1) := (by have := y.lt; omega); have lw5 : b7 < w5.heap.size := k.lt; have B : Below w.heap.size w w5 := (by first | exact B.trans (hb.mono B.size) | exact (B.alloc B.size _).trans (hb.mono (B.alloc B.size _).size)); (try have n7 := n7.below hb n7.lt); (try have n7 : RelAt w5 W3.heap.size [] := RelAt.below (rel_zero W3.drew) hb (by simp)); (try (have g0 := n7.cell0; have g1 := n7.cell1; have g2 := n7.cell2; have g3 := n7.cell3; have g4 := n7.cell4; have h0 := n7.free 0; have h1 := n7.free 1; have h2 := n7.free 2; have h3 := n7.free 3; have h4 := n7.free 4)); clear hb)
    | (go_at_call 91; refine (H.out.2.2.2.2.1 _ _ (by first | exact hq | exact hq.alloc _)).mono ?_; rintro e w6 ⟨rfl, hb⟩; have x : RelAt w6 w.heap.size xs := (by first | exact x.below hb x.lt | exact (x.alloc _).below hb (x.alloc _).lt); have p0 := x.cell0; have p1 := x.cell1; have p2 := x.cell2; have p3 := x.cell3; have p4 := x.cell4; have y : RelAt w6 (w.heap.size + 1) ys := (by first | exact y.below hb y.lt | exact (y.alloc _).below hb (y.alloc _).lt); have q0 := y.cell0; have q1 := y.cell1; have q2 := y.cell2; have q3 := y.cell3; have q4 := y.cell4; have z : RelAt w6 (w.heap.size + 1 + 1) [] := (by first | exact z.below hb z.lt | exact (z.alloc _).below hb (z.alloc _).lt); have k : RelAt w6 b7 u := (by first | exact k.below hb k.lt | exact (k.alloc _).below hb (k.alloc _).lt); have ew6 : ¬ w.heap.size = w6.heap.size := (by have := x.lt; omega); have e'w6 : ¬ w6.heap.size = w.heap.size := (by have := x.lt; omega); have dw6 : ¬ (w.heap.size + 1) = w6.heap.size := (by have := y.lt; omega); have d'w6 : ¬ w6.heap.size = (w.heap.size + 1) := (by have := y.lt; omega); have lw6 : b7 < w6.heap.size := k.lt; have B : Below w.heap.size w w6 := (by first | exact B.trans (hb.mono B.size) | exact (B.alloc B.size _).trans (hb.mono (B.alloc B.size _).size)); (try have n7 := n7.below hb n7.lt); (try have n7 : RelAt w6 w5.heap.size [] := RelAt.below (rel_zero w5) hb (by simp)); (try (have g0 := n7.cell0; have g1 := n7.cell1; have g2 := n7.cell2; have g3 := n7.cell3; have g4 := n7.cell4; have h0 := n7.free 0; have h1 := n7.free 1; have h2 := n7.free 2; have h3 := n7.free 3; have h4 := n7.free 4)); clear hb))
      · exact ⟨_, _, _, _, _, _, _, _, _, _, rfl, (by omega), RelAt.new _ v, k.alloc _, z.alloc _, B.alloc B.size _⟩
      all_goals
        exact ⟨_, _, _, _, _, _, _, _, _, _, rfl, (by omega), n7.put v, k.put_other (by omega) _ _ _ _ _, z.put_other (by omega) _ _ _ _ _, below_put B (by omega) _ _ _ _ _⟩
    · clear p0 p1 p2 p3 p4 q0 q1 q2 q3 q4 x y z B k lW eW eW' fW fW'
      rintro _ W4 ⟨b8, s15, s16, s17, s18, s19, s20, s21, s22, s23, rfl, l8, k8, k7, z0, B0⟩
      have r0 := k7.cell0
      have t0 := k8.cell0
      have r1 := k7.cell1
      have t1 := k8.cell1
      have r2 := k7.cell2
      have t2 := k8.cell2
      have r3 := k7.cell3
      have t3 := k8.cell3
      have r4 := k7.cell4
      have t4 := k8.cell4
      go_wp2_with (go_at_call 70; refine (H.out.2.2.2.2.2 _).mono ?_; rintro e w7 ⟨rfl, hb⟩; have z := z0.below hb z0.lt; have B := B0.trans (hb.mono B0.size); have f0 := z.free 0; have f1 := z.free 1; have f2 := z.free 2; have f3 := z.free 3; have f4 := z.free 4; have u0 := z.cell0; have u1 := z.cell1; have u2 := z.cell2; have u3 := z.cell3; have u4 := z.cell4; clear hb)
      refine bodyPost_ret (v := relOf d) (by simp [results, Try.results66, go_sem, u0, u1, u2, u3, u4]) rfl ⟨rfl, ?_⟩
      exact below_put B (by omega) _ _ _ _ _

end Go.Proofs.Ytcdiicckngndcab
