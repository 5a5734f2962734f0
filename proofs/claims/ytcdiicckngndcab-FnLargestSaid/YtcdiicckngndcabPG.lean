/-
  The program's inLoop, anyTimes and ends: loops, any number of steps, and the states from which a program ends; for relations of at most 4 points.
-/
import Derived.Test.YtcdiicckngndcabPD
namespace Go.Proofs.Ytcdiicckngndcab
open Go.RowKit

theorem PwIs.alloc {b : List Int} {w : World} {g cap m : Nat} (h : PwIs b w g cap m) (o : Obj) : PwIs b (w.alloc o) g cap m := ⟨h.1, h.2.1, h.2.2.alloc o⟩
theorem seq_out (w : World) (xs : List Int) (z : Int) : SeqAt (w.alloc (.cells #[.iface 86 (relOf xs), .iface 97 (.agg #[.int .i64 z])] 88)) w.heap.size [.step xs, .test z] := heap_alloc_new w (.cells #[.iface 86 (relOf xs), .iface 97 (.agg #[.int .i64 z])] 88)
theorem relationOn_out {xs : List Int} (R : Rl xs.length xs) {t : Int} (ht : St xs.length t) (b : Nat) (w : World) (hs : SeqAt w b [.step (starL (wiL t xs)), .test (notA xs.length t)]) :
    Calls Try.prog 91 #[sqV b 2, .int .i64 xs.length] w fun e w' => e = .returned (relOf (whileL t xs)) ∧ Below w.heap.size w w' := by
  have S := R.wiStar t
  have h := relationOn_any R.one R.four [.step (starL (wiL t xs)), .test (notA xs.length t)] (by simp) (fun p h => by
    rcases List.mem_cons.1 h with rfl | h
    · exact ⟨S.len, S⟩
    · obtain rfl := List.mem_singleton.1 h
      exact St.not R.four ht) b w hs
  have e : (List.range xs.length).map (fun i => aftA [.step (starL (wiL t xs)), .test (notA xs.length t)] (pt i)) = whileL t xs := by
    unfold whileL
    apply List.map_congr_left
    intro i hi
    have e1 := while_out R ht i (List.mem_range.1 hi)
    rw [while_row R t i (List.mem_range.1 hi)] at e1
    exact e1
  rw [e] at h
  exact h

theorem anyTimes_any {xs : List Int} (R : Rl xs.length xs) (w : World) : Calls Try.prog 80 #[relOf xs] w (GaveSeq w [.step (starL xs)]) := by
  have H := Lib.hid (And.intro (fun w => powers_is R w) (And.intro (fun g cap m k w h => from_is R g cap m k w h) (fun w => once_any (starL xs) w)))
  have x0 := RelAt.new w xs
  have B0 := below_one w (.cells #[.int .i64 xs.length, .int .i64 (rowAt xs 0), .int .i64 (rowAt xs 1), .int .i64 (rowAt xs 2), .int .i64 (rowAt xs 3)] 47)
  have p0 := x0.cell0
  have p1 := x0.cell1
  have p2 := x0.cell2
  have p3 := x0.cell3
  have p4 := x0.cell4
  obtain ⟨s, hs⟩ : ∃ s, starL xs = s := ⟨_, rfl⟩
  rw [hs] at H ⊢
  clear R hs
  go_enter Try.func80, Try.ntmps80
  go_wp2_with fail
  refine (H.out.1 _).mono ?_
  rintro e w2 ⟨g, cap, m, k, rfl, hr, hb⟩
  have B := B0.trans (hb.mono B0.size)
  clear hb B0 x0 p0 p1 p2 p3 p4
  go_wp2_with fail
  refine (H.out.2.1 _ _ _ _ _ hr).mono ?_
  rintro e w3 ⟨rfl, hb⟩
  have B := B.trans (hb.mono B.size)
  clear hb hr
  go_wp2_with fail
  refine (H.out.2.2 _).mono ?_
  rintro e w4 ⟨b, rfl, hle, hq, hb⟩
  have B2 := B.trans (hb.mono B.size)
  have hle2 := Nat.le_trans B.size hle
  clear hb hle
  go_wp2
  go_ret
  exact ⟨b, rfl, hle2, hq, B2⟩

set_option maxRecDepth 100000 in
set_option maxHeartbeats 8000000 in
theorem inLoop_any {xs : List Int} (R : Rl xs.length xs) {t : Int} (ht : St xs.length t) (w : World) :
    Calls Try.prog 73 #[relOf xs, .int .i64 t] w fun e w' => e = .returned (relOf (whileL t xs)) ∧ Below w.heap.size w w' := by
  have hU : Rl (wiL t xs).length (wiL t xs) := by rw [wi_len]; exact R.wi t
  have H := Lib.hid (And.intro (fun w => onceFrom_any t xs w) (And.intro (fun b w h => relationOn_wi rfl R ht b w h) (And.intro (fun w => powers_is hU w) (And.intro (fun g cap m k w h => from_is hU g cap m k w h) (And.intro (fun w => otherStates_any t xs.length R.one R.four w) (fun b w h => relationOn_out R ht b w h))))))
  have x0 := (RelAt.new w xs).alloc (.cells #[.int .i64 0, .int .i64 0, .int .i64 0, .int .i64 0, .int .i64 0] 47)
  have z0 := rel_zero (w.alloc (.cells #[.int .i64 xs.length, .int .i64 (rowAt xs 0), .int .i64 (rowAt xs 1), .int .i64 (rowAt xs 2), .int .i64 (rowAt xs 3)] 47))
  have B0 := below_two w (.cells #[.int .i64 xs.length, .int .i64 (rowAt xs 0), .int .i64 (rowAt xs 1), .int .i64 (rowAt xs 2), .int .i64 (rowAt xs 3)] 47) (.cells #[.int .i64 0, .int .i64 0, .int .i64 0, .int .i64 0, .int .i64 0] 47)
  simp only [World.size_alloc] at z0
  clear R hU ht
  obtain ⟨d, hd⟩ : ∃ d, whileL t xs = d := ⟨_, rfl⟩
  obtain ⟨s, hs⟩ : ∃ s, starL (wiL t xs) = s := ⟨_, rfl⟩
  obtain ⟨u, hu⟩ : ∃ u, wiL t xs = u := ⟨_, rfl⟩
  obtain ⟨nt, hnt⟩ : ∃ nt, notA xs.length t = nt := ⟨_, rfl⟩
  rw [hd, hs, hu, hnt] at H
  rw [hd]
  clear hd hu hs hnt
  have p0 := x0.cell0
  have p1 := x0.cell1
  have p2 := x0.cell2
  have p3 := x0.cell3
  have p4 := x0.cell4
  go_enter Try.func73, Try.ntmps73
  go_wp2
  obtain ⟨W0, hW0⟩ : ∃ W0, (w.alloc (.cells #[.int .i64 xs.length, .int .i64 (rowAt xs 0), .int .i64 (rowAt xs 1), .int .i64 (rowAt xs 2), .int .i64 (rowAt xs 3)] 47)).alloc (.cells #[.int .i64 0, .int .i64 0, .int .i64 0, .int .i64 0, .int .i64 0] 47) = W0 := ⟨_, rfl⟩
  rw [hW0] at p0 p1 p2 p3 p4 x0 z0 B0 ⊢
  clear hW0
  have lW : w.heap.size + 1 < W0.heap.size := z0.lt
  have eW : ¬ w.heap.size = W0.heap.size := (by have := x0.lt; omega)
  have eW' : ¬ W0.heap.size = w.heap.size := (by have := x0.lt; omega)
  have x := x0.drew
  have z := z0.drew
  have B := B0.drew
  clear x0 z0 B0
  refine wp_part (fun a' w' => ∃ (b5 : Nat) (s7 s8 s9 s10 s11 s12 s13 s14 : Value), a' = { tmps := #[relOf xs, .int .i64 t, .pointer (some ⟨w.heap.size, 0, none⟩), undef, .pointer (some ⟨w.heap.size + 1, 0, none⟩), .pointer (some ⟨b5, 0, none⟩), undef, s7, s8, s9, s10, s11, s12, s13, s14, undef, undef, undef, undef, undef, undef, undef, undef, undef, undef, undef, undef, undef, undef], defers := [] } ∧ w.heap.size + 1 < b5 ∧ RelAt w' b5 s ∧ RelAt w' w.heap.size xs ∧ RelAt w' (w.heap.size + 1) [] ∧ Below w.heap.size w w') ?_ ?_
  · go_region_held (fun w' => w'.cell? ⟨w.heap.size, 0, none⟩ = some (.int .i64 xs.length) ∧ w'.cell? ⟨w.heap.size, 1, none⟩ = some (.int .i64 (rowAt xs 0)) ∧ w'.cell? ⟨w.heap.size, 2, none⟩ = some (.int .i64 (rowAt xs 1)) ∧ w'.cell? ⟨w.heap.size, 3, none⟩ = some (.int .i64 (rowAt xs 2)) ∧ w'.cell? ⟨w.heap.size, 4, none⟩ = some (.int .i64 (rowAt xs 3))) (go_keep) (first
    | (go_at_call 90; refine (H.out.1 _).mono ?_; rintro e w2 ⟨bs, rfl, hle, hq, hb⟩; have x : RelAt w2 w.heap.size xs := (by first | exact x.below hb x.lt | exact (x.alloc _).below hb (x.alloc _).lt); have p0 := x.cell0; have p1 := x.cell1; have p2 := x.cell2; have p3 := x.cell3; have p4 := x.cell4; have z : RelAt w2 (w.heap.size + 1) [] := (by first | exact z.below hb z.lt | exact (z.alloc _).below hb (z.alloc _).lt); have ew2 : ¬ w.heap.size = w2.heap.size := (by have := x.lt; omega); have e'w2 : ¬ w2.heap.size = w.heap.size := (by have := x.lt; omega); have lw2 : (w.heap.size + 1) < w2.heap.size := z.lt; have B : Below w.heap.size w w2 := (by first | exact B.trans (hb.mono B.size) | exact (B.alloc B.size _).trans (hb.mono (B.alloc B.size _).size)); (try have n7 := n7.below hb n7.lt); (try have n7 : RelAt w2 W0.heap.size [] := RelAt.below (rel_zero W0.drew) hb (by simp)); (try (have g0 := n7.cell0; have g1 := n7.cell1; have g2 := n7.cell2; have g3 := n7.cell3; have g4 := n7.cell4; have h0 := n7.free 0; have h1 := n7.free 1; have h2 := n7.free 2; have h3 := n7.free 3; have h4 := n7.free 4)); clear hb)
    | (go_at_call 91; refine (H.out.2.1 _ _ (by first | exact hq | exact hq.alloc _)).mono ?_; rintro e w3 ⟨rfl, hb⟩; have x : RelAt w3 w.heap.size xs := (by first | exact x.below hb x.lt | exact (x.alloc _).below hb (x.alloc _).lt); have p0 := x.cell0; have p1 := x.cell1; have p2 := x.cell2; have p3 := x.cell3; have p4 := x.cell4; have z : RelAt w3 (w.heap.size + 1) [] := (by first | exact z.below hb z.lt | exact (z.alloc _).below hb (z.alloc _).lt); have ew3 : ¬ w.heap.size = w3.heap.size := (by have := x.lt; omega); have e'w3 : ¬ w3.heap.size = w.heap.size := (by have := x.lt; omega); have lw3 : (w.heap.size + 1) < w3.heap.size := z.lt; have B : Below w.heap.size w w3 := (by first | exact B.trans (hb.mono B.size) | exact (B.alloc B.size _).trans (hb.mono (B.alloc B.size _).size)); (try have n7 := n7.below hb n7.lt); (try have n7 : RelAt w3 w2.heap.size [] := RelAt.below (rel_zero w2) hb (by simp)); (try (have g0 := n7.cell0; have g1 := n7.cell1; have g2 := n7.cell2; have g3 := n7.cell3; have g4 := n7.cell4; have h0 := n7.free 0; have h1 := n7.free 1; have h2 := n7.free 2; have h3 := n7.free 3; have h4 := n7.free 4)); clear hb)
    | (go_at_call 93; refine (H.out.2.2.1 _).mono ?_; rintro e w4 ⟨g, cap, m, k, rfl, hr, hb⟩; have x : RelAt w4 w.heap.size xs := (by first | exact x.below hb x.lt | exact (x.alloc _).below hb (x.alloc _).lt); have p0 := x.cell0; have p1 := x.cell1; have p2 := x.cell2; have p3 := x.cell3; have p4 := x.cell4; have z : RelAt w4 (w.heap.size + 1) [] := (by first | exact z.below hb z.lt | exact (z.alloc _).below hb (z.alloc _).lt); have ew4 : ¬ w.heap.size = w4.heap.size := (by have := x.lt; omega); have e'w4 : ¬ w4.heap.size = w.heap.size := (by have := x.lt; omega); have lw4 : (w.heap.size + 1) < w4.heap.size := z.lt; have B : Below w.heap.size w w4 := (by first | exact B.trans (hb.mono B.size) | exact (B.alloc B.size _).trans (hb.mono (B.alloc B.size _).size)); (try have n7 := n7.below hb n7.lt); (try have n7 : RelAt w4 w3.heap.size [] := RelAt.below (rel_zero w3) hb (by simp)); (try (have g0 := n7.cell0; have g1 := n7.cell1; have g2 := n7.cell2; have g3 := n7.cell3; have g4 := n7.cell4; have h0 := n7.free 0; have h1 := n7.free 1; have h2 := n7.free 2; have h3 := n7.free 3; have h4 := n7.free 4)); clear hb)
    | (go_at_call 94; refine (H.out.2.2.2.1 _ _ _ _ _ (by first | exact hr | exact hr.alloc _)).mono ?_; rintro e w5 ⟨rfl, hb⟩; have x : RelAt w5 w.heap.size xs := (by first | exact x.below hb x.lt | exact (x.alloc _).below hb (x.alloc _).lt); have p0 := x.cell0; have p1 := x.cell1; have p2 := x.cell2; have p3 := x.cell3; have p4 := x.cell4; have z : RelAt w5 (w.heap.size + 1) [] := (by first | exact z.below hb z.lt | exact (z.alloc _).below hb (z.alloc _).lt); have ew5 : ¬ w.heap.size = w5.heap.size := (by have := x.lt; omega); have e'w5 : ¬ w5.heap.size = w.heap.size := (by have := x.lt; omega); have lw5 : (w.heap.size + 1) < w5.heap.size := z.lt; have B : Below w.heap.size w w5 := (by first | exact B.trans (hb.mono B.size) | exact (B.alloc B.size _).trans (hb.mono (B.alloc B.size _).size)); (try have n7 := n7.below hb n7.lt); (try have n7 : RelAt w5 w4.heap.size [] := RelAt.below (rel_zero w4) hb (by simp)); (try (have g0 := n7.cell0; have g1 := n7.cell1; have g2 := n7.cell2; have g3 := n7.cell3; have g4 := n7.cell4; have h0 := n7.free 0; have h1 := n7.free 1; have h2 := n7.free 2; have h3 := n7.free 3; have h4 := n7.free 4)); clear hb))
    · exact ⟨_, _, _, _, _, _, _, _, _, rfl, (by omega), RelAt.new _ s, x.alloc _, z.alloc _, B.alloc B.size _⟩
    all_goals
      exact ⟨_, _, _, _, _, _, _, _, _, rfl, (by omega), n7.put s, x.put_other (by omega) _ _ _ _ _, z.put_other (by omega) _ _ _ _ _, below_put B (by omega) _ _ _ _ _⟩
  · clear p0 p1 p2 p3 p4 x z B lW eW eW'
    rintro _ W3 ⟨b5, s7, s8, s9, s10, s11, s12, s13, s14, rfl, l5, k5, x0, z0, B0⟩
    have p0 := x0.cell0
    go_wp2_with fail
    refine (H.out.2.2.2.2.1 _).mono ?_
    rintro e w4 ⟨rfl, rfl⟩
    have x1 := x0.alloc (.cells #[.int .i64 nt] 97)
    have z1 := z0.alloc (.cells #[.int .i64 nt] 97)
    have k1 := k5.alloc (.cells #[.int .i64 nt] 97)
    have B1 := B0.alloc B0.size (.cells #[.int .i64 nt] 97)
    have q0 := k1.cell0
    have q1 := k1.cell1
    have q2 := k1.cell2
    have q3 := k1.cell3
    have q4 := k1.cell4
    have sq := seq_out (W3.alloc (.cells #[.int .i64 nt] 97)) s nt
    rw [World.size_alloc] at sq
    have x2 := x1.alloc (.cells #[.iface 86 (relOf s), .iface 97 (.agg #[.int .i64 nt])] 88)
    have z2 := z1.alloc (.cells #[.iface 86 (relOf s), .iface 97 (.agg #[.int .i64 nt])] 88)
    have B2 := B1.alloc B1.size (.cells #[.iface 86 (relOf s), .iface 97 (.agg #[.int .i64 nt])] 88)
    have r0 := x2.cell0
    go_wp2_with fail
    refine (H.out.2.2.2.2.2 (W3.heap.size + 1) _ sq).mono ?_
    rintro e w5 ⟨rfl, hb⟩
    have z := z2.below hb z2.lt
    have B := B2.trans (hb.mono B2.size)
    have f0 := z.free 0
    have f1 := z.free 1
    have f2 := z.free 2
    have f3 := z.free 3
    have f4 := z.free 4
    have u0 := z.cell0
    have u1 := z.cell1
    have u2 := z.cell2
    have u3 := z.cell3
    have u4 := z.cell4
    clear hb B2 z2 x2 sq r0 B1 k1 z1 x1 q0 q1 q2 q3 q4 p0 x0 z0 B0 k5
    go_wp2
    refine bodyPost_ret (v := relOf d) (by simp [results, Try.results73, go_sem, u0, u1, u2, u3, u4]) rfl ⟨rfl, ?_⟩
    exact below_put B (by omega) _ _ _ _ _

end Go.Proofs.Ytcdiicckngndcab
