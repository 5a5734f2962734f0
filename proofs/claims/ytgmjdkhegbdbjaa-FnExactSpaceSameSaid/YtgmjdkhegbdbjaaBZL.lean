/-
  impl.SpaceSame and the law FnExactSpaceSame beside leavers.
-/
import Derived.Test.YtgmjdkhegbdbjaaBZQ
import Derived.Test.YtgmjdkhegbdbjaaSPF
import Derived.Test.YtgmjdkhegbdbjaaBZM
namespace Go.Ph
open Go Go.Conc Go.ConcN Go.RowKit Go.Conc.Lib Go.ConcR.Gen Go.ConcN.Gen Go.Br Go.Proofs Go.Proofs.Ytgmjdkhegbdbjaa Go.Sort
set_option linter.unusedVariables false
set_option linter.unusedSimpArgs false
set_option linter.unusedSectionVars false
set_option maxRecDepth 100000


section
variable {Q : (Nat → Bool) → Goroutine → World → Prop} {Sh : Nat → Bool} {w w0 : World} {cs : List Frame} {c0 : Frame} {ao bo : Option Addr} {ca cb : Nat} {xs ys : List Int}

variable {Post : Value → World → Prop}
theorem bk_spEqual {g1 g2 cap cap2 : Nat} (kw : KW Try.prog link.tWg Sh w) (hl : xs.length ≤ 1048576) (hl2 : ys.length ≤ 1048576) (hx : RdB Sh w (some ⟨g1, 0, none⟩) xs) (hy : RdB Sh w (some ⟨g2, 0, none⟩) ys)
    (hq : ∀ w', BelowC w w' → KW Try.prog link.tWg Sh w' → WB Try.prog Q Sh ⟨c0.finish (.bool (xs == ys)), cs, .running, none, none⟩ w') :
    WB Try.prog Q Sh (gor (Frame.enter Try.prog 46 #[.slice (some ⟨g1, 0, none⟩) xs.length cap, .slice (some ⟨g2, 0, none⟩) ys.length cap2] .normal) [] (c0 :: cs)) w := by
  refine bk rfl kw (R := fun W v w' => v = .bool (xs == ys) ∧ Dn W w') (fun W hs hh => ?_) ?_
  · have key : ∀ {g : Nat} {zs : List Int}, Rd W (some ⟨g, 0, none⟩) zs → ∀ j, j < zs.length → W.cell? ⟨g, 0 + j, none⟩ = some (.int .i64 (zs.getD j 0)) := fun hr j hj => by
      obtain ⟨b, off, z, h1, h2, h3, h4⟩ := hr.get j hj
      simp only [Option.some.injEq, Addr.mk.injEq, and_true] at h2
      obtain ⟨rfl, rfl⟩ := h2
      rw [h4, List.getD, h1]
      rfl
    have h := Try.equal_any g1 0 xs.length cap g2 0 ys.length cap2 xs ys W (Nat.le_refl _) (Nat.le_refl _) (by omega) (by omega) (key (hx.on hh)) (key (hy.on hh))
    rw [List.take_length, List.take_length] at h
    exact h.mono fun e w' ⟨h1, h2⟩ => ⟨_, h1, rfl, h2⟩
  · rintro W v w' e e1 e2 ⟨rfl, hd⟩
    have hbc := bc_from e e1 e2 (hd.below _)
    exact hq _ hbc (kw.bc hbc)
theorem bk_specSpaceSame (kw : KW Try.prog link.tWg Sh w) (hl : xs.length ≤ 1048576) (hl2 : ys.length ≤ 1048576) (hx : RdB Sh w ao xs) (hy : RdB Sh w bo ys)
    (hq : ∀ w', BelowC w w' → KW Try.prog link.tWg Sh w' → WB Try.prog Q Sh ⟨c0.finish (.bool (ssB xs ys)), cs, .running, none, none⟩ w') :
    WB Try.prog Q Sh (gor (Frame.enter Try.prog 22 #[.slice ao xs.length ca, .slice bo ys.length cb] .normal) [] (c0 :: cs)) w := by
  refine bk rfl kw (R := fun W v w' => v = .bool (ssB xs ys) ∧ Below W.heap.size W w') (fun W hs hh => (specSpaceSame_any ao bo ca cb xs ys W hl hl2 (hx.on hh) (hy.on hh)).mono fun e w' ⟨h1, h2⟩ => ⟨_, h1, rfl, h2⟩) ?_
  rintro W v w' e e1 e2 ⟨rfl, hb⟩
  have hbc := bc_from e e1 e2 hb
  exact hq w' hbc (kw.bc hbc)
theorem bk_two_yes (kw : KW Try.prog link.tWg Sh w) (hr : twoIn xs ys = true) (hx : RdB Sh w ao xs) (hy : RdB Sh w bo ys)
    (hq : ∀ w', BelowC w w' → KW Try.prog link.tWg Sh w' → WB Try.prog Q Sh ⟨c0.finish (.tuple #[relOf xs, relOf ys, .bool true]), cs, .running, none, none⟩ w') :
    WB Try.prog Q Sh (gor (Frame.enter Try.prog 45 #[.slice ao xs.length ca, .slice bo ys.length cb] .normal) [] (c0 :: cs)) w := by
  obtain ⟨h1, h2, h3⟩ := twoIn_yes hr
  refine bk rfl kw (R := fun W v w' => v = .tuple #[relOf xs, relOf ys, .bool true] ∧ Below W.heap.size W w') (fun W hs hh => (two_yes ao bo ca cb xs ys W (hx.on hh) (hy.on hh) h1 h2 h3).mono fun e w' ⟨h1, h2⟩ => ⟨_, h1, rfl, h2⟩) ?_
  rintro W v w' e e1 e2 ⟨rfl, hb⟩
  have hbc := bc_from e e1 e2 hb
  exact hq w' hbc (kw.bc hbc)
theorem bk_two_no (hl : xs.length ≤ 1048576) (hl2 : ys.length ≤ 1048576) (kw : KW Try.prog link.tWg Sh w) (hr : twoIn xs ys = false) (hx : RdB Sh w ao xs) (hy : RdB Sh w bo ys)
    (hq : ∀ w', BelowC w w' → KW Try.prog link.tWg Sh w' → WB Try.prog Q Sh ⟨c0.finish (.tuple #[rel5 0 0 0 0 0, rel5 0 0 0 0 0, .bool false]), cs, .running, none, none⟩ w') :
    WB Try.prog Q Sh (gor (Frame.enter Try.prog 45 #[.slice ao xs.length ca, .slice bo ys.length cb] .normal) [] (c0 :: cs)) w := by
  refine bk rfl kw (R := fun W v w' => v = .tuple #[rel5 0 0 0 0 0, rel5 0 0 0 0 0, .bool false] ∧ Below W.heap.size W w') (fun W hs hh => (two_no ao bo ca cb xs ys W hl hl2 (hx.on hh) (hy.on hh) hr).mono fun e w' ⟨h1, h2⟩ => ⟨_, h1, rfl, h2⟩) ?_
  rintro W v w' e e1 e2 ⟨rfl, hb⟩
  have hbc := bc_from e e1 e2 hb
  exact hq w' hbc (kw.bc hbc)

set_option maxHeartbeats 2000000 in
theorem spaceSame_no (hr : twoIn xs ys = false) (kw : KW Try.prog link.tWg Sh w) (hl : xs.length ≤ 1048576) (hl2 : ys.length ≤ 1048576) (hx : RdB Sh w ao xs) (hy : RdB Sh w bo ys)
    (hq : ∀ Sh' w', BelowC w w' → KW Try.prog link.tWg Sh' w' → (∀ b, b < w.heap.size → Sh' b = Sh b) → WB Try.prog Q Sh' ⟨c0.finish (.bool (ssB xs ys)), cs, .running, none, none⟩ w') :
    WB Try.prog Q Sh (gor (Frame.enter Try.prog 23 #[.slice ao xs.length ca, .slice bo ys.length cb] .normal) [] (c0 :: cs)) w := by
  have hz : ssB xs ys = false := by unfold ssB; rw [hr]; rfl
  rw [hz] at hq
  have hkn : (base 23).kind ≠ .early := base_kind _
  have same : ∀ {a : Act}, a.tmps.size = 23 → ∀ {d : Nat}, d < 23 → ∀ v, (a.put (some d) v).eval (.tmp d) = v := fun h _ hd v => eval_put_same (by rw [h]; exact hd)
  rw [enter_at _ Try.func23 rfl]
  obtain ⟨a0, ha0, hz, hd, he⟩ := enter_acts 21 (#[.slice ao xs.length ca, .slice bo ys.length cb] : Array Value)
  have hm : Try.f23.ntmps - (#[.slice ao xs.length ca, .slice bo ys.length cb] : Array Value).size = 21 := by rw [Try.ntmps23]; rfl
  rw [hm]
  show WB Try.prog _ _ (G ((base 23).at _ [.code _]) _) _
  rw [← ha0]
  replace hz : a0.tmps.size = 23 := hz
  have e0 : a0.eval (.tmp 0) = .slice ao xs.length ca := he 0 _ rfl
  have e1 : a0.eval (.tmp 1) = .slice bo ys.length cb := he 1 _ rfl
  clear ha0 hm he
  repeat
    first
      | refine b_seq ?_
      | refine b_end ?_
      | refine b_skip ?_
      | refine b_block ?_
      | refine b_loop ?_
      | refine b_inBlock ?_
      | refine b_region rfl ?_
  refine b_op 4 (.bool false) rfl rfl rfl hkn (fun W => run_asg a0 _ (.const (.bool false)) (.bool false) rfl rfl W) fun a1 ea => ?_
  replace e0 := kp ea e0 (by omega)
  replace e1 := kp ea e1 (by omega)
  replace hd := kd ea hd
  replace hz := kz ea hz
  clear ea
  repeat
    first
      | refine b_seq ?_
      | refine b_end ?_
      | refine b_skip ?_
      | refine b_block ?_
      | refine b_loop ?_
      | refine b_inBlock ?_
      | refine b_region rfl ?_
  refine b_op 9 (.slice ao xs.length ca) rfl rfl rfl hkn (fun W => run_mv a1 _ _ _ rfl e0 W) fun a2 ea => ?_
  replace e1 := kp ea e1 (by omega)
  have e9 := nw ea hz (by omega)
  replace hd := kd ea hd
  replace hz := kz ea hz
  clear e0
  clear ea
  refine b_op 10 (.slice bo ys.length cb) rfl rfl rfl hkn (fun W => run_mv a2 _ _ _ rfl e1 W) fun a3 ea => ?_
  replace e9 := kp ea e9 (by omega)
  have e10 := nw ea hz (by omega)
  replace hd := kd ea hd
  replace hz := kz ea hz
  clear e1
  clear ea
  refine b_call (vs := #[.slice ao xs.length ca, .slice bo ys.length cb]) rfl rfl hkn rfl Try.func45 (by rfl) rfl (by rw [List.map_toArray, List.map_cons, List.map_cons, List.map_nil, e9, e10]) ?_
  refine bk_two_no hl hl2 kw hr hx hy fun w1 hb1 kw1 => ?_
  refine b_back rfl rfl fun a4 ea => ?_
  have e11 := nw ea hz (by omega)
  replace hd := kd ea hd
  replace hz := kz ea hz
  clear e9
  clear e10
  clear ea
  refine b_op 8 (.tuple #[rel5 0 0 0 0 0, rel5 0 0 0 0 0, .bool false]) rfl rfl rfl hkn (fun W => run_mv a4 _ _ _ rfl e11 W) fun a5 ea => ?_
  have e8 := nw ea hz (by omega)
  replace hd := kd ea hd
  replace hz := kz ea hz
  clear e11
  clear ea
  refine b_op 12 (rel5 0 0 0 0 0) rfl rfl rfl hkn (fun W => run_ex a5 _ 8 0 _ _ rfl e8 rfl W) fun a6 ea => ?_
  replace e8 := kp ea e8 (by omega)
  have e12 := nw ea hz (by omega)
  replace hd := kd ea hd
  replace hz := kz ea hz
  clear ea
  refine b_op 13 (rel5 0 0 0 0 0) rfl rfl rfl hkn (fun W => run_ex a6 _ 8 1 _ _ rfl e8 rfl W) fun a7 ea => ?_
  replace e8 := kp ea e8 (by omega)
  replace e12 := kp ea e12 (by omega)
  have e13 := nw ea hz (by omega)
  replace hd := kd ea hd
  replace hz := kz ea hz
  clear ea
  refine b_op 14 (.bool false) rfl rfl rfl hkn (fun W => run_ex a7 _ 8 2 _ _ rfl e8 rfl W) fun a8 ea => ?_
  replace e12 := kp ea e12 (by omega)
  replace e13 := kp ea e13 (by omega)
  have e14 := nw ea hz (by omega)
  replace hd := kd ea hd
  replace hz := kz ea hz
  clear e8
  clear ea
  have hs1 : Sh w1.heap.size = false := notSh kw1
  refine b_alR 5 rfl rfl rfl hkn rfl rfl fun a9 u1 ea hR1 hz1 hbu1 => ?_
  replace e12 := kp ea e12 (by omega)
  replace e13 := kp ea e13 (by omega)
  replace e14 := kp ea e14 (by omega)
  have e5 := nw ea hz (by omega)
  replace hd := kd ea hd
  replace hz := kz ea hz
  clear ea
  have hs2 : Sh u1.heap.size = false := notSh (kw1.bc hbu1)
  refine b_alR 6 rfl rfl rfl hkn rfl rfl fun a10 u2 ea hR2 hz2 hbu2 => ?_
  replace e12 := kp ea e12 (by omega)
  replace e13 := kp ea e13 (by omega)
  replace e14 := kp ea e14 (by omega)
  replace e5 := kp ea e5 (by omega)
  have e6 := nw ea hz (by omega)
  replace hd := kd ea hd
  replace hz := kz ea hz
  clear ea
  have hc2 := hb1.trans (hbu1.trans hbu2)
  have hA0 : Rel5 u2 w1.heap.size 0 0 0 0 0 := (hbu2.block _ (by omega)).trans hR1
  refine b_stR rfl rfl rfl hkn rfl rfl e5 e12 hA0 hs1 fun u3 hS1 hbl1 hz3 hos1 hout1 => ?_
  have hc3 : BelowC w u3 := bc_own hc2 hb1.size hbl1 hz3 hos1 hout1
  have hB0 : Rel5 u3 u1.heap.size 0 0 0 0 0 := (hbl1 _ (by omega)).trans hR2
  refine b_stR rfl rfl rfl hkn rfl rfl e6 e13 hB0 hs2 fun u4 hB hbl2 hz4 hos2 hout2 => ?_
  have hc4 : BelowC w u4 := bc_own hc3 (Nat.le_trans hb1.size (by omega)) hbl2 hz4 hos2 hout2
  have hA : Rel5 u4 w1.heap.size _ _ _ _ _ := (hbl2 _ (by omega)).trans hS1
  have kw4 := kw.bc hc4
  have lt1 : w1.heap.size < u4.heap.size := by omega
  have lt2 : u1.heap.size < u4.heap.size := by omega
  clear hA0 hB0 hS1 hbl1 hbl2 hR1 hR2 kw1 hos1 hout1 hos2 hout2
  refine b_op 7 (.bool false) rfl rfl rfl hkn (fun W => run_asg a10 _ (.tmp 14) _ rfl e14 W) fun a11 ea => ?_
  replace e5 := kp ea e5 (by omega)
  replace e6 := kp ea e6 (by omega)
  have e7 := nw ea hz (by omega)
  replace hd := kd ea hd
  replace hz := kz ea hz
  clear e12
  clear e13
  clear e14
  clear ea
  repeat
    first
      | refine b_seq ?_
      | refine b_end ?_
      | refine b_skip ?_
      | refine b_block ?_
      | refine b_loop ?_
      | refine b_inBlock ?_
      | refine b_region rfl ?_
  refine b_draw (L := [[0, 1, 2, 3, 4, 5, 6, 7, 8], [0, 1, 2, 4, 3, 5, 6, 7, 8], [0, 1, 4, 2, 3, 5, 6, 7, 8]]) (by kernel_rfl) (by kernel_rfl) ?_
  intro l hl
  simp only [List.mem_cons, List.not_mem_nil, or_false] at hl
  rcases hl with rfl | rfl | rfl
  refine b_op 15 (.bool false) rfl rfl rfl hkn (fun W => run_mv a11 _ _ _ rfl e7 W) fun a12 ea => ?_
  replace e5 := kp ea e5 (by omega)
  replace e6 := kp ea e6 (by omega)
  have e15 := nw ea hz (by omega)
  replace hd := kd ea hd
  replace hz := kz ea hz
  clear e7
  clear ea
  refine b_op 16 (.bool false) rfl rfl rfl hkn (fun W => run_mv a12 _ _ _ rfl e15 W) fun a13 ea => ?_
  replace e5 := kp ea e5 (by omega)
  replace e6 := kp ea e6 (by omega)
  have e16 := nw ea hz (by omega)
  replace hd := kd ea hd
  replace hz := kz ea hz
  clear e15
  clear ea
  refine b_no rfl (wantedN rfl rfl e16) fun a14 ea => ?_
  replace e6 := kp ea e6 (by omega)
  replace e16 := kp ea e16 (by omega)
  replace hd := kd ea hd
  replace hz := kz ea hz
  clear e5
  clear ea
  refine b_no rfl (wantedN rfl rfl e16) fun a15 ea => ?_
  replace e6 := kp ea e6 (by omega)
  replace e16 := kp ea e16 (by omega)
  replace hd := kd ea hd
  replace hz := kz ea hz
  clear ea
  refine b_no rfl (wantedN rfl rfl e16) fun a16 ea => ?_
  replace e16 := kp ea e16 (by omega)
  replace hd := kd ea hd
  replace hz := kz ea hz
  clear e6
  clear ea
  refine b_no rfl (wantedN rfl rfl e16) fun a17 ea => ?_
  replace e16 := kp ea e16 (by omega)
  replace hd := kd ea hd
  replace hz := kz ea hz
  clear ea
  refine b_no rfl (wantedN rfl rfl e16) fun a18 ea => ?_
  replace e16 := kp ea e16 (by omega)
  replace hd := kd ea hd
  replace hz := kz ea hz
  clear ea
  refine b_op 22 (.bool false) rfl rfl rfl hkn (fun W => run_pickF a18 _ _ _ _ (.bool false) rfl e16 rfl W) fun a19 ea => ?_
  have e22 := nw ea hz (by omega)
  replace hd := kd ea hd
  replace hz := kz ea hz
  clear e16
  clear ea
  refine b_op 4 (.bool false) rfl rfl rfl hkn (fun W => run_asg a19 _ (.tmp 22) _ rfl e22 W) fun a20 ea => ?_
  have e4 := nw ea hz (by omega)
  replace hd := kd ea hd
  replace hz := kz ea hz
  clear e22
  clear ea
  repeat
    first
      | refine b_seq ?_
      | refine b_end ?_
      | refine b_skip ?_
      | refine b_block ?_
      | refine b_loop ?_
      | refine b_inBlock ?_
      | refine b_region rfl ?_
  refine b_ret ?_
  refine b_leave (v := .bool false) rfl hd Try.func23 (own_res1 rfl e4 _) (fun W es => events_results_tmp (t := 4) rfl _ _) ?_
  exact hq _ _ hc4 kw4 fun _ _ => rfl
  refine b_op 15 (.bool false) rfl rfl rfl hkn (fun W => run_mv a11 _ _ _ rfl e7 W) fun a12 ea => ?_
  replace e5 := kp ea e5 (by omega)
  replace e6 := kp ea e6 (by omega)
  have e15 := nw ea hz (by omega)
  replace hd := kd ea hd
  replace hz := kz ea hz
  clear e7
  clear ea
  refine b_op 16 (.bool false) rfl rfl rfl hkn (fun W => run_mv a12 _ _ _ rfl e15 W) fun a13 ea => ?_
  replace e5 := kp ea e5 (by omega)
  replace e6 := kp ea e6 (by omega)
  have e16 := nw ea hz (by omega)
  replace hd := kd ea hd
  replace hz := kz ea hz
  clear e15
  clear ea
  refine b_no rfl (wantedN rfl rfl e16) fun a14 ea => ?_
  replace e6 := kp ea e6 (by omega)
  replace e16 := kp ea e16 (by omega)
  replace hd := kd ea hd
  replace hz := kz ea hz
  clear e5
  clear ea
  refine b_no rfl (wantedN rfl rfl e16) fun a15 ea => ?_
  replace e16 := kp ea e16 (by omega)
  replace hd := kd ea hd
  replace hz := kz ea hz
  clear e6
  clear ea
  refine b_no rfl (wantedN rfl rfl e16) fun a16 ea => ?_
  replace e16 := kp ea e16 (by omega)
  replace hd := kd ea hd
  replace hz := kz ea hz
  clear ea
  refine b_no rfl (wantedN rfl rfl e16) fun a17 ea => ?_
  replace e16 := kp ea e16 (by omega)
  replace hd := kd ea hd
  replace hz := kz ea hz
  clear ea
  refine b_no rfl (wantedN rfl rfl e16) fun a18 ea => ?_
  replace e16 := kp ea e16 (by omega)
  replace hd := kd ea hd
  replace hz := kz ea hz
  clear ea
  refine b_op 22 (.bool false) rfl rfl rfl hkn (fun W => run_pickF a18 _ _ _ _ (.bool false) rfl e16 rfl W) fun a19 ea => ?_
  have e22 := nw ea hz (by omega)
  replace hd := kd ea hd
  replace hz := kz ea hz
  clear e16
  clear ea
  refine b_op 4 (.bool false) rfl rfl rfl hkn (fun W => run_asg a19 _ (.tmp 22) _ rfl e22 W) fun a20 ea => ?_
  have e4 := nw ea hz (by omega)
  replace hd := kd ea hd
  replace hz := kz ea hz
  clear e22
  clear ea
  repeat
    first
      | refine b_seq ?_
      | refine b_end ?_
      | refine b_skip ?_
      | refine b_block ?_
      | refine b_loop ?_
      | refine b_inBlock ?_
      | refine b_region rfl ?_
  refine b_ret ?_
  refine b_leave (v := .bool false) rfl hd Try.func23 (own_res1 rfl e4 _) (fun W es => events_results_tmp (t := 4) rfl _ _) ?_
  exact hq _ _ hc4 kw4 fun _ _ => rfl
  refine b_op 15 (.bool false) rfl rfl rfl hkn (fun W => run_mv a11 _ _ _ rfl e7 W) fun a12 ea => ?_
  replace e5 := kp ea e5 (by omega)
  replace e6 := kp ea e6 (by omega)
  have e15 := nw ea hz (by omega)
  replace hd := kd ea hd
  replace hz := kz ea hz
  clear e7
  clear ea
  refine b_op 16 (.bool false) rfl rfl rfl hkn (fun W => run_mv a12 _ _ _ rfl e15 W) fun a13 ea => ?_
  replace e5 := kp ea e5 (by omega)
  replace e6 := kp ea e6 (by omega)
  have e16 := nw ea hz (by omega)
  replace hd := kd ea hd
  replace hz := kz ea hz
  clear e15
  clear ea
  refine b_no rfl (wantedN rfl rfl e16) fun a14 ea => ?_
  replace e5 := kp ea e5 (by omega)
  replace e16 := kp ea e16 (by omega)
  replace hd := kd ea hd
  replace hz := kz ea hz
  clear e6
  clear ea
  refine b_no rfl (wantedN rfl rfl e16) fun a15 ea => ?_
  replace e16 := kp ea e16 (by omega)
  replace hd := kd ea hd
  replace hz := kz ea hz
  clear e5
  clear ea
  refine b_no rfl (wantedN rfl rfl e16) fun a16 ea => ?_
  replace e16 := kp ea e16 (by omega)
  replace hd := kd ea hd
  replace hz := kz ea hz
  clear ea
  refine b_no rfl (wantedN rfl rfl e16) fun a17 ea => ?_
  replace e16 := kp ea e16 (by omega)
  replace hd := kd ea hd
  replace hz := kz ea hz
  clear ea
  refine b_no rfl (wantedN rfl rfl e16) fun a18 ea => ?_
  replace e16 := kp ea e16 (by omega)
  replace hd := kd ea hd
  replace hz := kz ea hz
  clear ea
  refine b_op 22 (.bool false) rfl rfl rfl hkn (fun W => run_pickF a18 _ _ _ _ (.bool false) rfl e16 rfl W) fun a19 ea => ?_
  have e22 := nw ea hz (by omega)
  replace hd := kd ea hd
  replace hz := kz ea hz
  clear e16
  clear ea
  refine b_op 4 (.bool false) rfl rfl rfl hkn (fun W => run_asg a19 _ (.tmp 22) _ rfl e22 W) fun a20 ea => ?_
  have e4 := nw ea hz (by omega)
  replace hd := kd ea hd
  replace hz := kz ea hz
  clear e22
  clear ea
  repeat
    first
      | refine b_seq ?_
      | refine b_end ?_
      | refine b_skip ?_
      | refine b_block ?_
      | refine b_loop ?_
      | refine b_inBlock ?_
      | refine b_region rfl ?_
  refine b_ret ?_
  refine b_leave (v := .bool false) rfl hd Try.func23 (own_res1 rfl e4 _) (fun W es => events_results_tmp (t := 4) rfl _ _) ?_
  exact hq _ _ hc4 kw4 fun _ _ => rfl

set_option maxHeartbeats 2000000 in
theorem spaceSame_yes (hr : twoIn xs ys = true) (kw : KW Try.prog link.tWg Sh w) (hl : xs.length ≤ 1048576) (hl2 : ys.length ≤ 1048576) (hx : RdB Sh w ao xs) (hy : RdB Sh w bo ys)
    (hq : ∀ Sh' w', BelowC w w' → KW Try.prog link.tWg Sh' w' → (∀ b, b < w.heap.size → Sh' b = Sh b) → WB Try.prog Q Sh' ⟨c0.finish (.bool (ssB xs ys)), cs, .running, none, none⟩ w') :
    WB Try.prog Q Sh (gor (Frame.enter Try.prog 23 #[.slice ao xs.length ca, .slice bo ys.length cb] .normal) [] (c0 :: cs)) w := by
  obtain ⟨hp, hp2, hn⟩ := twoIn_yes hr
  have hR := Rl.of hp
  have hR2 := Rl.of hp2
  have h1 := hR.one
  have h4 := hR.four
  have k1 := hR2.one
  have k4 := hR2.four
  have hse := spaceL_is hR
  have hse2 := spaceL_is hR2
  have slx : (spaceL xs).length ≤ 1048576 := by rw [hse]; have := spL_len16 h4; omega
  have sly : (spaceL ys).length ≤ 1048576 := by rw [hse2]; have := spL_len16 k4; omega
  have hz : ssB xs ys = (spaceL xs == spaceL ys) := by
    unfold ssB
    rw [hr, hse, hse2, Bool.true_and]
    by_cases e : spL xs = spL ys
    · rw [decide_eq_true e, e]; simp
    · rw [decide_eq_false e]; exact (beq_eq_false_iff_ne.2 e).symm
  rw [hz] at hq
  clear hz hse hse2 hR hR2 hp hp2
  have hkn : (base 23).kind ≠ .early := base_kind _
  have same : ∀ {a : Act}, a.tmps.size = 23 → ∀ {d : Nat}, d < 23 → ∀ v, (a.put (some d) v).eval (.tmp d) = v := fun h _ hd v => eval_put_same (by rw [h]; exact hd)
  rw [enter_at _ Try.func23 rfl]
  obtain ⟨a0, ha0, hz, hd, he⟩ := enter_acts 21 (#[.slice ao xs.length ca, .slice bo ys.length cb] : Array Value)
  have hm : Try.f23.ntmps - (#[.slice ao xs.length ca, .slice bo ys.length cb] : Array Value).size = 21 := by rw [Try.ntmps23]; rfl
  rw [hm]
  show WB Try.prog _ _ (G ((base 23).at _ [.code _]) _) _
  rw [← ha0]
  replace hz : a0.tmps.size = 23 := hz
  have e0 : a0.eval (.tmp 0) = .slice ao xs.length ca := he 0 _ rfl
  have e1 : a0.eval (.tmp 1) = .slice bo ys.length cb := he 1 _ rfl
  clear ha0 hm he
  repeat
    first
      | refine b_seq ?_
      | refine b_end ?_
      | refine b_skip ?_
      | refine b_block ?_
      | refine b_loop ?_
      | refine b_inBlock ?_
      | refine b_region rfl ?_
  refine b_op 4 (.bool false) rfl rfl rfl hkn (fun W => run_asg a0 _ (.const (.bool false)) (.bool false) rfl rfl W) fun a1 ea => ?_
  replace e0 := kp ea e0 (by omega)
  replace e1 := kp ea e1 (by omega)
  replace hd := kd ea hd
  replace hz := kz ea hz
  clear ea
  repeat
    first
      | refine b_seq ?_
      | refine b_end ?_
      | refine b_skip ?_
      | refine b_block ?_
      | refine b_loop ?_
      | refine b_inBlock ?_
      | refine b_region rfl ?_
  refine b_op 9 (.slice ao xs.length ca) rfl rfl rfl hkn (fun W => run_mv a1 _ _ _ rfl e0 W) fun a2 ea => ?_
  replace e1 := kp ea e1 (by omega)
  have e9 := nw ea hz (by omega)
  replace hd := kd ea hd
  replace hz := kz ea hz
  clear e0
  clear ea
  refine b_op 10 (.slice bo ys.length cb) rfl rfl rfl hkn (fun W => run_mv a2 _ _ _ rfl e1 W) fun a3 ea => ?_
  replace e9 := kp ea e9 (by omega)
  have e10 := nw ea hz (by omega)
  replace hd := kd ea hd
  replace hz := kz ea hz
  clear e1
  clear ea
  refine b_call (vs := #[.slice ao xs.length ca, .slice bo ys.length cb]) rfl rfl hkn rfl Try.func45 (by rfl) rfl (by rw [List.map_toArray, List.map_cons, List.map_cons, List.map_nil, e9, e10]) ?_
  refine bk_two_yes kw hr hx hy fun w1 hb1 kw1 => ?_
  refine b_back rfl rfl fun a4 ea => ?_
  have e11 := nw ea hz (by omega)
  replace hd := kd ea hd
  replace hz := kz ea hz
  clear e9
  clear e10
  clear ea
  refine b_op 8 (.tuple #[relOf xs, relOf ys, .bool true]) rfl rfl rfl hkn (fun W => run_mv a4 _ _ _ rfl e11 W) fun a5 ea => ?_
  have e8 := nw ea hz (by omega)
  replace hd := kd ea hd
  replace hz := kz ea hz
  clear e11
  clear ea
  refine b_op 12 (relOf xs) rfl rfl rfl hkn (fun W => run_ex a5 _ 8 0 _ _ rfl e8 rfl W) fun a6 ea => ?_
  replace e8 := kp ea e8 (by omega)
  have e12 := nw ea hz (by omega)
  replace hd := kd ea hd
  replace hz := kz ea hz
  clear ea
  refine b_op 13 (relOf ys) rfl rfl rfl hkn (fun W => run_ex a6 _ 8 1 _ _ rfl e8 rfl W) fun a7 ea => ?_
  replace e8 := kp ea e8 (by omega)
  replace e12 := kp ea e12 (by omega)
  have e13 := nw ea hz (by omega)
  replace hd := kd ea hd
  replace hz := kz ea hz
  clear ea
  refine b_op 14 (.bool true) rfl rfl rfl hkn (fun W => run_ex a7 _ 8 2 _ _ rfl e8 rfl W) fun a8 ea => ?_
  replace e12 := kp ea e12 (by omega)
  replace e13 := kp ea e13 (by omega)
  have e14 := nw ea hz (by omega)
  replace hd := kd ea hd
  replace hz := kz ea hz
  clear e8
  clear ea
  have hs1 : Sh w1.heap.size = false := notSh kw1
  refine b_alR 5 rfl rfl rfl hkn rfl rfl fun a9 u1 ea hR1 hz1 hbu1 => ?_
  replace e12 := kp ea e12 (by omega)
  replace e13 := kp ea e13 (by omega)
  replace e14 := kp ea e14 (by omega)
  have e5 := nw ea hz (by omega)
  replace hd := kd ea hd
  replace hz := kz ea hz
  clear ea
  have hs2 : Sh u1.heap.size = false := notSh (kw1.bc hbu1)
  refine b_alR 6 rfl rfl rfl hkn rfl rfl fun a10 u2 ea hR2 hz2 hbu2 => ?_
  replace e12 := kp ea e12 (by omega)
  replace e13 := kp ea e13 (by omega)
  replace e14 := kp ea e14 (by omega)
  replace e5 := kp ea e5 (by omega)
  have e6 := nw ea hz (by omega)
  replace hd := kd ea hd
  replace hz := kz ea hz
  clear ea
  have hc2 := hb1.trans (hbu1.trans hbu2)
  have hA0 : Rel5 u2 w1.heap.size 0 0 0 0 0 := (hbu2.block _ (by omega)).trans hR1
  refine b_stR rfl rfl rfl hkn rfl rfl e5 e12 hA0 hs1 fun u3 hS1 hbl1 hz3 hos1 hout1 => ?_
  have hc3 : BelowC w u3 := bc_own hc2 hb1.size hbl1 hz3 hos1 hout1
  have hB0 : Rel5 u3 u1.heap.size 0 0 0 0 0 := (hbl1 _ (by omega)).trans hR2
  refine b_stR rfl rfl rfl hkn rfl rfl e6 e13 hB0 hs2 fun u4 hB hbl2 hz4 hos2 hout2 => ?_
  have hc4 : BelowC w u4 := bc_own hc3 (Nat.le_trans hb1.size (by omega)) hbl2 hz4 hos2 hout2
  have hA : Rel5 u4 w1.heap.size _ _ _ _ _ := (hbl2 _ (by omega)).trans hS1
  have kw4 := kw.bc hc4
  have lt1 : w1.heap.size < u4.heap.size := by omega
  have lt2 : u1.heap.size < u4.heap.size := by omega
  clear hA0 hB0 hS1 hbl1 hbl2 hR1 hR2 kw1 hos1 hout1 hos2 hout2
  refine b_op 7 (.bool true) rfl rfl rfl hkn (fun W => run_asg a10 _ (.tmp 14) _ rfl e14 W) fun a11 ea => ?_
  replace e5 := kp ea e5 (by omega)
  replace e6 := kp ea e6 (by omega)
  have e7 := nw ea hz (by omega)
  replace hd := kd ea hd
  replace hz := kz ea hz
  clear e12
  clear e13
  clear e14
  clear ea
  repeat
    first
      | refine b_seq ?_
      | refine b_end ?_
      | refine b_skip ?_
      | refine b_block ?_
      | refine b_loop ?_
      | refine b_inBlock ?_
      | refine b_region rfl ?_
  refine b_draw (L := [[0, 1, 2, 3, 4, 5, 6, 7, 8], [0, 1, 2, 4, 3, 5, 6, 7, 8], [0, 1, 4, 2, 3, 5, 6, 7, 8]]) (by kernel_rfl) (by kernel_rfl) ?_
  intro l hl
  simp only [List.mem_cons, List.not_mem_nil, or_false] at hl
  rcases hl with rfl | rfl | rfl
  refine b_op 15 (.bool true) rfl rfl rfl hkn (fun W => run_mv a11 _ _ _ rfl e7 W) fun a12 ea => ?_
  replace e5 := kp ea e5 (by omega)
  replace e6 := kp ea e6 (by omega)
  have e15 := nw ea hz (by omega)
  replace hd := kd ea hd
  replace hz := kz ea hz
  clear e7
  clear ea
  refine b_op 16 (.bool true) rfl rfl rfl hkn (fun W => run_mv a12 _ _ _ rfl e15 W) fun a13 ea => ?_
  replace e5 := kp ea e5 (by omega)
  replace e6 := kp ea e6 (by omega)
  have e16 := nw ea hz (by omega)
  replace hd := kd ea hd
  replace hz := kz ea hz
  clear e15
  clear ea
  refine b_ldR 17 rfl (wantedY rfl rfl e16) rfl hkn rfl rfl e5 hA hs1 fun a14 ea => ?_
  replace e6 := kp ea e6 (by omega)
  replace e16 := kp ea e16 (by omega)
  have e17 := nw ea hz (by omega)
  replace hd := kd ea hd
  replace hz := kz ea hz
  clear e5
  clear ea
  refine b_call (vs := #[relOf xs]) rfl (wantedY rfl rfl e16) hkn rfl Try.func37 (by rfl) rfl (by rw [List.map_toArray, List.map_cons, List.map_nil, e17]) ?_
  refine spaceB kw4 h1 h4 fun Wgxs gxs capxs wxs hWgxs hbxs kwxs hrdxs => ?_
  have agxs : ∀ b, b < u4.heap.size → (Sh b || b == Wgxs) = Sh b := fun b hb => by have hne : (b == Wgxs) = false := (beq_eq_false_iff_ne.2 (by omega)); rw [hne, Bool.or_false]
  have hs2b := (agxs _ lt2).trans hs2
  have hBb := (hbxs.block _ lt2).trans hB
  clear hs2 hB
  have hs2 := hs2b
  have hB : Rel5 _ _ _ _ _ _ _ := hBb
  refine b_back rfl rfl fun a15 ea => ?_
  replace e6 := kp ea e6 (by omega)
  replace e16 := kp ea e16 (by omega)
  have e18 := nw ea hz (by omega)
  replace hd := kd ea hd
  replace hz := kz ea hz
  clear e17
  clear ea
  refine b_ldR 19 rfl (wantedY rfl rfl e16) rfl hkn rfl rfl e6 hB hs2 fun a16 ea => ?_
  replace e16 := kp ea e16 (by omega)
  replace e18 := kp ea e18 (by omega)
  have e19 := nw ea hz (by omega)
  replace hd := kd ea hd
  replace hz := kz ea hz
  clear e6
  clear ea
  refine b_call (vs := #[relOf ys]) rfl (wantedY rfl rfl e16) hkn rfl Try.func37 (by rfl) rfl (by rw [List.map_toArray, List.map_cons, List.map_nil, e19]) ?_
  refine spaceB kwxs k1 k4 fun Wgys gys capys wys hWgys hbys kwys hrdys => ?_
  have agys : ∀ b, b < wxs.heap.size → ((Sh b || b == Wgxs) || b == Wgys) = (Sh b || b == Wgxs) := fun b hb => by have hne : (b == Wgys) = false := (beq_eq_false_iff_ne.2 (by omega)); rw [hne, Bool.or_false]
  refine b_back rfl rfl fun a17 ea => ?_
  replace e16 := kp ea e16 (by omega)
  replace e18 := kp ea e18 (by omega)
  have e20 := nw ea hz (by omega)
  replace hd := kd ea hd
  replace hz := kz ea hz
  clear e19
  clear ea
  refine b_call (vs := #[.slice (some ⟨gxs, 0, none⟩) (spaceL xs).length capxs, .slice (some ⟨gys, 0, none⟩) (spaceL ys).length capys]) rfl (wantedY rfl rfl e16) hkn rfl Try.func46 (by rfl) rfl (by rw [List.map_toArray, List.map_cons, List.map_cons, List.map_nil, e18, e20]) ?_
  have hrdx := hrdxs.bc hbys agys
  refine bk_spEqual kwys slx sly hrdx hrdys fun w7 hb7 kw7 => ?_
  refine b_back rfl rfl fun a18 ea => ?_
  replace e16 := kp ea e16 (by omega)
  have e21 := nw ea hz (by omega)
  replace hd := kd ea hd
  replace hz := kz ea hz
  clear e18
  clear e20
  clear ea
  refine b_op 22 (.bool (spaceL xs == spaceL ys)) rfl rfl rfl hkn (fun W => run_pickT a18 _ _ _ _ _ rfl e16 e21 W) fun a19 ea => ?_
  have e22 := nw ea hz (by omega)
  replace hd := kd ea hd
  replace hz := kz ea hz
  clear e16
  clear e21
  clear ea
  refine b_op 4 (.bool (spaceL xs == spaceL ys)) rfl rfl rfl hkn (fun W => run_asg a19 _ (.tmp 22) _ rfl e22 W) fun a20 ea => ?_
  have e4 := nw ea hz (by omega)
  replace hd := kd ea hd
  replace hz := kz ea hz
  clear e22
  clear ea
  repeat
    first
      | refine b_seq ?_
      | refine b_end ?_
      | refine b_skip ?_
      | refine b_block ?_
      | refine b_loop ?_
      | refine b_inBlock ?_
      | refine b_region rfl ?_
  refine b_ret ?_
  refine b_leave (v := .bool (spaceL xs == spaceL ys)) rfl hd Try.func23 (own_res1 rfl e4 _) (fun W es => events_results_tmp (t := 4) rfl _ _) ?_
  exact hq _ w7 (hc4.trans (hbxs.trans (hbys.trans hb7))) kw7 fun b hb => (agys b (Nat.lt_of_lt_of_le hb (hc4.trans hbxs).size)).trans (agxs b (Nat.lt_of_lt_of_le hb hc4.size))
  refine b_op 15 (.bool true) rfl rfl rfl hkn (fun W => run_mv a11 _ _ _ rfl e7 W) fun a12 ea => ?_
  replace e5 := kp ea e5 (by omega)
  replace e6 := kp ea e6 (by omega)
  have e15 := nw ea hz (by omega)
  replace hd := kd ea hd
  replace hz := kz ea hz
  clear e7
  clear ea
  refine b_op 16 (.bool true) rfl rfl rfl hkn (fun W => run_mv a12 _ _ _ rfl e15 W) fun a13 ea => ?_
  replace e5 := kp ea e5 (by omega)
  replace e6 := kp ea e6 (by omega)
  have e16 := nw ea hz (by omega)
  replace hd := kd ea hd
  replace hz := kz ea hz
  clear e15
  clear ea
  refine b_ldR 17 rfl (wantedY rfl rfl e16) rfl hkn rfl rfl e5 hA hs1 fun a14 ea => ?_
  replace e6 := kp ea e6 (by omega)
  replace e16 := kp ea e16 (by omega)
  have e17 := nw ea hz (by omega)
  replace hd := kd ea hd
  replace hz := kz ea hz
  clear e5
  clear ea
  refine b_ldR 19 rfl (wantedY rfl rfl e16) rfl hkn rfl rfl e6 hB hs2 fun a15 ea => ?_
  replace e16 := kp ea e16 (by omega)
  replace e17 := kp ea e17 (by omega)
  have e19 := nw ea hz (by omega)
  replace hd := kd ea hd
  replace hz := kz ea hz
  clear e6
  clear ea
  refine b_call (vs := #[relOf xs]) rfl (wantedY rfl rfl e16) hkn rfl Try.func37 (by rfl) rfl (by rw [List.map_toArray, List.map_cons, List.map_nil, e17]) ?_
  refine spaceB kw4 h1 h4 fun Wgxs gxs capxs wxs hWgxs hbxs kwxs hrdxs => ?_
  have agxs : ∀ b, b < u4.heap.size → (Sh b || b == Wgxs) = Sh b := fun b hb => by have hne : (b == Wgxs) = false := (beq_eq_false_iff_ne.2 (by omega)); rw [hne, Bool.or_false]
  refine b_back rfl rfl fun a16 ea => ?_
  replace e16 := kp ea e16 (by omega)
  replace e19 := kp ea e19 (by omega)
  have e18 := nw ea hz (by omega)
  replace hd := kd ea hd
  replace hz := kz ea hz
  clear e17
  clear ea
  refine b_call (vs := #[relOf ys]) rfl (wantedY rfl rfl e16) hkn rfl Try.func37 (by rfl) rfl (by rw [List.map_toArray, List.map_cons, List.map_nil, e19]) ?_
  refine spaceB kwxs k1 k4 fun Wgys gys capys wys hWgys hbys kwys hrdys => ?_
  have agys : ∀ b, b < wxs.heap.size → ((Sh b || b == Wgxs) || b == Wgys) = (Sh b || b == Wgxs) := fun b hb => by have hne : (b == Wgys) = false := (beq_eq_false_iff_ne.2 (by omega)); rw [hne, Bool.or_false]
  refine b_back rfl rfl fun a17 ea => ?_
  replace e16 := kp ea e16 (by omega)
  replace e18 := kp ea e18 (by omega)
  have e20 := nw ea hz (by omega)
  replace hd := kd ea hd
  replace hz := kz ea hz
  clear e19
  clear ea
  refine b_call (vs := #[.slice (some ⟨gxs, 0, none⟩) (spaceL xs).length capxs, .slice (some ⟨gys, 0, none⟩) (spaceL ys).length capys]) rfl (wantedY rfl rfl e16) hkn rfl Try.func46 (by rfl) rfl (by rw [List.map_toArray, List.map_cons, List.map_cons, List.map_nil, e18, e20]) ?_
  have hrdx := hrdxs.bc hbys agys
  refine bk_spEqual kwys slx sly hrdx hrdys fun w7 hb7 kw7 => ?_
  refine b_back rfl rfl fun a18 ea => ?_
  replace e16 := kp ea e16 (by omega)
  have e21 := nw ea hz (by omega)
  replace hd := kd ea hd
  replace hz := kz ea hz
  clear e18
  clear e20
  clear ea
  refine b_op 22 (.bool (spaceL xs == spaceL ys)) rfl rfl rfl hkn (fun W => run_pickT a18 _ _ _ _ _ rfl e16 e21 W) fun a19 ea => ?_
  have e22 := nw ea hz (by omega)
  replace hd := kd ea hd
  replace hz := kz ea hz
  clear e16
  clear e21
  clear ea
  refine b_op 4 (.bool (spaceL xs == spaceL ys)) rfl rfl rfl hkn (fun W => run_asg a19 _ (.tmp 22) _ rfl e22 W) fun a20 ea => ?_
  have e4 := nw ea hz (by omega)
  replace hd := kd ea hd
  replace hz := kz ea hz
  clear e22
  clear ea
  repeat
    first
      | refine b_seq ?_
      | refine b_end ?_
      | refine b_skip ?_
      | refine b_block ?_
      | refine b_loop ?_
      | refine b_inBlock ?_
      | refine b_region rfl ?_
  refine b_ret ?_
  refine b_leave (v := .bool (spaceL xs == spaceL ys)) rfl hd Try.func23 (own_res1 rfl e4 _) (fun W es => events_results_tmp (t := 4) rfl _ _) ?_
  exact hq _ w7 (hc4.trans (hbxs.trans (hbys.trans hb7))) kw7 fun b hb => (agys b (Nat.lt_of_lt_of_le hb (hc4.trans hbxs).size)).trans (agxs b (Nat.lt_of_lt_of_le hb hc4.size))
  refine b_op 15 (.bool true) rfl rfl rfl hkn (fun W => run_mv a11 _ _ _ rfl e7 W) fun a12 ea => ?_
  replace e5 := kp ea e5 (by omega)
  replace e6 := kp ea e6 (by omega)
  have e15 := nw ea hz (by omega)
  replace hd := kd ea hd
  replace hz := kz ea hz
  clear e7
  clear ea
  refine b_op 16 (.bool true) rfl rfl rfl hkn (fun W => run_mv a12 _ _ _ rfl e15 W) fun a13 ea => ?_
  replace e5 := kp ea e5 (by omega)
  replace e6 := kp ea e6 (by omega)
  have e16 := nw ea hz (by omega)
  replace hd := kd ea hd
  replace hz := kz ea hz
  clear e15
  clear ea
  refine b_ldR 19 rfl (wantedY rfl rfl e16) rfl hkn rfl rfl e6 hB hs2 fun a14 ea => ?_
  replace e5 := kp ea e5 (by omega)
  replace e16 := kp ea e16 (by omega)
  have e19 := nw ea hz (by omega)
  replace hd := kd ea hd
  replace hz := kz ea hz
  clear e6
  clear ea
  refine b_ldR 17 rfl (wantedY rfl rfl e16) rfl hkn rfl rfl e5 hA hs1 fun a15 ea => ?_
  replace e16 := kp ea e16 (by omega)
  replace e19 := kp ea e19 (by omega)
  have e17 := nw ea hz (by omega)
  replace hd := kd ea hd
  replace hz := kz ea hz
  clear e5
  clear ea
  refine b_call (vs := #[relOf xs]) rfl (wantedY rfl rfl e16) hkn rfl Try.func37 (by rfl) rfl (by rw [List.map_toArray, List.map_cons, List.map_nil, e17]) ?_
  refine spaceB kw4 h1 h4 fun Wgxs gxs capxs wxs hWgxs hbxs kwxs hrdxs => ?_
  have agxs : ∀ b, b < u4.heap.size → (Sh b || b == Wgxs) = Sh b := fun b hb => by have hne : (b == Wgxs) = false := (beq_eq_false_iff_ne.2 (by omega)); rw [hne, Bool.or_false]
  refine b_back rfl rfl fun a16 ea => ?_
  replace e16 := kp ea e16 (by omega)
  replace e19 := kp ea e19 (by omega)
  have e18 := nw ea hz (by omega)
  replace hd := kd ea hd
  replace hz := kz ea hz
  clear e17
  clear ea
  refine b_call (vs := #[relOf ys]) rfl (wantedY rfl rfl e16) hkn rfl Try.func37 (by rfl) rfl (by rw [List.map_toArray, List.map_cons, List.map_nil, e19]) ?_
  refine spaceB kwxs k1 k4 fun Wgys gys capys wys hWgys hbys kwys hrdys => ?_
  have agys : ∀ b, b < wxs.heap.size → ((Sh b || b == Wgxs) || b == Wgys) = (Sh b || b == Wgxs) := fun b hb => by have hne : (b == Wgys) = false := (beq_eq_false_iff_ne.2 (by omega)); rw [hne, Bool.or_false]
  refine b_back rfl rfl fun a17 ea => ?_
  replace e16 := kp ea e16 (by omega)
  replace e18 := kp ea e18 (by omega)
  have e20 := nw ea hz (by omega)
  replace hd := kd ea hd
  replace hz := kz ea hz
  clear e19
  clear ea
  refine b_call (vs := #[.slice (some ⟨gxs, 0, none⟩) (spaceL xs).length capxs, .slice (some ⟨gys, 0, none⟩) (spaceL ys).length capys]) rfl (wantedY rfl rfl e16) hkn rfl Try.func46 (by rfl) rfl (by rw [List.map_toArray, List.map_cons, List.map_cons, List.map_nil, e18, e20]) ?_
  have hrdx := hrdxs.bc hbys agys
  refine bk_spEqual kwys slx sly hrdx hrdys fun w7 hb7 kw7 => ?_
  refine b_back rfl rfl fun a18 ea => ?_
  replace e16 := kp ea e16 (by omega)
  have e21 := nw ea hz (by omega)
  replace hd := kd ea hd
  replace hz := kz ea hz
  clear e18
  clear e20
  clear ea
  refine b_op 22 (.bool (spaceL xs == spaceL ys)) rfl rfl rfl hkn (fun W => run_pickT a18 _ _ _ _ _ rfl e16 e21 W) fun a19 ea => ?_
  have e22 := nw ea hz (by omega)
  replace hd := kd ea hd
  replace hz := kz ea hz
  clear e16
  clear e21
  clear ea
  refine b_op 4 (.bool (spaceL xs == spaceL ys)) rfl rfl rfl hkn (fun W => run_asg a19 _ (.tmp 22) _ rfl e22 W) fun a20 ea => ?_
  have e4 := nw ea hz (by omega)
  replace hd := kd ea hd
  replace hz := kz ea hz
  clear e22
  clear ea
  repeat
    first
      | refine b_seq ?_
      | refine b_end ?_
      | refine b_skip ?_
      | refine b_block ?_
      | refine b_loop ?_
      | refine b_inBlock ?_
      | refine b_region rfl ?_
  refine b_ret ?_
  refine b_leave (v := .bool (spaceL xs == spaceL ys)) rfl hd Try.func23 (own_res1 rfl e4 _) (fun W es => events_results_tmp (t := 4) rfl _ _) ?_
  exact hq _ w7 (hc4.trans (hbxs.trans (hbys.trans hb7))) kw7 fun b hb => (agys b (Nat.lt_of_lt_of_le hb (hc4.trans hbxs).size)).trans (agxs b (Nat.lt_of_lt_of_le hb hc4.size))

theorem spaceSameB (kw : KW Try.prog link.tWg Sh w) (hl : xs.length ≤ 1048576) (hl2 : ys.length ≤ 1048576) (hx : RdB Sh w ao xs) (hy : RdB Sh w bo ys)
    (hq : ∀ Sh' w', BelowC w w' → KW Try.prog link.tWg Sh' w' → (∀ b, b < w.heap.size → Sh' b = Sh b) → WB Try.prog Q Sh' ⟨c0.finish (.bool (ssB xs ys)), cs, .running, none, none⟩ w') :
    WB Try.prog Q Sh (gor (Frame.enter Try.prog 23 #[.slice ao xs.length ca, .slice bo ys.length cb] .normal) [] (c0 :: cs)) w := by
  cases hr : twoIn xs ys with
  | false => exact spaceSame_no hr kw hl hl2 hx hy hq
  | true => exact spaceSame_yes hr kw hl hl2 hx hy hq

set_option maxHeartbeats 4000000 in
theorem exSpaceSame (kw : KW Try.prog link.tWg Sh w) (hl : xs.length ≤ 1048576) (hl2 : ys.length ≤ 1048576) (hx : RdB Sh w ao xs) (hy : RdB Sh w bo ys) (hp : ∀ w', BelowC w w' → ∀ τ d, Post (.bool true) (w'.on τ d)) :
    WB Try.prog (EndQ Try.prog Post) Sh (G (Frame.enter Try.prog 6 #[.slice ao xs.length ca, .slice bo ys.length cb] .normal) []) w := by
  have bc := BelowC.refl w
  have hkn : (base 6).kind ≠ .early := base_kind _
  have same : ∀ {a : Act}, a.tmps.size = 40 → ∀ {d : Nat}, d < 40 → ∀ v, (a.put (some d) v).eval (.tmp d) = v := fun h _ hd v => eval_put_same (by rw [h]; exact hd)
  rw [enter_at _ Try.func6 rfl]
  obtain ⟨a0, ha0, hz, hd, he⟩ := enter_acts 38 (#[.slice ao xs.length ca, .slice bo ys.length cb] : Array Value)
  have hm : Try.f6.ntmps - (#[.slice ao xs.length ca, .slice bo ys.length cb] : Array Value).size = 38 := by rw [Try.ntmps6]; rfl
  rw [hm]
  show WB Try.prog _ _ (G ((base 6).at _ [.code _]) _) _
  rw [← ha0]
  replace hz : a0.tmps.size = 40 := hz
  have e0 : a0.eval (.tmp 0) = .slice ao xs.length ca := he 0 _ rfl
  have e1 : a0.eval (.tmp 1) = .slice bo ys.length cb := he 1 _ rfl
  clear ha0 hm he
  repeat
    first
      | refine b_seq ?_
      | refine b_end ?_
      | refine b_skip ?_
      | refine b_block ?_
      | refine b_loop ?_
      | refine b_inBlock ?_
      | refine b_region rfl ?_
  refine b_op 4 (.bool false) rfl rfl rfl hkn (fun W => run_asg a0 _ (.const (.bool false)) (.bool false) rfl rfl W) fun a1 ea => ?_
  replace e0 := kp ea e0 (by omega)
  replace e1 := kp ea e1 (by omega)
  replace hd := kd ea hd
  replace hz := kz ea hz
  clear ea
  repeat
    first
      | refine b_seq ?_
      | refine b_end ?_
      | refine b_skip ?_
      | refine b_block ?_
      | refine b_loop ?_
      | refine b_inBlock ?_
      | refine b_region rfl ?_
  refine b_op 9 (.slice ao xs.length ca) rfl rfl rfl hkn (fun W => run_mv a1 _ _ _ rfl e0 W) fun a2 ea => ?_
  replace e0 := kp ea e0 (by omega)
  replace e1 := kp ea e1 (by omega)
  have e9 := nw ea hz (by omega)
  replace hd := kd ea hd
  replace hz := kz ea hz
  clear ea
  refine b_op 10 (.int .i64 xs.length) rfl rfl rfl hkn (fun W => run_lenI a2 _ 9 _ _ _ _ rfl rfl e9 W) fun a3 ea => ?_
  replace e0 := kp ea e0 (by omega)
  replace e1 := kp ea e1 (by omega)
  have e10 := nw ea hz (by omega)
  replace hd := kd ea hd
  replace hz := kz ea hz
  clear e9
  clear ea
  refine b_op 11 (.bool false) rfl rfl rfl hkn (fun W => run_gt0 a3 _ (.tmp 10) (.const (.int .i64 1048576)) _ _ _ _ false (by simp; omega) rfl e10 rfl W) fun a4 ea => ?_
  replace e0 := kp ea e0 (by omega)
  replace e1 := kp ea e1 (by omega)
  have e11 := nw ea hz (by omega)
  replace hd := kd ea hd
  replace hz := kz ea hz
  clear e10
  clear ea
  repeat
    first
      | refine b_seq ?_
      | refine b_end ?_
      | refine b_skip ?_
      | refine b_block ?_
      | refine b_loop ?_
      | refine b_inBlock ?_
      | refine b_region rfl ?_
  refine b_false e11 ?_
  repeat
    first
      | refine b_seq ?_
      | refine b_end ?_
      | refine b_skip ?_
      | refine b_block ?_
      | refine b_loop ?_
      | refine b_inBlock ?_
      | refine b_region rfl ?_
  refine b_op 12 (.slice bo ys.length cb) rfl rfl rfl hkn (fun W => run_mv a4 _ _ _ rfl e1 W) fun a5 ea => ?_
  replace e0 := kp ea e0 (by omega)
  replace e1 := kp ea e1 (by omega)
  have e12 := nw ea hz (by omega)
  replace hd := kd ea hd
  replace hz := kz ea hz
  clear e11
  clear ea
  refine b_op 13 (.int .i64 ys.length) rfl rfl rfl hkn (fun W => run_lenI a5 _ 12 _ _ _ _ rfl rfl e12 W) fun a6 ea => ?_
  replace e0 := kp ea e0 (by omega)
  replace e1 := kp ea e1 (by omega)
  have e13 := nw ea hz (by omega)
  replace hd := kd ea hd
  replace hz := kz ea hz
  clear e12
  clear ea
  refine b_op 14 (.bool false) rfl rfl rfl hkn (fun W => run_gt0 a6 _ (.tmp 13) (.const (.int .i64 1048576)) _ _ _ _ false (by simp; omega) rfl e13 rfl W) fun a7 ea => ?_
  replace e0 := kp ea e0 (by omega)
  replace e1 := kp ea e1 (by omega)
  have e14 := nw ea hz (by omega)
  replace hd := kd ea hd
  replace hz := kz ea hz
  clear e13
  clear ea
  repeat
    first
      | refine b_seq ?_
      | refine b_end ?_
      | refine b_skip ?_
      | refine b_block ?_
      | refine b_loop ?_
      | refine b_inBlock ?_
      | refine b_region rfl ?_
  refine b_false e14 ?_
  repeat
    first
      | refine b_seq ?_
      | refine b_end ?_
      | refine b_skip ?_
      | refine b_block ?_
      | refine b_loop ?_
      | refine b_inBlock ?_
      | refine b_region rfl ?_
  refine b_op 15 (.slice ao xs.length ca) rfl rfl rfl hkn (fun W => run_mv a7 _ _ _ rfl e0 W) fun a8 ea => ?_
  replace e0 := kp ea e0 (by omega)
  replace e1 := kp ea e1 (by omega)
  have e15 := nw ea hz (by omega)
  replace hd := kd ea hd
  replace hz := kz ea hz
  clear e14
  clear ea
  refine b_call (vs := #[.slice ao xs.length ca]) rfl rfl hkn rfl Try.func13 (by rfl) rfl (by rw [List.map_toArray, List.map_cons, List.map_nil, e15]) ?_
  refine bk_toIntS kw hl hx fun w1 row1 hb1 kw1 => ?_
  clear kw
  have kw := kw1
  replace hx := hx.bc hb1 (fun _ _ => rfl)
  replace hy := hy.bc hb1 (fun _ _ => rfl)
  replace bc := bc.trans hb1
  have rd1 := row1.rd
  refine b_back rfl rfl fun a9 ea => ?_
  replace e0 := kp ea e0 (by omega)
  replace e1 := kp ea e1 (by omega)
  have e16 := nw ea hz (by omega)
  replace hd := kd ea hd
  replace hz := kz ea hz
  clear e15
  clear ea
  refine b_op 17 (.slice bo ys.length cb) rfl rfl rfl hkn (fun W => run_mv a9 _ _ _ rfl e1 W) fun a10 ea => ?_
  replace e0 := kp ea e0 (by omega)
  replace e1 := kp ea e1 (by omega)
  replace e16 := kp ea e16 (by omega)
  have e17 := nw ea hz (by omega)
  replace hd := kd ea hd
  replace hz := kz ea hz
  clear ea
  refine b_call (vs := #[.slice bo ys.length cb]) rfl rfl hkn rfl Try.func13 (by rfl) rfl (by rw [List.map_toArray, List.map_cons, List.map_nil, e17]) ?_
  refine bk_toIntS kw hl2 hy fun w2 row2 hb2 kw2 => ?_
  clear kw
  have kw := kw2
  replace hx := hx.bc hb2 (fun _ _ => rfl)
  replace hy := hy.bc hb2 (fun _ _ => rfl)
  replace rd1 := rd1.bc hb2 (fun _ _ => rfl)
  replace bc := bc.trans hb2
  have rd2 := row2.rd
  refine b_back rfl rfl fun a11 ea => ?_
  replace e0 := kp ea e0 (by omega)
  replace e1 := kp ea e1 (by omega)
  replace e16 := kp ea e16 (by omega)
  have e18 := nw ea hz (by omega)
  replace hd := kd ea hd
  replace hz := kz ea hz
  clear e17
  clear ea
  refine b_call (vs := #[.slice (some ⟨w.heap.size, 0, none⟩) xs.length xs.length, .slice (some ⟨w1.heap.size, 0, none⟩) ys.length ys.length]) rfl rfl hkn rfl Try.func22 (by rfl) rfl (by rw [List.map_toArray, List.map_cons, List.map_cons, List.map_nil, e16, e18]) ?_
  refine bk_specSpaceSame kw hl hl2 rd1 rd2 fun w3 hb3 kw3 => ?_
  clear kw
  have kw := kw3
  replace hx := hx.bc hb3 (fun _ _ => rfl)
  replace hy := hy.bc hb3 (fun _ _ => rfl)
  replace rd1 := rd1.bc hb3 (fun _ _ => rfl)
  replace rd2 := rd2.bc hb3 (fun _ _ => rfl)
  replace bc := bc.trans hb3
  refine b_back rfl rfl fun a12 ea => ?_
  replace e0 := kp ea e0 (by omega)
  replace e1 := kp ea e1 (by omega)
  have e19 := nw ea hz (by omega)
  replace hd := kd ea hd
  replace hz := kz ea hz
  clear e16
  clear e18
  clear ea
  refine b_op 5 (.bool (ssB xs ys)) rfl rfl rfl hkn (fun W => run_asg a12 _ (.tmp 19) _ rfl e19 W) fun a13 ea => ?_
  replace e0 := kp ea e0 (by omega)
  replace e1 := kp ea e1 (by omega)
  have e5 := nw ea hz (by omega)
  replace hd := kd ea hd
  replace hz := kz ea hz
  clear e19
  clear ea
  repeat
    first
      | refine b_seq ?_
      | refine b_end ?_
      | refine b_skip ?_
      | refine b_block ?_
      | refine b_loop ?_
      | refine b_inBlock ?_
      | refine b_region rfl ?_
  refine b_op 20 (.slice ao xs.length ca) rfl rfl rfl hkn (fun W => run_mv a13 _ _ _ rfl e0 W) fun a14 ea => ?_
  replace e0 := kp ea e0 (by omega)
  replace e1 := kp ea e1 (by omega)
  replace e5 := kp ea e5 (by omega)
  have e20 := nw ea hz (by omega)
  replace hd := kd ea hd
  replace hz := kz ea hz
  clear ea
  refine b_call (vs := #[.slice ao xs.length ca]) rfl rfl hkn rfl Try.func13 (by rfl) rfl (by rw [List.map_toArray, List.map_cons, List.map_nil, e20]) ?_
  refine bk_toIntS kw hl hx fun w4 row4 hb4 kw4 => ?_
  clear kw
  have kw := kw4
  replace hx := hx.bc hb4 (fun _ _ => rfl)
  replace hy := hy.bc hb4 (fun _ _ => rfl)
  replace rd1 := rd1.bc hb4 (fun _ _ => rfl)
  replace rd2 := rd2.bc hb4 (fun _ _ => rfl)
  replace bc := bc.trans hb4
  have rd4 := row4.rd
  refine b_back rfl rfl fun a15 ea => ?_
  replace e0 := kp ea e0 (by omega)
  replace e1 := kp ea e1 (by omega)
  replace e5 := kp ea e5 (by omega)
  have e21 := nw ea hz (by omega)
  replace hd := kd ea hd
  replace hz := kz ea hz
  clear e20
  clear ea
  refine b_op 6 (.slice (some ⟨w3.heap.size, 0, none⟩) xs.length xs.length) rfl rfl rfl hkn (fun W => run_asg a15 _ (.tmp 21) _ rfl e21 W) fun a16 ea => ?_
  replace e0 := kp ea e0 (by omega)
  replace e1 := kp ea e1 (by omega)
  replace e5 := kp ea e5 (by omega)
  have e6 := nw ea hz (by omega)
  replace hd := kd ea hd
  replace hz := kz ea hz
  clear e21
  clear ea
  repeat
    first
      | refine b_seq ?_
      | refine b_end ?_
      | refine b_skip ?_
      | refine b_block ?_
      | refine b_loop ?_
      | refine b_inBlock ?_
      | refine b_region rfl ?_
  refine b_op 22 (.slice bo ys.length cb) rfl rfl rfl hkn (fun W => run_mv a16 _ _ _ rfl e1 W) fun a17 ea => ?_
  replace e0 := kp ea e0 (by omega)
  replace e1 := kp ea e1 (by omega)
  replace e5 := kp ea e5 (by omega)
  replace e6 := kp ea e6 (by omega)
  have e22 := nw ea hz (by omega)
  replace hd := kd ea hd
  replace hz := kz ea hz
  clear ea
  refine b_call (vs := #[.slice bo ys.length cb]) rfl rfl hkn rfl Try.func13 (by rfl) rfl (by rw [List.map_toArray, List.map_cons, List.map_nil, e22]) ?_
  refine bk_toIntS kw hl2 hy fun w5 row5 hb5 kw5 => ?_
  clear kw
  have kw := kw5
  replace hx := hx.bc hb5 (fun _ _ => rfl)
  replace hy := hy.bc hb5 (fun _ _ => rfl)
  replace rd1 := rd1.bc hb5 (fun _ _ => rfl)
  replace rd2 := rd2.bc hb5 (fun _ _ => rfl)
  replace rd4 := rd4.bc hb5 (fun _ _ => rfl)
  replace bc := bc.trans hb5
  have rd5 := row5.rd
  refine b_back rfl rfl fun a18 ea => ?_
  replace e0 := kp ea e0 (by omega)
  replace e1 := kp ea e1 (by omega)
  replace e5 := kp ea e5 (by omega)
  replace e6 := kp ea e6 (by omega)
  have e23 := nw ea hz (by omega)
  replace hd := kd ea hd
  replace hz := kz ea hz
  clear e22
  clear ea
  refine b_op 7 (.slice (some ⟨w4.heap.size, 0, none⟩) ys.length ys.length) rfl rfl rfl hkn (fun W => run_asg a18 _ (.tmp 23) _ rfl e23 W) fun a19 ea => ?_
  replace e0 := kp ea e0 (by omega)
  replace e1 := kp ea e1 (by omega)
  replace e5 := kp ea e5 (by omega)
  replace e6 := kp ea e6 (by omega)
  have e7 := nw ea hz (by omega)
  replace hd := kd ea hd
  replace hz := kz ea hz
  clear e23
  clear ea
  repeat
    first
      | refine b_seq ?_
      | refine b_end ?_
      | refine b_skip ?_
      | refine b_block ?_
      | refine b_loop ?_
      | refine b_inBlock ?_
      | refine b_region rfl ?_
  refine b_op 24 (.slice (some ⟨w3.heap.size, 0, none⟩) xs.length xs.length) rfl rfl rfl hkn (fun W => run_mv a19 _ _ _ rfl e6 W) fun a20 ea => ?_
  replace e0 := kp ea e0 (by omega)
  replace e1 := kp ea e1 (by omega)
  replace e5 := kp ea e5 (by omega)
  replace e6 := kp ea e6 (by omega)
  replace e7 := kp ea e7 (by omega)
  have e24 := nw ea hz (by omega)
  replace hd := kd ea hd
  replace hz := kz ea hz
  clear ea
  refine b_op 25 (.slice (some ⟨w4.heap.size, 0, none⟩) ys.length ys.length) rfl rfl rfl hkn (fun W => run_mv a20 _ _ _ rfl e7 W) fun a21 ea => ?_
  replace e0 := kp ea e0 (by omega)
  replace e1 := kp ea e1 (by omega)
  replace e5 := kp ea e5 (by omega)
  replace e6 := kp ea e6 (by omega)
  replace e7 := kp ea e7 (by omega)
  replace e24 := kp ea e24 (by omega)
  have e25 := nw ea hz (by omega)
  replace hd := kd ea hd
  replace hz := kz ea hz
  clear ea
  refine b_call (vs := #[.slice (some ⟨w3.heap.size, 0, none⟩) xs.length xs.length, .slice (some ⟨w4.heap.size, 0, none⟩) ys.length ys.length]) rfl rfl hkn rfl Try.func23 (by rfl) rfl (by rw [List.map_toArray, List.map_cons, List.map_cons, List.map_nil, e24, e25]) ?_
  refine spaceSameB kw hl hl2 rd4 rd5 fun Sh6 w6 hb6 kw6 ag6 => ?_
  clear kw
  have kw := kw6
  replace hx := hx.bc hb6 ag6
  replace hy := hy.bc hb6 ag6
  replace rd1 := rd1.bc hb6 ag6
  replace rd2 := rd2.bc hb6 ag6
  replace rd4 := rd4.bc hb6 ag6
  replace rd5 := rd5.bc hb6 ag6
  replace bc := bc.trans hb6
  refine b_back rfl rfl fun a22 ea => ?_
  replace e0 := kp ea e0 (by omega)
  replace e1 := kp ea e1 (by omega)
  replace e5 := kp ea e5 (by omega)
  replace e6 := kp ea e6 (by omega)
  replace e7 := kp ea e7 (by omega)
  have e26 := nw ea hz (by omega)
  replace hd := kd ea hd
  replace hz := kz ea hz
  clear e24
  clear e25
  clear ea
  refine b_op 8 (.bool (ssB xs ys)) rfl rfl rfl hkn (fun W => run_asg a22 _ (.tmp 26) _ rfl e26 W) fun a23 ea => ?_
  replace e0 := kp ea e0 (by omega)
  replace e1 := kp ea e1 (by omega)
  replace e5 := kp ea e5 (by omega)
  replace e6 := kp ea e6 (by omega)
  replace e7 := kp ea e7 (by omega)
  have e8 := nw ea hz (by omega)
  replace hd := kd ea hd
  replace hz := kz ea hz
  clear e26
  clear ea
  repeat
    first
      | refine b_seq ?_
      | refine b_end ?_
      | refine b_skip ?_
      | refine b_block ?_
      | refine b_loop ?_
      | refine b_inBlock ?_
      | refine b_region rfl ?_
  refine b_op 27 (.bool (ssB xs ys)) rfl rfl rfl hkn (fun W => run_mv a23 _ _ _ rfl e8 W) fun a24 ea => ?_
  replace e0 := kp ea e0 (by omega)
  replace e1 := kp ea e1 (by omega)
  replace e5 := kp ea e5 (by omega)
  replace e6 := kp ea e6 (by omega)
  replace e7 := kp ea e7 (by omega)
  have e27 := nw ea hz (by omega)
  replace hd := kd ea hd
  replace hz := kz ea hz
  clear e8
  clear ea
  refine b_op 28 (.bool (ssB xs ys)) rfl rfl rfl hkn (fun W => run_mv a24 _ _ _ rfl e5 W) fun a25 ea => ?_
  replace e0 := kp ea e0 (by omega)
  replace e1 := kp ea e1 (by omega)
  replace e6 := kp ea e6 (by omega)
  replace e7 := kp ea e7 (by omega)
  replace e27 := kp ea e27 (by omega)
  have e28 := nw ea hz (by omega)
  replace hd := kd ea hd
  replace hz := kz ea hz
  clear e5
  clear ea
  refine b_op 29 (.bool false) rfl rfl rfl hkn (fun W => run_neqB0 a25 _ 27 28 _ _ false _ _ (by simp) rfl rfl e27 e28 W) fun a26 ea => ?_
  replace e0 := kp ea e0 (by omega)
  replace e1 := kp ea e1 (by omega)
  replace e6 := kp ea e6 (by omega)
  replace e7 := kp ea e7 (by omega)
  have e29 := nw ea hz (by omega)
  replace hd := kd ea hd
  replace hz := kz ea hz
  clear e27
  clear e28
  clear ea
  repeat
    first
      | refine b_seq ?_
      | refine b_end ?_
      | refine b_skip ?_
      | refine b_block ?_
      | refine b_loop ?_
      | refine b_inBlock ?_
      | refine b_region rfl ?_
  refine b_false e29 ?_
  repeat
    first
      | refine b_seq ?_
      | refine b_end ?_
      | refine b_skip ?_
      | refine b_block ?_
      | refine b_loop ?_
      | refine b_inBlock ?_
      | refine b_region rfl ?_
  refine b_op 30 (.slice (some ⟨w3.heap.size, 0, none⟩) xs.length xs.length) rfl rfl rfl hkn (fun W => run_mv a26 _ _ _ rfl e6 W) fun a27 ea => ?_
  replace e0 := kp ea e0 (by omega)
  replace e1 := kp ea e1 (by omega)
  replace e7 := kp ea e7 (by omega)
  have e30 := nw ea hz (by omega)
  replace hd := kd ea hd
  replace hz := kz ea hz
  clear e6
  clear e29
  clear ea
  refine b_op 31 (.slice ao xs.length ca) rfl rfl rfl hkn (fun W => run_mv a27 _ _ _ rfl e0 W) fun a28 ea => ?_
  replace e1 := kp ea e1 (by omega)
  replace e7 := kp ea e7 (by omega)
  replace e30 := kp ea e30 (by omega)
  have e31 := nw ea hz (by omega)
  replace hd := kd ea hd
  replace hz := kz ea hz
  clear e0
  clear ea
  refine b_call (vs := #[.slice ao xs.length ca]) rfl rfl hkn rfl Try.func13 (by rfl) rfl (by rw [List.map_toArray, List.map_cons, List.map_nil, e31]) ?_
  refine bk_toIntS kw hl hx fun w7 row7 hb7 kw7 => ?_
  clear kw
  have kw := kw7
  replace hx := hx.bc hb7 (fun _ _ => rfl)
  replace hy := hy.bc hb7 (fun _ _ => rfl)
  replace rd1 := rd1.bc hb7 (fun _ _ => rfl)
  replace rd2 := rd2.bc hb7 (fun _ _ => rfl)
  replace rd4 := rd4.bc hb7 (fun _ _ => rfl)
  replace rd5 := rd5.bc hb7 (fun _ _ => rfl)
  replace bc := bc.trans hb7
  have rd7 := row7.rd
  refine b_back rfl rfl fun a29 ea => ?_
  replace e1 := kp ea e1 (by omega)
  replace e7 := kp ea e7 (by omega)
  replace e30 := kp ea e30 (by omega)
  have e32 := nw ea hz (by omega)
  replace hd := kd ea hd
  replace hz := kz ea hz
  clear e31
  clear ea
  refine b_call (vs := #[.slice (some ⟨w3.heap.size, 0, none⟩) xs.length xs.length, .slice (some ⟨w6.heap.size, 0, none⟩) xs.length xs.length]) rfl rfl hkn rfl Try.func15 (by rfl) rfl (by rw [List.map_toArray, List.map_cons, List.map_cons, List.map_nil, e30, e32]) ?_
  refine bk_eqIntS_same kw hl rd4 rd7 fun w8 hb8 kw8 => ?_
  clear kw
  have kw := kw8
  replace hx := hx.bc hb8 (fun _ _ => rfl)
  replace hy := hy.bc hb8 (fun _ _ => rfl)
  replace rd1 := rd1.bc hb8 (fun _ _ => rfl)
  replace rd2 := rd2.bc hb8 (fun _ _ => rfl)
  replace rd4 := rd4.bc hb8 (fun _ _ => rfl)
  replace rd5 := rd5.bc hb8 (fun _ _ => rfl)
  replace rd7 := rd7.bc hb8 (fun _ _ => rfl)
  replace bc := bc.trans hb8
  refine b_back rfl rfl fun a30 ea => ?_
  replace e1 := kp ea e1 (by omega)
  replace e7 := kp ea e7 (by omega)
  have e33 := nw ea hz (by omega)
  replace hd := kd ea hd
  replace hz := kz ea hz
  clear e30
  clear e32
  clear ea
  refine b_op 34 (.bool false) rfl rfl rfl hkn (fun W => run_not a30 _ 33 true _ rfl e33 W) fun a31 ea => ?_
  replace e1 := kp ea e1 (by omega)
  replace e7 := kp ea e7 (by omega)
  have e34 := nw ea hz (by omega)
  replace hd := kd ea hd
  replace hz := kz ea hz
  clear e33
  clear ea
  repeat
    first
      | refine b_seq ?_
      | refine b_end ?_
      | refine b_skip ?_
      | refine b_block ?_
      | refine b_loop ?_
      | refine b_inBlock ?_
      | refine b_region rfl ?_
  refine b_false e34 ?_
  repeat
    first
      | refine b_seq ?_
      | refine b_end ?_
      | refine b_skip ?_
      | refine b_block ?_
      | refine b_loop ?_
      | refine b_inBlock ?_
      | refine b_region rfl ?_
  refine b_op 35 (.slice (some ⟨w4.heap.size, 0, none⟩) ys.length ys.length) rfl rfl rfl hkn (fun W => run_mv a31 _ _ _ rfl e7 W) fun a32 ea => ?_
  replace e1 := kp ea e1 (by omega)
  have e35 := nw ea hz (by omega)
  replace hd := kd ea hd
  replace hz := kz ea hz
  clear e7
  clear e34
  clear ea
  refine b_op 36 (.slice bo ys.length cb) rfl rfl rfl hkn (fun W => run_mv a32 _ _ _ rfl e1 W) fun a33 ea => ?_
  replace e35 := kp ea e35 (by omega)
  have e36 := nw ea hz (by omega)
  replace hd := kd ea hd
  replace hz := kz ea hz
  clear e1
  clear ea
  refine b_call (vs := #[.slice bo ys.length cb]) rfl rfl hkn rfl Try.func13 (by rfl) rfl (by rw [List.map_toArray, List.map_cons, List.map_nil, e36]) ?_
  refine bk_toIntS kw hl2 hy fun w9 row9 hb9 kw9 => ?_
  clear kw
  have kw := kw9
  replace hx := hx.bc hb9 (fun _ _ => rfl)
  replace hy := hy.bc hb9 (fun _ _ => rfl)
  replace rd1 := rd1.bc hb9 (fun _ _ => rfl)
  replace rd2 := rd2.bc hb9 (fun _ _ => rfl)
  replace rd4 := rd4.bc hb9 (fun _ _ => rfl)
  replace rd5 := rd5.bc hb9 (fun _ _ => rfl)
  replace rd7 := rd7.bc hb9 (fun _ _ => rfl)
  replace bc := bc.trans hb9
  have rd9 := row9.rd
  refine b_back rfl rfl fun a34 ea => ?_
  replace e35 := kp ea e35 (by omega)
  have e37 := nw ea hz (by omega)
  replace hd := kd ea hd
  replace hz := kz ea hz
  clear e36
  clear ea
  refine b_call (vs := #[.slice (some ⟨w4.heap.size, 0, none⟩) ys.length ys.length, .slice (some ⟨w8.heap.size, 0, none⟩) ys.length ys.length]) rfl rfl hkn rfl Try.func15 (by rfl) rfl (by rw [List.map_toArray, List.map_cons, List.map_cons, List.map_nil, e35, e37]) ?_
  refine bk_eqIntS_same kw hl2 rd5 rd9 fun w10 hb10 kw10 => ?_
  clear kw
  have kw := kw10
  replace hx := hx.bc hb10 (fun _ _ => rfl)
  replace hy := hy.bc hb10 (fun _ _ => rfl)
  replace rd1 := rd1.bc hb10 (fun _ _ => rfl)
  replace rd2 := rd2.bc hb10 (fun _ _ => rfl)
  replace rd4 := rd4.bc hb10 (fun _ _ => rfl)
  replace rd5 := rd5.bc hb10 (fun _ _ => rfl)
  replace rd7 := rd7.bc hb10 (fun _ _ => rfl)
  replace rd9 := rd9.bc hb10 (fun _ _ => rfl)
  replace bc := bc.trans hb10
  refine b_back rfl rfl fun a35 ea => ?_
  have e38 := nw ea hz (by omega)
  replace hd := kd ea hd
  replace hz := kz ea hz
  clear e35
  clear e37
  clear ea
  refine b_op 39 (.bool false) rfl rfl rfl hkn (fun W => run_not a35 _ 38 true _ rfl e38 W) fun a36 ea => ?_
  have e39 := nw ea hz (by omega)
  replace hd := kd ea hd
  replace hz := kz ea hz
  clear e38
  clear ea
  repeat
    first
      | refine b_seq ?_
      | refine b_end ?_
      | refine b_skip ?_
      | refine b_block ?_
      | refine b_loop ?_
      | refine b_inBlock ?_
      | refine b_region rfl ?_
  refine b_false e39 ?_
  repeat
    first
      | refine b_seq ?_
      | refine b_end ?_
      | refine b_skip ?_
      | refine b_block ?_
      | refine b_loop ?_
      | refine b_inBlock ?_
      | refine b_region rfl ?_
  refine b_op 4 (.bool true) rfl rfl rfl hkn (fun W => run_asg a36 _ (.const (.bool true)) (.bool true) rfl rfl W) fun a37 ea => ?_
  have e4 := nw ea hz (by omega)
  replace hd := kd ea hd
  replace hz := kz ea hz
  clear e39
  clear ea
  repeat
    first
      | refine b_seq ?_
      | refine b_end ?_
      | refine b_skip ?_
      | refine b_block ?_
      | refine b_loop ?_
      | refine b_inBlock ?_
      | refine b_region rfl ?_
  refine b_ret ?_
  refine b_finish rfl (by kernel_rfl) hd Try.func6 (own_res1 rfl e4 _) (fun W es => events_results_tmp (t := 4) rfl _ _) ?_
  exact hp _ bc

theorem exSpaceSame_long (n m : Nat) (hl : ¬ n ≤ 1048576) (hp : ∀ τ d, Post (.bool true) (w.on τ d)) :
    WB Try.prog (EndQ Try.prog Post) Sh (G (Frame.enter Try.prog 6 #[.slice ao n ca, .slice bo m cb] .normal) []) w := by
  have hkn : (base 6).kind ≠ .early := base_kind _
  have same : ∀ {a : Act}, a.tmps.size = 40 → ∀ {d : Nat}, d < 40 → ∀ v, (a.put (some d) v).eval (.tmp d) = v := fun h _ hd v => eval_put_same (by rw [h]; exact hd)
  rw [enter_at _ Try.func6 rfl]
  obtain ⟨a0, ha0, hz, hd, he⟩ := enter_acts 38 (#[.slice ao n ca, .slice bo m cb] : Array Value)
  have hm : Try.f6.ntmps - (#[.slice ao n ca, .slice bo m cb] : Array Value).size = 38 := by rw [Try.ntmps6]; rfl
  rw [hm]
  show WB Try.prog _ _ (G ((base 6).at _ [.code _]) _) _
  rw [← ha0]
  replace hz : a0.tmps.size = 40 := hz
  have e0 : a0.eval (.tmp 0) = .slice ao n ca := he 0 _ rfl
  have e1 : a0.eval (.tmp 1) = .slice bo m cb := he 1 _ rfl
  clear ha0 hm he
  repeat
    first
      | refine b_seq ?_
      | refine b_end ?_
      | refine b_skip ?_
      | refine b_block ?_
      | refine b_loop ?_
      | refine b_inBlock ?_
      | refine b_region rfl ?_
  refine b_op 4 (.bool false) rfl rfl rfl hkn (fun W => run_asg a0 _ (.const (.bool false)) (.bool false) rfl rfl W) fun a1 ea => ?_
  replace e0 := kp ea e0 (by omega)
  replace hd := kd ea hd
  replace hz := kz ea hz
  clear e1
  clear ea
  repeat
    first
      | refine b_seq ?_
      | refine b_end ?_
      | refine b_skip ?_
      | refine b_block ?_
      | refine b_loop ?_
      | refine b_inBlock ?_
      | refine b_region rfl ?_
  refine b_op 9 (.slice ao n ca) rfl rfl rfl hkn (fun W => run_mv a1 _ _ _ rfl e0 W) fun a2 ea => ?_
  have e9 := nw ea hz (by omega)
  replace hd := kd ea hd
  replace hz := kz ea hz
  clear e0
  clear ea
  refine b_op 10 (.int .i64 n) rfl rfl rfl hkn (fun W => run_lenI a2 _ 9 _ _ _ _ rfl rfl e9 W) fun a3 ea => ?_
  have e10 := nw ea hz (by omega)
  replace hd := kd ea hd
  replace hz := kz ea hz
  clear e9
  clear ea
  refine b_op 11 (.bool true) rfl rfl rfl hkn (fun W => run_gt0 a3 _ (.tmp 10) (.const (.int .i64 1048576)) _ _ _ _ true (by simp; omega) rfl e10 rfl W) fun a4 ea => ?_
  have e11 := nw ea hz (by omega)
  replace hd := kd ea hd
  replace hz := kz ea hz
  clear e10
  clear ea
  repeat
    first
      | refine b_seq ?_
      | refine b_end ?_
      | refine b_skip ?_
      | refine b_block ?_
      | refine b_loop ?_
      | refine b_inBlock ?_
      | refine b_region rfl ?_
  refine b_true e11 ?_
  repeat
    first
      | refine b_seq ?_
      | refine b_end ?_
      | refine b_skip ?_
      | refine b_block ?_
      | refine b_loop ?_
      | refine b_inBlock ?_
      | refine b_region rfl ?_
  refine b_op 4 (.bool true) rfl rfl rfl hkn (fun W => run_asg a4 _ (.const (.bool true)) (.bool true) rfl rfl W) fun a5 ea => ?_
  have e4 := nw ea hz (by omega)
  replace hd := kd ea hd
  replace hz := kz ea hz
  clear e11
  clear ea
  repeat
    first
      | refine b_seq ?_
      | refine b_end ?_
      | refine b_skip ?_
      | refine b_block ?_
      | refine b_loop ?_
      | refine b_inBlock ?_
      | refine b_region rfl ?_
  refine b_ret ?_
  refine b_finish rfl (by kernel_rfl) hd Try.func6 (own_res1 rfl e4 _) (fun W es => events_results_tmp (t := 4) rfl _ _) ?_
  exact hp

theorem exSpaceSame_long2 (n m : Nat) (hl : n ≤ 1048576) (hl2 : ¬ m ≤ 1048576) (hp : ∀ τ d, Post (.bool true) (w.on τ d)) :
    WB Try.prog (EndQ Try.prog Post) Sh (G (Frame.enter Try.prog 6 #[.slice ao n ca, .slice bo m cb] .normal) []) w := by
  have hkn : (base 6).kind ≠ .early := base_kind _
  have same : ∀ {a : Act}, a.tmps.size = 40 → ∀ {d : Nat}, d < 40 → ∀ v, (a.put (some d) v).eval (.tmp d) = v := fun h _ hd v => eval_put_same (by rw [h]; exact hd)
  rw [enter_at _ Try.func6 rfl]
  obtain ⟨a0, ha0, hz, hd, he⟩ := enter_acts 38 (#[.slice ao n ca, .slice bo m cb] : Array Value)
  have hm : Try.f6.ntmps - (#[.slice ao n ca, .slice bo m cb] : Array Value).size = 38 := by rw [Try.ntmps6]; rfl
  rw [hm]
  show WB Try.prog _ _ (G ((base 6).at _ [.code _]) _) _
  rw [← ha0]
  replace hz : a0.tmps.size = 40 := hz
  have e0 : a0.eval (.tmp 0) = .slice ao n ca := he 0 _ rfl
  have e1 : a0.eval (.tmp 1) = .slice bo m cb := he 1 _ rfl
  clear ha0 hm he
  repeat
    first
      | refine b_seq ?_
      | refine b_end ?_
      | refine b_skip ?_
      | refine b_block ?_
      | refine b_loop ?_
      | refine b_inBlock ?_
      | refine b_region rfl ?_
  refine b_op 4 (.bool false) rfl rfl rfl hkn (fun W => run_asg a0 _ (.const (.bool false)) (.bool false) rfl rfl W) fun a1 ea => ?_
  replace e0 := kp ea e0 (by omega)
  replace e1 := kp ea e1 (by omega)
  replace hd := kd ea hd
  replace hz := kz ea hz
  clear ea
  repeat
    first
      | refine b_seq ?_
      | refine b_end ?_
      | refine b_skip ?_
      | refine b_block ?_
      | refine b_loop ?_
      | refine b_inBlock ?_
      | refine b_region rfl ?_
  refine b_op 9 (.slice ao n ca) rfl rfl rfl hkn (fun W => run_mv a1 _ _ _ rfl e0 W) fun a2 ea => ?_
  replace e1 := kp ea e1 (by omega)
  have e9 := nw ea hz (by omega)
  replace hd := kd ea hd
  replace hz := kz ea hz
  clear e0
  clear ea
  refine b_op 10 (.int .i64 n) rfl rfl rfl hkn (fun W => run_lenI a2 _ 9 _ _ _ _ rfl rfl e9 W) fun a3 ea => ?_
  replace e1 := kp ea e1 (by omega)
  have e10 := nw ea hz (by omega)
  replace hd := kd ea hd
  replace hz := kz ea hz
  clear e9
  clear ea
  refine b_op 11 (.bool false) rfl rfl rfl hkn (fun W => run_gt0 a3 _ (.tmp 10) (.const (.int .i64 1048576)) _ _ _ _ false (by simp; omega) rfl e10 rfl W) fun a4 ea => ?_
  replace e1 := kp ea e1 (by omega)
  have e11 := nw ea hz (by omega)
  replace hd := kd ea hd
  replace hz := kz ea hz
  clear e10
  clear ea
  repeat
    first
      | refine b_seq ?_
      | refine b_end ?_
      | refine b_skip ?_
      | refine b_block ?_
      | refine b_loop ?_
      | refine b_inBlock ?_
      | refine b_region rfl ?_
  refine b_false e11 ?_
  repeat
    first
      | refine b_seq ?_
      | refine b_end ?_
      | refine b_skip ?_
      | refine b_block ?_
      | refine b_loop ?_
      | refine b_inBlock ?_
      | refine b_region rfl ?_
  refine b_op 12 (.slice bo m cb) rfl rfl rfl hkn (fun W => run_mv a4 _ _ _ rfl e1 W) fun a5 ea => ?_
  have e12 := nw ea hz (by omega)
  replace hd := kd ea hd
  replace hz := kz ea hz
  clear e1
  clear e11
  clear ea
  refine b_op 13 (.int .i64 m) rfl rfl rfl hkn (fun W => run_lenI a5 _ 12 _ _ _ _ rfl rfl e12 W) fun a6 ea => ?_
  have e13 := nw ea hz (by omega)
  replace hd := kd ea hd
  replace hz := kz ea hz
  clear e12
  clear ea
  refine b_op 14 (.bool true) rfl rfl rfl hkn (fun W => run_gt0 a6 _ (.tmp 13) (.const (.int .i64 1048576)) _ _ _ _ true (by simp; omega) rfl e13 rfl W) fun a7 ea => ?_
  have e14 := nw ea hz (by omega)
  replace hd := kd ea hd
  replace hz := kz ea hz
  clear e13
  clear ea
  repeat
    first
      | refine b_seq ?_
      | refine b_end ?_
      | refine b_skip ?_
      | refine b_block ?_
      | refine b_loop ?_
      | refine b_inBlock ?_
      | refine b_region rfl ?_
  refine b_true e14 ?_
  repeat
    first
      | refine b_seq ?_
      | refine b_end ?_
      | refine b_skip ?_
      | refine b_block ?_
      | refine b_loop ?_
      | refine b_inBlock ?_
      | refine b_region rfl ?_
  refine b_op 4 (.bool true) rfl rfl rfl hkn (fun W => run_asg a7 _ (.const (.bool true)) (.bool true) rfl rfl W) fun a8 ea => ?_
  have e4 := nw ea hz (by omega)
  replace hd := kd ea hd
  replace hz := kz ea hz
  clear e14
  clear ea
  repeat
    first
      | refine b_seq ?_
      | refine b_end ?_
      | refine b_skip ?_
      | refine b_block ?_
      | refine b_loop ?_
      | refine b_inBlock ?_
      | refine b_region rfl ?_
  refine b_ret ?_
  refine b_finish rfl (by kernel_rfl) hd Try.func6 (own_res1 rfl e4 _) (fun W es => events_results_tmp (t := 4) rfl _ _) ?_
  exact hp
end
end Go.Ph
