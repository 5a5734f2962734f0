/-
  impl.SpaceMeet and the law FnExactSpaceMeet beside leavers.
-/
import Derived.Test.YtgmjdkhegbdbjaaBZQ
import Derived.Test.YtgmjdkhegbdbjaaSPD
namespace Go.Ph
open Go Go.Conc Go.ConcN Go.RowKit Go.Conc.Lib Go.ConcR.Gen Go.ConcN.Gen Go.Br Go.Proofs Go.Proofs.Ytgmjdkhegbdbjaa Go.Sort
set_option linter.unusedVariables false
set_option linter.unusedSimpArgs false
set_option linter.unusedSectionVars false
set_option maxRecDepth 100000


section
variable {Q : (Nat → Bool) → Goroutine → World → Prop} {Sh : Nat → Bool} {w w0 : World} {cs : List Frame} {c0 : Frame} {ao bo : Option Addr} {ca cb : Nat} {xs ys : List Int}

variable {x y : Int} {Post : Value → World → Prop}
theorem bk_contains {g cap : Nat} (kw : KW Try.prog link.tWg Sh w) (hl : xs.length ≤ 1048576) (hx : RdB Sh w (some ⟨g, 0, none⟩) xs)
    (hq : ∀ w', BelowC w w' → KW Try.prog link.tWg Sh w' → WB Try.prog Q Sh ⟨c0.finish (.bool (xs.contains x)), cs, .running, none, none⟩ w') :
    WB Try.prog Q Sh (gor (Frame.enter Try.prog 41 #[.slice (some ⟨g, 0, none⟩) xs.length cap, .int .i64 x] .normal) [] (c0 :: cs)) w := by
  refine bk rfl kw (R := fun W v w' => v = .bool (xs.contains x) ∧ w' = W) (fun W hs hh => ?_) ?_
  · have hr := hx.on hh
    have h := Try.contains_any g 0 xs.length cap xs x W (Nat.le_refl _) (by omega) (fun j hj => by
      obtain ⟨b, off, z, h1, h2, h3, h4⟩ := hr.get j hj
      simp only [Option.some.injEq, Addr.mk.injEq, and_true] at h2
      obtain ⟨rfl, rfl⟩ := h2
      rw [h4, List.getD, h1]
      rfl)
    rw [List.take_length] at h
    exact h.mono fun e w' ⟨h1, h2⟩ => ⟨_, h1, rfl, h2⟩
  · rintro W v w' e e1 e2 ⟨rfl, rfl⟩
    have hbc := bc_from e e1 e2 (Below.refl _ _)
    exact hq _ hbc (kw.bc hbc)
theorem bk_spMeet (kw : KW Try.prog link.tWg Sh w) (hl : xs.length ≤ 1048576) (hx : RdB Sh w ao xs)
    (hq : ∀ w', BelowC w w' → KW Try.prog link.tWg Sh w' → WB Try.prog Q Sh ⟨c0.finish (.int .i64 (meetTo xs (bits .and .i64 x y) xs.length)), cs, .running, none, none⟩ w') :
    WB Try.prog Q Sh (gor (Frame.enter Try.prog 42 #[.slice ao xs.length ca, .int .i64 x, .int .i64 y] .normal) [] (c0 :: cs)) w := by
  refine bk rfl kw (R := fun W v w' => v = .int .i64 (meetTo xs (bits .and .i64 x y) xs.length) ∧ Dn W w') (fun W hs hh => (spMeet_any ao ca xs x y W hl (hx.on hh)).mono fun e w' ⟨h1, h2⟩ => ⟨_, h1, rfl, h2⟩) ?_
  rintro W v w' e e1 e2 ⟨rfl, hd⟩
  have hbc := bc_from e e1 e2 (hd.below _)
  exact hq w' hbc (kw.bc hbc)
theorem bk_specSpaceMeet (kw : KW Try.prog link.tWg Sh w) (hl : xs.length ≤ 1048576) (hx : RdB Sh w ao xs)
    (hq : ∀ w', BelowC w w' → KW Try.prog link.tWg Sh w' → WB Try.prog Q Sh ⟨c0.finish (.tuple #[.int .i64 (smI xs x y), .bool (smB xs x y)]), cs, .running, none, none⟩ w') :
    WB Try.prog Q Sh (gor (Frame.enter Try.prog 18 #[.slice ao xs.length ca, .int .i64 x, .int .i64 y] .normal) [] (c0 :: cs)) w := by
  refine bk rfl kw (R := fun W v w' => v = .tuple #[.int .i64 (smI xs x y), .bool (smB xs x y)] ∧ Below W.heap.size W w') (fun W hs hh => (specSpaceMeet_any ao ca xs x y W hl (hx.on hh)).mono fun e w' ⟨h1, h2⟩ => ⟨_, h1, rfl, h2⟩) ?_
  rintro W v w' e e1 e2 ⟨rfl, hb⟩
  have hbc := bc_from e e1 e2 hb
  exact hq w' hbc (kw.bc hbc)

set_option maxHeartbeats 2000000 in
theorem spaceMeet_no (hr : relIn xs = false) (kw : KW Try.prog link.tWg Sh w) (hl : xs.length ≤ 1048576) (hx : RdB Sh w ao xs)
    (hq : ∀ Sh' w', BelowC w w' → KW Try.prog link.tWg Sh' w' → (∀ b, b < w.heap.size → Sh' b = Sh b) → WB Try.prog Q Sh' ⟨c0.finish (.tuple #[.int .i64 (smI xs x y), .bool (smB xs x y)]), cs, .running, none, none⟩ w') :
    WB Try.prog Q Sh (gor (Frame.enter Try.prog 19 #[.slice ao xs.length ca, .int .i64 x, .int .i64 y] .normal) [] (c0 :: cs)) w := by
  have hz : smB xs x y = false := by unfold smB; rw [hr]; rfl
  have hz2 : smI xs x y = 0 := by unfold smI; rw [hz]; rfl
  rw [hz, hz2] at hq
  have hkn : (base 19).kind ≠ .early := base_kind _
  have same : ∀ {a : Act}, a.tmps.size = 34 → ∀ {d : Nat}, d < 34 → ∀ v, (a.put (some d) v).eval (.tmp d) = v := fun h _ hd v => eval_put_same (by rw [h]; exact hd)
  rw [enter_at _ Try.func19 rfl]
  obtain ⟨a0, ha0, hz, hd, he⟩ := enter_acts 31 (#[.slice ao xs.length ca, .int .i64 x, .int .i64 y] : Array Value)
  have hm : Try.f19.ntmps - (#[.slice ao xs.length ca, .int .i64 x, .int .i64 y] : Array Value).size = 31 := by rw [Try.ntmps19]; rfl
  rw [hm]
  show WB Try.prog _ _ (G ((base 19).at _ [.code _]) _) _
  rw [← ha0]
  replace hz : a0.tmps.size = 34 := hz
  have e0 : a0.eval (.tmp 0) = .slice ao xs.length ca := he 0 _ rfl
  have e1 : a0.eval (.tmp 1) = .int .i64 x := he 1 _ rfl
  have e2 : a0.eval (.tmp 2) = .int .i64 y := he 2 _ rfl
  clear ha0 hm he
  repeat
    first
      | refine b_seq ?_
      | refine b_end ?_
      | refine b_skip ?_
      | refine b_block ?_
      | refine b_loop ?_
      | refine b_inBlock ?_
      | refine b_region rfl ?_
  refine b_op 6 (.int .i64 0) rfl rfl rfl hkn (fun W => run_asg a0 _ (.const (.int .i64 0)) (.int .i64 0) rfl rfl W) fun a1 ea => ?_
  replace e0 := kp ea e0 (by omega)
  replace hd := kd ea hd
  replace hz := kz ea hz
  clear e1
  clear e2
  clear ea
  refine b_op 7 (.bool false) rfl rfl rfl hkn (fun W => run_asg a1 _ (.const (.bool false)) (.bool false) rfl rfl W) fun a2 ea => ?_
  replace e0 := kp ea e0 (by omega)
  replace hd := kd ea hd
  replace hz := kz ea hz
  clear ea
  repeat
    first
      | refine b_seq ?_
      | refine b_end ?_
      | refine b_skip ?_
      | refine b_block ?_
      | refine b_loop ?_
      | refine b_inBlock ?_
      | refine b_region rfl ?_
  refine b_op 12 (.slice ao xs.length ca) rfl rfl rfl hkn (fun W => run_mv a2 _ _ _ rfl e0 W) fun a3 ea => ?_
  have e12 := nw ea hz (by omega)
  replace hd := kd ea hd
  replace hz := kz ea hz
  clear e0
  clear ea
  refine b_call (vs := #[.slice ao xs.length ca]) rfl rfl hkn rfl Try.func36 (by rfl) rfl (by rw [List.map_toArray, List.map_cons, List.map_nil, e12]) ?_
  refine bk_relFrom_no hr kw hl hx fun w1 hb1 kw1 => ?_
  refine b_back rfl rfl fun a4 ea => ?_
  have e13 := nw ea hz (by omega)
  replace hd := kd ea hd
  replace hz := kz ea hz
  clear e12
  clear ea
  refine b_op 11 (.tuple #[rel5 0 0 0 0 0, .bool false]) rfl rfl rfl hkn (fun W => run_mv a4 _ _ _ rfl e13 W) fun a5 ea => ?_
  have e11 := nw ea hz (by omega)
  replace hd := kd ea hd
  replace hz := kz ea hz
  clear e13
  clear ea
  refine b_op 14 (rel5 0 0 0 0 0) rfl rfl rfl hkn (fun W => run_ex a5 _ 11 0 _ _ rfl e11 rfl W) fun a6 ea => ?_
  replace e11 := kp ea e11 (by omega)
  have e14 := nw ea hz (by omega)
  replace hd := kd ea hd
  replace hz := kz ea hz
  clear ea
  refine b_op 15 (.bool false) rfl rfl rfl hkn (fun W => run_ex a6 _ 11 1 _ _ rfl e11 rfl W) fun a7 ea => ?_
  replace e14 := kp ea e14 (by omega)
  have e15 := nw ea hz (by omega)
  replace hd := kd ea hd
  replace hz := kz ea hz
  clear e11
  clear ea
  have hs1 : Sh w1.heap.size = false := notSh kw1
  refine b_alR 8 rfl rfl rfl hkn rfl rfl fun a8 u1 ea hR1 hz1 hbu => ?_
  replace e14 := kp ea e14 (by omega)
  replace e15 := kp ea e15 (by omega)
  have e8 := nw ea hz (by omega)
  replace hd := kd ea hd
  replace hz := kz ea hz
  clear ea
  have hc1 := hb1.trans hbu
  refine b_stR rfl rfl rfl hkn rfl rfl e8 e14 hR1 hs1 fun u2 hR2 hbl hz2 hos hout => ?_
  have hc2 : BelowC w u2 := bc_own hc1 (Nat.le_trans hb1.size (Nat.le_refl _)) hbl hz2 hos hout
  have kw2 := kw.bc hc2
  clear hR1 hbl hz1 hbu hc1 hos hout kw1
  refine b_op 9 (.bool false) rfl rfl rfl hkn (fun W => run_asg a8 _ (.tmp 15) _ rfl e15 W) fun a9 ea => ?_
  have e9 := nw ea hz (by omega)
  replace hd := kd ea hd
  replace hz := kz ea hz
  clear e14
  clear e15
  clear e8
  clear ea
  repeat
    first
      | refine b_seq ?_
      | refine b_end ?_
      | refine b_skip ?_
      | refine b_block ?_
      | refine b_loop ?_
      | refine b_inBlock ?_
      | refine b_region rfl ?_
  refine b_op 16 (.bool false) rfl rfl rfl hkn (fun W => run_mv a9 _ _ _ rfl e9 W) fun a10 ea => ?_
  have e16 := nw ea hz (by omega)
  replace hd := kd ea hd
  replace hz := kz ea hz
  clear e9
  clear ea
  refine b_op 17 (.bool true) rfl rfl rfl hkn (fun W => run_not a10 _ 16 false _ rfl e16 W) fun a11 ea => ?_
  have e17 := nw ea hz (by omega)
  replace hd := kd ea hd
  replace hz := kz ea hz
  clear e16
  clear ea
  repeat
    first
      | refine b_seq ?_
      | refine b_end ?_
      | refine b_skip ?_
      | refine b_block ?_
      | refine b_loop ?_
      | refine b_inBlock ?_
      | refine b_region rfl ?_
  refine b_true e17 ?_
  repeat
    first
      | refine b_seq ?_
      | refine b_end ?_
      | refine b_skip ?_
      | refine b_block ?_
      | refine b_loop ?_
      | refine b_inBlock ?_
      | refine b_region rfl ?_
  refine b_op 6 (.int .i64 0) rfl rfl rfl hkn (fun W => run_asg a11 _ (.const (.int .i64 0)) (.int .i64 0) rfl rfl W) fun a12 ea => ?_
  have e6 := nw ea hz (by omega)
  replace hd := kd ea hd
  replace hz := kz ea hz
  clear e17
  clear ea
  refine b_op 7 (.bool false) rfl rfl rfl hkn (fun W => run_asg a12 _ (.const (.bool false)) (.bool false) rfl rfl W) fun a13 ea => ?_
  replace e6 := kp ea e6 (by omega)
  have e7 := nw ea hz (by omega)
  replace hd := kd ea hd
  replace hz := kz ea hz
  clear ea
  repeat
    first
      | refine b_seq ?_
      | refine b_end ?_
      | refine b_skip ?_
      | refine b_block ?_
      | refine b_loop ?_
      | refine b_inBlock ?_
      | refine b_region rfl ?_
  refine b_ret ?_
  refine b_leave (v := .tuple #[.int .i64 0, .bool false]) rfl hd Try.func19 (own_res2 rfl e6 e7 _) (fun W es => events_results_tmp2 (t := 6) (u := 7) rfl _ _) ?_
  exact hq _ _ hc2 kw2 (fun _ _ => rfl)

set_option maxHeartbeats 2000000 in
theorem spaceMeet_x (hr : relIn xs = true) (hcx : (spaceL xs).contains x = false) (kw : KW Try.prog link.tWg Sh w) (hl : xs.length ≤ 1048576) (hx : RdB Sh w ao xs)
    (hq : ∀ Sh' w', BelowC w w' → KW Try.prog link.tWg Sh' w' → (∀ b, b < w.heap.size → Sh' b = Sh b) → WB Try.prog Q Sh' ⟨c0.finish (.tuple #[.int .i64 (smI xs x y), .bool (smB xs x y)]), cs, .running, none, none⟩ w') :
    WB Try.prog Q Sh (gor (Frame.enter Try.prog 19 #[.slice ao xs.length ca, .int .i64 x, .int .i64 y] .normal) [] (c0 :: cs)) w := by
  have hR := Rl.of hr
  have h1 := hR.one
  have h4 := hR.four
  have hse := spaceL_is hR
  have hsl : (spaceL xs).length ≤ 1048576 := by rw [hse]; have := spL_len16 h4; omega
  have hz : smB xs x y = false := by rw [smB_is hr, ← hse, hcx]; rfl
  have hz2 : smI xs x y = 0 := by unfold smI; rw [hz]; rfl
  rw [hz, hz2] at hq
  have hkn : (base 19).kind ≠ .early := base_kind _
  have same : ∀ {a : Act}, a.tmps.size = 34 → ∀ {d : Nat}, d < 34 → ∀ v, (a.put (some d) v).eval (.tmp d) = v := fun h _ hd v => eval_put_same (by rw [h]; exact hd)
  rw [enter_at _ Try.func19 rfl]
  obtain ⟨a0, ha0, hz, hd, he⟩ := enter_acts 31 (#[.slice ao xs.length ca, .int .i64 x, .int .i64 y] : Array Value)
  have hm : Try.f19.ntmps - (#[.slice ao xs.length ca, .int .i64 x, .int .i64 y] : Array Value).size = 31 := by rw [Try.ntmps19]; rfl
  rw [hm]
  show WB Try.prog _ _ (G ((base 19).at _ [.code _]) _) _
  rw [← ha0]
  replace hz : a0.tmps.size = 34 := hz
  have e0 : a0.eval (.tmp 0) = .slice ao xs.length ca := he 0 _ rfl
  have e1 : a0.eval (.tmp 1) = .int .i64 x := he 1 _ rfl
  have e2 : a0.eval (.tmp 2) = .int .i64 y := he 2 _ rfl
  clear ha0 hm he
  repeat
    first
      | refine b_seq ?_
      | refine b_end ?_
      | refine b_skip ?_
      | refine b_block ?_
      | refine b_loop ?_
      | refine b_inBlock ?_
      | refine b_region rfl ?_
  refine b_op 6 (.int .i64 0) rfl rfl rfl hkn (fun W => run_asg a0 _ (.const (.int .i64 0)) (.int .i64 0) rfl rfl W) fun a1 ea => ?_
  replace e0 := kp ea e0 (by omega)
  replace e1 := kp ea e1 (by omega)
  replace e2 := kp ea e2 (by omega)
  replace hd := kd ea hd
  replace hz := kz ea hz
  clear ea
  refine b_op 7 (.bool false) rfl rfl rfl hkn (fun W => run_asg a1 _ (.const (.bool false)) (.bool false) rfl rfl W) fun a2 ea => ?_
  replace e0 := kp ea e0 (by omega)
  replace e1 := kp ea e1 (by omega)
  replace e2 := kp ea e2 (by omega)
  replace hd := kd ea hd
  replace hz := kz ea hz
  clear ea
  repeat
    first
      | refine b_seq ?_
      | refine b_end ?_
      | refine b_skip ?_
      | refine b_block ?_
      | refine b_loop ?_
      | refine b_inBlock ?_
      | refine b_region rfl ?_
  refine b_op 12 (.slice ao xs.length ca) rfl rfl rfl hkn (fun W => run_mv a2 _ _ _ rfl e0 W) fun a3 ea => ?_
  replace e1 := kp ea e1 (by omega)
  replace e2 := kp ea e2 (by omega)
  have e12 := nw ea hz (by omega)
  replace hd := kd ea hd
  replace hz := kz ea hz
  clear e0
  clear ea
  refine b_call (vs := #[.slice ao xs.length ca]) rfl rfl hkn rfl Try.func36 (by rfl) rfl (by rw [List.map_toArray, List.map_cons, List.map_nil, e12]) ?_
  refine bk_relFrom_yes hr kw hl hx fun w1 hb1 kw1 => ?_
  refine b_back rfl rfl fun a4 ea => ?_
  replace e1 := kp ea e1 (by omega)
  replace e2 := kp ea e2 (by omega)
  have e13 := nw ea hz (by omega)
  replace hd := kd ea hd
  replace hz := kz ea hz
  clear e12
  clear ea
  refine b_op 11 (.tuple #[relOf xs, .bool true]) rfl rfl rfl hkn (fun W => run_mv a4 _ _ _ rfl e13 W) fun a5 ea => ?_
  replace e1 := kp ea e1 (by omega)
  replace e2 := kp ea e2 (by omega)
  have e11 := nw ea hz (by omega)
  replace hd := kd ea hd
  replace hz := kz ea hz
  clear e13
  clear ea
  refine b_op 14 (relOf xs) rfl rfl rfl hkn (fun W => run_ex a5 _ 11 0 _ _ rfl e11 rfl W) fun a6 ea => ?_
  replace e1 := kp ea e1 (by omega)
  replace e2 := kp ea e2 (by omega)
  replace e11 := kp ea e11 (by omega)
  have e14 := nw ea hz (by omega)
  replace hd := kd ea hd
  replace hz := kz ea hz
  clear ea
  refine b_op 15 (.bool true) rfl rfl rfl hkn (fun W => run_ex a6 _ 11 1 _ _ rfl e11 rfl W) fun a7 ea => ?_
  replace e1 := kp ea e1 (by omega)
  replace e2 := kp ea e2 (by omega)
  replace e14 := kp ea e14 (by omega)
  have e15 := nw ea hz (by omega)
  replace hd := kd ea hd
  replace hz := kz ea hz
  clear e11
  clear ea
  have hs1 : Sh w1.heap.size = false := notSh kw1
  refine b_alR 8 rfl rfl rfl hkn rfl rfl fun a8 u1 ea hR1 hz1 hbu => ?_
  replace e1 := kp ea e1 (by omega)
  replace e2 := kp ea e2 (by omega)
  replace e14 := kp ea e14 (by omega)
  replace e15 := kp ea e15 (by omega)
  have e8 := nw ea hz (by omega)
  replace hd := kd ea hd
  replace hz := kz ea hz
  clear ea
  have hc1 := hb1.trans hbu
  refine b_stR rfl rfl rfl hkn rfl rfl e8 e14 hR1 hs1 fun u2 hR2 hbl hz2 hos hout => ?_
  have hc2 : BelowC w u2 := bc_own hc1 (Nat.le_trans hb1.size (Nat.le_refl _)) hbl hz2 hos hout
  have kw2 := kw.bc hc2
  clear hR1 hbl hz1 hbu hc1 hos hout kw1
  refine b_op 9 (.bool true) rfl rfl rfl hkn (fun W => run_asg a8 _ (.tmp 15) _ rfl e15 W) fun a9 ea => ?_
  replace e1 := kp ea e1 (by omega)
  replace e2 := kp ea e2 (by omega)
  replace e8 := kp ea e8 (by omega)
  have e9 := nw ea hz (by omega)
  replace hd := kd ea hd
  replace hz := kz ea hz
  clear e14
  clear e15
  clear ea
  repeat
    first
      | refine b_seq ?_
      | refine b_end ?_
      | refine b_skip ?_
      | refine b_block ?_
      | refine b_loop ?_
      | refine b_inBlock ?_
      | refine b_region rfl ?_
  refine b_op 16 (.bool true) rfl rfl rfl hkn (fun W => run_mv a9 _ _ _ rfl e9 W) fun a10 ea => ?_
  replace e1 := kp ea e1 (by omega)
  replace e2 := kp ea e2 (by omega)
  replace e8 := kp ea e8 (by omega)
  have e16 := nw ea hz (by omega)
  replace hd := kd ea hd
  replace hz := kz ea hz
  clear e9
  clear ea
  refine b_op 17 (.bool false) rfl rfl rfl hkn (fun W => run_not a10 _ 16 true _ rfl e16 W) fun a11 ea => ?_
  replace e1 := kp ea e1 (by omega)
  replace e2 := kp ea e2 (by omega)
  replace e8 := kp ea e8 (by omega)
  have e17 := nw ea hz (by omega)
  replace hd := kd ea hd
  replace hz := kz ea hz
  clear e16
  clear ea
  repeat
    first
      | refine b_seq ?_
      | refine b_end ?_
      | refine b_skip ?_
      | refine b_block ?_
      | refine b_loop ?_
      | refine b_inBlock ?_
      | refine b_region rfl ?_
  refine b_false e17 ?_
  repeat
    first
      | refine b_seq ?_
      | refine b_end ?_
      | refine b_skip ?_
      | refine b_block ?_
      | refine b_loop ?_
      | refine b_inBlock ?_
      | refine b_region rfl ?_
  refine b_ldR 18 rfl rfl rfl hkn rfl rfl e8 hR2 hs1 fun a12 ea => ?_
  replace e1 := kp ea e1 (by omega)
  replace e2 := kp ea e2 (by omega)
  have e18 := nw ea hz (by omega)
  replace hd := kd ea hd
  replace hz := kz ea hz
  clear e8
  clear e17
  clear ea
  refine b_call (vs := #[relOf xs]) rfl rfl hkn rfl Try.func37 (by rfl) rfl (by rw [List.map_toArray, List.map_cons, List.map_nil, e18]) ?_
  refine spaceB kw2 h1 h4 fun Wg g cap w3 hWg hb3 kw3 hrd => ?_
  have hc3 := hc2.trans hb3
  refine b_back rfl rfl fun a13 ea => ?_
  replace e1 := kp ea e1 (by omega)
  replace e2 := kp ea e2 (by omega)
  have e19 := nw ea hz (by omega)
  replace hd := kd ea hd
  replace hz := kz ea hz
  clear e18
  clear ea
  refine b_op 10 (.slice (some ⟨g, 0, none⟩) (spaceL xs).length cap) rfl rfl rfl hkn (fun W => run_asg a13 _ (.tmp 19) _ rfl e19 W) fun a14 ea => ?_
  replace e1 := kp ea e1 (by omega)
  replace e2 := kp ea e2 (by omega)
  have e10 := nw ea hz (by omega)
  replace hd := kd ea hd
  replace hz := kz ea hz
  clear e19
  clear ea
  repeat
    first
      | refine b_seq ?_
      | refine b_end ?_
      | refine b_skip ?_
      | refine b_block ?_
      | refine b_loop ?_
      | refine b_inBlock ?_
      | refine b_region rfl ?_
  refine b_op 20 (.slice (some ⟨g, 0, none⟩) (spaceL xs).length cap) rfl rfl rfl hkn (fun W => run_mv a14 _ _ _ rfl e10 W) fun a15 ea => ?_
  replace e1 := kp ea e1 (by omega)
  replace e2 := kp ea e2 (by omega)
  replace e10 := kp ea e10 (by omega)
  have e20 := nw ea hz (by omega)
  replace hd := kd ea hd
  replace hz := kz ea hz
  clear ea
  refine b_op 21 (.int .i64 x) rfl rfl rfl hkn (fun W => run_mv a15 _ _ _ rfl e1 W) fun a16 ea => ?_
  replace e2 := kp ea e2 (by omega)
  replace e10 := kp ea e10 (by omega)
  replace e20 := kp ea e20 (by omega)
  have e21 := nw ea hz (by omega)
  replace hd := kd ea hd
  replace hz := kz ea hz
  clear e1
  clear ea
  refine b_call (vs := #[.slice (some ⟨g, 0, none⟩) (spaceL xs).length cap, .int .i64 x]) rfl rfl hkn rfl Try.func41 (by rfl) rfl (by rw [List.map_toArray, List.map_cons, List.map_cons, List.map_nil, e20, e21]) ?_
  refine bk_contains kw3 hsl hrd fun w4 hb4 kw4 => ?_
  rw [hcx]
  replace hc3 := hc3.trans hb4
  replace hrd := hrd.bc hb4 (fun _ _ => rfl)
  clear kw3 hb4
  have kw3 := kw4
  clear kw4
  refine b_back rfl rfl fun a17 ea => ?_
  replace e2 := kp ea e2 (by omega)
  replace e10 := kp ea e10 (by omega)
  have e22 := nw ea hz (by omega)
  replace hd := kd ea hd
  replace hz := kz ea hz
  clear e20
  clear e21
  clear ea
  refine b_op 23 (.bool true) rfl rfl rfl hkn (fun W => run_not a17 _ 22 false _ rfl e22 W) fun a18 ea => ?_
  replace e2 := kp ea e2 (by omega)
  replace e10 := kp ea e10 (by omega)
  have e23 := nw ea hz (by omega)
  replace hd := kd ea hd
  replace hz := kz ea hz
  clear e22
  clear ea
  refine b_op 24 (.bool true) rfl rfl rfl hkn (fun W => run_mv a18 _ _ _ rfl e23 W) fun a19 ea => ?_
  replace e2 := kp ea e2 (by omega)
  replace e10 := kp ea e10 (by omega)
  have e24 := nw ea hz (by omega)
  replace hd := kd ea hd
  replace hz := kz ea hz
  clear e23
  clear ea
  refine b_no rfl (wantedN rfl rfl e24) fun a20 ea => ?_
  replace e2 := kp ea e2 (by omega)
  replace e24 := kp ea e24 (by omega)
  replace hd := kd ea hd
  replace hz := kz ea hz
  clear e10
  clear ea
  refine b_no rfl (wantedN rfl rfl e24) fun a21 ea => ?_
  replace e24 := kp ea e24 (by omega)
  replace hd := kd ea hd
  replace hz := kz ea hz
  clear e2
  clear ea
  refine b_no rfl (wantedN rfl rfl e24) fun a22 ea => ?_
  replace e24 := kp ea e24 (by omega)
  replace hd := kd ea hd
  replace hz := kz ea hz
  clear ea
  refine b_no rfl (wantedN rfl rfl e24) fun a23 ea => ?_
  replace e24 := kp ea e24 (by omega)
  replace hd := kd ea hd
  replace hz := kz ea hz
  clear ea
  refine b_op 29 (.bool true) rfl rfl rfl hkn (fun W => run_pickT a23 _ _ _ _ (.bool true) rfl e24 rfl W) fun a24 ea => ?_
  have e29 := nw ea hz (by omega)
  replace hd := kd ea hd
  replace hz := kz ea hz
  clear e24
  clear ea
  repeat
    first
      | refine b_seq ?_
      | refine b_end ?_
      | refine b_skip ?_
      | refine b_block ?_
      | refine b_loop ?_
      | refine b_inBlock ?_
      | refine b_region rfl ?_
  refine b_true e29 ?_
  repeat
    first
      | refine b_seq ?_
      | refine b_end ?_
      | refine b_skip ?_
      | refine b_block ?_
      | refine b_loop ?_
      | refine b_inBlock ?_
      | refine b_region rfl ?_
  refine b_op 6 (.int .i64 0) rfl rfl rfl hkn (fun W => run_asg a24 _ (.const (.int .i64 0)) (.int .i64 0) rfl rfl W) fun a25 ea => ?_
  have e6 := nw ea hz (by omega)
  replace hd := kd ea hd
  replace hz := kz ea hz
  clear e29
  clear ea
  refine b_op 7 (.bool false) rfl rfl rfl hkn (fun W => run_asg a25 _ (.const (.bool false)) (.bool false) rfl rfl W) fun a26 ea => ?_
  replace e6 := kp ea e6 (by omega)
  have e7 := nw ea hz (by omega)
  replace hd := kd ea hd
  replace hz := kz ea hz
  clear ea
  repeat
    first
      | refine b_seq ?_
      | refine b_end ?_
      | refine b_skip ?_
      | refine b_block ?_
      | refine b_loop ?_
      | refine b_inBlock ?_
      | refine b_region rfl ?_
  refine b_ret ?_
  refine b_leave (v := .tuple #[.int .i64 0, .bool false]) rfl hd Try.func19 (own_res2 rfl e6 e7 _) (fun W es => events_results_tmp2 (t := 6) (u := 7) rfl _ _) ?_
  exact hq _ _ hc3 kw3 (agree_next hWg hc2.size fun _ _ => rfl)

set_option maxHeartbeats 2000000 in
theorem spaceMeet_y (hr : relIn xs = true) (hcx : (spaceL xs).contains x = true) (hcy : (spaceL xs).contains y = false) (kw : KW Try.prog link.tWg Sh w) (hl : xs.length ≤ 1048576) (hx : RdB Sh w ao xs)
    (hq : ∀ Sh' w', BelowC w w' → KW Try.prog link.tWg Sh' w' → (∀ b, b < w.heap.size → Sh' b = Sh b) → WB Try.prog Q Sh' ⟨c0.finish (.tuple #[.int .i64 (smI xs x y), .bool (smB xs x y)]), cs, .running, none, none⟩ w') :
    WB Try.prog Q Sh (gor (Frame.enter Try.prog 19 #[.slice ao xs.length ca, .int .i64 x, .int .i64 y] .normal) [] (c0 :: cs)) w := by
  have hR := Rl.of hr
  have h1 := hR.one
  have h4 := hR.four
  have hse := spaceL_is hR
  have hsl : (spaceL xs).length ≤ 1048576 := by rw [hse]; have := spL_len16 h4; omega
  have hz : smB xs x y = false := by rw [smB_is hr, ← hse, hcx, hcy]; rfl
  have hz2 : smI xs x y = 0 := by unfold smI; rw [hz]; rfl
  rw [hz, hz2] at hq
  have hkn : (base 19).kind ≠ .early := base_kind _
  have same : ∀ {a : Act}, a.tmps.size = 34 → ∀ {d : Nat}, d < 34 → ∀ v, (a.put (some d) v).eval (.tmp d) = v := fun h _ hd v => eval_put_same (by rw [h]; exact hd)
  rw [enter_at _ Try.func19 rfl]
  obtain ⟨a0, ha0, hz, hd, he⟩ := enter_acts 31 (#[.slice ao xs.length ca, .int .i64 x, .int .i64 y] : Array Value)
  have hm : Try.f19.ntmps - (#[.slice ao xs.length ca, .int .i64 x, .int .i64 y] : Array Value).size = 31 := by rw [Try.ntmps19]; rfl
  rw [hm]
  show WB Try.prog _ _ (G ((base 19).at _ [.code _]) _) _
  rw [← ha0]
  replace hz : a0.tmps.size = 34 := hz
  have e0 : a0.eval (.tmp 0) = .slice ao xs.length ca := he 0 _ rfl
  have e1 : a0.eval (.tmp 1) = .int .i64 x := he 1 _ rfl
  have e2 : a0.eval (.tmp 2) = .int .i64 y := he 2 _ rfl
  clear ha0 hm he
  repeat
    first
      | refine b_seq ?_
      | refine b_end ?_
      | refine b_skip ?_
      | refine b_block ?_
      | refine b_loop ?_
      | refine b_inBlock ?_
      | refine b_region rfl ?_
  refine b_op 6 (.int .i64 0) rfl rfl rfl hkn (fun W => run_asg a0 _ (.const (.int .i64 0)) (.int .i64 0) rfl rfl W) fun a1 ea => ?_
  replace e0 := kp ea e0 (by omega)
  replace e1 := kp ea e1 (by omega)
  replace e2 := kp ea e2 (by omega)
  replace hd := kd ea hd
  replace hz := kz ea hz
  clear ea
  refine b_op 7 (.bool false) rfl rfl rfl hkn (fun W => run_asg a1 _ (.const (.bool false)) (.bool false) rfl rfl W) fun a2 ea => ?_
  replace e0 := kp ea e0 (by omega)
  replace e1 := kp ea e1 (by omega)
  replace e2 := kp ea e2 (by omega)
  replace hd := kd ea hd
  replace hz := kz ea hz
  clear ea
  repeat
    first
      | refine b_seq ?_
      | refine b_end ?_
      | refine b_skip ?_
      | refine b_block ?_
      | refine b_loop ?_
      | refine b_inBlock ?_
      | refine b_region rfl ?_
  refine b_op 12 (.slice ao xs.length ca) rfl rfl rfl hkn (fun W => run_mv a2 _ _ _ rfl e0 W) fun a3 ea => ?_
  replace e1 := kp ea e1 (by omega)
  replace e2 := kp ea e2 (by omega)
  have e12 := nw ea hz (by omega)
  replace hd := kd ea hd
  replace hz := kz ea hz
  clear e0
  clear ea
  refine b_call (vs := #[.slice ao xs.length ca]) rfl rfl hkn rfl Try.func36 (by rfl) rfl (by rw [List.map_toArray, List.map_cons, List.map_nil, e12]) ?_
  refine bk_relFrom_yes hr kw hl hx fun w1 hb1 kw1 => ?_
  refine b_back rfl rfl fun a4 ea => ?_
  replace e1 := kp ea e1 (by omega)
  replace e2 := kp ea e2 (by omega)
  have e13 := nw ea hz (by omega)
  replace hd := kd ea hd
  replace hz := kz ea hz
  clear e12
  clear ea
  refine b_op 11 (.tuple #[relOf xs, .bool true]) rfl rfl rfl hkn (fun W => run_mv a4 _ _ _ rfl e13 W) fun a5 ea => ?_
  replace e1 := kp ea e1 (by omega)
  replace e2 := kp ea e2 (by omega)
  have e11 := nw ea hz (by omega)
  replace hd := kd ea hd
  replace hz := kz ea hz
  clear e13
  clear ea
  refine b_op 14 (relOf xs) rfl rfl rfl hkn (fun W => run_ex a5 _ 11 0 _ _ rfl e11 rfl W) fun a6 ea => ?_
  replace e1 := kp ea e1 (by omega)
  replace e2 := kp ea e2 (by omega)
  replace e11 := kp ea e11 (by omega)
  have e14 := nw ea hz (by omega)
  replace hd := kd ea hd
  replace hz := kz ea hz
  clear ea
  refine b_op 15 (.bool true) rfl rfl rfl hkn (fun W => run_ex a6 _ 11 1 _ _ rfl e11 rfl W) fun a7 ea => ?_
  replace e1 := kp ea e1 (by omega)
  replace e2 := kp ea e2 (by omega)
  replace e14 := kp ea e14 (by omega)
  have e15 := nw ea hz (by omega)
  replace hd := kd ea hd
  replace hz := kz ea hz
  clear e11
  clear ea
  have hs1 : Sh w1.heap.size = false := notSh kw1
  refine b_alR 8 rfl rfl rfl hkn rfl rfl fun a8 u1 ea hR1 hz1 hbu => ?_
  replace e1 := kp ea e1 (by omega)
  replace e2 := kp ea e2 (by omega)
  replace e14 := kp ea e14 (by omega)
  replace e15 := kp ea e15 (by omega)
  have e8 := nw ea hz (by omega)
  replace hd := kd ea hd
  replace hz := kz ea hz
  clear ea
  have hc1 := hb1.trans hbu
  refine b_stR rfl rfl rfl hkn rfl rfl e8 e14 hR1 hs1 fun u2 hR2 hbl hz2 hos hout => ?_
  have hc2 : BelowC w u2 := bc_own hc1 (Nat.le_trans hb1.size (Nat.le_refl _)) hbl hz2 hos hout
  have kw2 := kw.bc hc2
  clear hR1 hbl hz1 hbu hc1 hos hout kw1
  refine b_op 9 (.bool true) rfl rfl rfl hkn (fun W => run_asg a8 _ (.tmp 15) _ rfl e15 W) fun a9 ea => ?_
  replace e1 := kp ea e1 (by omega)
  replace e2 := kp ea e2 (by omega)
  replace e8 := kp ea e8 (by omega)
  have e9 := nw ea hz (by omega)
  replace hd := kd ea hd
  replace hz := kz ea hz
  clear e14
  clear e15
  clear ea
  repeat
    first
      | refine b_seq ?_
      | refine b_end ?_
      | refine b_skip ?_
      | refine b_block ?_
      | refine b_loop ?_
      | refine b_inBlock ?_
      | refine b_region rfl ?_
  refine b_op 16 (.bool true) rfl rfl rfl hkn (fun W => run_mv a9 _ _ _ rfl e9 W) fun a10 ea => ?_
  replace e1 := kp ea e1 (by omega)
  replace e2 := kp ea e2 (by omega)
  replace e8 := kp ea e8 (by omega)
  have e16 := nw ea hz (by omega)
  replace hd := kd ea hd
  replace hz := kz ea hz
  clear e9
  clear ea
  refine b_op 17 (.bool false) rfl rfl rfl hkn (fun W => run_not a10 _ 16 true _ rfl e16 W) fun a11 ea => ?_
  replace e1 := kp ea e1 (by omega)
  replace e2 := kp ea e2 (by omega)
  replace e8 := kp ea e8 (by omega)
  have e17 := nw ea hz (by omega)
  replace hd := kd ea hd
  replace hz := kz ea hz
  clear e16
  clear ea
  repeat
    first
      | refine b_seq ?_
      | refine b_end ?_
      | refine b_skip ?_
      | refine b_block ?_
      | refine b_loop ?_
      | refine b_inBlock ?_
      | refine b_region rfl ?_
  refine b_false e17 ?_
  repeat
    first
      | refine b_seq ?_
      | refine b_end ?_
      | refine b_skip ?_
      | refine b_block ?_
      | refine b_loop ?_
      | refine b_inBlock ?_
      | refine b_region rfl ?_
  refine b_ldR 18 rfl rfl rfl hkn rfl rfl e8 hR2 hs1 fun a12 ea => ?_
  replace e1 := kp ea e1 (by omega)
  replace e2 := kp ea e2 (by omega)
  have e18 := nw ea hz (by omega)
  replace hd := kd ea hd
  replace hz := kz ea hz
  clear e8
  clear e17
  clear ea
  refine b_call (vs := #[relOf xs]) rfl rfl hkn rfl Try.func37 (by rfl) rfl (by rw [List.map_toArray, List.map_cons, List.map_nil, e18]) ?_
  refine spaceB kw2 h1 h4 fun Wg g cap w3 hWg hb3 kw3 hrd => ?_
  have hc3 := hc2.trans hb3
  refine b_back rfl rfl fun a13 ea => ?_
  replace e1 := kp ea e1 (by omega)
  replace e2 := kp ea e2 (by omega)
  have e19 := nw ea hz (by omega)
  replace hd := kd ea hd
  replace hz := kz ea hz
  clear e18
  clear ea
  refine b_op 10 (.slice (some ⟨g, 0, none⟩) (spaceL xs).length cap) rfl rfl rfl hkn (fun W => run_asg a13 _ (.tmp 19) _ rfl e19 W) fun a14 ea => ?_
  replace e1 := kp ea e1 (by omega)
  replace e2 := kp ea e2 (by omega)
  have e10 := nw ea hz (by omega)
  replace hd := kd ea hd
  replace hz := kz ea hz
  clear e19
  clear ea
  repeat
    first
      | refine b_seq ?_
      | refine b_end ?_
      | refine b_skip ?_
      | refine b_block ?_
      | refine b_loop ?_
      | refine b_inBlock ?_
      | refine b_region rfl ?_
  refine b_op 20 (.slice (some ⟨g, 0, none⟩) (spaceL xs).length cap) rfl rfl rfl hkn (fun W => run_mv a14 _ _ _ rfl e10 W) fun a15 ea => ?_
  replace e1 := kp ea e1 (by omega)
  replace e2 := kp ea e2 (by omega)
  replace e10 := kp ea e10 (by omega)
  have e20 := nw ea hz (by omega)
  replace hd := kd ea hd
  replace hz := kz ea hz
  clear ea
  refine b_op 21 (.int .i64 x) rfl rfl rfl hkn (fun W => run_mv a15 _ _ _ rfl e1 W) fun a16 ea => ?_
  replace e2 := kp ea e2 (by omega)
  replace e10 := kp ea e10 (by omega)
  replace e20 := kp ea e20 (by omega)
  have e21 := nw ea hz (by omega)
  replace hd := kd ea hd
  replace hz := kz ea hz
  clear e1
  clear ea
  refine b_call (vs := #[.slice (some ⟨g, 0, none⟩) (spaceL xs).length cap, .int .i64 x]) rfl rfl hkn rfl Try.func41 (by rfl) rfl (by rw [List.map_toArray, List.map_cons, List.map_cons, List.map_nil, e20, e21]) ?_
  refine bk_contains kw3 hsl hrd fun w4 hb4 kw4 => ?_
  rw [hcx]
  replace hc3 := hc3.trans hb4
  replace hrd := hrd.bc hb4 (fun _ _ => rfl)
  clear kw3 hb4
  have kw3 := kw4
  clear kw4
  refine b_back rfl rfl fun a17 ea => ?_
  replace e2 := kp ea e2 (by omega)
  replace e10 := kp ea e10 (by omega)
  have e22 := nw ea hz (by omega)
  replace hd := kd ea hd
  replace hz := kz ea hz
  clear e20
  clear e21
  clear ea
  refine b_op 23 (.bool false) rfl rfl rfl hkn (fun W => run_not a17 _ 22 true _ rfl e22 W) fun a18 ea => ?_
  replace e2 := kp ea e2 (by omega)
  replace e10 := kp ea e10 (by omega)
  have e23 := nw ea hz (by omega)
  replace hd := kd ea hd
  replace hz := kz ea hz
  clear e22
  clear ea
  refine b_op 24 (.bool false) rfl rfl rfl hkn (fun W => run_mv a18 _ _ _ rfl e23 W) fun a19 ea => ?_
  replace e2 := kp ea e2 (by omega)
  replace e10 := kp ea e10 (by omega)
  have e24 := nw ea hz (by omega)
  replace hd := kd ea hd
  replace hz := kz ea hz
  clear e23
  clear ea
  refine b_op 25 (.slice (some ⟨g, 0, none⟩) (spaceL xs).length cap) rfl (wantedY rfl rfl e24) rfl hkn (fun W => run_mv a19 _ _ _ rfl e10 W) fun a20 ea => ?_
  replace e2 := kp ea e2 (by omega)
  replace e24 := kp ea e24 (by omega)
  have e25 := nw ea hz (by omega)
  replace hd := kd ea hd
  replace hz := kz ea hz
  clear e10
  clear ea
  refine b_op 26 (.int .i64 y) rfl (wantedY rfl rfl e24) rfl hkn (fun W => run_mv a20 _ _ _ rfl e2 W) fun a21 ea => ?_
  replace e24 := kp ea e24 (by omega)
  replace e25 := kp ea e25 (by omega)
  have e26 := nw ea hz (by omega)
  replace hd := kd ea hd
  replace hz := kz ea hz
  clear e2
  clear ea
  refine b_call (vs := #[.slice (some ⟨g, 0, none⟩) (spaceL xs).length cap, .int .i64 y]) rfl (wantedY rfl rfl e24) hkn rfl Try.func41 (by rfl) rfl (by rw [List.map_toArray, List.map_cons, List.map_cons, List.map_nil, e25, e26]) ?_
  refine bk_contains kw3 hsl hrd fun w4 hb4 kw4 => ?_
  rw [hcy]
  replace hc3 := hc3.trans hb4
  replace hrd := hrd.bc hb4 (fun _ _ => rfl)
  clear kw3 hb4
  have kw3 := kw4
  clear kw4
  refine b_back rfl rfl fun a22 ea => ?_
  replace e24 := kp ea e24 (by omega)
  have e27 := nw ea hz (by omega)
  replace hd := kd ea hd
  replace hz := kz ea hz
  clear e25
  clear e26
  clear ea
  refine b_op 28 (.bool true) rfl (wantedY rfl rfl e24) rfl hkn (fun W => run_not a22 _ 27 false _ rfl e27 W) fun a23 ea => ?_
  replace e24 := kp ea e24 (by omega)
  have e28 := nw ea hz (by omega)
  replace hd := kd ea hd
  replace hz := kz ea hz
  clear e27
  clear ea
  refine b_op 29 (.bool true) rfl rfl rfl hkn (fun W => run_pickF a23 _ _ _ _ _ rfl e24 e28 W) fun a24 ea => ?_
  have e29 := nw ea hz (by omega)
  replace hd := kd ea hd
  replace hz := kz ea hz
  clear e24
  clear e28
  clear ea
  repeat
    first
      | refine b_seq ?_
      | refine b_end ?_
      | refine b_skip ?_
      | refine b_block ?_
      | refine b_loop ?_
      | refine b_inBlock ?_
      | refine b_region rfl ?_
  refine b_true e29 ?_
  repeat
    first
      | refine b_seq ?_
      | refine b_end ?_
      | refine b_skip ?_
      | refine b_block ?_
      | refine b_loop ?_
      | refine b_inBlock ?_
      | refine b_region rfl ?_
  refine b_op 6 (.int .i64 0) rfl rfl rfl hkn (fun W => run_asg a24 _ (.const (.int .i64 0)) (.int .i64 0) rfl rfl W) fun a25 ea => ?_
  have e6 := nw ea hz (by omega)
  replace hd := kd ea hd
  replace hz := kz ea hz
  clear e29
  clear ea
  refine b_op 7 (.bool false) rfl rfl rfl hkn (fun W => run_asg a25 _ (.const (.bool false)) (.bool false) rfl rfl W) fun a26 ea => ?_
  replace e6 := kp ea e6 (by omega)
  have e7 := nw ea hz (by omega)
  replace hd := kd ea hd
  replace hz := kz ea hz
  clear ea
  repeat
    first
      | refine b_seq ?_
      | refine b_end ?_
      | refine b_skip ?_
      | refine b_block ?_
      | refine b_loop ?_
      | refine b_inBlock ?_
      | refine b_region rfl ?_
  refine b_ret ?_
  refine b_leave (v := .tuple #[.int .i64 0, .bool false]) rfl hd Try.func19 (own_res2 rfl e6 e7 _) (fun W es => events_results_tmp2 (t := 6) (u := 7) rfl _ _) ?_
  exact hq _ _ hc3 kw3 (agree_next hWg hc2.size fun _ _ => rfl)

set_option maxHeartbeats 2000000 in
theorem spaceMeet_yes (hr : relIn xs = true) (hcx : (spaceL xs).contains x = true) (hcy : (spaceL xs).contains y = true) (kw : KW Try.prog link.tWg Sh w) (hl : xs.length ≤ 1048576) (hx : RdB Sh w ao xs)
    (hq : ∀ Sh' w', BelowC w w' → KW Try.prog link.tWg Sh' w' → (∀ b, b < w.heap.size → Sh' b = Sh b) → WB Try.prog Q Sh' ⟨c0.finish (.tuple #[.int .i64 (smI xs x y), .bool (smB xs x y)]), cs, .running, none, none⟩ w') :
    WB Try.prog Q Sh (gor (Frame.enter Try.prog 19 #[.slice ao xs.length ca, .int .i64 x, .int .i64 y] .normal) [] (c0 :: cs)) w := by
  have hR := Rl.of hr
  have h1 := hR.one
  have h4 := hR.four
  have hse := spaceL_is hR
  have hsl : (spaceL xs).length ≤ 1048576 := by rw [hse]; have := spL_len16 h4; omega
  have hz : smB xs x y = true := by rw [smB_is hr, ← hse, hcx, hcy]; rfl
  have hz2 : smI xs x y = meetTo (spaceL xs) (bits .and .i64 x y) (spaceL xs).length := by
    unfold smI
    rw [hz, if_pos rfl, hse]
    rw [hse, contains_spL hR, Bool.and_eq_true] at hcx hcy
    exact (meet_same hR (St.and h4 (St.of h4 hcx.1) (St.of h4 hcy.1))).symm
  rw [hz, hz2] at hq
  have hkn : (base 19).kind ≠ .early := base_kind _
  have same : ∀ {a : Act}, a.tmps.size = 34 → ∀ {d : Nat}, d < 34 → ∀ v, (a.put (some d) v).eval (.tmp d) = v := fun h _ hd v => eval_put_same (by rw [h]; exact hd)
  rw [enter_at _ Try.func19 rfl]
  obtain ⟨a0, ha0, hz, hd, he⟩ := enter_acts 31 (#[.slice ao xs.length ca, .int .i64 x, .int .i64 y] : Array Value)
  have hm : Try.f19.ntmps - (#[.slice ao xs.length ca, .int .i64 x, .int .i64 y] : Array Value).size = 31 := by rw [Try.ntmps19]; rfl
  rw [hm]
  show WB Try.prog _ _ (G ((base 19).at _ [.code _]) _) _
  rw [← ha0]
  replace hz : a0.tmps.size = 34 := hz
  have e0 : a0.eval (.tmp 0) = .slice ao xs.length ca := he 0 _ rfl
  have e1 : a0.eval (.tmp 1) = .int .i64 x := he 1 _ rfl
  have e2 : a0.eval (.tmp 2) = .int .i64 y := he 2 _ rfl
  clear ha0 hm he
  repeat
    first
      | refine b_seq ?_
      | refine b_end ?_
      | refine b_skip ?_
      | refine b_block ?_
      | refine b_loop ?_
      | refine b_inBlock ?_
      | refine b_region rfl ?_
  refine b_op 6 (.int .i64 0) rfl rfl rfl hkn (fun W => run_asg a0 _ (.const (.int .i64 0)) (.int .i64 0) rfl rfl W) fun a1 ea => ?_
  replace e0 := kp ea e0 (by omega)
  replace e1 := kp ea e1 (by omega)
  replace e2 := kp ea e2 (by omega)
  replace hd := kd ea hd
  replace hz := kz ea hz
  clear ea
  refine b_op 7 (.bool false) rfl rfl rfl hkn (fun W => run_asg a1 _ (.const (.bool false)) (.bool false) rfl rfl W) fun a2 ea => ?_
  replace e0 := kp ea e0 (by omega)
  replace e1 := kp ea e1 (by omega)
  replace e2 := kp ea e2 (by omega)
  replace hd := kd ea hd
  replace hz := kz ea hz
  clear ea
  repeat
    first
      | refine b_seq ?_
      | refine b_end ?_
      | refine b_skip ?_
      | refine b_block ?_
      | refine b_loop ?_
      | refine b_inBlock ?_
      | refine b_region rfl ?_
  refine b_op 12 (.slice ao xs.length ca) rfl rfl rfl hkn (fun W => run_mv a2 _ _ _ rfl e0 W) fun a3 ea => ?_
  replace e1 := kp ea e1 (by omega)
  replace e2 := kp ea e2 (by omega)
  have e12 := nw ea hz (by omega)
  replace hd := kd ea hd
  replace hz := kz ea hz
  clear e0
  clear ea
  refine b_call (vs := #[.slice ao xs.length ca]) rfl rfl hkn rfl Try.func36 (by rfl) rfl (by rw [List.map_toArray, List.map_cons, List.map_nil, e12]) ?_
  refine bk_relFrom_yes hr kw hl hx fun w1 hb1 kw1 => ?_
  refine b_back rfl rfl fun a4 ea => ?_
  replace e1 := kp ea e1 (by omega)
  replace e2 := kp ea e2 (by omega)
  have e13 := nw ea hz (by omega)
  replace hd := kd ea hd
  replace hz := kz ea hz
  clear e12
  clear ea
  refine b_op 11 (.tuple #[relOf xs, .bool true]) rfl rfl rfl hkn (fun W => run_mv a4 _ _ _ rfl e13 W) fun a5 ea => ?_
  replace e1 := kp ea e1 (by omega)
  replace e2 := kp ea e2 (by omega)
  have e11 := nw ea hz (by omega)
  replace hd := kd ea hd
  replace hz := kz ea hz
  clear e13
  clear ea
  refine b_op 14 (relOf xs) rfl rfl rfl hkn (fun W => run_ex a5 _ 11 0 _ _ rfl e11 rfl W) fun a6 ea => ?_
  replace e1 := kp ea e1 (by omega)
  replace e2 := kp ea e2 (by omega)
  replace e11 := kp ea e11 (by omega)
  have e14 := nw ea hz (by omega)
  replace hd := kd ea hd
  replace hz := kz ea hz
  clear ea
  refine b_op 15 (.bool true) rfl rfl rfl hkn (fun W => run_ex a6 _ 11 1 _ _ rfl e11 rfl W) fun a7 ea => ?_
  replace e1 := kp ea e1 (by omega)
  replace e2 := kp ea e2 (by omega)
  replace e14 := kp ea e14 (by omega)
  have e15 := nw ea hz (by omega)
  replace hd := kd ea hd
  replace hz := kz ea hz
  clear e11
  clear ea
  have hs1 : Sh w1.heap.size = false := notSh kw1
  refine b_alR 8 rfl rfl rfl hkn rfl rfl fun a8 u1 ea hR1 hz1 hbu => ?_
  replace e1 := kp ea e1 (by omega)
  replace e2 := kp ea e2 (by omega)
  replace e14 := kp ea e14 (by omega)
  replace e15 := kp ea e15 (by omega)
  have e8 := nw ea hz (by omega)
  replace hd := kd ea hd
  replace hz := kz ea hz
  clear ea
  have hc1 := hb1.trans hbu
  refine b_stR rfl rfl rfl hkn rfl rfl e8 e14 hR1 hs1 fun u2 hR2 hbl hz2 hos hout => ?_
  have hc2 : BelowC w u2 := bc_own hc1 (Nat.le_trans hb1.size (Nat.le_refl _)) hbl hz2 hos hout
  have kw2 := kw.bc hc2
  clear hR1 hbl hz1 hbu hc1 hos hout kw1
  refine b_op 9 (.bool true) rfl rfl rfl hkn (fun W => run_asg a8 _ (.tmp 15) _ rfl e15 W) fun a9 ea => ?_
  replace e1 := kp ea e1 (by omega)
  replace e2 := kp ea e2 (by omega)
  replace e8 := kp ea e8 (by omega)
  have e9 := nw ea hz (by omega)
  replace hd := kd ea hd
  replace hz := kz ea hz
  clear e14
  clear e15
  clear ea
  repeat
    first
      | refine b_seq ?_
      | refine b_end ?_
      | refine b_skip ?_
      | refine b_block ?_
      | refine b_loop ?_
      | refine b_inBlock ?_
      | refine b_region rfl ?_
  refine b_op 16 (.bool true) rfl rfl rfl hkn (fun W => run_mv a9 _ _ _ rfl e9 W) fun a10 ea => ?_
  replace e1 := kp ea e1 (by omega)
  replace e2 := kp ea e2 (by omega)
  replace e8 := kp ea e8 (by omega)
  have e16 := nw ea hz (by omega)
  replace hd := kd ea hd
  replace hz := kz ea hz
  clear e9
  clear ea
  refine b_op 17 (.bool false) rfl rfl rfl hkn (fun W => run_not a10 _ 16 true _ rfl e16 W) fun a11 ea => ?_
  replace e1 := kp ea e1 (by omega)
  replace e2 := kp ea e2 (by omega)
  replace e8 := kp ea e8 (by omega)
  have e17 := nw ea hz (by omega)
  replace hd := kd ea hd
  replace hz := kz ea hz
  clear e16
  clear ea
  repeat
    first
      | refine b_seq ?_
      | refine b_end ?_
      | refine b_skip ?_
      | refine b_block ?_
      | refine b_loop ?_
      | refine b_inBlock ?_
      | refine b_region rfl ?_
  refine b_false e17 ?_
  repeat
    first
      | refine b_seq ?_
      | refine b_end ?_
      | refine b_skip ?_
      | refine b_block ?_
      | refine b_loop ?_
      | refine b_inBlock ?_
      | refine b_region rfl ?_
  refine b_ldR 18 rfl rfl rfl hkn rfl rfl e8 hR2 hs1 fun a12 ea => ?_
  replace e1 := kp ea e1 (by omega)
  replace e2 := kp ea e2 (by omega)
  have e18 := nw ea hz (by omega)
  replace hd := kd ea hd
  replace hz := kz ea hz
  clear e8
  clear e17
  clear ea
  refine b_call (vs := #[relOf xs]) rfl rfl hkn rfl Try.func37 (by rfl) rfl (by rw [List.map_toArray, List.map_cons, List.map_nil, e18]) ?_
  refine spaceB kw2 h1 h4 fun Wg g cap w3 hWg hb3 kw3 hrd => ?_
  have hc3 := hc2.trans hb3
  refine b_back rfl rfl fun a13 ea => ?_
  replace e1 := kp ea e1 (by omega)
  replace e2 := kp ea e2 (by omega)
  have e19 := nw ea hz (by omega)
  replace hd := kd ea hd
  replace hz := kz ea hz
  clear e18
  clear ea
  refine b_op 10 (.slice (some ⟨g, 0, none⟩) (spaceL xs).length cap) rfl rfl rfl hkn (fun W => run_asg a13 _ (.tmp 19) _ rfl e19 W) fun a14 ea => ?_
  replace e1 := kp ea e1 (by omega)
  replace e2 := kp ea e2 (by omega)
  have e10 := nw ea hz (by omega)
  replace hd := kd ea hd
  replace hz := kz ea hz
  clear e19
  clear ea
  repeat
    first
      | refine b_seq ?_
      | refine b_end ?_
      | refine b_skip ?_
      | refine b_block ?_
      | refine b_loop ?_
      | refine b_inBlock ?_
      | refine b_region rfl ?_
  refine b_op 20 (.slice (some ⟨g, 0, none⟩) (spaceL xs).length cap) rfl rfl rfl hkn (fun W => run_mv a14 _ _ _ rfl e10 W) fun a15 ea => ?_
  replace e1 := kp ea e1 (by omega)
  replace e2 := kp ea e2 (by omega)
  replace e10 := kp ea e10 (by omega)
  have e20 := nw ea hz (by omega)
  replace hd := kd ea hd
  replace hz := kz ea hz
  clear ea
  refine b_op 21 (.int .i64 x) rfl rfl rfl hkn (fun W => run_mv a15 _ _ _ rfl e1 W) fun a16 ea => ?_
  replace e1 := kp ea e1 (by omega)
  replace e2 := kp ea e2 (by omega)
  replace e10 := kp ea e10 (by omega)
  replace e20 := kp ea e20 (by omega)
  have e21 := nw ea hz (by omega)
  replace hd := kd ea hd
  replace hz := kz ea hz
  clear ea
  refine b_call (vs := #[.slice (some ⟨g, 0, none⟩) (spaceL xs).length cap, .int .i64 x]) rfl rfl hkn rfl Try.func41 (by rfl) rfl (by rw [List.map_toArray, List.map_cons, List.map_cons, List.map_nil, e20, e21]) ?_
  refine bk_contains kw3 hsl hrd fun w4 hb4 kw4 => ?_
  rw [hcx]
  replace hc3 := hc3.trans hb4
  replace hrd := hrd.bc hb4 (fun _ _ => rfl)
  clear kw3 hb4
  have kw3 := kw4
  clear kw4
  refine b_back rfl rfl fun a17 ea => ?_
  replace e1 := kp ea e1 (by omega)
  replace e2 := kp ea e2 (by omega)
  replace e10 := kp ea e10 (by omega)
  have e22 := nw ea hz (by omega)
  replace hd := kd ea hd
  replace hz := kz ea hz
  clear e20
  clear e21
  clear ea
  refine b_op 23 (.bool false) rfl rfl rfl hkn (fun W => run_not a17 _ 22 true _ rfl e22 W) fun a18 ea => ?_
  replace e1 := kp ea e1 (by omega)
  replace e2 := kp ea e2 (by omega)
  replace e10 := kp ea e10 (by omega)
  have e23 := nw ea hz (by omega)
  replace hd := kd ea hd
  replace hz := kz ea hz
  clear e22
  clear ea
  refine b_op 24 (.bool false) rfl rfl rfl hkn (fun W => run_mv a18 _ _ _ rfl e23 W) fun a19 ea => ?_
  replace e1 := kp ea e1 (by omega)
  replace e2 := kp ea e2 (by omega)
  replace e10 := kp ea e10 (by omega)
  have e24 := nw ea hz (by omega)
  replace hd := kd ea hd
  replace hz := kz ea hz
  clear e23
  clear ea
  refine b_op 25 (.slice (some ⟨g, 0, none⟩) (spaceL xs).length cap) rfl (wantedY rfl rfl e24) rfl hkn (fun W => run_mv a19 _ _ _ rfl e10 W) fun a20 ea => ?_
  replace e1 := kp ea e1 (by omega)
  replace e2 := kp ea e2 (by omega)
  replace e10 := kp ea e10 (by omega)
  replace e24 := kp ea e24 (by omega)
  have e25 := nw ea hz (by omega)
  replace hd := kd ea hd
  replace hz := kz ea hz
  clear ea
  refine b_op 26 (.int .i64 y) rfl (wantedY rfl rfl e24) rfl hkn (fun W => run_mv a20 _ _ _ rfl e2 W) fun a21 ea => ?_
  replace e1 := kp ea e1 (by omega)
  replace e2 := kp ea e2 (by omega)
  replace e10 := kp ea e10 (by omega)
  replace e24 := kp ea e24 (by omega)
  replace e25 := kp ea e25 (by omega)
  have e26 := nw ea hz (by omega)
  replace hd := kd ea hd
  replace hz := kz ea hz
  clear ea
  refine b_call (vs := #[.slice (some ⟨g, 0, none⟩) (spaceL xs).length cap, .int .i64 y]) rfl (wantedY rfl rfl e24) hkn rfl Try.func41 (by rfl) rfl (by rw [List.map_toArray, List.map_cons, List.map_cons, List.map_nil, e25, e26]) ?_
  refine bk_contains kw3 hsl hrd fun w4 hb4 kw4 => ?_
  rw [hcy]
  replace hc3 := hc3.trans hb4
  replace hrd := hrd.bc hb4 (fun _ _ => rfl)
  clear kw3 hb4
  have kw3 := kw4
  clear kw4
  refine b_back rfl rfl fun a22 ea => ?_
  replace e1 := kp ea e1 (by omega)
  replace e2 := kp ea e2 (by omega)
  replace e10 := kp ea e10 (by omega)
  replace e24 := kp ea e24 (by omega)
  have e27 := nw ea hz (by omega)
  replace hd := kd ea hd
  replace hz := kz ea hz
  clear e25
  clear e26
  clear ea
  refine b_op 28 (.bool false) rfl (wantedY rfl rfl e24) rfl hkn (fun W => run_not a22 _ 27 true _ rfl e27 W) fun a23 ea => ?_
  replace e1 := kp ea e1 (by omega)
  replace e2 := kp ea e2 (by omega)
  replace e10 := kp ea e10 (by omega)
  replace e24 := kp ea e24 (by omega)
  have e28 := nw ea hz (by omega)
  replace hd := kd ea hd
  replace hz := kz ea hz
  clear e27
  clear ea
  refine b_op 29 (.bool false) rfl rfl rfl hkn (fun W => run_pickF a23 _ _ _ _ _ rfl e24 e28 W) fun a24 ea => ?_
  replace e1 := kp ea e1 (by omega)
  replace e2 := kp ea e2 (by omega)
  replace e10 := kp ea e10 (by omega)
  have e29 := nw ea hz (by omega)
  replace hd := kd ea hd
  replace hz := kz ea hz
  clear e24
  clear e28
  clear ea
  repeat
    first
      | refine b_seq ?_
      | refine b_end ?_
      | refine b_skip ?_
      | refine b_block ?_
      | refine b_loop ?_
      | refine b_inBlock ?_
      | refine b_region rfl ?_
  refine b_false e29 ?_
  repeat
    first
      | refine b_seq ?_
      | refine b_end ?_
      | refine b_skip ?_
      | refine b_block ?_
      | refine b_loop ?_
      | refine b_inBlock ?_
      | refine b_region rfl ?_
  refine b_op 30 (.slice (some ⟨g, 0, none⟩) (spaceL xs).length cap) rfl rfl rfl hkn (fun W => run_mv a24 _ _ _ rfl e10 W) fun a25 ea => ?_
  replace e1 := kp ea e1 (by omega)
  replace e2 := kp ea e2 (by omega)
  have e30 := nw ea hz (by omega)
  replace hd := kd ea hd
  replace hz := kz ea hz
  clear e10
  clear e29
  clear ea
  refine b_op 31 (.int .i64 x) rfl rfl rfl hkn (fun W => run_mv a25 _ _ _ rfl e1 W) fun a26 ea => ?_
  replace e2 := kp ea e2 (by omega)
  replace e30 := kp ea e30 (by omega)
  have e31 := nw ea hz (by omega)
  replace hd := kd ea hd
  replace hz := kz ea hz
  clear e1
  clear ea
  refine b_op 32 (.int .i64 y) rfl rfl rfl hkn (fun W => run_mv a26 _ _ _ rfl e2 W) fun a27 ea => ?_
  replace e30 := kp ea e30 (by omega)
  replace e31 := kp ea e31 (by omega)
  have e32 := nw ea hz (by omega)
  replace hd := kd ea hd
  replace hz := kz ea hz
  clear e2
  clear ea
  refine b_call (vs := #[.slice (some ⟨g, 0, none⟩) (spaceL xs).length cap, .int .i64 x, .int .i64 y]) rfl rfl hkn rfl Try.func42 (by rfl) rfl (by rw [List.map_toArray, List.map_cons, List.map_cons, List.map_cons, List.map_nil, e30, e31, e32]) ?_
  refine bk_spMeet kw3 hsl hrd fun w4 hb4 kw4 => ?_
  replace hc3 := hc3.trans hb4
  clear kw3 hb4
  have kw3 := kw4
  refine b_back rfl rfl fun a28 ea => ?_
  have e33 := nw ea hz (by omega)
  replace hd := kd ea hd
  replace hz := kz ea hz
  clear e30
  clear e31
  clear e32
  clear ea
  refine b_op 6 (.int .i64 (meetTo (spaceL xs) (bits .and .i64 x y) (spaceL xs).length)) rfl rfl rfl hkn (fun W => run_asg a28 _ (.tmp 33) _ rfl e33 W) fun a29 ea => ?_
  have e6 := nw ea hz (by omega)
  replace hd := kd ea hd
  replace hz := kz ea hz
  clear e33
  clear ea
  refine b_op 7 (.bool true) rfl rfl rfl hkn (fun W => run_asg a29 _ (.const (.bool true)) (.bool true) rfl rfl W) fun a30 ea => ?_
  replace e6 := kp ea e6 (by omega)
  have e7 := nw ea hz (by omega)
  replace hd := kd ea hd
  replace hz := kz ea hz
  clear ea
  repeat
    first
      | refine b_seq ?_
      | refine b_end ?_
      | refine b_skip ?_
      | refine b_block ?_
      | refine b_loop ?_
      | refine b_inBlock ?_
      | refine b_region rfl ?_
  refine b_ret ?_
  refine b_leave (v := .tuple #[.int .i64 (meetTo (spaceL xs) (bits .and .i64 x y) (spaceL xs).length), .bool true]) rfl hd Try.func19 (own_res2 rfl e6 e7 _) (fun W es => events_results_tmp2 (t := 6) (u := 7) rfl _ _) ?_
  exact hq _ _ hc3 kw3 (agree_next hWg hc2.size fun _ _ => rfl)

theorem spaceMeetB (kw : KW Try.prog link.tWg Sh w) (hl : xs.length ≤ 1048576) (hx : RdB Sh w ao xs)
    (hq : ∀ Sh' w', BelowC w w' → KW Try.prog link.tWg Sh' w' → (∀ b, b < w.heap.size → Sh' b = Sh b) → WB Try.prog Q Sh' ⟨c0.finish (.tuple #[.int .i64 (smI xs x y), .bool (smB xs x y)]), cs, .running, none, none⟩ w') :
    WB Try.prog Q Sh (gor (Frame.enter Try.prog 19 #[.slice ao xs.length ca, .int .i64 x, .int .i64 y] .normal) [] (c0 :: cs)) w := by
  cases hr : relIn xs with
  | false => exact spaceMeet_no hr kw hl hx hq
  | true =>
    cases hcx : (spaceL xs).contains x with
    | false => exact spaceMeet_x hr hcx kw hl hx hq
    | true =>
      cases hcy : (spaceL xs).contains y with
      | false => exact spaceMeet_y hr hcx hcy kw hl hx hq
      | true => exact spaceMeet_yes hr hcx hcy kw hl hx hq
end
end Go.Ph
