/-
  impl.SpaceEven and the law FnExactSpaceEven beside leavers.
-/
import Derived.Test.YtgmjdkhegbdbjaaBZQ
import Derived.Test.YtgmjdkhegbdbjaaSPE
namespace Go.Ph
open Go Go.Conc Go.ConcN Go.RowKit Go.Conc.Lib Go.ConcR.Gen Go.ConcN.Gen Go.Br Go.Proofs Go.Proofs.Ytgmjdkhegbdbjaa Go.Sort
set_option linter.unusedVariables false
set_option linter.unusedSimpArgs false
set_option linter.unusedSectionVars false
set_option maxRecDepth 100000


section
variable {Q : (Nat → Bool) → Goroutine → World → Prop} {Sh : Nat → Bool} {w w0 : World} {cs : List Frame} {c0 : Frame} {ao bo : Option Addr} {ca cb : Nat} {xs ys : List Int}

variable {Post : Value → World → Prop}
theorem bk_spEven (kw : KW Try.prog link.tWg Sh w) (hl : xs.length ≤ 1048576) (hx : RdB Sh w ao xs)
    (hq : ∀ w', BelowC w w' → KW Try.prog link.tWg Sh w' → WB Try.prog Q Sh ⟨c0.finish (.bool (evI (evF xs xs) xs.length xs.length)), cs, .running, none, none⟩ w') :
    WB Try.prog Q Sh (gor (Frame.enter Try.prog 43 #[.slice ao xs.length ca] .normal) [] (c0 :: cs)) w := by
  refine bk rfl kw (R := fun W v w' => v = .bool (evI (evF xs xs) xs.length xs.length) ∧ Dn W w') (fun W hs hh => (spEven_any ao ca xs W hl (hx.on hh)).mono fun e w' ⟨h1, h2⟩ => ⟨_, h1, rfl, h2⟩) ?_
  rintro W v w' e e1 e2 ⟨rfl, hd⟩
  have hbc := bc_from e e1 e2 (hd.below _)
  exact hq w' hbc (kw.bc hbc)
theorem bk_specSpaceEven (kw : KW Try.prog link.tWg Sh w) (hl : xs.length ≤ 1048576) (hx : RdB Sh w ao xs)
    (hq : ∀ w', BelowC w w' → KW Try.prog link.tWg Sh w' → WB Try.prog Q Sh ⟨c0.finish (.bool (evB xs)), cs, .running, none, none⟩ w') :
    WB Try.prog Q Sh (gor (Frame.enter Try.prog 20 #[.slice ao xs.length ca] .normal) [] (c0 :: cs)) w := by
  refine bk rfl kw (R := fun W v w' => v = .bool (evB xs) ∧ Below W.heap.size W w') (fun W hs hh => (specSpaceEven_any ao ca xs W hl (hx.on hh)).mono fun e w' ⟨h1, h2⟩ => ⟨_, h1, rfl, h2⟩) ?_
  rintro W v w' e e1 e2 ⟨rfl, hb⟩
  have hbc := bc_from e e1 e2 hb
  exact hq w' hbc (kw.bc hbc)
theorem evSp (hr : relIn xs = true) : evI (evF (spaceL xs) (spaceL xs)) (spaceL xs).length (spaceL xs).length = evB xs := by
  have hR := Rl.of hr
  rw [spaceL_is hR]
  have : evF (spL xs) (spL xs) = evF xs (spL xs) := by
    funext i j k
    exact evF_same hR i j k
  rw [this]
  unfold evB
  rw [hr, Bool.true_and]

set_option maxHeartbeats 2000000 in
theorem spaceEven_no (hr : relIn xs = false) (kw : KW Try.prog link.tWg Sh w) (hl : xs.length ≤ 1048576) (hx : RdB Sh w ao xs)
    (hq : ∀ Sh' w', BelowC w w' → KW Try.prog link.tWg Sh' w' → (∀ b, b < w.heap.size → Sh' b = Sh b) → WB Try.prog Q Sh' ⟨c0.finish (.bool (evB xs)), cs, .running, none, none⟩ w') :
    WB Try.prog Q Sh (gor (Frame.enter Try.prog 21 #[.slice ao xs.length ca] .normal) [] (c0 :: cs)) w := by
  have hz : evB xs = false := by unfold evB; rw [hr]; rfl
  rw [hz] at hq
  have hkn : (base 21).kind ≠ .early := base_kind _
  have same : ∀ {a : Act}, a.tmps.size = 16 → ∀ {d : Nat}, d < 16 → ∀ v, (a.put (some d) v).eval (.tmp d) = v := fun h _ hd v => eval_put_same (by rw [h]; exact hd)
  rw [enter_at _ Try.func21 rfl]
  obtain ⟨a0, ha0, hz, hd, he⟩ := enter_acts 15 (#[.slice ao xs.length ca] : Array Value)
  have hm : Try.f21.ntmps - (#[.slice ao xs.length ca] : Array Value).size = 15 := by rw [Try.ntmps21]; rfl
  rw [hm]
  show WB Try.prog _ _ (G ((base 21).at _ [.code _]) _) _
  rw [← ha0]
  replace hz : a0.tmps.size = 16 := hz
  have e0 : a0.eval (.tmp 0) = .slice ao xs.length ca := he 0 _ rfl
  clear ha0 hm he
  repeat
    first
      | refine b_seq ?_
      | refine b_end ?_
      | refine b_skip ?_
      | refine b_block ?_
      | refine b_loop ?_
      | refine b_inBlock ?_
      | refine b_region rfl ?_
  refine b_op 2 (.bool false) rfl rfl rfl hkn (fun W => run_asg a0 _ (.const (.bool false)) (.bool false) rfl rfl W) fun a1 ea => ?_
  replace e0 := kp ea e0 (by omega)
  replace hd := kd ea hd
  replace hz := kz ea hz
  clear ea
  repeat
    first
      | refine b_seq ?_
      | refine b_end ?_
      | refine b_skip ?_
      | refine b_block ?_
      | refine b_loop ?_
      | refine b_inBlock ?_
      | refine b_region rfl ?_
  refine b_op 6 (.slice ao xs.length ca) rfl rfl rfl hkn (fun W => run_mv a1 _ _ _ rfl e0 W) fun a2 ea => ?_
  have e6 := nw ea hz (by omega)
  replace hd := kd ea hd
  replace hz := kz ea hz
  clear e0
  clear ea
  refine b_call (vs := #[.slice ao xs.length ca]) rfl rfl hkn rfl Try.func36 (by rfl) rfl (by rw [List.map_toArray, List.map_cons, List.map_nil, e6]) ?_
  refine bk_relFrom_no hr kw hl hx fun w1 hb1 kw1 => ?_
  refine b_back rfl rfl fun a3 ea => ?_
  have e7 := nw ea hz (by omega)
  replace hd := kd ea hd
  replace hz := kz ea hz
  clear e6
  clear ea
  refine b_op 5 (.tuple #[rel5 0 0 0 0 0, .bool false]) rfl rfl rfl hkn (fun W => run_mv a3 _ _ _ rfl e7 W) fun a4 ea => ?_
  have e5 := nw ea hz (by omega)
  replace hd := kd ea hd
  replace hz := kz ea hz
  clear e7
  clear ea
  refine b_op 8 (rel5 0 0 0 0 0) rfl rfl rfl hkn (fun W => run_ex a4 _ 5 0 _ _ rfl e5 rfl W) fun a5 ea => ?_
  replace e5 := kp ea e5 (by omega)
  have e8 := nw ea hz (by omega)
  replace hd := kd ea hd
  replace hz := kz ea hz
  clear ea
  refine b_op 9 (.bool false) rfl rfl rfl hkn (fun W => run_ex a5 _ 5 1 _ _ rfl e5 rfl W) fun a6 ea => ?_
  replace e8 := kp ea e8 (by omega)
  have e9 := nw ea hz (by omega)
  replace hd := kd ea hd
  replace hz := kz ea hz
  clear e5
  clear ea
  have hs1 : Sh w1.heap.size = false := notSh kw1
  refine b_alR 3 rfl rfl rfl hkn rfl rfl fun a7 u1 ea hR1 hz1 hbu => ?_
  replace e8 := kp ea e8 (by omega)
  replace e9 := kp ea e9 (by omega)
  have e3 := nw ea hz (by omega)
  replace hd := kd ea hd
  replace hz := kz ea hz
  clear ea
  have hc1 := hb1.trans hbu
  refine b_stR rfl rfl rfl hkn rfl rfl e3 e8 hR1 hs1 fun u2 hR2 hbl hz2 hos hout => ?_
  have hc2 : BelowC w u2 := bc_own hc1 (Nat.le_trans hb1.size (Nat.le_refl _)) hbl hz2 hos hout
  have kw2 := kw.bc hc2
  clear hR1 hbl hz1 hbu hc1 hos hout kw1
  refine b_op 4 (.bool false) rfl rfl rfl hkn (fun W => run_asg a7 _ (.tmp 9) _ rfl e9 W) fun a8 ea => ?_
  replace e3 := kp ea e3 (by omega)
  have e4 := nw ea hz (by omega)
  replace hd := kd ea hd
  replace hz := kz ea hz
  clear e8
  clear e9
  clear ea
  repeat
    first
      | refine b_seq ?_
      | refine b_end ?_
      | refine b_skip ?_
      | refine b_block ?_
      | refine b_loop ?_
      | refine b_inBlock ?_
      | refine b_region rfl ?_
  refine b_op 10 (.bool false) rfl rfl rfl hkn (fun W => run_mv a8 _ _ _ rfl e4 W) fun a9 ea => ?_
  replace e3 := kp ea e3 (by omega)
  have e10 := nw ea hz (by omega)
  replace hd := kd ea hd
  replace hz := kz ea hz
  clear e4
  clear ea
  refine b_op 11 (.bool false) rfl rfl rfl hkn (fun W => run_mv a9 _ _ _ rfl e10 W) fun a10 ea => ?_
  replace e3 := kp ea e3 (by omega)
  have e11 := nw ea hz (by omega)
  replace hd := kd ea hd
  replace hz := kz ea hz
  clear e10
  clear ea
  refine b_no rfl (wantedN rfl rfl e11) fun a11 ea => ?_
  replace e11 := kp ea e11 (by omega)
  replace hd := kd ea hd
  replace hz := kz ea hz
  clear e3
  clear ea
  refine b_no rfl (wantedN rfl rfl e11) fun a12 ea => ?_
  replace e11 := kp ea e11 (by omega)
  replace hd := kd ea hd
  replace hz := kz ea hz
  clear ea
  refine b_no rfl (wantedN rfl rfl e11) fun a13 ea => ?_
  replace e11 := kp ea e11 (by omega)
  replace hd := kd ea hd
  replace hz := kz ea hz
  clear ea
  refine b_op 15 (.bool false) rfl rfl rfl hkn (fun W => run_pickF a13 _ _ _ _ (.bool false) rfl e11 rfl W) fun a14 ea => ?_
  have e15 := nw ea hz (by omega)
  replace hd := kd ea hd
  replace hz := kz ea hz
  clear e11
  clear ea
  refine b_op 2 (.bool false) rfl rfl rfl hkn (fun W => run_asg a14 _ (.tmp 15) _ rfl e15 W) fun a15 ea => ?_
  have e2 := nw ea hz (by omega)
  replace hd := kd ea hd
  replace hz := kz ea hz
  clear e15
  clear ea
  repeat
    first
      | refine b_seq ?_
      | refine b_end ?_
      | refine b_skip ?_
      | refine b_block ?_
      | refine b_loop ?_
      | refine b_inBlock ?_
      | refine b_region rfl ?_
  refine b_ret ?_
  refine b_leave (v := .bool false) rfl hd Try.func21 (own_res1 rfl e2 _) (fun W es => events_results_tmp (t := 2) rfl _ _) ?_
  exact hq _ _ hc2 kw2 (fun _ _ => rfl)

set_option maxHeartbeats 2000000 in
theorem spaceEven_yes (hr : relIn xs = true) (kw : KW Try.prog link.tWg Sh w) (hl : xs.length ≤ 1048576) (hx : RdB Sh w ao xs)
    (hq : ∀ Sh' w', BelowC w w' → KW Try.prog link.tWg Sh' w' → (∀ b, b < w.heap.size → Sh' b = Sh b) → WB Try.prog Q Sh' ⟨c0.finish (.bool (evB xs)), cs, .running, none, none⟩ w') :
    WB Try.prog Q Sh (gor (Frame.enter Try.prog 21 #[.slice ao xs.length ca] .normal) [] (c0 :: cs)) w := by
  have hR := Rl.of hr
  have h1 := hR.one
  have h4 := hR.four
  have hse := spaceL_is hR
  have hsl : (spaceL xs).length ≤ 1048576 := by rw [hse]; have := spL_len16 h4; omega
  rw [← evSp hr] at hq
  have hkn : (base 21).kind ≠ .early := base_kind _
  have same : ∀ {a : Act}, a.tmps.size = 16 → ∀ {d : Nat}, d < 16 → ∀ v, (a.put (some d) v).eval (.tmp d) = v := fun h _ hd v => eval_put_same (by rw [h]; exact hd)
  rw [enter_at _ Try.func21 rfl]
  obtain ⟨a0, ha0, hz, hd, he⟩ := enter_acts 15 (#[.slice ao xs.length ca] : Array Value)
  have hm : Try.f21.ntmps - (#[.slice ao xs.length ca] : Array Value).size = 15 := by rw [Try.ntmps21]; rfl
  rw [hm]
  show WB Try.prog _ _ (G ((base 21).at _ [.code _]) _) _
  rw [← ha0]
  replace hz : a0.tmps.size = 16 := hz
  have e0 : a0.eval (.tmp 0) = .slice ao xs.length ca := he 0 _ rfl
  clear ha0 hm he
  repeat
    first
      | refine b_seq ?_
      | refine b_end ?_
      | refine b_skip ?_
      | refine b_block ?_
      | refine b_loop ?_
      | refine b_inBlock ?_
      | refine b_region rfl ?_
  refine b_op 2 (.bool false) rfl rfl rfl hkn (fun W => run_asg a0 _ (.const (.bool false)) (.bool false) rfl rfl W) fun a1 ea => ?_
  replace e0 := kp ea e0 (by omega)
  replace hd := kd ea hd
  replace hz := kz ea hz
  clear ea
  repeat
    first
      | refine b_seq ?_
      | refine b_end ?_
      | refine b_skip ?_
      | refine b_block ?_
      | refine b_loop ?_
      | refine b_inBlock ?_
      | refine b_region rfl ?_
  refine b_op 6 (.slice ao xs.length ca) rfl rfl rfl hkn (fun W => run_mv a1 _ _ _ rfl e0 W) fun a2 ea => ?_
  have e6 := nw ea hz (by omega)
  replace hd := kd ea hd
  replace hz := kz ea hz
  clear e0
  clear ea
  refine b_call (vs := #[.slice ao xs.length ca]) rfl rfl hkn rfl Try.func36 (by rfl) rfl (by rw [List.map_toArray, List.map_cons, List.map_nil, e6]) ?_
  refine bk_relFrom_yes hr kw hl hx fun w1 hb1 kw1 => ?_
  refine b_back rfl rfl fun a3 ea => ?_
  have e7 := nw ea hz (by omega)
  replace hd := kd ea hd
  replace hz := kz ea hz
  clear e6
  clear ea
  refine b_op 5 (.tuple #[relOf xs, .bool true]) rfl rfl rfl hkn (fun W => run_mv a3 _ _ _ rfl e7 W) fun a4 ea => ?_
  have e5 := nw ea hz (by omega)
  replace hd := kd ea hd
  replace hz := kz ea hz
  clear e7
  clear ea
  refine b_op 8 (relOf xs) rfl rfl rfl hkn (fun W => run_ex a4 _ 5 0 _ _ rfl e5 rfl W) fun a5 ea => ?_
  replace e5 := kp ea e5 (by omega)
  have e8 := nw ea hz (by omega)
  replace hd := kd ea hd
  replace hz := kz ea hz
  clear ea
  refine b_op 9 (.bool true) rfl rfl rfl hkn (fun W => run_ex a5 _ 5 1 _ _ rfl e5 rfl W) fun a6 ea => ?_
  replace e8 := kp ea e8 (by omega)
  have e9 := nw ea hz (by omega)
  replace hd := kd ea hd
  replace hz := kz ea hz
  clear e5
  clear ea
  have hs1 : Sh w1.heap.size = false := notSh kw1
  refine b_alR 3 rfl rfl rfl hkn rfl rfl fun a7 u1 ea hR1 hz1 hbu => ?_
  replace e8 := kp ea e8 (by omega)
  replace e9 := kp ea e9 (by omega)
  have e3 := nw ea hz (by omega)
  replace hd := kd ea hd
  replace hz := kz ea hz
  clear ea
  have hc1 := hb1.trans hbu
  refine b_stR rfl rfl rfl hkn rfl rfl e3 e8 hR1 hs1 fun u2 hR2 hbl hz2 hos hout => ?_
  have hc2 : BelowC w u2 := bc_own hc1 (Nat.le_trans hb1.size (Nat.le_refl _)) hbl hz2 hos hout
  have kw2 := kw.bc hc2
  clear hR1 hbl hz1 hbu hc1 hos hout kw1
  refine b_op 4 (.bool true) rfl rfl rfl hkn (fun W => run_asg a7 _ (.tmp 9) _ rfl e9 W) fun a8 ea => ?_
  replace e3 := kp ea e3 (by omega)
  have e4 := nw ea hz (by omega)
  replace hd := kd ea hd
  replace hz := kz ea hz
  clear e8
  clear e9
  clear ea
  repeat
    first
      | refine b_seq ?_
      | refine b_end ?_
      | refine b_skip ?_
      | refine b_block ?_
      | refine b_loop ?_
      | refine b_inBlock ?_
      | refine b_region rfl ?_
  refine b_op 10 (.bool true) rfl rfl rfl hkn (fun W => run_mv a8 _ _ _ rfl e4 W) fun a9 ea => ?_
  replace e3 := kp ea e3 (by omega)
  have e10 := nw ea hz (by omega)
  replace hd := kd ea hd
  replace hz := kz ea hz
  clear e4
  clear ea
  refine b_op 11 (.bool true) rfl rfl rfl hkn (fun W => run_mv a9 _ _ _ rfl e10 W) fun a10 ea => ?_
  replace e3 := kp ea e3 (by omega)
  have e11 := nw ea hz (by omega)
  replace hd := kd ea hd
  replace hz := kz ea hz
  clear e10
  clear ea
  refine b_ldR 12 rfl (wantedY rfl rfl e11) rfl hkn rfl rfl e3 hR2 hs1 fun a11 ea => ?_
  replace e11 := kp ea e11 (by omega)
  have e12 := nw ea hz (by omega)
  replace hd := kd ea hd
  replace hz := kz ea hz
  clear e3
  clear ea
  refine b_call (vs := #[relOf xs]) rfl (wantedY rfl rfl e11) hkn rfl Try.func37 (by rfl) rfl (by rw [List.map_toArray, List.map_cons, List.map_nil, e12]) ?_
  refine spaceB kw2 h1 h4 fun Wg g cap w3 hWg hb3 kw3 hrd => ?_
  have hc3 := hc2.trans hb3
  refine b_back rfl rfl fun a12 ea => ?_
  replace e11 := kp ea e11 (by omega)
  have e13 := nw ea hz (by omega)
  replace hd := kd ea hd
  replace hz := kz ea hz
  clear e12
  clear ea
  refine b_call (vs := #[.slice (some ⟨g, 0, none⟩) (spaceL xs).length cap]) rfl (wantedY rfl rfl e11) hkn rfl Try.func43 (by rfl) rfl (by rw [List.map_toArray, List.map_cons, List.map_nil, e13]) ?_
  refine bk_spEven kw3 hsl hrd fun w4 hb4 kw4 => ?_
  replace hc3 := hc3.trans hb4
  clear kw3 hb4
  have kw3 := kw4
  refine b_back rfl rfl fun a13 ea => ?_
  replace e11 := kp ea e11 (by omega)
  have e14 := nw ea hz (by omega)
  replace hd := kd ea hd
  replace hz := kz ea hz
  clear e13
  clear ea
  refine b_op 15 (.bool (evI (evF (spaceL xs) (spaceL xs)) (spaceL xs).length (spaceL xs).length)) rfl rfl rfl hkn (fun W => run_pickT a13 _ _ _ _ _ rfl e11 e14 W) fun a14 ea => ?_
  have e15 := nw ea hz (by omega)
  replace hd := kd ea hd
  replace hz := kz ea hz
  clear e11
  clear e14
  clear ea
  refine b_op 2 (.bool (evI (evF (spaceL xs) (spaceL xs)) (spaceL xs).length (spaceL xs).length)) rfl rfl rfl hkn (fun W => run_asg a14 _ (.tmp 15) _ rfl e15 W) fun a15 ea => ?_
  have e2 := nw ea hz (by omega)
  replace hd := kd ea hd
  replace hz := kz ea hz
  clear e15
  clear ea
  repeat
    first
      | refine b_seq ?_
      | refine b_end ?_
      | refine b_skip ?_
      | refine b_block ?_
      | refine b_loop ?_
      | refine b_inBlock ?_
      | refine b_region rfl ?_
  refine b_ret ?_
  refine b_leave (v := .bool (evI (evF (spaceL xs) (spaceL xs)) (spaceL xs).length (spaceL xs).length)) rfl hd Try.func21 (own_res1 rfl e2 _) (fun W es => events_results_tmp (t := 2) rfl _ _) ?_
  exact hq _ _ hc3 kw3 (agree_next hWg hc2.size fun _ _ => rfl)

theorem spaceEvenB (kw : KW Try.prog link.tWg Sh w) (hl : xs.length ≤ 1048576) (hx : RdB Sh w ao xs)
    (hq : ∀ Sh' w', BelowC w w' → KW Try.prog link.tWg Sh' w' → (∀ b, b < w.heap.size → Sh' b = Sh b) → WB Try.prog Q Sh' ⟨c0.finish (.bool (evB xs)), cs, .running, none, none⟩ w') :
    WB Try.prog Q Sh (gor (Frame.enter Try.prog 21 #[.slice ao xs.length ca] .normal) [] (c0 :: cs)) w := by
  cases hr : relIn xs with
  | false => exact spaceEven_no hr kw hl hx hq
  | true => exact spaceEven_yes hr kw hl hx hq

set_option maxHeartbeats 4000000 in
theorem exSpaceEven (kw : KW Try.prog link.tWg Sh w) (hl : xs.length ≤ 1048576) (hx : RdB Sh w ao xs) (hp : ∀ w', BelowC w w' → ∀ τ d, Post (.bool true) (w'.on τ d)) :
    WB Try.prog (EndQ Try.prog Post) Sh (G (Frame.enter Try.prog 5 #[.slice ao xs.length ca] .normal) []) w := by
  have bc := BelowC.refl w
  have hkn : (base 5).kind ≠ .early := base_kind _
  have same : ∀ {a : Act}, a.tmps.size = 24 → ∀ {d : Nat}, d < 24 → ∀ v, (a.put (some d) v).eval (.tmp d) = v := fun h _ hd v => eval_put_same (by rw [h]; exact hd)
  rw [enter_at _ Try.func5 rfl]
  obtain ⟨a0, ha0, hz, hd, he⟩ := enter_acts 23 (#[.slice ao xs.length ca] : Array Value)
  have hm : Try.f5.ntmps - (#[.slice ao xs.length ca] : Array Value).size = 23 := by rw [Try.ntmps5]; rfl
  rw [hm]
  show WB Try.prog _ _ (G ((base 5).at _ [.code _]) _) _
  rw [← ha0]
  replace hz : a0.tmps.size = 24 := hz
  have e0 : a0.eval (.tmp 0) = .slice ao xs.length ca := he 0 _ rfl
  clear ha0 hm he
  repeat
    first
      | refine b_seq ?_
      | refine b_end ?_
      | refine b_skip ?_
      | refine b_block ?_
      | refine b_loop ?_
      | refine b_inBlock ?_
      | refine b_region rfl ?_
  refine b_op 2 (.bool false) rfl rfl rfl hkn (fun W => run_asg a0 _ (.const (.bool false)) (.bool false) rfl rfl W) fun a1 ea => ?_
  replace e0 := kp ea e0 (by omega)
  replace hd := kd ea hd
  replace hz := kz ea hz
  clear ea
  repeat
    first
      | refine b_seq ?_
      | refine b_end ?_
      | refine b_skip ?_
      | refine b_block ?_
      | refine b_loop ?_
      | refine b_inBlock ?_
      | refine b_region rfl ?_
  refine b_op 6 (.slice ao xs.length ca) rfl rfl rfl hkn (fun W => run_mv a1 _ _ _ rfl e0 W) fun a2 ea => ?_
  replace e0 := kp ea e0 (by omega)
  have e6 := nw ea hz (by omega)
  replace hd := kd ea hd
  replace hz := kz ea hz
  clear ea
  refine b_op 7 (.int .i64 xs.length) rfl rfl rfl hkn (fun W => run_lenI a2 _ 6 _ _ _ _ rfl rfl e6 W) fun a3 ea => ?_
  replace e0 := kp ea e0 (by omega)
  have e7 := nw ea hz (by omega)
  replace hd := kd ea hd
  replace hz := kz ea hz
  clear e6
  clear ea
  refine b_op 8 (.bool false) rfl rfl rfl hkn (fun W => run_gt0 a3 _ (.tmp 7) (.const (.int .i64 1048576)) _ _ _ _ false (by simp; omega) rfl e7 rfl W) fun a4 ea => ?_
  replace e0 := kp ea e0 (by omega)
  have e8 := nw ea hz (by omega)
  replace hd := kd ea hd
  replace hz := kz ea hz
  clear e7
  clear ea
  repeat
    first
      | refine b_seq ?_
      | refine b_end ?_
      | refine b_skip ?_
      | refine b_block ?_
      | refine b_loop ?_
      | refine b_inBlock ?_
      | refine b_region rfl ?_
  refine b_false e8 ?_
  repeat
    first
      | refine b_seq ?_
      | refine b_end ?_
      | refine b_skip ?_
      | refine b_block ?_
      | refine b_loop ?_
      | refine b_inBlock ?_
      | refine b_region rfl ?_
  refine b_op 9 (.slice ao xs.length ca) rfl rfl rfl hkn (fun W => run_mv a4 _ _ _ rfl e0 W) fun a5 ea => ?_
  replace e0 := kp ea e0 (by omega)
  have e9 := nw ea hz (by omega)
  replace hd := kd ea hd
  replace hz := kz ea hz
  clear e8
  clear ea
  refine b_call (vs := #[.slice ao xs.length ca]) rfl rfl hkn rfl Try.func13 (by rfl) rfl (by rw [List.map_toArray, List.map_cons, List.map_nil, e9]) ?_
  refine bk_toIntS kw hl hx fun w1 row1 hb1 kw1 => ?_
  clear kw
  have kw := kw1
  replace hx := hx.bc hb1 (fun _ _ => rfl)
  replace bc := bc.trans hb1
  have rd1 := row1.rd
  refine b_back rfl rfl fun a6 ea => ?_
  replace e0 := kp ea e0 (by omega)
  have e10 := nw ea hz (by omega)
  replace hd := kd ea hd
  replace hz := kz ea hz
  clear e9
  clear ea
  refine b_call (vs := #[.slice (some ⟨w.heap.size, 0, none⟩) xs.length xs.length]) rfl rfl hkn rfl Try.func20 (by rfl) rfl (by rw [List.map_toArray, List.map_cons, List.map_nil, e10]) ?_
  refine bk_specSpaceEven kw hl rd1 fun w2 hb2 kw2 => ?_
  clear kw
  have kw := kw2
  replace hx := hx.bc hb2 (fun _ _ => rfl)
  replace rd1 := rd1.bc hb2 (fun _ _ => rfl)
  replace bc := bc.trans hb2
  refine b_back rfl rfl fun a7 ea => ?_
  replace e0 := kp ea e0 (by omega)
  have e11 := nw ea hz (by omega)
  replace hd := kd ea hd
  replace hz := kz ea hz
  clear e10
  clear ea
  refine b_op 3 (.bool (evB xs)) rfl rfl rfl hkn (fun W => run_asg a7 _ (.tmp 11) _ rfl e11 W) fun a8 ea => ?_
  replace e0 := kp ea e0 (by omega)
  have e3 := nw ea hz (by omega)
  replace hd := kd ea hd
  replace hz := kz ea hz
  clear e11
  clear ea
  repeat
    first
      | refine b_seq ?_
      | refine b_end ?_
      | refine b_skip ?_
      | refine b_block ?_
      | refine b_loop ?_
      | refine b_inBlock ?_
      | refine b_region rfl ?_
  refine b_op 12 (.slice ao xs.length ca) rfl rfl rfl hkn (fun W => run_mv a8 _ _ _ rfl e0 W) fun a9 ea => ?_
  replace e0 := kp ea e0 (by omega)
  replace e3 := kp ea e3 (by omega)
  have e12 := nw ea hz (by omega)
  replace hd := kd ea hd
  replace hz := kz ea hz
  clear ea
  refine b_call (vs := #[.slice ao xs.length ca]) rfl rfl hkn rfl Try.func13 (by rfl) rfl (by rw [List.map_toArray, List.map_cons, List.map_nil, e12]) ?_
  refine bk_toIntS kw hl hx fun w3 row3 hb3 kw3 => ?_
  clear kw
  have kw := kw3
  replace hx := hx.bc hb3 (fun _ _ => rfl)
  replace rd1 := rd1.bc hb3 (fun _ _ => rfl)
  replace bc := bc.trans hb3
  have rd3 := row3.rd
  refine b_back rfl rfl fun a10 ea => ?_
  replace e0 := kp ea e0 (by omega)
  replace e3 := kp ea e3 (by omega)
  have e13 := nw ea hz (by omega)
  replace hd := kd ea hd
  replace hz := kz ea hz
  clear e12
  clear ea
  refine b_op 4 (.slice (some ⟨w2.heap.size, 0, none⟩) xs.length xs.length) rfl rfl rfl hkn (fun W => run_asg a10 _ (.tmp 13) _ rfl e13 W) fun a11 ea => ?_
  replace e0 := kp ea e0 (by omega)
  replace e3 := kp ea e3 (by omega)
  have e4 := nw ea hz (by omega)
  replace hd := kd ea hd
  replace hz := kz ea hz
  clear e13
  clear ea
  repeat
    first
      | refine b_seq ?_
      | refine b_end ?_
      | refine b_skip ?_
      | refine b_block ?_
      | refine b_loop ?_
      | refine b_inBlock ?_
      | refine b_region rfl ?_
  refine b_op 14 (.slice (some ⟨w2.heap.size, 0, none⟩) xs.length xs.length) rfl rfl rfl hkn (fun W => run_mv a11 _ _ _ rfl e4 W) fun a12 ea => ?_
  replace e0 := kp ea e0 (by omega)
  replace e3 := kp ea e3 (by omega)
  replace e4 := kp ea e4 (by omega)
  have e14 := nw ea hz (by omega)
  replace hd := kd ea hd
  replace hz := kz ea hz
  clear ea
  refine b_call (vs := #[.slice (some ⟨w2.heap.size, 0, none⟩) xs.length xs.length]) rfl rfl hkn rfl Try.func21 (by rfl) rfl (by rw [List.map_toArray, List.map_cons, List.map_nil, e14]) ?_
  refine spaceEvenB kw hl rd3 fun Sh4 w4 hb4 kw4 ag4 => ?_
  clear kw
  have kw := kw4
  replace hx := hx.bc hb4 ag4
  replace rd1 := rd1.bc hb4 ag4
  replace rd3 := rd3.bc hb4 ag4
  replace bc := bc.trans hb4
  refine b_back rfl rfl fun a13 ea => ?_
  replace e0 := kp ea e0 (by omega)
  replace e3 := kp ea e3 (by omega)
  replace e4 := kp ea e4 (by omega)
  have e15 := nw ea hz (by omega)
  replace hd := kd ea hd
  replace hz := kz ea hz
  clear e14
  clear ea
  refine b_op 5 (.bool (evB xs)) rfl rfl rfl hkn (fun W => run_asg a13 _ (.tmp 15) _ rfl e15 W) fun a14 ea => ?_
  replace e0 := kp ea e0 (by omega)
  replace e3 := kp ea e3 (by omega)
  replace e4 := kp ea e4 (by omega)
  have e5 := nw ea hz (by omega)
  replace hd := kd ea hd
  replace hz := kz ea hz
  clear e15
  clear ea
  repeat
    first
      | refine b_seq ?_
      | refine b_end ?_
      | refine b_skip ?_
      | refine b_block ?_
      | refine b_loop ?_
      | refine b_inBlock ?_
      | refine b_region rfl ?_
  refine b_op 16 (.bool (evB xs)) rfl rfl rfl hkn (fun W => run_mv a14 _ _ _ rfl e5 W) fun a15 ea => ?_
  replace e0 := kp ea e0 (by omega)
  replace e3 := kp ea e3 (by omega)
  replace e4 := kp ea e4 (by omega)
  have e16 := nw ea hz (by omega)
  replace hd := kd ea hd
  replace hz := kz ea hz
  clear e5
  clear ea
  refine b_op 17 (.bool (evB xs)) rfl rfl rfl hkn (fun W => run_mv a15 _ _ _ rfl e3 W) fun a16 ea => ?_
  replace e0 := kp ea e0 (by omega)
  replace e4 := kp ea e4 (by omega)
  replace e16 := kp ea e16 (by omega)
  have e17 := nw ea hz (by omega)
  replace hd := kd ea hd
  replace hz := kz ea hz
  clear e3
  clear ea
  refine b_op 18 (.bool false) rfl rfl rfl hkn (fun W => run_neqB0 a16 _ 16 17 _ _ false _ _ (by simp) rfl rfl e16 e17 W) fun a17 ea => ?_
  replace e0 := kp ea e0 (by omega)
  replace e4 := kp ea e4 (by omega)
  have e18 := nw ea hz (by omega)
  replace hd := kd ea hd
  replace hz := kz ea hz
  clear e16
  clear e17
  clear ea
  repeat
    first
      | refine b_seq ?_
      | refine b_end ?_
      | refine b_skip ?_
      | refine b_block ?_
      | refine b_loop ?_
      | refine b_inBlock ?_
      | refine b_region rfl ?_
  refine b_false e18 ?_
  repeat
    first
      | refine b_seq ?_
      | refine b_end ?_
      | refine b_skip ?_
      | refine b_block ?_
      | refine b_loop ?_
      | refine b_inBlock ?_
      | refine b_region rfl ?_
  refine b_op 19 (.slice (some ⟨w2.heap.size, 0, none⟩) xs.length xs.length) rfl rfl rfl hkn (fun W => run_mv a17 _ _ _ rfl e4 W) fun a18 ea => ?_
  replace e0 := kp ea e0 (by omega)
  have e19 := nw ea hz (by omega)
  replace hd := kd ea hd
  replace hz := kz ea hz
  clear e4
  clear e18
  clear ea
  refine b_op 20 (.slice ao xs.length ca) rfl rfl rfl hkn (fun W => run_mv a18 _ _ _ rfl e0 W) fun a19 ea => ?_
  replace e19 := kp ea e19 (by omega)
  have e20 := nw ea hz (by omega)
  replace hd := kd ea hd
  replace hz := kz ea hz
  clear e0
  clear ea
  refine b_call (vs := #[.slice ao xs.length ca]) rfl rfl hkn rfl Try.func13 (by rfl) rfl (by rw [List.map_toArray, List.map_cons, List.map_nil, e20]) ?_
  refine bk_toIntS kw hl hx fun w5 row5 hb5 kw5 => ?_
  clear kw
  have kw := kw5
  replace hx := hx.bc hb5 (fun _ _ => rfl)
  replace rd1 := rd1.bc hb5 (fun _ _ => rfl)
  replace rd3 := rd3.bc hb5 (fun _ _ => rfl)
  replace bc := bc.trans hb5
  have rd5 := row5.rd
  refine b_back rfl rfl fun a20 ea => ?_
  replace e19 := kp ea e19 (by omega)
  have e21 := nw ea hz (by omega)
  replace hd := kd ea hd
  replace hz := kz ea hz
  clear e20
  clear ea
  refine b_call (vs := #[.slice (some ⟨w2.heap.size, 0, none⟩) xs.length xs.length, .slice (some ⟨w4.heap.size, 0, none⟩) xs.length xs.length]) rfl rfl hkn rfl Try.func15 (by rfl) rfl (by rw [List.map_toArray, List.map_cons, List.map_cons, List.map_nil, e19, e21]) ?_
  refine bk_eqIntS_same kw hl rd3 rd5 fun w6 hb6 kw6 => ?_
  clear kw
  have kw := kw6
  replace hx := hx.bc hb6 (fun _ _ => rfl)
  replace rd1 := rd1.bc hb6 (fun _ _ => rfl)
  replace rd3 := rd3.bc hb6 (fun _ _ => rfl)
  replace rd5 := rd5.bc hb6 (fun _ _ => rfl)
  replace bc := bc.trans hb6
  refine b_back rfl rfl fun a21 ea => ?_
  have e22 := nw ea hz (by omega)
  replace hd := kd ea hd
  replace hz := kz ea hz
  clear e19
  clear e21
  clear ea
  refine b_op 23 (.bool false) rfl rfl rfl hkn (fun W => run_not a21 _ 22 true _ rfl e22 W) fun a22 ea => ?_
  have e23 := nw ea hz (by omega)
  replace hd := kd ea hd
  replace hz := kz ea hz
  clear e22
  clear ea
  repeat
    first
      | refine b_seq ?_
      | refine b_end ?_
      | refine b_skip ?_
      | refine b_block ?_
      | refine b_loop ?_
      | refine b_inBlock ?_
      | refine b_region rfl ?_
  refine b_false e23 ?_
  repeat
    first
      | refine b_seq ?_
      | refine b_end ?_
      | refine b_skip ?_
      | refine b_block ?_
      | refine b_loop ?_
      | refine b_inBlock ?_
      | refine b_region rfl ?_
  refine b_op 2 (.bool true) rfl rfl rfl hkn (fun W => run_asg a22 _ (.const (.bool true)) (.bool true) rfl rfl W) fun a23 ea => ?_
  have e2 := nw ea hz (by omega)
  replace hd := kd ea hd
  replace hz := kz ea hz
  clear e23
  clear ea
  repeat
    first
      | refine b_seq ?_
      | refine b_end ?_
      | refine b_skip ?_
      | refine b_block ?_
      | refine b_loop ?_
      | refine b_inBlock ?_
      | refine b_region rfl ?_
  refine b_ret ?_
  refine b_finish rfl (by kernel_rfl) hd Try.func5 (own_res1 rfl e2 _) (fun W es => events_results_tmp (t := 2) rfl _ _) ?_
  exact hp _ bc

theorem exSpaceEven_long (n : Nat) (hl : ¬ n ≤ 1048576) (hp : ∀ τ d, Post (.bool true) (w.on τ d)) :
    WB Try.prog (EndQ Try.prog Post) Sh (G (Frame.enter Try.prog 5 #[.slice ao n ca] .normal) []) w := by
  have hkn : (base 5).kind ≠ .early := base_kind _
  have same : ∀ {a : Act}, a.tmps.size = 24 → ∀ {d : Nat}, d < 24 → ∀ v, (a.put (some d) v).eval (.tmp d) = v := fun h _ hd v => eval_put_same (by rw [h]; exact hd)
  rw [enter_at _ Try.func5 rfl]
  obtain ⟨a0, ha0, hz, hd, he⟩ := enter_acts 23 (#[.slice ao n ca] : Array Value)
  have hm : Try.f5.ntmps - (#[.slice ao n ca] : Array Value).size = 23 := by rw [Try.ntmps5]; rfl
  rw [hm]
  show WB Try.prog _ _ (G ((base 5).at _ [.code _]) _) _
  rw [← ha0]
  replace hz : a0.tmps.size = 24 := hz
  have e0 : a0.eval (.tmp 0) = .slice ao n ca := he 0 _ rfl
  clear ha0 hm he
  repeat
    first
      | refine b_seq ?_
      | refine b_end ?_
      | refine b_skip ?_
      | refine b_block ?_
      | refine b_loop ?_
      | refine b_inBlock ?_
      | refine b_region rfl ?_
  refine b_op 2 (.bool false) rfl rfl rfl hkn (fun W => run_asg a0 _ (.const (.bool false)) (.bool false) rfl rfl W) fun a1 ea => ?_
  replace e0 := kp ea e0 (by omega)
  replace hd := kd ea hd
  replace hz := kz ea hz
  clear ea
  repeat
    first
      | refine b_seq ?_
      | refine b_end ?_
      | refine b_skip ?_
      | refine b_block ?_
      | refine b_loop ?_
      | refine b_inBlock ?_
      | refine b_region rfl ?_
  refine b_op 6 (.slice ao n ca) rfl rfl rfl hkn (fun W => run_mv a1 _ _ _ rfl e0 W) fun a2 ea => ?_
  have e6 := nw ea hz (by omega)
  replace hd := kd ea hd
  replace hz := kz ea hz
  clear e0
  clear ea
  refine b_op 7 (.int .i64 n) rfl rfl rfl hkn (fun W => run_lenI a2 _ 6 _ _ _ _ rfl rfl e6 W) fun a3 ea => ?_
  have e7 := nw ea hz (by omega)
  replace hd := kd ea hd
  replace hz := kz ea hz
  clear e6
  clear ea
  refine b_op 8 (.bool true) rfl rfl rfl hkn (fun W => run_gt0 a3 _ (.tmp 7) (.const (.int .i64 1048576)) _ _ _ _ true (by simp; omega) rfl e7 rfl W) fun a4 ea => ?_
  have e8 := nw ea hz (by omega)
  replace hd := kd ea hd
  replace hz := kz ea hz
  clear e7
  clear ea
  repeat
    first
      | refine b_seq ?_
      | refine b_end ?_
      | refine b_skip ?_
      | refine b_block ?_
      | refine b_loop ?_
      | refine b_inBlock ?_
      | refine b_region rfl ?_
  refine b_true e8 ?_
  repeat
    first
      | refine b_seq ?_
      | refine b_end ?_
      | refine b_skip ?_
      | refine b_block ?_
      | refine b_loop ?_
      | refine b_inBlock ?_
      | refine b_region rfl ?_
  refine b_op 2 (.bool true) rfl rfl rfl hkn (fun W => run_asg a4 _ (.const (.bool true)) (.bool true) rfl rfl W) fun a5 ea => ?_
  have e2 := nw ea hz (by omega)
  replace hd := kd ea hd
  replace hz := kz ea hz
  clear e8
  clear ea
  repeat
    first
      | refine b_seq ?_
      | refine b_end ?_
      | refine b_skip ?_
      | refine b_block ?_
      | refine b_loop ?_
      | refine b_inBlock ?_
      | refine b_region rfl ?_
  refine b_ret ?_
  refine b_finish rfl (by kernel_rfl) hd Try.func5 (own_res1 rfl e2 _) (fun W es => events_results_tmp (t := 2) rfl _ _) ?_
  exact hp
end
end Go.Ph
