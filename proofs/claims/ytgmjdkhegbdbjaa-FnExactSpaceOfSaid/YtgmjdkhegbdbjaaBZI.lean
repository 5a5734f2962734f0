/-
  The law FnExactSpaceOf beside leavers.
-/
import Derived.Test.YtgmjdkhegbdbjaaBZH
namespace Go.Ph
open Go Go.Conc Go.ConcN Go.RowKit Go.Conc.Lib Go.ConcR.Gen Go.ConcN.Gen Go.Br Go.Proofs Go.Proofs.Ytgmjdkhegbdbjaa Go.Sort
set_option linter.unusedVariables false
set_option linter.unusedSimpArgs false
set_option linter.unusedSectionVars false
set_option maxRecDepth 100000


section
variable {Q : (Nat → Bool) → Goroutine → World → Prop} {Sh : Nat → Bool} {w w0 : World} {cs : List Frame} {c0 : Frame} {ao bo : Option Addr} {ca cb : Nat} {xs ys : List Int}

theorem run_neqI0 (a : Act) (o : Oper) (x y : Tmp) (i j : Int) (r : Bool) (t t' : TypeId) (hr : (i != j) = r) (ht : t = 3) (ho : o.op = .binOp .neq t (.tmp x) (.tmp y) t') (h : a.eval (.tmp x) = .int .i64 i) (h2 : a.eval (.tmp y) = .int .i64 j) (w : World) :
    (execOp a.eval o).run Try.prog w = .ok (.value (.bool r)) w ∧ (execOp a.eval o).events Try.prog w #[] = #[] := by
  subst hr; exact run_neqI a o x y i j t t' ht ho h h2 w
theorem run_gt0 (a : Act) (o : Oper) (x y : Operand) (i j : Int) (t t' : TypeId) (r : Bool) (hr : decide (j < i) = r) (ho : o.op = .binOp .gtr t x y t') (h : a.eval x = .int .i64 i) (h2 : a.eval y = .int .i64 j) (w : World) :
    (execOp a.eval o).run Try.prog w = .ok (.value (.bool r)) w ∧ (execOp a.eval o).events Try.prog w #[] = #[] := by
  subst hr; exact run_gtI a o x y i j t t' ho h h2 w
theorem rdB_nil {ao : Option Addr} : RdB Sh w ao [] := ⟨fun k x hx => by simp at hx, fun k x hx => by simp at hx⟩
theorem bk_eqIntS_same (kw : KW Try.prog link.tWg Sh w) (hl : xs.length ≤ 1048576) (hx : RdB Sh w ao xs) (hy : RdB Sh w bo xs)
    (hq : ∀ w', BelowC w w' → KW Try.prog link.tWg Sh w' → WB Try.prog Q Sh ⟨c0.finish (.bool true), cs, .running, none, none⟩ w') :
    WB Try.prog Q Sh (gor (Frame.enter Try.prog 15 #[.slice ao xs.length ca, .slice bo xs.length cb] .normal) [] (c0 :: cs)) w :=
  bk_eqIntS kw hl hl hx hy fun w' h1 h2 => by rw [show decide (xs = xs) = true by simp]; exact hq w' h1 h2

theorem bk_specSpaceOf_yes (hr : relIn xs = true) (kw : KW Try.prog link.tWg Sh w) (hl : xs.length ≤ 1048576) (hx : RdB Sh w ao xs)
    (hq : ∀ aw cw w', RdB Sh w' aw (spL xs) → BelowC w w' → KW Try.prog link.tWg Sh w' → WB Try.prog Q Sh ⟨c0.finish (.tuple #[.slice aw (spL xs).length cw, .bool true]), cs, .running, none, none⟩ w') :
    WB Try.prog Q Sh (gor (Frame.enter Try.prog 12 #[.slice ao xs.length ca] .normal) [] (c0 :: cs)) w :=
  bk_specSpaceOf kw hl hx fun aw cw w' h1 h2 h3 => by rw [hr] at h1 ⊢; exact hq aw cw w' h1 h2 h3
theorem bk_specSpaceOf_no (hr : relIn xs = false) (kw : KW Try.prog link.tWg Sh w) (hl : xs.length ≤ 1048576) (hx : RdB Sh w ao xs)
    (hq : ∀ aw cw w', RdB Sh w' aw [] → BelowC w w' → KW Try.prog link.tWg Sh w' → WB Try.prog Q Sh ⟨c0.finish (.tuple #[.slice aw 0 cw, .bool false]), cs, .running, none, none⟩ w') :
    WB Try.prog Q Sh (gor (Frame.enter Try.prog 12 #[.slice ao xs.length ca] .normal) [] (c0 :: cs)) w :=
  bk_specSpaceOf kw hl hx fun aw cw w' h1 h2 h3 => by rw [hr] at h1 ⊢; exact hq aw cw w' h1 h2 h3

variable {Post : Value → World → Prop}
set_option maxHeartbeats 4000000 in
theorem exSpaceOf_no (hr : relIn xs = false) (kw : KW Try.prog link.tWg Sh w) (hl : xs.length ≤ 1048576) (hx : RdB Sh w ao xs) (hp : ∀ w', BelowC w w' → ∀ τ d, Post (.bool true) (w'.on τ d)) :
    WB Try.prog (EndQ Try.prog Post) Sh (G (Frame.enter Try.prog 3 #[.slice ao xs.length ca] .normal) []) w := by
  have hsl : ([] : List Int).length ≤ 1048576 := by simp
  have hkn : (base 3).kind ≠ .early := base_kind _
  have same : ∀ {a : Act}, a.tmps.size = 93 → ∀ {d : Nat}, d < 93 → ∀ v, (a.put (some d) v).eval (.tmp d) = v := fun h _ hd v => eval_put_same (by rw [h]; exact hd)
  rw [enter_at _ Try.func3 rfl]
  obtain ⟨a0, ha0, hz, hd, he⟩ := enter_acts 92 (#[.slice ao xs.length ca] : Array Value)
  have hm : Try.f3.ntmps - (#[.slice ao xs.length ca] : Array Value).size = 92 := by rw [Try.ntmps3]; rfl
  rw [hm]
  show WB Try.prog _ _ (G ((base 3).at _ [.code _]) _) _
  rw [← ha0]
  replace hz : a0.tmps.size = 93 := hz
  have e0 : a0.eval (.tmp 0) = .slice ao xs.length ca := he 0 _ rfl
  clear ha0 hm he
  repeat
    first
      | refine b_seq ?_
      | refine b_end ?_
      | refine b_skip ?_
      | refine b_block ?_
      | refine b_loop ?_
      | refine b_inBlock ?_
      | refine b_region rfl ?_
  refine b_op 2 (.bool false) rfl rfl rfl hkn (fun W => run_asg a0 _ (.const (.bool false)) (.bool false) rfl rfl W) fun a1 ea => ?_
  replace e0 := kp ea e0 (by omega)
  replace hd := kd ea hd
  replace hz := kz ea hz
  clear ea
  repeat
    first
      | refine b_seq ?_
      | refine b_end ?_
      | refine b_skip ?_
      | refine b_block ?_
      | refine b_loop ?_
      | refine b_inBlock ?_
      | refine b_region rfl ?_
  refine b_op 13 (.slice ao xs.length ca) rfl rfl rfl hkn (fun W => run_mv a1 _ _ _ rfl e0 W) fun a2 ea => ?_
  replace e0 := kp ea e0 (by omega)
  have e13 := nw ea hz (by omega)
  replace hd := kd ea hd
  replace hz := kz ea hz
  clear ea
  refine b_op 14 (.int .i64 xs.length) rfl rfl rfl hkn (fun W => run_lenI a2 _ 13 _ _ _ _ rfl rfl e13 W) fun a3 ea => ?_
  replace e0 := kp ea e0 (by omega)
  have e14 := nw ea hz (by omega)
  replace hd := kd ea hd
  replace hz := kz ea hz
  clear e13
  clear ea
  refine b_op 15 (.bool false) rfl rfl rfl hkn (fun W => run_gt0 a3 _ (.tmp 14) (.const (.int .i64 1048576)) _ _ _ _ false (by simp; omega) rfl e14 rfl W) fun a4 ea => ?_
  replace e0 := kp ea e0 (by omega)
  have e15 := nw ea hz (by omega)
  replace hd := kd ea hd
  replace hz := kz ea hz
  clear e14
  clear ea
  repeat
    first
      | refine b_seq ?_
      | refine b_end ?_
      | refine b_skip ?_
      | refine b_block ?_
      | refine b_loop ?_
      | refine b_inBlock ?_
      | refine b_region rfl ?_
  refine b_false e15 ?_
  repeat
    first
      | refine b_seq ?_
      | refine b_end ?_
      | refine b_skip ?_
      | refine b_block ?_
      | refine b_loop ?_
      | refine b_inBlock ?_
      | refine b_region rfl ?_
  refine b_op 17 (.slice ao xs.length ca) rfl rfl rfl hkn (fun W => run_mv a4 _ _ _ rfl e0 W) fun a5 ea => ?_
  replace e0 := kp ea e0 (by omega)
  have e17 := nw ea hz (by omega)
  replace hd := kd ea hd
  replace hz := kz ea hz
  clear e15
  clear ea
  refine b_call (vs := #[.slice ao xs.length ca]) rfl rfl hkn rfl Try.func13 (by rfl) rfl (by rw [List.map_toArray, List.map_cons, List.map_nil, e17]) ?_
  refine bk_toIntS kw hl hx fun w1 row1 hb1 kw1 => ?_
  clear kw
  have kw := kw1
  replace hx := hx.bc hb1 (fun _ _ => rfl)
  refine b_back rfl rfl fun a6 ea => ?_
  replace e0 := kp ea e0 (by omega)
  have e18 := nw ea hz (by omega)
  replace hd := kd ea hd
  replace hz := kz ea hz
  clear e17
  clear ea
  refine b_call (vs := #[.slice (some ⟨w.heap.size, 0, none⟩) xs.length xs.length]) rfl rfl hkn rfl Try.func12 (by rfl) rfl (by rw [List.map_toArray, List.map_cons, List.map_nil, e18]) ?_
  refine bk_specSpaceOf_no hr kw hl row1.rd fun aw cw w2 hrw hb2 kw2 => ?_
  clear kw
  have kw := kw2
  replace hx := hx.bc hb2 (fun _ _ => rfl)
  have bc0 := hb1.trans hb2
  have bcS := BelowC.refl w2
  have agS : ∀ b, b < w2.heap.size → Sh b = Sh b := fun _ _ => rfl
  refine b_back rfl rfl fun a7 ea => ?_
  replace e0 := kp ea e0 (by omega)
  have e19 := nw ea hz (by omega)
  replace hd := kd ea hd
  replace hz := kz ea hz
  clear e18
  clear ea
  refine b_op 16 (.tuple #[.slice aw 0 cw, .bool false]) rfl rfl rfl hkn (fun W => run_mv a7 _ _ _ rfl e19 W) fun a8 ea => ?_
  replace e0 := kp ea e0 (by omega)
  have e16 := nw ea hz (by omega)
  replace hd := kd ea hd
  replace hz := kz ea hz
  clear e19
  clear ea
  refine b_op 20 (.slice aw 0 cw) rfl rfl rfl hkn (fun W => run_ex a8 _ 16 0 _ _ rfl e16 rfl W) fun a9 ea => ?_
  replace e0 := kp ea e0 (by omega)
  replace e16 := kp ea e16 (by omega)
  have e20 := nw ea hz (by omega)
  replace hd := kd ea hd
  replace hz := kz ea hz
  clear ea
  refine b_op 21 (.bool false) rfl rfl rfl hkn (fun W => run_ex a9 _ 16 1 _ _ rfl e16 rfl W) fun a10 ea => ?_
  replace e0 := kp ea e0 (by omega)
  replace e20 := kp ea e20 (by omega)
  have e21 := nw ea hz (by omega)
  replace hd := kd ea hd
  replace hz := kz ea hz
  clear e16
  clear ea
  refine b_op 3 (.slice aw 0 cw) rfl rfl rfl hkn (fun W => run_asg a10 _ (.tmp 20) _ rfl e20 W) fun a11 ea => ?_
  replace e0 := kp ea e0 (by omega)
  replace e21 := kp ea e21 (by omega)
  have e3 := nw ea hz (by omega)
  replace hd := kd ea hd
  replace hz := kz ea hz
  clear e20
  clear ea
  refine b_op 4 (.bool false) rfl rfl rfl hkn (fun W => run_asg a11 _ (.tmp 21) _ rfl e21 W) fun a12 ea => ?_
  replace e0 := kp ea e0 (by omega)
  replace e3 := kp ea e3 (by omega)
  have e4 := nw ea hz (by omega)
  replace hd := kd ea hd
  replace hz := kz ea hz
  clear e21
  clear ea
  repeat
    first
      | refine b_seq ?_
      | refine b_end ?_
      | refine b_skip ?_
      | refine b_block ?_
      | refine b_loop ?_
      | refine b_inBlock ?_
      | refine b_region rfl ?_
  refine b_op 22 (.slice ao xs.length ca) rfl rfl rfl hkn (fun W => run_mv a12 _ _ _ rfl e0 W) fun a13 ea => ?_
  replace e0 := kp ea e0 (by omega)
  replace e3 := kp ea e3 (by omega)
  replace e4 := kp ea e4 (by omega)
  have e22 := nw ea hz (by omega)
  replace hd := kd ea hd
  replace hz := kz ea hz
  clear ea
  refine b_call (vs := #[.slice ao xs.length ca]) rfl rfl hkn rfl Try.func13 (by rfl) rfl (by rw [List.map_toArray, List.map_cons, List.map_nil, e22]) ?_
  refine bk_toIntS kw hl (hx.bc bcS agS) fun w3 row3 hb3 kw3 => ?_
  clear kw
  have kw := kw3
  replace bcS := bcS.trans hb3
  have rowX := row3
  refine b_back rfl rfl fun a14 ea => ?_
  replace e0 := kp ea e0 (by omega)
  replace e3 := kp ea e3 (by omega)
  replace e4 := kp ea e4 (by omega)
  have e23 := nw ea hz (by omega)
  replace hd := kd ea hd
  replace hz := kz ea hz
  clear e22
  clear ea
  refine b_op 5 (.slice (some ⟨w2.heap.size, 0, none⟩) xs.length xs.length) rfl rfl rfl hkn (fun W => run_asg a14 _ (.tmp 23) _ rfl e23 W) fun a15 ea => ?_
  replace e0 := kp ea e0 (by omega)
  replace e3 := kp ea e3 (by omega)
  replace e4 := kp ea e4 (by omega)
  have e5 := nw ea hz (by omega)
  replace hd := kd ea hd
  replace hz := kz ea hz
  clear e23
  clear ea
  repeat
    first
      | refine b_seq ?_
      | refine b_end ?_
      | refine b_skip ?_
      | refine b_block ?_
      | refine b_loop ?_
      | refine b_inBlock ?_
      | refine b_region rfl ?_
  refine b_op 25 (.slice (some ⟨w2.heap.size, 0, none⟩) xs.length xs.length) rfl rfl rfl hkn (fun W => run_mv a15 _ _ _ rfl e5 W) fun a16 ea => ?_
  replace e0 := kp ea e0 (by omega)
  replace e3 := kp ea e3 (by omega)
  replace e4 := kp ea e4 (by omega)
  replace e5 := kp ea e5 (by omega)
  have e25 := nw ea hz (by omega)
  replace hd := kd ea hd
  replace hz := kz ea hz
  clear ea
  refine b_call (vs := #[.slice (some ⟨w2.heap.size, 0, none⟩) xs.length xs.length]) rfl rfl hkn rfl Try.func14 (by rfl) rfl (by rw [List.map_toArray, List.map_cons, List.map_nil, e25]) ?_
  refine spaceOf_no hr kw hl rowX.rd fun w4 hb4 kw4 => ?_
  clear kw
  have kw := kw4
  replace rowX := rowX.bc hb4 (fun _ _ => rfl)
  replace bcS := bcS.trans hb4
  refine b_back rfl rfl fun a17 ea => ?_
  replace e0 := kp ea e0 (by omega)
  replace e3 := kp ea e3 (by omega)
  replace e4 := kp ea e4 (by omega)
  replace e5 := kp ea e5 (by omega)
  have e26 := nw ea hz (by omega)
  replace hd := kd ea hd
  replace hz := kz ea hz
  clear e25
  clear ea
  refine b_op 24 (.tuple #[.slice none 0 0, .bool false]) rfl rfl rfl hkn (fun W => run_mv a17 _ _ _ rfl e26 W) fun a18 ea => ?_
  replace e0 := kp ea e0 (by omega)
  replace e3 := kp ea e3 (by omega)
  replace e4 := kp ea e4 (by omega)
  replace e5 := kp ea e5 (by omega)
  have e24 := nw ea hz (by omega)
  replace hd := kd ea hd
  replace hz := kz ea hz
  clear e26
  clear ea
  refine b_op 27 (.slice none 0 0) rfl rfl rfl hkn (fun W => run_ex a18 _ 24 0 _ _ rfl e24 rfl W) fun a19 ea => ?_
  replace e0 := kp ea e0 (by omega)
  replace e3 := kp ea e3 (by omega)
  replace e4 := kp ea e4 (by omega)
  replace e5 := kp ea e5 (by omega)
  replace e24 := kp ea e24 (by omega)
  have e27 := nw ea hz (by omega)
  replace hd := kd ea hd
  replace hz := kz ea hz
  clear ea
  refine b_op 28 (.bool false) rfl rfl rfl hkn (fun W => run_ex a19 _ 24 1 _ _ rfl e24 rfl W) fun a20 ea => ?_
  replace e0 := kp ea e0 (by omega)
  replace e3 := kp ea e3 (by omega)
  replace e4 := kp ea e4 (by omega)
  replace e5 := kp ea e5 (by omega)
  replace e27 := kp ea e27 (by omega)
  have e28 := nw ea hz (by omega)
  replace hd := kd ea hd
  replace hz := kz ea hz
  clear e24
  clear ea
  refine b_op 6 (.slice none 0 0) rfl rfl rfl hkn (fun W => run_asg a20 _ (.tmp 27) _ rfl e27 W) fun a21 ea => ?_
  replace e0 := kp ea e0 (by omega)
  replace e3 := kp ea e3 (by omega)
  replace e4 := kp ea e4 (by omega)
  replace e5 := kp ea e5 (by omega)
  replace e28 := kp ea e28 (by omega)
  have e6 := nw ea hz (by omega)
  replace hd := kd ea hd
  replace hz := kz ea hz
  clear e27
  clear ea
  refine b_op 7 (.bool false) rfl rfl rfl hkn (fun W => run_asg a21 _ (.tmp 28) _ rfl e28 W) fun a22 ea => ?_
  replace e0 := kp ea e0 (by omega)
  replace e3 := kp ea e3 (by omega)
  replace e4 := kp ea e4 (by omega)
  replace e5 := kp ea e5 (by omega)
  replace e6 := kp ea e6 (by omega)
  have e7 := nw ea hz (by omega)
  replace hd := kd ea hd
  replace hz := kz ea hz
  clear e28
  clear ea
  repeat
    first
      | refine b_seq ?_
      | refine b_end ?_
      | refine b_skip ?_
      | refine b_block ?_
      | refine b_loop ?_
      | refine b_inBlock ?_
      | refine b_region rfl ?_
  refine b_op 29 (.slice none 0 0) rfl rfl rfl hkn (fun W => run_mv a22 _ _ _ rfl e6 W) fun a23 ea => ?_
  replace e0 := kp ea e0 (by omega)
  replace e3 := kp ea e3 (by omega)
  replace e4 := kp ea e4 (by omega)
  replace e5 := kp ea e5 (by omega)
  replace e6 := kp ea e6 (by omega)
  replace e7 := kp ea e7 (by omega)
  have e29 := nw ea hz (by omega)
  replace hd := kd ea hd
  replace hz := kz ea hz
  clear ea
  refine b_op 30 (.slice aw 0 cw) rfl rfl rfl hkn (fun W => run_mv a23 _ _ _ rfl e3 W) fun a24 ea => ?_
  replace e0 := kp ea e0 (by omega)
  replace e3 := kp ea e3 (by omega)
  replace e4 := kp ea e4 (by omega)
  replace e5 := kp ea e5 (by omega)
  replace e6 := kp ea e6 (by omega)
  replace e7 := kp ea e7 (by omega)
  replace e29 := kp ea e29 (by omega)
  have e30 := nw ea hz (by omega)
  replace hd := kd ea hd
  replace hz := kz ea hz
  clear ea
  refine b_call (vs := #[.slice none 0 0, .slice aw 0 cw]) rfl rfl hkn rfl Try.func15 (by rfl) rfl (by rw [List.map_toArray, List.map_cons, List.map_cons, List.map_nil, e29, e30]) ?_
  refine bk_eqIntS_same (xs := []) kw hsl rdB_nil (hrw.bc bcS agS) fun w5 hb5 kw5 => ?_
  clear kw
  have kw := kw5
  replace rowX := rowX.bc hb5 (fun _ _ => rfl)
  replace bcS := bcS.trans hb5
  refine b_back rfl rfl fun a25 ea => ?_
  replace e0 := kp ea e0 (by omega)
  replace e3 := kp ea e3 (by omega)
  replace e4 := kp ea e4 (by omega)
  replace e5 := kp ea e5 (by omega)
  replace e6 := kp ea e6 (by omega)
  replace e7 := kp ea e7 (by omega)
  have e31 := nw ea hz (by omega)
  replace hd := kd ea hd
  replace hz := kz ea hz
  clear e29
  clear e30
  clear ea
  refine b_op 32 (.bool false) rfl rfl rfl hkn (fun W => run_not a25 _ 31 true _ rfl e31 W) fun a26 ea => ?_
  replace e0 := kp ea e0 (by omega)
  replace e3 := kp ea e3 (by omega)
  replace e4 := kp ea e4 (by omega)
  replace e5 := kp ea e5 (by omega)
  replace e6 := kp ea e6 (by omega)
  replace e7 := kp ea e7 (by omega)
  have e32 := nw ea hz (by omega)
  replace hd := kd ea hd
  replace hz := kz ea hz
  clear e31
  clear ea
  refine b_op 33 (.bool false) rfl rfl rfl hkn (fun W => run_mv a26 _ _ _ rfl e32 W) fun a27 ea => ?_
  replace e0 := kp ea e0 (by omega)
  replace e3 := kp ea e3 (by omega)
  replace e4 := kp ea e4 (by omega)
  replace e5 := kp ea e5 (by omega)
  replace e6 := kp ea e6 (by omega)
  replace e7 := kp ea e7 (by omega)
  have e33 := nw ea hz (by omega)
  replace hd := kd ea hd
  replace hz := kz ea hz
  clear e32
  clear ea
  refine b_op 34 (.bool false) rfl (wantedY rfl rfl e33) rfl hkn (fun W => run_mv a27 _ _ _ rfl e7 W) fun a28 ea => ?_
  replace e0 := kp ea e0 (by omega)
  replace e3 := kp ea e3 (by omega)
  replace e4 := kp ea e4 (by omega)
  replace e5 := kp ea e5 (by omega)
  replace e6 := kp ea e6 (by omega)
  replace e7 := kp ea e7 (by omega)
  replace e33 := kp ea e33 (by omega)
  have e34 := nw ea hz (by omega)
  replace hd := kd ea hd
  replace hz := kz ea hz
  clear ea
  refine b_op 35 (.bool false) rfl (wantedY rfl rfl e33) rfl hkn (fun W => run_mv a28 _ _ _ rfl e4 W) fun a29 ea => ?_
  replace e0 := kp ea e0 (by omega)
  replace e3 := kp ea e3 (by omega)
  replace e4 := kp ea e4 (by omega)
  replace e5 := kp ea e5 (by omega)
  replace e6 := kp ea e6 (by omega)
  replace e7 := kp ea e7 (by omega)
  replace e33 := kp ea e33 (by omega)
  replace e34 := kp ea e34 (by omega)
  have e35 := nw ea hz (by omega)
  replace hd := kd ea hd
  replace hz := kz ea hz
  clear ea
  refine b_op 36 (.bool false) rfl (wantedY rfl rfl e33) rfl hkn (fun W => run_neqB a29 _ 34 35 false false _ _ rfl rfl e34 e35 W) fun a30 ea => ?_
  replace e0 := kp ea e0 (by omega)
  replace e3 := kp ea e3 (by omega)
  replace e4 := kp ea e4 (by omega)
  replace e5 := kp ea e5 (by omega)
  replace e6 := kp ea e6 (by omega)
  replace e7 := kp ea e7 (by omega)
  replace e33 := kp ea e33 (by omega)
  have e36 := nw ea hz (by omega)
  replace hd := kd ea hd
  replace hz := kz ea hz
  clear e34
  clear e35
  clear ea
  refine b_op 37 (.bool false) rfl rfl rfl hkn (fun W => run_pickF a30 _ _ _ _ _ rfl e33 e36 W) fun a31 ea => ?_
  replace e0 := kp ea e0 (by omega)
  replace e3 := kp ea e3 (by omega)
  replace e4 := kp ea e4 (by omega)
  replace e5 := kp ea e5 (by omega)
  replace e6 := kp ea e6 (by omega)
  replace e7 := kp ea e7 (by omega)
  have e37 := nw ea hz (by omega)
  replace hd := kd ea hd
  replace hz := kz ea hz
  clear e33
  clear e36
  clear ea
  repeat
    first
      | refine b_seq ?_
      | refine b_end ?_
      | refine b_skip ?_
      | refine b_block ?_
      | refine b_loop ?_
      | refine b_inBlock ?_
      | refine b_region rfl ?_
  refine b_false e37 ?_
  repeat
    first
      | refine b_seq ?_
      | refine b_end ?_
      | refine b_skip ?_
      | refine b_block ?_
      | refine b_loop ?_
      | refine b_inBlock ?_
      | refine b_region rfl ?_
  refine b_op 38 (.slice (some ⟨w2.heap.size, 0, none⟩) xs.length xs.length) rfl rfl rfl hkn (fun W => run_mv a31 _ _ _ rfl e5 W) fun a32 ea => ?_
  replace e0 := kp ea e0 (by omega)
  replace e3 := kp ea e3 (by omega)
  replace e4 := kp ea e4 (by omega)
  replace e5 := kp ea e5 (by omega)
  replace e6 := kp ea e6 (by omega)
  replace e7 := kp ea e7 (by omega)
  have e38 := nw ea hz (by omega)
  replace hd := kd ea hd
  replace hz := kz ea hz
  clear e37
  clear ea
  refine b_op 39 (.slice ao xs.length ca) rfl rfl rfl hkn (fun W => run_mv a32 _ _ _ rfl e0 W) fun a33 ea => ?_
  replace e0 := kp ea e0 (by omega)
  replace e3 := kp ea e3 (by omega)
  replace e4 := kp ea e4 (by omega)
  replace e5 := kp ea e5 (by omega)
  replace e6 := kp ea e6 (by omega)
  replace e7 := kp ea e7 (by omega)
  replace e38 := kp ea e38 (by omega)
  have e39 := nw ea hz (by omega)
  replace hd := kd ea hd
  replace hz := kz ea hz
  clear ea
  refine b_call (vs := #[.slice ao xs.length ca]) rfl rfl hkn rfl Try.func13 (by rfl) rfl (by rw [List.map_toArray, List.map_cons, List.map_nil, e39]) ?_
  refine bk_toIntS kw hl (hx.bc bcS agS) fun w6 row6 hb6 kw6 => ?_
  clear kw
  have kw := kw6
  replace rowX := rowX.bc hb6 (fun _ _ => rfl)
  replace bcS := bcS.trans hb6
  refine b_back rfl rfl fun a34 ea => ?_
  replace e0 := kp ea e0 (by omega)
  replace e3 := kp ea e3 (by omega)
  replace e4 := kp ea e4 (by omega)
  replace e5 := kp ea e5 (by omega)
  replace e6 := kp ea e6 (by omega)
  replace e7 := kp ea e7 (by omega)
  replace e38 := kp ea e38 (by omega)
  have e40 := nw ea hz (by omega)
  replace hd := kd ea hd
  replace hz := kz ea hz
  clear e39
  clear ea
  refine b_call (vs := #[.slice (some ⟨w2.heap.size, 0, none⟩) xs.length xs.length, .slice (some ⟨w5.heap.size, 0, none⟩) xs.length xs.length]) rfl rfl hkn rfl Try.func15 (by rfl) rfl (by rw [List.map_toArray, List.map_cons, List.map_cons, List.map_nil, e38, e40]) ?_
  refine bk_eqIntS_same kw hl rowX.rd row6.rd fun w7 hb7 kw7 => ?_
  clear kw
  have kw := kw7
  replace rowX := rowX.bc hb7 (fun _ _ => rfl)
  replace bcS := bcS.trans hb7
  refine b_back rfl rfl fun a35 ea => ?_
  replace e0 := kp ea e0 (by omega)
  replace e3 := kp ea e3 (by omega)
  replace e4 := kp ea e4 (by omega)
  replace e5 := kp ea e5 (by omega)
  replace e6 := kp ea e6 (by omega)
  replace e7 := kp ea e7 (by omega)
  have e41 := nw ea hz (by omega)
  replace hd := kd ea hd
  replace hz := kz ea hz
  clear e38
  clear e40
  clear ea
  refine b_op 42 (.bool false) rfl rfl rfl hkn (fun W => run_not a35 _ 41 true _ rfl e41 W) fun a36 ea => ?_
  replace e0 := kp ea e0 (by omega)
  replace e3 := kp ea e3 (by omega)
  replace e4 := kp ea e4 (by omega)
  replace e5 := kp ea e5 (by omega)
  replace e6 := kp ea e6 (by omega)
  replace e7 := kp ea e7 (by omega)
  have e42 := nw ea hz (by omega)
  replace hd := kd ea hd
  replace hz := kz ea hz
  clear e41
  clear ea
  repeat
    first
      | refine b_seq ?_
      | refine b_end ?_
      | refine b_skip ?_
      | refine b_block ?_
      | refine b_loop ?_
      | refine b_inBlock ?_
      | refine b_region rfl ?_
  refine b_false e42 ?_
  repeat
    first
      | refine b_seq ?_
      | refine b_end ?_
      | refine b_skip ?_
      | refine b_block ?_
      | refine b_loop ?_
      | refine b_inBlock ?_
      | refine b_region rfl ?_
  refine b_op 8 (.int .i64 1) rfl rfl rfl hkn (fun W => run_asg a36 _ (.const (.int .i64 1)) (.int .i64 1) rfl rfl W) fun a37 ea => ?_
  replace e0 := kp ea e0 (by omega)
  replace e3 := kp ea e3 (by omega)
  replace e4 := kp ea e4 (by omega)
  replace e5 := kp ea e5 (by omega)
  replace e6 := kp ea e6 (by omega)
  replace e7 := kp ea e7 (by omega)
  have e8 := nw ea hz (by omega)
  replace hd := kd ea hd
  replace hz := kz ea hz
  clear e42
  clear ea
  repeat
    first
      | refine b_seq ?_
      | refine b_end ?_
      | refine b_skip ?_
      | refine b_block ?_
      | refine b_loop ?_
      | refine b_inBlock ?_
      | refine b_region rfl ?_
  refine b_op 43 (.slice (some ⟨w2.heap.size, 0, none⟩) xs.length xs.length) rfl rfl rfl hkn (fun W => run_mv a37 _ _ _ rfl e5 W) fun a38 ea => ?_
  replace e0 := kp ea e0 (by omega)
  replace e3 := kp ea e3 (by omega)
  replace e4 := kp ea e4 (by omega)
  replace e6 := kp ea e6 (by omega)
  replace e7 := kp ea e7 (by omega)
  replace e8 := kp ea e8 (by omega)
  have e43 := nw ea hz (by omega)
  replace hd := kd ea hd
  replace hz := kz ea hz
  clear e5
  clear ea
  refine b_op 44 (.int .i64 1) rfl rfl rfl hkn (fun W => run_mv a38 _ _ _ rfl e8 W) fun a39 ea => ?_
  replace e0 := kp ea e0 (by omega)
  replace e3 := kp ea e3 (by omega)
  replace e4 := kp ea e4 (by omega)
  replace e6 := kp ea e6 (by omega)
  replace e7 := kp ea e7 (by omega)
  replace e43 := kp ea e43 (by omega)
  have e44 := nw ea hz (by omega)
  replace hd := kd ea hd
  replace hz := kz ea hz
  clear e8
  clear ea
  refine b_call (vs := #[.slice (some ⟨w2.heap.size, 0, none⟩) xs.length xs.length, .int .i64 1]) rfl rfl hkn rfl Try.func16 (by rfl) rfl (by rw [List.map_toArray, List.map_cons, List.map_cons, List.map_nil, e43, e44]) ?_
  refine bk_mark (k := 1) kw hl (by omega) rowX fun w8 rowM8 hbl8 hsz8 hmk8 kw8 => ?_
  clear kw rowX
  have kw := kw8
  replace bcS := hmk8 _ bcS (Nat.le_refl _)
  refine b_back rfl rfl fun a40 ea => ?_
  replace e0 := kp ea e0 (by omega)
  replace e3 := kp ea e3 (by omega)
  replace e4 := kp ea e4 (by omega)
  replace e6 := kp ea e6 (by omega)
  replace e7 := kp ea e7 (by omega)
  have e45 := nw ea hz (by omega)
  replace hd := kd ea hd
  replace hz := kz ea hz
  clear e43
  clear e44
  clear ea
  refine b_op 8 (.int .i64 ((1 + xs.length : Nat) : Int)) rfl rfl rfl hkn (fun W => run_asg a40 _ (.tmp 45) _ rfl e45 W) fun a41 ea => ?_
  replace e0 := kp ea e0 (by omega)
  replace e3 := kp ea e3 (by omega)
  replace e4 := kp ea e4 (by omega)
  replace e6 := kp ea e6 (by omega)
  replace e7 := kp ea e7 (by omega)
  have e8 := nw ea hz (by omega)
  replace hd := kd ea hd
  replace hz := kz ea hz
  clear e45
  clear ea
  repeat
    first
      | refine b_seq ?_
      | refine b_end ?_
      | refine b_skip ?_
      | refine b_block ?_
      | refine b_loop ?_
      | refine b_inBlock ?_
      | refine b_region rfl ?_
  refine b_op 46 (.int .i64 ((1 + xs.length : Nat) : Int)) rfl rfl rfl hkn (fun W => run_mv a41 _ _ _ rfl e8 W) fun a42 ea => ?_
  replace e0 := kp ea e0 (by omega)
  replace e3 := kp ea e3 (by omega)
  replace e4 := kp ea e4 (by omega)
  replace e6 := kp ea e6 (by omega)
  replace e7 := kp ea e7 (by omega)
  have e46 := nw ea hz (by omega)
  replace hd := kd ea hd
  replace hz := kz ea hz
  clear e8
  clear ea
  refine b_op 47 (.bool false) rfl rfl rfl hkn (fun W => run_lt a42 _ (.tmp 46) (.const (.int .i64 0)) _ _ _ _ false (by simp <;> omega) rfl e46 rfl W) fun a43 ea => ?_
  replace e0 := kp ea e0 (by omega)
  replace e3 := kp ea e3 (by omega)
  replace e4 := kp ea e4 (by omega)
  replace e6 := kp ea e6 (by omega)
  replace e7 := kp ea e7 (by omega)
  have e47 := nw ea hz (by omega)
  replace hd := kd ea hd
  replace hz := kz ea hz
  clear e46
  clear ea
  refine b_op 48 (.bool false) rfl rfl rfl hkn (fun W => run_mv a43 _ _ _ rfl e47 W) fun a44 ea => ?_
  replace e0 := kp ea e0 (by omega)
  replace e3 := kp ea e3 (by omega)
  replace e4 := kp ea e4 (by omega)
  replace e6 := kp ea e6 (by omega)
  replace e7 := kp ea e7 (by omega)
  have e48 := nw ea hz (by omega)
  replace hd := kd ea hd
  replace hz := kz ea hz
  clear e47
  clear ea
  refine b_op 49 (.slice none 0 0) rfl (wantedY rfl rfl e48) rfl hkn (fun W => run_mv a44 _ _ _ rfl e6 W) fun a45 ea => ?_
  replace e0 := kp ea e0 (by omega)
  replace e3 := kp ea e3 (by omega)
  replace e4 := kp ea e4 (by omega)
  replace e6 := kp ea e6 (by omega)
  replace e7 := kp ea e7 (by omega)
  replace e48 := kp ea e48 (by omega)
  have e49 := nw ea hz (by omega)
  replace hd := kd ea hd
  replace hz := kz ea hz
  clear ea
  refine b_op 50 (.slice aw 0 cw) rfl (wantedY rfl rfl e48) rfl hkn (fun W => run_mv a45 _ _ _ rfl e3 W) fun a46 ea => ?_
  replace e0 := kp ea e0 (by omega)
  replace e3 := kp ea e3 (by omega)
  replace e4 := kp ea e4 (by omega)
  replace e6 := kp ea e6 (by omega)
  replace e7 := kp ea e7 (by omega)
  replace e48 := kp ea e48 (by omega)
  replace e49 := kp ea e49 (by omega)
  have e50 := nw ea hz (by omega)
  replace hd := kd ea hd
  replace hz := kz ea hz
  clear ea
  refine b_call (vs := #[.slice none 0 0, .slice aw 0 cw]) rfl (wantedY rfl rfl e48) hkn rfl Try.func15 (by rfl) rfl (by rw [List.map_toArray, List.map_cons, List.map_cons, List.map_nil, e49, e50]) ?_
  refine bk_eqIntS_same (xs := []) kw hsl rdB_nil (hrw.bc bcS agS) fun w9 hb9 kw9 => ?_
  clear kw
  have kw := kw9
  replace bcS := bcS.trans hb9
  refine b_back rfl rfl fun a47 ea => ?_
  replace e0 := kp ea e0 (by omega)
  replace e3 := kp ea e3 (by omega)
  replace e4 := kp ea e4 (by omega)
  replace e6 := kp ea e6 (by omega)
  replace e7 := kp ea e7 (by omega)
  replace e48 := kp ea e48 (by omega)
  have e51 := nw ea hz (by omega)
  replace hd := kd ea hd
  replace hz := kz ea hz
  clear e49
  clear e50
  clear ea
  refine b_op 52 (.bool false) rfl (wantedY rfl rfl e48) rfl hkn (fun W => run_not a47 _ 51 true _ rfl e51 W) fun a48 ea => ?_
  replace e0 := kp ea e0 (by omega)
  replace e3 := kp ea e3 (by omega)
  replace e4 := kp ea e4 (by omega)
  replace e6 := kp ea e6 (by omega)
  replace e7 := kp ea e7 (by omega)
  replace e48 := kp ea e48 (by omega)
  have e52 := nw ea hz (by omega)
  replace hd := kd ea hd
  replace hz := kz ea hz
  clear e51
  clear ea
  refine b_op 53 (.bool false) rfl rfl rfl hkn (fun W => run_pickF a48 _ _ _ _ _ rfl e48 e52 W) fun a49 ea => ?_
  replace e0 := kp ea e0 (by omega)
  replace e3 := kp ea e3 (by omega)
  replace e4 := kp ea e4 (by omega)
  replace e6 := kp ea e6 (by omega)
  replace e7 := kp ea e7 (by omega)
  have e53 := nw ea hz (by omega)
  replace hd := kd ea hd
  replace hz := kz ea hz
  clear e48
  clear e52
  clear ea
  refine b_op 54 (.bool false) rfl rfl rfl hkn (fun W => run_mv a49 _ _ _ rfl e53 W) fun a50 ea => ?_
  replace e0 := kp ea e0 (by omega)
  replace e3 := kp ea e3 (by omega)
  replace e4 := kp ea e4 (by omega)
  replace e6 := kp ea e6 (by omega)
  replace e7 := kp ea e7 (by omega)
  have e54 := nw ea hz (by omega)
  replace hd := kd ea hd
  replace hz := kz ea hz
  clear e53
  clear ea
  refine b_op 55 (.bool false) rfl (wantedY rfl rfl e54) rfl hkn (fun W => run_mv a50 _ _ _ rfl e7 W) fun a51 ea => ?_
  replace e0 := kp ea e0 (by omega)
  replace e3 := kp ea e3 (by omega)
  replace e4 := kp ea e4 (by omega)
  replace e6 := kp ea e6 (by omega)
  replace e54 := kp ea e54 (by omega)
  have e55 := nw ea hz (by omega)
  replace hd := kd ea hd
  replace hz := kz ea hz
  clear e7
  clear ea
  refine b_op 56 (.bool false) rfl (wantedY rfl rfl e54) rfl hkn (fun W => run_mv a51 _ _ _ rfl e4 W) fun a52 ea => ?_
  replace e0 := kp ea e0 (by omega)
  replace e3 := kp ea e3 (by omega)
  replace e4 := kp ea e4 (by omega)
  replace e6 := kp ea e6 (by omega)
  replace e54 := kp ea e54 (by omega)
  replace e55 := kp ea e55 (by omega)
  have e56 := nw ea hz (by omega)
  replace hd := kd ea hd
  replace hz := kz ea hz
  clear ea
  refine b_op 57 (.bool false) rfl (wantedY rfl rfl e54) rfl hkn (fun W => run_neqB a52 _ 55 56 false false _ _ rfl rfl e55 e56 W) fun a53 ea => ?_
  replace e0 := kp ea e0 (by omega)
  replace e3 := kp ea e3 (by omega)
  replace e4 := kp ea e4 (by omega)
  replace e6 := kp ea e6 (by omega)
  replace e54 := kp ea e54 (by omega)
  have e57 := nw ea hz (by omega)
  replace hd := kd ea hd
  replace hz := kz ea hz
  clear e55
  clear e56
  clear ea
  refine b_op 58 (.bool false) rfl rfl rfl hkn (fun W => run_pickF a53 _ _ _ _ _ rfl e54 e57 W) fun a54 ea => ?_
  replace e0 := kp ea e0 (by omega)
  replace e3 := kp ea e3 (by omega)
  replace e4 := kp ea e4 (by omega)
  replace e6 := kp ea e6 (by omega)
  have e58 := nw ea hz (by omega)
  replace hd := kd ea hd
  replace hz := kz ea hz
  clear e54
  clear e57
  clear ea
  repeat
    first
      | refine b_seq ?_
      | refine b_end ?_
      | refine b_skip ?_
      | refine b_block ?_
      | refine b_loop ?_
      | refine b_inBlock ?_
      | refine b_region rfl ?_
  refine b_false e58 ?_
  repeat
    first
      | refine b_seq ?_
      | refine b_end ?_
      | refine b_skip ?_
      | refine b_block ?_
      | refine b_loop ?_
      | refine b_inBlock ?_
      | refine b_region rfl ?_
  refine b_op 9 (.int .i64 1) rfl rfl rfl hkn (fun W => run_asg a54 _ (.const (.int .i64 1)) (.int .i64 1) rfl rfl W) fun a55 ea => ?_
  replace e0 := kp ea e0 (by omega)
  replace e3 := kp ea e3 (by omega)
  replace e4 := kp ea e4 (by omega)
  replace e6 := kp ea e6 (by omega)
  have e9 := nw ea hz (by omega)
  replace hd := kd ea hd
  replace hz := kz ea hz
  clear e58
  clear ea
  repeat
    first
      | refine b_seq ?_
      | refine b_end ?_
      | refine b_skip ?_
      | refine b_block ?_
      | refine b_loop ?_
      | refine b_inBlock ?_
      | refine b_region rfl ?_
  refine b_op 59 (.slice none 0 0) rfl rfl rfl hkn (fun W => run_mv a55 _ _ _ rfl e6 W) fun a56 ea => ?_
  replace e0 := kp ea e0 (by omega)
  replace e3 := kp ea e3 (by omega)
  replace e4 := kp ea e4 (by omega)
  replace e6 := kp ea e6 (by omega)
  replace e9 := kp ea e9 (by omega)
  have e59 := nw ea hz (by omega)
  replace hd := kd ea hd
  replace hz := kz ea hz
  clear ea
  refine b_op 60 (.int .i64 1) rfl rfl rfl hkn (fun W => run_mv a56 _ _ _ rfl e9 W) fun a57 ea => ?_
  replace e0 := kp ea e0 (by omega)
  replace e3 := kp ea e3 (by omega)
  replace e4 := kp ea e4 (by omega)
  replace e6 := kp ea e6 (by omega)
  replace e59 := kp ea e59 (by omega)
  have e60 := nw ea hz (by omega)
  replace hd := kd ea hd
  replace hz := kz ea hz
  clear e9
  clear ea
  refine b_call (vs := #[.slice none 0 0, .int .i64 1]) rfl rfl hkn rfl Try.func16 (by rfl) rfl (by rw [List.map_toArray, List.map_cons, List.map_cons, List.map_nil, e59, e60]) ?_
  refine bk_mark0 (k := 1) kw fun w10 hb10 kw10 => ?_
  clear kw
  have kw := kw10
  replace bcS := bcS.trans hb10
  refine b_back rfl rfl fun a58 ea => ?_
  replace e0 := kp ea e0 (by omega)
  replace e3 := kp ea e3 (by omega)
  replace e4 := kp ea e4 (by omega)
  replace e6 := kp ea e6 (by omega)
  have e61 := nw ea hz (by omega)
  replace hd := kd ea hd
  replace hz := kz ea hz
  clear e59
  clear e60
  clear ea
  refine b_op 9 (.int .i64 ((1 : Nat) : Int)) rfl rfl rfl hkn (fun W => run_asg a58 _ (.tmp 61) _ rfl e61 W) fun a59 ea => ?_
  replace e0 := kp ea e0 (by omega)
  replace e3 := kp ea e3 (by omega)
  replace e4 := kp ea e4 (by omega)
  replace e6 := kp ea e6 (by omega)
  have e9 := nw ea hz (by omega)
  replace hd := kd ea hd
  replace hz := kz ea hz
  clear e61
  clear ea
  repeat
    first
      | refine b_seq ?_
      | refine b_end ?_
      | refine b_skip ?_
      | refine b_block ?_
      | refine b_loop ?_
      | refine b_inBlock ?_
      | refine b_region rfl ?_
  refine b_op 10 (.int .i64 1) rfl rfl rfl hkn (fun W => run_asg a59 _ (.const (.int .i64 1)) (.int .i64 1) rfl rfl W) fun a60 ea => ?_
  replace e0 := kp ea e0 (by omega)
  replace e3 := kp ea e3 (by omega)
  replace e4 := kp ea e4 (by omega)
  replace e6 := kp ea e6 (by omega)
  replace e9 := kp ea e9 (by omega)
  have e10 := nw ea hz (by omega)
  replace hd := kd ea hd
  replace hz := kz ea hz
  clear ea
  repeat
    first
      | refine b_seq ?_
      | refine b_end ?_
      | refine b_skip ?_
      | refine b_block ?_
      | refine b_loop ?_
      | refine b_inBlock ?_
      | refine b_region rfl ?_
  refine b_op 62 (.slice none 0 0) rfl rfl rfl hkn (fun W => run_mv a60 _ _ _ rfl e6 W) fun a61 ea => ?_
  replace e0 := kp ea e0 (by omega)
  replace e3 := kp ea e3 (by omega)
  replace e4 := kp ea e4 (by omega)
  replace e6 := kp ea e6 (by omega)
  replace e9 := kp ea e9 (by omega)
  replace e10 := kp ea e10 (by omega)
  have e62 := nw ea hz (by omega)
  replace hd := kd ea hd
  replace hz := kz ea hz
  clear ea
  refine b_op 63 (.int .i64 1) rfl rfl rfl hkn (fun W => run_mv a61 _ _ _ rfl e10 W) fun a62 ea => ?_
  replace e0 := kp ea e0 (by omega)
  replace e3 := kp ea e3 (by omega)
  replace e4 := kp ea e4 (by omega)
  replace e6 := kp ea e6 (by omega)
  replace e9 := kp ea e9 (by omega)
  replace e62 := kp ea e62 (by omega)
  have e63 := nw ea hz (by omega)
  replace hd := kd ea hd
  replace hz := kz ea hz
  clear e10
  clear ea
  refine b_call (vs := #[.slice none 0 0, .int .i64 1]) rfl rfl hkn rfl Try.func17 (by rfl) rfl (by rw [List.map_toArray, List.map_cons, List.map_cons, List.map_nil, e62, e63]) ?_
  refine bk_held (n := 0) (k := 1) kw (by omega) (by omega) rdB_nil fun w11 hb11 kw11 => ?_
  clear kw
  have kw := kw11
  replace bcS := bcS.trans hb11
  refine b_back rfl rfl fun a63 ea => ?_
  replace e0 := kp ea e0 (by omega)
  replace e3 := kp ea e3 (by omega)
  replace e4 := kp ea e4 (by omega)
  replace e6 := kp ea e6 (by omega)
  replace e9 := kp ea e9 (by omega)
  have e64 := nw ea hz (by omega)
  replace hd := kd ea hd
  replace hz := kz ea hz
  clear e62
  clear e63
  clear ea
  refine b_op 10 (.int .i64 ((1 : Nat) : Int)) rfl rfl rfl hkn (fun W => run_asg a63 _ (.tmp 64) _ rfl e64 W) fun a64 ea => ?_
  replace e0 := kp ea e0 (by omega)
  replace e3 := kp ea e3 (by omega)
  replace e4 := kp ea e4 (by omega)
  replace e6 := kp ea e6 (by omega)
  replace e9 := kp ea e9 (by omega)
  have e10 := nw ea hz (by omega)
  replace hd := kd ea hd
  replace hz := kz ea hz
  clear e64
  clear ea
  repeat
    first
      | refine b_seq ?_
      | refine b_end ?_
      | refine b_skip ?_
      | refine b_block ?_
      | refine b_loop ?_
      | refine b_inBlock ?_
      | refine b_region rfl ?_
  refine b_op 65 (.int .i64 ((1 : Nat) : Int)) rfl rfl rfl hkn (fun W => run_mv a64 _ _ _ rfl e10 W) fun a65 ea => ?_
  replace e0 := kp ea e0 (by omega)
  replace e3 := kp ea e3 (by omega)
  replace e4 := kp ea e4 (by omega)
  replace e6 := kp ea e6 (by omega)
  replace e9 := kp ea e9 (by omega)
  replace e10 := kp ea e10 (by omega)
  have e65 := nw ea hz (by omega)
  replace hd := kd ea hd
  replace hz := kz ea hz
  clear ea
  refine b_op 66 (.bool false) rfl rfl rfl hkn (fun W => run_lt a65 _ (.tmp 65) (.const (.int .i64 0)) _ _ _ _ false (by simp <;> omega) rfl e65 rfl W) fun a66 ea => ?_
  replace e0 := kp ea e0 (by omega)
  replace e3 := kp ea e3 (by omega)
  replace e4 := kp ea e4 (by omega)
  replace e6 := kp ea e6 (by omega)
  replace e9 := kp ea e9 (by omega)
  replace e10 := kp ea e10 (by omega)
  have e66 := nw ea hz (by omega)
  replace hd := kd ea hd
  replace hz := kz ea hz
  clear e65
  clear ea
  repeat
    first
      | refine b_seq ?_
      | refine b_end ?_
      | refine b_skip ?_
      | refine b_block ?_
      | refine b_loop ?_
      | refine b_inBlock ?_
      | refine b_region rfl ?_
  refine b_false e66 ?_
  repeat
    first
      | refine b_seq ?_
      | refine b_end ?_
      | refine b_skip ?_
      | refine b_block ?_
      | refine b_loop ?_
      | refine b_inBlock ?_
      | refine b_region rfl ?_
  refine b_op 67 (.int .i64 ((1 : Nat) : Int)) rfl rfl rfl hkn (fun W => run_mv a66 _ _ _ rfl e10 W) fun a67 ea => ?_
  replace e0 := kp ea e0 (by omega)
  replace e3 := kp ea e3 (by omega)
  replace e4 := kp ea e4 (by omega)
  replace e6 := kp ea e6 (by omega)
  replace e9 := kp ea e9 (by omega)
  have e67 := nw ea hz (by omega)
  replace hd := kd ea hd
  replace hz := kz ea hz
  clear e10
  clear e66
  clear ea
  refine b_op 68 (.int .i64 ((1 : Nat) : Int)) rfl rfl rfl hkn (fun W => run_mv a67 _ _ _ rfl e9 W) fun a68 ea => ?_
  replace e0 := kp ea e0 (by omega)
  replace e3 := kp ea e3 (by omega)
  replace e4 := kp ea e4 (by omega)
  replace e6 := kp ea e6 (by omega)
  replace e9 := kp ea e9 (by omega)
  replace e67 := kp ea e67 (by omega)
  have e68 := nw ea hz (by omega)
  replace hd := kd ea hd
  replace hz := kz ea hz
  clear ea
  refine b_op 69 (.bool false) rfl rfl rfl hkn (fun W => run_neqI0 a68 _ 67 68 _ _ false _ _ (by simp) rfl rfl e67 e68 W) fun a69 ea => ?_
  replace e0 := kp ea e0 (by omega)
  replace e3 := kp ea e3 (by omega)
  replace e4 := kp ea e4 (by omega)
  replace e6 := kp ea e6 (by omega)
  replace e9 := kp ea e9 (by omega)
  have e69 := nw ea hz (by omega)
  replace hd := kd ea hd
  replace hz := kz ea hz
  clear e67
  clear e68
  clear ea
  repeat
    first
      | refine b_seq ?_
      | refine b_end ?_
      | refine b_skip ?_
      | refine b_block ?_
      | refine b_loop ?_
      | refine b_inBlock ?_
      | refine b_region rfl ?_
  refine b_false e69 ?_
  repeat
    first
      | refine b_seq ?_
      | refine b_end ?_
      | refine b_skip ?_
      | refine b_block ?_
      | refine b_loop ?_
      | refine b_inBlock ?_
      | refine b_region rfl ?_
  refine b_op 71 (.slice ao xs.length ca) rfl rfl rfl hkn (fun W => run_mv a69 _ _ _ rfl e0 W) fun a70 ea => ?_
  replace e3 := kp ea e3 (by omega)
  replace e4 := kp ea e4 (by omega)
  replace e6 := kp ea e6 (by omega)
  replace e9 := kp ea e9 (by omega)
  have e71 := nw ea hz (by omega)
  replace hd := kd ea hd
  replace hz := kz ea hz
  clear e0
  clear e69
  clear ea
  refine b_call (vs := #[.slice ao xs.length ca]) rfl rfl hkn rfl Try.func13 (by rfl) rfl (by rw [List.map_toArray, List.map_cons, List.map_nil, e71]) ?_
  refine bk_toIntS kw hl (hx.bc bcS agS) fun w12 row12 hb12 kw12 => ?_
  clear kw
  have kw := kw12
  replace bcS := bcS.trans hb12
  refine b_back rfl rfl fun a71 ea => ?_
  replace e3 := kp ea e3 (by omega)
  replace e4 := kp ea e4 (by omega)
  replace e6 := kp ea e6 (by omega)
  replace e9 := kp ea e9 (by omega)
  have e72 := nw ea hz (by omega)
  replace hd := kd ea hd
  replace hz := kz ea hz
  clear e71
  clear ea
  refine b_call (vs := #[.slice (some ⟨w11.heap.size, 0, none⟩) xs.length xs.length]) rfl rfl hkn rfl Try.func14 (by rfl) rfl (by rw [List.map_toArray, List.map_cons, List.map_nil, e72]) ?_
  refine spaceOf_no hr kw hl row12.rd fun w13 hb13 kw13 => ?_
  clear kw
  have kw := kw13
  replace bcS := bcS.trans hb13
  refine b_back rfl rfl fun a72 ea => ?_
  replace e3 := kp ea e3 (by omega)
  replace e4 := kp ea e4 (by omega)
  replace e6 := kp ea e6 (by omega)
  replace e9 := kp ea e9 (by omega)
  have e73 := nw ea hz (by omega)
  replace hd := kd ea hd
  replace hz := kz ea hz
  clear e72
  clear ea
  refine b_op 70 (.tuple #[.slice none 0 0, .bool false]) rfl rfl rfl hkn (fun W => run_mv a72 _ _ _ rfl e73 W) fun a73 ea => ?_
  replace e3 := kp ea e3 (by omega)
  replace e4 := kp ea e4 (by omega)
  replace e6 := kp ea e6 (by omega)
  replace e9 := kp ea e9 (by omega)
  have e70 := nw ea hz (by omega)
  replace hd := kd ea hd
  replace hz := kz ea hz
  clear e73
  clear ea
  refine b_op 74 (.slice none 0 0) rfl rfl rfl hkn (fun W => run_ex a73 _ 70 0 _ _ rfl e70 rfl W) fun a74 ea => ?_
  replace e3 := kp ea e3 (by omega)
  replace e4 := kp ea e4 (by omega)
  replace e6 := kp ea e6 (by omega)
  replace e9 := kp ea e9 (by omega)
  replace e70 := kp ea e70 (by omega)
  have e74 := nw ea hz (by omega)
  replace hd := kd ea hd
  replace hz := kz ea hz
  clear ea
  refine b_op 75 (.bool false) rfl rfl rfl hkn (fun W => run_ex a74 _ 70 1 _ _ rfl e70 rfl W) fun a75 ea => ?_
  replace e3 := kp ea e3 (by omega)
  replace e4 := kp ea e4 (by omega)
  replace e6 := kp ea e6 (by omega)
  replace e9 := kp ea e9 (by omega)
  replace e74 := kp ea e74 (by omega)
  have e75 := nw ea hz (by omega)
  replace hd := kd ea hd
  replace hz := kz ea hz
  clear e70
  clear ea
  refine b_op 11 (.slice none 0 0) rfl rfl rfl hkn (fun W => run_asg a75 _ (.tmp 74) _ rfl e74 W) fun a76 ea => ?_
  replace e3 := kp ea e3 (by omega)
  replace e4 := kp ea e4 (by omega)
  replace e6 := kp ea e6 (by omega)
  replace e9 := kp ea e9 (by omega)
  replace e75 := kp ea e75 (by omega)
  have e11 := nw ea hz (by omega)
  replace hd := kd ea hd
  replace hz := kz ea hz
  clear e74
  clear ea
  refine b_op 12 (.bool false) rfl rfl rfl hkn (fun W => run_asg a76 _ (.tmp 75) _ rfl e75 W) fun a77 ea => ?_
  replace e3 := kp ea e3 (by omega)
  replace e4 := kp ea e4 (by omega)
  replace e6 := kp ea e6 (by omega)
  replace e9 := kp ea e9 (by omega)
  replace e11 := kp ea e11 (by omega)
  have e12 := nw ea hz (by omega)
  replace hd := kd ea hd
  replace hz := kz ea hz
  clear e75
  clear ea
  repeat
    first
      | refine b_seq ?_
      | refine b_end ?_
      | refine b_skip ?_
      | refine b_block ?_
      | refine b_loop ?_
      | refine b_inBlock ?_
      | refine b_region rfl ?_
  refine b_op 76 (.slice none 0 0) rfl rfl rfl hkn (fun W => run_mv a77 _ _ _ rfl e11 W) fun a78 ea => ?_
  replace e3 := kp ea e3 (by omega)
  replace e4 := kp ea e4 (by omega)
  replace e6 := kp ea e6 (by omega)
  replace e9 := kp ea e9 (by omega)
  replace e12 := kp ea e12 (by omega)
  have e76 := nw ea hz (by omega)
  replace hd := kd ea hd
  replace hz := kz ea hz
  clear e11
  clear ea
  refine b_op 77 (.slice aw 0 cw) rfl rfl rfl hkn (fun W => run_mv a78 _ _ _ rfl e3 W) fun a79 ea => ?_
  replace e4 := kp ea e4 (by omega)
  replace e6 := kp ea e6 (by omega)
  replace e9 := kp ea e9 (by omega)
  replace e12 := kp ea e12 (by omega)
  replace e76 := kp ea e76 (by omega)
  have e77 := nw ea hz (by omega)
  replace hd := kd ea hd
  replace hz := kz ea hz
  clear e3
  clear ea
  refine b_call (vs := #[.slice none 0 0, .slice aw 0 cw]) rfl rfl hkn rfl Try.func15 (by rfl) rfl (by rw [List.map_toArray, List.map_cons, List.map_cons, List.map_nil, e76, e77]) ?_
  refine bk_eqIntS_same (xs := []) kw hsl rdB_nil (hrw.bc bcS agS) fun w14 hb14 kw14 => ?_
  clear kw
  have kw := kw14
  replace bcS := bcS.trans hb14
  refine b_back rfl rfl fun a80 ea => ?_
  replace e4 := kp ea e4 (by omega)
  replace e6 := kp ea e6 (by omega)
  replace e9 := kp ea e9 (by omega)
  replace e12 := kp ea e12 (by omega)
  have e78 := nw ea hz (by omega)
  replace hd := kd ea hd
  replace hz := kz ea hz
  clear e76
  clear e77
  clear ea
  refine b_op 79 (.bool false) rfl rfl rfl hkn (fun W => run_not a80 _ 78 true _ rfl e78 W) fun a81 ea => ?_
  replace e4 := kp ea e4 (by omega)
  replace e6 := kp ea e6 (by omega)
  replace e9 := kp ea e9 (by omega)
  replace e12 := kp ea e12 (by omega)
  have e79 := nw ea hz (by omega)
  replace hd := kd ea hd
  replace hz := kz ea hz
  clear e78
  clear ea
  refine b_op 80 (.bool false) rfl rfl rfl hkn (fun W => run_mv a81 _ _ _ rfl e79 W) fun a82 ea => ?_
  replace e4 := kp ea e4 (by omega)
  replace e6 := kp ea e6 (by omega)
  replace e9 := kp ea e9 (by omega)
  replace e12 := kp ea e12 (by omega)
  have e80 := nw ea hz (by omega)
  replace hd := kd ea hd
  replace hz := kz ea hz
  clear e79
  clear ea
  refine b_op 81 (.bool false) rfl (wantedY rfl rfl e80) rfl hkn (fun W => run_mv a82 _ _ _ rfl e12 W) fun a83 ea => ?_
  replace e4 := kp ea e4 (by omega)
  replace e6 := kp ea e6 (by omega)
  replace e9 := kp ea e9 (by omega)
  replace e80 := kp ea e80 (by omega)
  have e81 := nw ea hz (by omega)
  replace hd := kd ea hd
  replace hz := kz ea hz
  clear e12
  clear ea
  refine b_op 82 (.bool false) rfl (wantedY rfl rfl e80) rfl hkn (fun W => run_mv a83 _ _ _ rfl e4 W) fun a84 ea => ?_
  replace e6 := kp ea e6 (by omega)
  replace e9 := kp ea e9 (by omega)
  replace e80 := kp ea e80 (by omega)
  replace e81 := kp ea e81 (by omega)
  have e82 := nw ea hz (by omega)
  replace hd := kd ea hd
  replace hz := kz ea hz
  clear e4
  clear ea
  refine b_op 83 (.bool false) rfl (wantedY rfl rfl e80) rfl hkn (fun W => run_neqB a84 _ 81 82 false false _ _ rfl rfl e81 e82 W) fun a85 ea => ?_
  replace e6 := kp ea e6 (by omega)
  replace e9 := kp ea e9 (by omega)
  replace e80 := kp ea e80 (by omega)
  have e83 := nw ea hz (by omega)
  replace hd := kd ea hd
  replace hz := kz ea hz
  clear e81
  clear e82
  clear ea
  refine b_op 84 (.bool false) rfl rfl rfl hkn (fun W => run_pickF a85 _ _ _ _ _ rfl e80 e83 W) fun a86 ea => ?_
  replace e6 := kp ea e6 (by omega)
  replace e9 := kp ea e9 (by omega)
  have e84 := nw ea hz (by omega)
  replace hd := kd ea hd
  replace hz := kz ea hz
  clear e80
  clear e83
  clear ea
  repeat
    first
      | refine b_seq ?_
      | refine b_end ?_
      | refine b_skip ?_
      | refine b_block ?_
      | refine b_loop ?_
      | refine b_inBlock ?_
      | refine b_region rfl ?_
  refine b_false e84 ?_
  repeat
    first
      | refine b_seq ?_
      | refine b_end ?_
      | refine b_skip ?_
      | refine b_block ?_
      | refine b_loop ?_
      | refine b_inBlock ?_
      | refine b_region rfl ?_
  refine b_op 10 (.int .i64 1) rfl rfl rfl hkn (fun W => run_asg a86 _ (.const (.int .i64 1)) (.int .i64 1) rfl rfl W) fun a87 ea => ?_
  replace e6 := kp ea e6 (by omega)
  replace e9 := kp ea e9 (by omega)
  have e10 := nw ea hz (by omega)
  replace hd := kd ea hd
  replace hz := kz ea hz
  clear e84
  clear ea
  repeat
    first
      | refine b_seq ?_
      | refine b_end ?_
      | refine b_skip ?_
      | refine b_block ?_
      | refine b_loop ?_
      | refine b_inBlock ?_
      | refine b_region rfl ?_
  refine b_op 85 (.slice none 0 0) rfl rfl rfl hkn (fun W => run_mv a87 _ _ _ rfl e6 W) fun a88 ea => ?_
  replace e9 := kp ea e9 (by omega)
  replace e10 := kp ea e10 (by omega)
  have e85 := nw ea hz (by omega)
  replace hd := kd ea hd
  replace hz := kz ea hz
  clear e6
  clear ea
  refine b_op 86 (.int .i64 1) rfl rfl rfl hkn (fun W => run_mv a88 _ _ _ rfl e10 W) fun a89 ea => ?_
  replace e9 := kp ea e9 (by omega)
  replace e85 := kp ea e85 (by omega)
  have e86 := nw ea hz (by omega)
  replace hd := kd ea hd
  replace hz := kz ea hz
  clear e10
  clear ea
  refine b_call (vs := #[.slice none 0 0, .int .i64 1]) rfl rfl hkn rfl Try.func17 (by rfl) rfl (by rw [List.map_toArray, List.map_cons, List.map_cons, List.map_nil, e85, e86]) ?_
  refine bk_held (n := 0) (k := 1) kw (by omega) (by omega) rdB_nil fun w15 hb15 kw15 => ?_
  clear kw
  have kw := kw15
  replace bcS := bcS.trans hb15
  refine b_back rfl rfl fun a90 ea => ?_
  replace e9 := kp ea e9 (by omega)
  have e87 := nw ea hz (by omega)
  replace hd := kd ea hd
  replace hz := kz ea hz
  clear e85
  clear e86
  clear ea
  refine b_op 10 (.int .i64 ((1 : Nat) : Int)) rfl rfl rfl hkn (fun W => run_asg a90 _ (.tmp 87) _ rfl e87 W) fun a91 ea => ?_
  replace e9 := kp ea e9 (by omega)
  have e10 := nw ea hz (by omega)
  replace hd := kd ea hd
  replace hz := kz ea hz
  clear e87
  clear ea
  repeat
    first
      | refine b_seq ?_
      | refine b_end ?_
      | refine b_skip ?_
      | refine b_block ?_
      | refine b_loop ?_
      | refine b_inBlock ?_
      | refine b_region rfl ?_
  refine b_op 88 (.int .i64 ((1 : Nat) : Int)) rfl rfl rfl hkn (fun W => run_mv a91 _ _ _ rfl e10 W) fun a92 ea => ?_
  replace e9 := kp ea e9 (by omega)
  replace e10 := kp ea e10 (by omega)
  have e88 := nw ea hz (by omega)
  replace hd := kd ea hd
  replace hz := kz ea hz
  clear ea
  refine b_op 89 (.bool false) rfl rfl rfl hkn (fun W => run_lt a92 _ (.tmp 88) (.const (.int .i64 0)) _ _ _ _ false (by simp <;> omega) rfl e88 rfl W) fun a93 ea => ?_
  replace e9 := kp ea e9 (by omega)
  replace e10 := kp ea e10 (by omega)
  have e89 := nw ea hz (by omega)
  replace hd := kd ea hd
  replace hz := kz ea hz
  clear e88
  clear ea
  repeat
    first
      | refine b_seq ?_
      | refine b_end ?_
      | refine b_skip ?_
      | refine b_block ?_
      | refine b_loop ?_
      | refine b_inBlock ?_
      | refine b_region rfl ?_
  refine b_false e89 ?_
  repeat
    first
      | refine b_seq ?_
      | refine b_end ?_
      | refine b_skip ?_
      | refine b_block ?_
      | refine b_loop ?_
      | refine b_inBlock ?_
      | refine b_region rfl ?_
  refine b_op 90 (.int .i64 ((1 : Nat) : Int)) rfl rfl rfl hkn (fun W => run_mv a93 _ _ _ rfl e10 W) fun a94 ea => ?_
  replace e9 := kp ea e9 (by omega)
  have e90 := nw ea hz (by omega)
  replace hd := kd ea hd
  replace hz := kz ea hz
  clear e10
  clear e89
  clear ea
  refine b_op 91 (.int .i64 ((1 : Nat) : Int)) rfl rfl rfl hkn (fun W => run_mv a94 _ _ _ rfl e9 W) fun a95 ea => ?_
  replace e90 := kp ea e90 (by omega)
  have e91 := nw ea hz (by omega)
  replace hd := kd ea hd
  replace hz := kz ea hz
  clear e9
  clear ea
  refine b_op 92 (.bool false) rfl rfl rfl hkn (fun W => run_neqI0 a95 _ 90 91 _ _ false _ _ (by simp) rfl rfl e90 e91 W) fun a96 ea => ?_
  have e92 := nw ea hz (by omega)
  replace hd := kd ea hd
  replace hz := kz ea hz
  clear e90
  clear e91
  clear ea
  repeat
    first
      | refine b_seq ?_
      | refine b_end ?_
      | refine b_skip ?_
      | refine b_block ?_
      | refine b_loop ?_
      | refine b_inBlock ?_
      | refine b_region rfl ?_
  refine b_false e92 ?_
  repeat
    first
      | refine b_seq ?_
      | refine b_end ?_
      | refine b_skip ?_
      | refine b_block ?_
      | refine b_loop ?_
      | refine b_inBlock ?_
      | refine b_region rfl ?_
  refine b_op 2 (.bool true) rfl rfl rfl hkn (fun W => run_asg a96 _ (.const (.bool true)) (.bool true) rfl rfl W) fun a97 ea => ?_
  have e2 := nw ea hz (by omega)
  replace hd := kd ea hd
  replace hz := kz ea hz
  clear e92
  clear ea
  repeat
    first
      | refine b_seq ?_
      | refine b_end ?_
      | refine b_skip ?_
      | refine b_block ?_
      | refine b_loop ?_
      | refine b_inBlock ?_
      | refine b_region rfl ?_
  refine b_ret ?_
  refine b_finish rfl (by kernel_rfl) hd Try.func3 (own_res1 rfl e2 _) (fun W es => events_results_tmp (t := 2) rfl _ _) ?_
  exact hp _ (bc0.trans bcS)

set_option maxHeartbeats 4000000 in
theorem exSpaceOf_yes (hr : relIn xs = true) (kw : KW Try.prog link.tWg Sh w) (hl : xs.length ≤ 1048576) (hx : RdB Sh w ao xs) (hp : ∀ w', BelowC w w' → ∀ τ d, Post (.bool true) (w'.on τ d)) :
    WB Try.prog (EndQ Try.prog Post) Sh (G (Frame.enter Try.prog 3 #[.slice ao xs.length ca] .normal) []) w := by
  have hsl : (spL xs).length ≤ 1048576 := by have := spL_len16 (Rl.of hr).four; omega
  have hkn : (base 3).kind ≠ .early := base_kind _
  have same : ∀ {a : Act}, a.tmps.size = 93 → ∀ {d : Nat}, d < 93 → ∀ v, (a.put (some d) v).eval (.tmp d) = v := fun h _ hd v => eval_put_same (by rw [h]; exact hd)
  rw [enter_at _ Try.func3 rfl]
  obtain ⟨a0, ha0, hz, hd, he⟩ := enter_acts 92 (#[.slice ao xs.length ca] : Array Value)
  have hm : Try.f3.ntmps - (#[.slice ao xs.length ca] : Array Value).size = 92 := by rw [Try.ntmps3]; rfl
  rw [hm]
  show WB Try.prog _ _ (G ((base 3).at _ [.code _]) _) _
  rw [← ha0]
  replace hz : a0.tmps.size = 93 := hz
  have e0 : a0.eval (.tmp 0) = .slice ao xs.length ca := he 0 _ rfl
  clear ha0 hm he
  repeat
    first
      | refine b_seq ?_
      | refine b_end ?_
      | refine b_skip ?_
      | refine b_block ?_
      | refine b_loop ?_
      | refine b_inBlock ?_
      | refine b_region rfl ?_
  refine b_op 2 (.bool false) rfl rfl rfl hkn (fun W => run_asg a0 _ (.const (.bool false)) (.bool false) rfl rfl W) fun a1 ea => ?_
  replace e0 := kp ea e0 (by omega)
  replace hd := kd ea hd
  replace hz := kz ea hz
  clear ea
  repeat
    first
      | refine b_seq ?_
      | refine b_end ?_
      | refine b_skip ?_
      | refine b_block ?_
      | refine b_loop ?_
      | refine b_inBlock ?_
      | refine b_region rfl ?_
  refine b_op 13 (.slice ao xs.length ca) rfl rfl rfl hkn (fun W => run_mv a1 _ _ _ rfl e0 W) fun a2 ea => ?_
  replace e0 := kp ea e0 (by omega)
  have e13 := nw ea hz (by omega)
  replace hd := kd ea hd
  replace hz := kz ea hz
  clear ea
  refine b_op 14 (.int .i64 xs.length) rfl rfl rfl hkn (fun W => run_lenI a2 _ 13 _ _ _ _ rfl rfl e13 W) fun a3 ea => ?_
  replace e0 := kp ea e0 (by omega)
  have e14 := nw ea hz (by omega)
  replace hd := kd ea hd
  replace hz := kz ea hz
  clear e13
  clear ea
  refine b_op 15 (.bool false) rfl rfl rfl hkn (fun W => run_gt0 a3 _ (.tmp 14) (.const (.int .i64 1048576)) _ _ _ _ false (by simp; omega) rfl e14 rfl W) fun a4 ea => ?_
  replace e0 := kp ea e0 (by omega)
  have e15 := nw ea hz (by omega)
  replace hd := kd ea hd
  replace hz := kz ea hz
  clear e14
  clear ea
  repeat
    first
      | refine b_seq ?_
      | refine b_end ?_
      | refine b_skip ?_
      | refine b_block ?_
      | refine b_loop ?_
      | refine b_inBlock ?_
      | refine b_region rfl ?_
  refine b_false e15 ?_
  repeat
    first
      | refine b_seq ?_
      | refine b_end ?_
      | refine b_skip ?_
      | refine b_block ?_
      | refine b_loop ?_
      | refine b_inBlock ?_
      | refine b_region rfl ?_
  refine b_op 17 (.slice ao xs.length ca) rfl rfl rfl hkn (fun W => run_mv a4 _ _ _ rfl e0 W) fun a5 ea => ?_
  replace e0 := kp ea e0 (by omega)
  have e17 := nw ea hz (by omega)
  replace hd := kd ea hd
  replace hz := kz ea hz
  clear e15
  clear ea
  refine b_call (vs := #[.slice ao xs.length ca]) rfl rfl hkn rfl Try.func13 (by rfl) rfl (by rw [List.map_toArray, List.map_cons, List.map_nil, e17]) ?_
  refine bk_toIntS kw hl hx fun w1 row1 hb1 kw1 => ?_
  clear kw
  have kw := kw1
  replace hx := hx.bc hb1 (fun _ _ => rfl)
  refine b_back rfl rfl fun a6 ea => ?_
  replace e0 := kp ea e0 (by omega)
  have e18 := nw ea hz (by omega)
  replace hd := kd ea hd
  replace hz := kz ea hz
  clear e17
  clear ea
  refine b_call (vs := #[.slice (some ⟨w.heap.size, 0, none⟩) xs.length xs.length]) rfl rfl hkn rfl Try.func12 (by rfl) rfl (by rw [List.map_toArray, List.map_cons, List.map_nil, e18]) ?_
  refine bk_specSpaceOf_yes hr kw hl row1.rd fun aw cw w2 hrw hb2 kw2 => ?_
  clear kw
  have kw := kw2
  replace hx := hx.bc hb2 (fun _ _ => rfl)
  have bc0 := hb1.trans hb2
  have bcS := BelowC.refl w2
  have agS : ∀ b, b < w2.heap.size → Sh b = Sh b := fun _ _ => rfl
  refine b_back rfl rfl fun a7 ea => ?_
  replace e0 := kp ea e0 (by omega)
  have e19 := nw ea hz (by omega)
  replace hd := kd ea hd
  replace hz := kz ea hz
  clear e18
  clear ea
  refine b_op 16 (.tuple #[.slice aw (spL xs).length cw, .bool true]) rfl rfl rfl hkn (fun W => run_mv a7 _ _ _ rfl e19 W) fun a8 ea => ?_
  replace e0 := kp ea e0 (by omega)
  have e16 := nw ea hz (by omega)
  replace hd := kd ea hd
  replace hz := kz ea hz
  clear e19
  clear ea
  refine b_op 20 (.slice aw (spL xs).length cw) rfl rfl rfl hkn (fun W => run_ex a8 _ 16 0 _ _ rfl e16 rfl W) fun a9 ea => ?_
  replace e0 := kp ea e0 (by omega)
  replace e16 := kp ea e16 (by omega)
  have e20 := nw ea hz (by omega)
  replace hd := kd ea hd
  replace hz := kz ea hz
  clear ea
  refine b_op 21 (.bool true) rfl rfl rfl hkn (fun W => run_ex a9 _ 16 1 _ _ rfl e16 rfl W) fun a10 ea => ?_
  replace e0 := kp ea e0 (by omega)
  replace e20 := kp ea e20 (by omega)
  have e21 := nw ea hz (by omega)
  replace hd := kd ea hd
  replace hz := kz ea hz
  clear e16
  clear ea
  refine b_op 3 (.slice aw (spL xs).length cw) rfl rfl rfl hkn (fun W => run_asg a10 _ (.tmp 20) _ rfl e20 W) fun a11 ea => ?_
  replace e0 := kp ea e0 (by omega)
  replace e21 := kp ea e21 (by omega)
  have e3 := nw ea hz (by omega)
  replace hd := kd ea hd
  replace hz := kz ea hz
  clear e20
  clear ea
  refine b_op 4 (.bool true) rfl rfl rfl hkn (fun W => run_asg a11 _ (.tmp 21) _ rfl e21 W) fun a12 ea => ?_
  replace e0 := kp ea e0 (by omega)
  replace e3 := kp ea e3 (by omega)
  have e4 := nw ea hz (by omega)
  replace hd := kd ea hd
  replace hz := kz ea hz
  clear e21
  clear ea
  repeat
    first
      | refine b_seq ?_
      | refine b_end ?_
      | refine b_skip ?_
      | refine b_block ?_
      | refine b_loop ?_
      | refine b_inBlock ?_
      | refine b_region rfl ?_
  refine b_op 22 (.slice ao xs.length ca) rfl rfl rfl hkn (fun W => run_mv a12 _ _ _ rfl e0 W) fun a13 ea => ?_
  replace e0 := kp ea e0 (by omega)
  replace e3 := kp ea e3 (by omega)
  replace e4 := kp ea e4 (by omega)
  have e22 := nw ea hz (by omega)
  replace hd := kd ea hd
  replace hz := kz ea hz
  clear ea
  refine b_call (vs := #[.slice ao xs.length ca]) rfl rfl hkn rfl Try.func13 (by rfl) rfl (by rw [List.map_toArray, List.map_cons, List.map_nil, e22]) ?_
  refine bk_toIntS kw hl (hx.bc bcS agS) fun w3 row3 hb3 kw3 => ?_
  clear kw
  have kw := kw3
  replace bcS := bcS.trans hb3
  have rowX := row3
  refine b_back rfl rfl fun a14 ea => ?_
  replace e0 := kp ea e0 (by omega)
  replace e3 := kp ea e3 (by omega)
  replace e4 := kp ea e4 (by omega)
  have e23 := nw ea hz (by omega)
  replace hd := kd ea hd
  replace hz := kz ea hz
  clear e22
  clear ea
  refine b_op 5 (.slice (some ⟨w2.heap.size, 0, none⟩) xs.length xs.length) rfl rfl rfl hkn (fun W => run_asg a14 _ (.tmp 23) _ rfl e23 W) fun a15 ea => ?_
  replace e0 := kp ea e0 (by omega)
  replace e3 := kp ea e3 (by omega)
  replace e4 := kp ea e4 (by omega)
  have e5 := nw ea hz (by omega)
  replace hd := kd ea hd
  replace hz := kz ea hz
  clear e23
  clear ea
  repeat
    first
      | refine b_seq ?_
      | refine b_end ?_
      | refine b_skip ?_
      | refine b_block ?_
      | refine b_loop ?_
      | refine b_inBlock ?_
      | refine b_region rfl ?_
  refine b_op 25 (.slice (some ⟨w2.heap.size, 0, none⟩) xs.length xs.length) rfl rfl rfl hkn (fun W => run_mv a15 _ _ _ rfl e5 W) fun a16 ea => ?_
  replace e0 := kp ea e0 (by omega)
  replace e3 := kp ea e3 (by omega)
  replace e4 := kp ea e4 (by omega)
  replace e5 := kp ea e5 (by omega)
  have e25 := nw ea hz (by omega)
  replace hd := kd ea hd
  replace hz := kz ea hz
  clear ea
  refine b_call (vs := #[.slice (some ⟨w2.heap.size, 0, none⟩) xs.length xs.length]) rfl rfl hkn rfl Try.func14 (by rfl) rfl (by rw [List.map_toArray, List.map_cons, List.map_nil, e25]) ?_
  refine spaceOf_yes hr kw hl rowX.rd fun Wg4 g4 w4 hWg4 hgg4 rowg4 hb4 kw4 => ?_
  clear kw
  have kw := kw4
  have hxg := Nat.lt_of_lt_of_le rowX.lt hgg4
  have hSg := Nat.le_trans bcS.size hgg4
  replace rowX := rowX.bc hb4 (agree_more hWg4)
  replace agS := agree_next hWg4 bcS.size agS
  replace bcS := bcS.trans hb4
  have rowG := rowg4
  refine b_back rfl rfl fun a17 ea => ?_
  replace e0 := kp ea e0 (by omega)
  replace e3 := kp ea e3 (by omega)
  replace e4 := kp ea e4 (by omega)
  replace e5 := kp ea e5 (by omega)
  have e26 := nw ea hz (by omega)
  replace hd := kd ea hd
  replace hz := kz ea hz
  clear e25
  clear ea
  refine b_op 24 (.tuple #[.slice (some ⟨g4, 0, none⟩) (spL xs).length (spL xs).length, .bool true]) rfl rfl rfl hkn (fun W => run_mv a17 _ _ _ rfl e26 W) fun a18 ea => ?_
  replace e0 := kp ea e0 (by omega)
  replace e3 := kp ea e3 (by omega)
  replace e4 := kp ea e4 (by omega)
  replace e5 := kp ea e5 (by omega)
  have e24 := nw ea hz (by omega)
  replace hd := kd ea hd
  replace hz := kz ea hz
  clear e26
  clear ea
  refine b_op 27 (.slice (some ⟨g4, 0, none⟩) (spL xs).length (spL xs).length) rfl rfl rfl hkn (fun W => run_ex a18 _ 24 0 _ _ rfl e24 rfl W) fun a19 ea => ?_
  replace e0 := kp ea e0 (by omega)
  replace e3 := kp ea e3 (by omega)
  replace e4 := kp ea e4 (by omega)
  replace e5 := kp ea e5 (by omega)
  replace e24 := kp ea e24 (by omega)
  have e27 := nw ea hz (by omega)
  replace hd := kd ea hd
  replace hz := kz ea hz
  clear ea
  refine b_op 28 (.bool true) rfl rfl rfl hkn (fun W => run_ex a19 _ 24 1 _ _ rfl e24 rfl W) fun a20 ea => ?_
  replace e0 := kp ea e0 (by omega)
  replace e3 := kp ea e3 (by omega)
  replace e4 := kp ea e4 (by omega)
  replace e5 := kp ea e5 (by omega)
  replace e27 := kp ea e27 (by omega)
  have e28 := nw ea hz (by omega)
  replace hd := kd ea hd
  replace hz := kz ea hz
  clear e24
  clear ea
  refine b_op 6 (.slice (some ⟨g4, 0, none⟩) (spL xs).length (spL xs).length) rfl rfl rfl hkn (fun W => run_asg a20 _ (.tmp 27) _ rfl e27 W) fun a21 ea => ?_
  replace e0 := kp ea e0 (by omega)
  replace e3 := kp ea e3 (by omega)
  replace e4 := kp ea e4 (by omega)
  replace e5 := kp ea e5 (by omega)
  replace e28 := kp ea e28 (by omega)
  have e6 := nw ea hz (by omega)
  replace hd := kd ea hd
  replace hz := kz ea hz
  clear e27
  clear ea
  refine b_op 7 (.bool true) rfl rfl rfl hkn (fun W => run_asg a21 _ (.tmp 28) _ rfl e28 W) fun a22 ea => ?_
  replace e0 := kp ea e0 (by omega)
  replace e3 := kp ea e3 (by omega)
  replace e4 := kp ea e4 (by omega)
  replace e5 := kp ea e5 (by omega)
  replace e6 := kp ea e6 (by omega)
  have e7 := nw ea hz (by omega)
  replace hd := kd ea hd
  replace hz := kz ea hz
  clear e28
  clear ea
  repeat
    first
      | refine b_seq ?_
      | refine b_end ?_
      | refine b_skip ?_
      | refine b_block ?_
      | refine b_loop ?_
      | refine b_inBlock ?_
      | refine b_region rfl ?_
  refine b_op 29 (.slice (some ⟨g4, 0, none⟩) (spL xs).length (spL xs).length) rfl rfl rfl hkn (fun W => run_mv a22 _ _ _ rfl e6 W) fun a23 ea => ?_
  replace e0 := kp ea e0 (by omega)
  replace e3 := kp ea e3 (by omega)
  replace e4 := kp ea e4 (by omega)
  replace e5 := kp ea e5 (by omega)
  replace e6 := kp ea e6 (by omega)
  replace e7 := kp ea e7 (by omega)
  have e29 := nw ea hz (by omega)
  replace hd := kd ea hd
  replace hz := kz ea hz
  clear ea
  refine b_op 30 (.slice aw (spL xs).length cw) rfl rfl rfl hkn (fun W => run_mv a23 _ _ _ rfl e3 W) fun a24 ea => ?_
  replace e0 := kp ea e0 (by omega)
  replace e3 := kp ea e3 (by omega)
  replace e4 := kp ea e4 (by omega)
  replace e5 := kp ea e5 (by omega)
  replace e6 := kp ea e6 (by omega)
  replace e7 := kp ea e7 (by omega)
  replace e29 := kp ea e29 (by omega)
  have e30 := nw ea hz (by omega)
  replace hd := kd ea hd
  replace hz := kz ea hz
  clear ea
  refine b_call (vs := #[.slice (some ⟨g4, 0, none⟩) (spL xs).length (spL xs).length, .slice aw (spL xs).length cw]) rfl rfl hkn rfl Try.func15 (by rfl) rfl (by rw [List.map_toArray, List.map_cons, List.map_cons, List.map_nil, e29, e30]) ?_
  refine bk_eqIntS_same kw hsl rowG.rd (hrw.bc bcS agS) fun w5 hb5 kw5 => ?_
  clear kw
  have kw := kw5
  replace rowX := rowX.bc hb5 (fun _ _ => rfl)
  replace rowG := rowG.bc hb5 (fun _ _ => rfl)
  replace bcS := bcS.trans hb5
  refine b_back rfl rfl fun a25 ea => ?_
  replace e0 := kp ea e0 (by omega)
  replace e3 := kp ea e3 (by omega)
  replace e4 := kp ea e4 (by omega)
  replace e5 := kp ea e5 (by omega)
  replace e6 := kp ea e6 (by omega)
  replace e7 := kp ea e7 (by omega)
  have e31 := nw ea hz (by omega)
  replace hd := kd ea hd
  replace hz := kz ea hz
  clear e29
  clear e30
  clear ea
  refine b_op 32 (.bool false) rfl rfl rfl hkn (fun W => run_not a25 _ 31 true _ rfl e31 W) fun a26 ea => ?_
  replace e0 := kp ea e0 (by omega)
  replace e3 := kp ea e3 (by omega)
  replace e4 := kp ea e4 (by omega)
  replace e5 := kp ea e5 (by omega)
  replace e6 := kp ea e6 (by omega)
  replace e7 := kp ea e7 (by omega)
  have e32 := nw ea hz (by omega)
  replace hd := kd ea hd
  replace hz := kz ea hz
  clear e31
  clear ea
  refine b_op 33 (.bool false) rfl rfl rfl hkn (fun W => run_mv a26 _ _ _ rfl e32 W) fun a27 ea => ?_
  replace e0 := kp ea e0 (by omega)
  replace e3 := kp ea e3 (by omega)
  replace e4 := kp ea e4 (by omega)
  replace e5 := kp ea e5 (by omega)
  replace e6 := kp ea e6 (by omega)
  replace e7 := kp ea e7 (by omega)
  have e33 := nw ea hz (by omega)
  replace hd := kd ea hd
  replace hz := kz ea hz
  clear e32
  clear ea
  refine b_op 34 (.bool true) rfl (wantedY rfl rfl e33) rfl hkn (fun W => run_mv a27 _ _ _ rfl e7 W) fun a28 ea => ?_
  replace e0 := kp ea e0 (by omega)
  replace e3 := kp ea e3 (by omega)
  replace e4 := kp ea e4 (by omega)
  replace e5 := kp ea e5 (by omega)
  replace e6 := kp ea e6 (by omega)
  replace e7 := kp ea e7 (by omega)
  replace e33 := kp ea e33 (by omega)
  have e34 := nw ea hz (by omega)
  replace hd := kd ea hd
  replace hz := kz ea hz
  clear ea
  refine b_op 35 (.bool true) rfl (wantedY rfl rfl e33) rfl hkn (fun W => run_mv a28 _ _ _ rfl e4 W) fun a29 ea => ?_
  replace e0 := kp ea e0 (by omega)
  replace e3 := kp ea e3 (by omega)
  replace e4 := kp ea e4 (by omega)
  replace e5 := kp ea e5 (by omega)
  replace e6 := kp ea e6 (by omega)
  replace e7 := kp ea e7 (by omega)
  replace e33 := kp ea e33 (by omega)
  replace e34 := kp ea e34 (by omega)
  have e35 := nw ea hz (by omega)
  replace hd := kd ea hd
  replace hz := kz ea hz
  clear ea
  refine b_op 36 (.bool false) rfl (wantedY rfl rfl e33) rfl hkn (fun W => run_neqB a29 _ 34 35 true true _ _ rfl rfl e34 e35 W) fun a30 ea => ?_
  replace e0 := kp ea e0 (by omega)
  replace e3 := kp ea e3 (by omega)
  replace e4 := kp ea e4 (by omega)
  replace e5 := kp ea e5 (by omega)
  replace e6 := kp ea e6 (by omega)
  replace e7 := kp ea e7 (by omega)
  replace e33 := kp ea e33 (by omega)
  have e36 := nw ea hz (by omega)
  replace hd := kd ea hd
  replace hz := kz ea hz
  clear e34
  clear e35
  clear ea
  refine b_op 37 (.bool false) rfl rfl rfl hkn (fun W => run_pickF a30 _ _ _ _ _ rfl e33 e36 W) fun a31 ea => ?_
  replace e0 := kp ea e0 (by omega)
  replace e3 := kp ea e3 (by omega)
  replace e4 := kp ea e4 (by omega)
  replace e5 := kp ea e5 (by omega)
  replace e6 := kp ea e6 (by omega)
  replace e7 := kp ea e7 (by omega)
  have e37 := nw ea hz (by omega)
  replace hd := kd ea hd
  replace hz := kz ea hz
  clear e33
  clear e36
  clear ea
  repeat
    first
      | refine b_seq ?_
      | refine b_end ?_
      | refine b_skip ?_
      | refine b_block ?_
      | refine b_loop ?_
      | refine b_inBlock ?_
      | refine b_region rfl ?_
  refine b_false e37 ?_
  repeat
    first
      | refine b_seq ?_
      | refine b_end ?_
      | refine b_skip ?_
      | refine b_block ?_
      | refine b_loop ?_
      | refine b_inBlock ?_
      | refine b_region rfl ?_
  refine b_op 38 (.slice (some ⟨w2.heap.size, 0, none⟩) xs.length xs.length) rfl rfl rfl hkn (fun W => run_mv a31 _ _ _ rfl e5 W) fun a32 ea => ?_
  replace e0 := kp ea e0 (by omega)
  replace e3 := kp ea e3 (by omega)
  replace e4 := kp ea e4 (by omega)
  replace e5 := kp ea e5 (by omega)
  replace e6 := kp ea e6 (by omega)
  replace e7 := kp ea e7 (by omega)
  have e38 := nw ea hz (by omega)
  replace hd := kd ea hd
  replace hz := kz ea hz
  clear e37
  clear ea
  refine b_op 39 (.slice ao xs.length ca) rfl rfl rfl hkn (fun W => run_mv a32 _ _ _ rfl e0 W) fun a33 ea => ?_
  replace e0 := kp ea e0 (by omega)
  replace e3 := kp ea e3 (by omega)
  replace e4 := kp ea e4 (by omega)
  replace e5 := kp ea e5 (by omega)
  replace e6 := kp ea e6 (by omega)
  replace e7 := kp ea e7 (by omega)
  replace e38 := kp ea e38 (by omega)
  have e39 := nw ea hz (by omega)
  replace hd := kd ea hd
  replace hz := kz ea hz
  clear ea
  refine b_call (vs := #[.slice ao xs.length ca]) rfl rfl hkn rfl Try.func13 (by rfl) rfl (by rw [List.map_toArray, List.map_cons, List.map_nil, e39]) ?_
  refine bk_toIntS kw hl (hx.bc bcS agS) fun w6 row6 hb6 kw6 => ?_
  clear kw
  have kw := kw6
  replace rowX := rowX.bc hb6 (fun _ _ => rfl)
  replace rowG := rowG.bc hb6 (fun _ _ => rfl)
  replace bcS := bcS.trans hb6
  refine b_back rfl rfl fun a34 ea => ?_
  replace e0 := kp ea e0 (by omega)
  replace e3 := kp ea e3 (by omega)
  replace e4 := kp ea e4 (by omega)
  replace e5 := kp ea e5 (by omega)
  replace e6 := kp ea e6 (by omega)
  replace e7 := kp ea e7 (by omega)
  replace e38 := kp ea e38 (by omega)
  have e40 := nw ea hz (by omega)
  replace hd := kd ea hd
  replace hz := kz ea hz
  clear e39
  clear ea
  refine b_call (vs := #[.slice (some ⟨w2.heap.size, 0, none⟩) xs.length xs.length, .slice (some ⟨w5.heap.size, 0, none⟩) xs.length xs.length]) rfl rfl hkn rfl Try.func15 (by rfl) rfl (by rw [List.map_toArray, List.map_cons, List.map_cons, List.map_nil, e38, e40]) ?_
  refine bk_eqIntS_same kw hl rowX.rd row6.rd fun w7 hb7 kw7 => ?_
  clear kw
  have kw := kw7
  replace rowX := rowX.bc hb7 (fun _ _ => rfl)
  replace rowG := rowG.bc hb7 (fun _ _ => rfl)
  replace bcS := bcS.trans hb7
  refine b_back rfl rfl fun a35 ea => ?_
  replace e0 := kp ea e0 (by omega)
  replace e3 := kp ea e3 (by omega)
  replace e4 := kp ea e4 (by omega)
  replace e5 := kp ea e5 (by omega)
  replace e6 := kp ea e6 (by omega)
  replace e7 := kp ea e7 (by omega)
  have e41 := nw ea hz (by omega)
  replace hd := kd ea hd
  replace hz := kz ea hz
  clear e38
  clear e40
  clear ea
  refine b_op 42 (.bool false) rfl rfl rfl hkn (fun W => run_not a35 _ 41 true _ rfl e41 W) fun a36 ea => ?_
  replace e0 := kp ea e0 (by omega)
  replace e3 := kp ea e3 (by omega)
  replace e4 := kp ea e4 (by omega)
  replace e5 := kp ea e5 (by omega)
  replace e6 := kp ea e6 (by omega)
  replace e7 := kp ea e7 (by omega)
  have e42 := nw ea hz (by omega)
  replace hd := kd ea hd
  replace hz := kz ea hz
  clear e41
  clear ea
  repeat
    first
      | refine b_seq ?_
      | refine b_end ?_
      | refine b_skip ?_
      | refine b_block ?_
      | refine b_loop ?_
      | refine b_inBlock ?_
      | refine b_region rfl ?_
  refine b_false e42 ?_
  repeat
    first
      | refine b_seq ?_
      | refine b_end ?_
      | refine b_skip ?_
      | refine b_block ?_
      | refine b_loop ?_
      | refine b_inBlock ?_
      | refine b_region rfl ?_
  refine b_op 8 (.int .i64 1) rfl rfl rfl hkn (fun W => run_asg a36 _ (.const (.int .i64 1)) (.int .i64 1) rfl rfl W) fun a37 ea => ?_
  replace e0 := kp ea e0 (by omega)
  replace e3 := kp ea e3 (by omega)
  replace e4 := kp ea e4 (by omega)
  replace e5 := kp ea e5 (by omega)
  replace e6 := kp ea e6 (by omega)
  replace e7 := kp ea e7 (by omega)
  have e8 := nw ea hz (by omega)
  replace hd := kd ea hd
  replace hz := kz ea hz
  clear e42
  clear ea
  repeat
    first
      | refine b_seq ?_
      | refine b_end ?_
      | refine b_skip ?_
      | refine b_block ?_
      | refine b_loop ?_
      | refine b_inBlock ?_
      | refine b_region rfl ?_
  refine b_op 43 (.slice (some ⟨w2.heap.size, 0, none⟩) xs.length xs.length) rfl rfl rfl hkn (fun W => run_mv a37 _ _ _ rfl e5 W) fun a38 ea => ?_
  replace e0 := kp ea e0 (by omega)
  replace e3 := kp ea e3 (by omega)
  replace e4 := kp ea e4 (by omega)
  replace e6 := kp ea e6 (by omega)
  replace e7 := kp ea e7 (by omega)
  replace e8 := kp ea e8 (by omega)
  have e43 := nw ea hz (by omega)
  replace hd := kd ea hd
  replace hz := kz ea hz
  clear e5
  clear ea
  refine b_op 44 (.int .i64 1) rfl rfl rfl hkn (fun W => run_mv a38 _ _ _ rfl e8 W) fun a39 ea => ?_
  replace e0 := kp ea e0 (by omega)
  replace e3 := kp ea e3 (by omega)
  replace e4 := kp ea e4 (by omega)
  replace e6 := kp ea e6 (by omega)
  replace e7 := kp ea e7 (by omega)
  replace e43 := kp ea e43 (by omega)
  have e44 := nw ea hz (by omega)
  replace hd := kd ea hd
  replace hz := kz ea hz
  clear e8
  clear ea
  refine b_call (vs := #[.slice (some ⟨w2.heap.size, 0, none⟩) xs.length xs.length, .int .i64 1]) rfl rfl hkn rfl Try.func16 (by rfl) rfl (by rw [List.map_toArray, List.map_cons, List.map_cons, List.map_nil, e43, e44]) ?_
  refine bk_mark (k := 1) kw hl (by omega) rowX fun w8 rowM8 hbl8 hsz8 hmk8 kw8 => ?_
  clear kw rowX
  have kw := kw8
  replace rowG := rowG.stay (hbl8 _ (by omega) rowG.lt)
  replace bcS := hmk8 _ bcS (Nat.le_refl _)
  refine b_back rfl rfl fun a40 ea => ?_
  replace e0 := kp ea e0 (by omega)
  replace e3 := kp ea e3 (by omega)
  replace e4 := kp ea e4 (by omega)
  replace e6 := kp ea e6 (by omega)
  replace e7 := kp ea e7 (by omega)
  have e45 := nw ea hz (by omega)
  replace hd := kd ea hd
  replace hz := kz ea hz
  clear e43
  clear e44
  clear ea
  refine b_op 8 (.int .i64 ((1 + xs.length : Nat) : Int)) rfl rfl rfl hkn (fun W => run_asg a40 _ (.tmp 45) _ rfl e45 W) fun a41 ea => ?_
  replace e0 := kp ea e0 (by omega)
  replace e3 := kp ea e3 (by omega)
  replace e4 := kp ea e4 (by omega)
  replace e6 := kp ea e6 (by omega)
  replace e7 := kp ea e7 (by omega)
  have e8 := nw ea hz (by omega)
  replace hd := kd ea hd
  replace hz := kz ea hz
  clear e45
  clear ea
  repeat
    first
      | refine b_seq ?_
      | refine b_end ?_
      | refine b_skip ?_
      | refine b_block ?_
      | refine b_loop ?_
      | refine b_inBlock ?_
      | refine b_region rfl ?_
  refine b_op 46 (.int .i64 ((1 + xs.length : Nat) : Int)) rfl rfl rfl hkn (fun W => run_mv a41 _ _ _ rfl e8 W) fun a42 ea => ?_
  replace e0 := kp ea e0 (by omega)
  replace e3 := kp ea e3 (by omega)
  replace e4 := kp ea e4 (by omega)
  replace e6 := kp ea e6 (by omega)
  replace e7 := kp ea e7 (by omega)
  have e46 := nw ea hz (by omega)
  replace hd := kd ea hd
  replace hz := kz ea hz
  clear e8
  clear ea
  refine b_op 47 (.bool false) rfl rfl rfl hkn (fun W => run_lt a42 _ (.tmp 46) (.const (.int .i64 0)) _ _ _ _ false (by simp <;> omega) rfl e46 rfl W) fun a43 ea => ?_
  replace e0 := kp ea e0 (by omega)
  replace e3 := kp ea e3 (by omega)
  replace e4 := kp ea e4 (by omega)
  replace e6 := kp ea e6 (by omega)
  replace e7 := kp ea e7 (by omega)
  have e47 := nw ea hz (by omega)
  replace hd := kd ea hd
  replace hz := kz ea hz
  clear e46
  clear ea
  refine b_op 48 (.bool false) rfl rfl rfl hkn (fun W => run_mv a43 _ _ _ rfl e47 W) fun a44 ea => ?_
  replace e0 := kp ea e0 (by omega)
  replace e3 := kp ea e3 (by omega)
  replace e4 := kp ea e4 (by omega)
  replace e6 := kp ea e6 (by omega)
  replace e7 := kp ea e7 (by omega)
  have e48 := nw ea hz (by omega)
  replace hd := kd ea hd
  replace hz := kz ea hz
  clear e47
  clear ea
  refine b_op 49 (.slice (some ⟨g4, 0, none⟩) (spL xs).length (spL xs).length) rfl (wantedY rfl rfl e48) rfl hkn (fun W => run_mv a44 _ _ _ rfl e6 W) fun a45 ea => ?_
  replace e0 := kp ea e0 (by omega)
  replace e3 := kp ea e3 (by omega)
  replace e4 := kp ea e4 (by omega)
  replace e6 := kp ea e6 (by omega)
  replace e7 := kp ea e7 (by omega)
  replace e48 := kp ea e48 (by omega)
  have e49 := nw ea hz (by omega)
  replace hd := kd ea hd
  replace hz := kz ea hz
  clear ea
  refine b_op 50 (.slice aw (spL xs).length cw) rfl (wantedY rfl rfl e48) rfl hkn (fun W => run_mv a45 _ _ _ rfl e3 W) fun a46 ea => ?_
  replace e0 := kp ea e0 (by omega)
  replace e3 := kp ea e3 (by omega)
  replace e4 := kp ea e4 (by omega)
  replace e6 := kp ea e6 (by omega)
  replace e7 := kp ea e7 (by omega)
  replace e48 := kp ea e48 (by omega)
  replace e49 := kp ea e49 (by omega)
  have e50 := nw ea hz (by omega)
  replace hd := kd ea hd
  replace hz := kz ea hz
  clear ea
  refine b_call (vs := #[.slice (some ⟨g4, 0, none⟩) (spL xs).length (spL xs).length, .slice aw (spL xs).length cw]) rfl (wantedY rfl rfl e48) hkn rfl Try.func15 (by rfl) rfl (by rw [List.map_toArray, List.map_cons, List.map_cons, List.map_nil, e49, e50]) ?_
  refine bk_eqIntS_same kw hsl rowG.rd (hrw.bc bcS agS) fun w9 hb9 kw9 => ?_
  clear kw
  have kw := kw9
  replace rowG := rowG.bc hb9 (fun _ _ => rfl)
  replace bcS := bcS.trans hb9
  refine b_back rfl rfl fun a47 ea => ?_
  replace e0 := kp ea e0 (by omega)
  replace e3 := kp ea e3 (by omega)
  replace e4 := kp ea e4 (by omega)
  replace e6 := kp ea e6 (by omega)
  replace e7 := kp ea e7 (by omega)
  replace e48 := kp ea e48 (by omega)
  have e51 := nw ea hz (by omega)
  replace hd := kd ea hd
  replace hz := kz ea hz
  clear e49
  clear e50
  clear ea
  refine b_op 52 (.bool false) rfl (wantedY rfl rfl e48) rfl hkn (fun W => run_not a47 _ 51 true _ rfl e51 W) fun a48 ea => ?_
  replace e0 := kp ea e0 (by omega)
  replace e3 := kp ea e3 (by omega)
  replace e4 := kp ea e4 (by omega)
  replace e6 := kp ea e6 (by omega)
  replace e7 := kp ea e7 (by omega)
  replace e48 := kp ea e48 (by omega)
  have e52 := nw ea hz (by omega)
  replace hd := kd ea hd
  replace hz := kz ea hz
  clear e51
  clear ea
  refine b_op 53 (.bool false) rfl rfl rfl hkn (fun W => run_pickF a48 _ _ _ _ _ rfl e48 e52 W) fun a49 ea => ?_
  replace e0 := kp ea e0 (by omega)
  replace e3 := kp ea e3 (by omega)
  replace e4 := kp ea e4 (by omega)
  replace e6 := kp ea e6 (by omega)
  replace e7 := kp ea e7 (by omega)
  have e53 := nw ea hz (by omega)
  replace hd := kd ea hd
  replace hz := kz ea hz
  clear e48
  clear e52
  clear ea
  refine b_op 54 (.bool false) rfl rfl rfl hkn (fun W => run_mv a49 _ _ _ rfl e53 W) fun a50 ea => ?_
  replace e0 := kp ea e0 (by omega)
  replace e3 := kp ea e3 (by omega)
  replace e4 := kp ea e4 (by omega)
  replace e6 := kp ea e6 (by omega)
  replace e7 := kp ea e7 (by omega)
  have e54 := nw ea hz (by omega)
  replace hd := kd ea hd
  replace hz := kz ea hz
  clear e53
  clear ea
  refine b_op 55 (.bool true) rfl (wantedY rfl rfl e54) rfl hkn (fun W => run_mv a50 _ _ _ rfl e7 W) fun a51 ea => ?_
  replace e0 := kp ea e0 (by omega)
  replace e3 := kp ea e3 (by omega)
  replace e4 := kp ea e4 (by omega)
  replace e6 := kp ea e6 (by omega)
  replace e54 := kp ea e54 (by omega)
  have e55 := nw ea hz (by omega)
  replace hd := kd ea hd
  replace hz := kz ea hz
  clear e7
  clear ea
  refine b_op 56 (.bool true) rfl (wantedY rfl rfl e54) rfl hkn (fun W => run_mv a51 _ _ _ rfl e4 W) fun a52 ea => ?_
  replace e0 := kp ea e0 (by omega)
  replace e3 := kp ea e3 (by omega)
  replace e4 := kp ea e4 (by omega)
  replace e6 := kp ea e6 (by omega)
  replace e54 := kp ea e54 (by omega)
  replace e55 := kp ea e55 (by omega)
  have e56 := nw ea hz (by omega)
  replace hd := kd ea hd
  replace hz := kz ea hz
  clear ea
  refine b_op 57 (.bool false) rfl (wantedY rfl rfl e54) rfl hkn (fun W => run_neqB a52 _ 55 56 true true _ _ rfl rfl e55 e56 W) fun a53 ea => ?_
  replace e0 := kp ea e0 (by omega)
  replace e3 := kp ea e3 (by omega)
  replace e4 := kp ea e4 (by omega)
  replace e6 := kp ea e6 (by omega)
  replace e54 := kp ea e54 (by omega)
  have e57 := nw ea hz (by omega)
  replace hd := kd ea hd
  replace hz := kz ea hz
  clear e55
  clear e56
  clear ea
  refine b_op 58 (.bool false) rfl rfl rfl hkn (fun W => run_pickF a53 _ _ _ _ _ rfl e54 e57 W) fun a54 ea => ?_
  replace e0 := kp ea e0 (by omega)
  replace e3 := kp ea e3 (by omega)
  replace e4 := kp ea e4 (by omega)
  replace e6 := kp ea e6 (by omega)
  have e58 := nw ea hz (by omega)
  replace hd := kd ea hd
  replace hz := kz ea hz
  clear e54
  clear e57
  clear ea
  repeat
    first
      | refine b_seq ?_
      | refine b_end ?_
      | refine b_skip ?_
      | refine b_block ?_
      | refine b_loop ?_
      | refine b_inBlock ?_
      | refine b_region rfl ?_
  refine b_false e58 ?_
  repeat
    first
      | refine b_seq ?_
      | refine b_end ?_
      | refine b_skip ?_
      | refine b_block ?_
      | refine b_loop ?_
      | refine b_inBlock ?_
      | refine b_region rfl ?_
  refine b_op 9 (.int .i64 1) rfl rfl rfl hkn (fun W => run_asg a54 _ (.const (.int .i64 1)) (.int .i64 1) rfl rfl W) fun a55 ea => ?_
  replace e0 := kp ea e0 (by omega)
  replace e3 := kp ea e3 (by omega)
  replace e4 := kp ea e4 (by omega)
  replace e6 := kp ea e6 (by omega)
  have e9 := nw ea hz (by omega)
  replace hd := kd ea hd
  replace hz := kz ea hz
  clear e58
  clear ea
  repeat
    first
      | refine b_seq ?_
      | refine b_end ?_
      | refine b_skip ?_
      | refine b_block ?_
      | refine b_loop ?_
      | refine b_inBlock ?_
      | refine b_region rfl ?_
  refine b_op 59 (.slice (some ⟨g4, 0, none⟩) (spL xs).length (spL xs).length) rfl rfl rfl hkn (fun W => run_mv a55 _ _ _ rfl e6 W) fun a56 ea => ?_
  replace e0 := kp ea e0 (by omega)
  replace e3 := kp ea e3 (by omega)
  replace e4 := kp ea e4 (by omega)
  replace e6 := kp ea e6 (by omega)
  replace e9 := kp ea e9 (by omega)
  have e59 := nw ea hz (by omega)
  replace hd := kd ea hd
  replace hz := kz ea hz
  clear ea
  refine b_op 60 (.int .i64 1) rfl rfl rfl hkn (fun W => run_mv a56 _ _ _ rfl e9 W) fun a57 ea => ?_
  replace e0 := kp ea e0 (by omega)
  replace e3 := kp ea e3 (by omega)
  replace e4 := kp ea e4 (by omega)
  replace e6 := kp ea e6 (by omega)
  replace e59 := kp ea e59 (by omega)
  have e60 := nw ea hz (by omega)
  replace hd := kd ea hd
  replace hz := kz ea hz
  clear e9
  clear ea
  refine b_call (vs := #[.slice (some ⟨g4, 0, none⟩) (spL xs).length (spL xs).length, .int .i64 1]) rfl rfl hkn rfl Try.func16 (by rfl) rfl (by rw [List.map_toArray, List.map_cons, List.map_cons, List.map_nil, e59, e60]) ?_
  refine bk_mark (k := 1) kw hsl (by omega) rowG fun w10 rowM10 hbl10 hsz10 hmk10 kw10 => ?_
  clear kw rowG
  have kw := kw10
  have rowG := rowM10
  replace bcS := hmk10 _ bcS hSg
  refine b_back rfl rfl fun a58 ea => ?_
  replace e0 := kp ea e0 (by omega)
  replace e3 := kp ea e3 (by omega)
  replace e4 := kp ea e4 (by omega)
  replace e6 := kp ea e6 (by omega)
  have e61 := nw ea hz (by omega)
  replace hd := kd ea hd
  replace hz := kz ea hz
  clear e59
  clear e60
  clear ea
  refine b_op 9 (.int .i64 ((1 + (spL xs).length : Nat) : Int)) rfl rfl rfl hkn (fun W => run_asg a58 _ (.tmp 61) _ rfl e61 W) fun a59 ea => ?_
  replace e0 := kp ea e0 (by omega)
  replace e3 := kp ea e3 (by omega)
  replace e4 := kp ea e4 (by omega)
  replace e6 := kp ea e6 (by omega)
  have e9 := nw ea hz (by omega)
  replace hd := kd ea hd
  replace hz := kz ea hz
  clear e61
  clear ea
  repeat
    first
      | refine b_seq ?_
      | refine b_end ?_
      | refine b_skip ?_
      | refine b_block ?_
      | refine b_loop ?_
      | refine b_inBlock ?_
      | refine b_region rfl ?_
  refine b_op 10 (.int .i64 1) rfl rfl rfl hkn (fun W => run_asg a59 _ (.const (.int .i64 1)) (.int .i64 1) rfl rfl W) fun a60 ea => ?_
  replace e0 := kp ea e0 (by omega)
  replace e3 := kp ea e3 (by omega)
  replace e4 := kp ea e4 (by omega)
  replace e6 := kp ea e6 (by omega)
  replace e9 := kp ea e9 (by omega)
  have e10 := nw ea hz (by omega)
  replace hd := kd ea hd
  replace hz := kz ea hz
  clear ea
  repeat
    first
      | refine b_seq ?_
      | refine b_end ?_
      | refine b_skip ?_
      | refine b_block ?_
      | refine b_loop ?_
      | refine b_inBlock ?_
      | refine b_region rfl ?_
  refine b_op 62 (.slice (some ⟨g4, 0, none⟩) (spL xs).length (spL xs).length) rfl rfl rfl hkn (fun W => run_mv a60 _ _ _ rfl e6 W) fun a61 ea => ?_
  replace e0 := kp ea e0 (by omega)
  replace e3 := kp ea e3 (by omega)
  replace e4 := kp ea e4 (by omega)
  replace e6 := kp ea e6 (by omega)
  replace e9 := kp ea e9 (by omega)
  replace e10 := kp ea e10 (by omega)
  have e62 := nw ea hz (by omega)
  replace hd := kd ea hd
  replace hz := kz ea hz
  clear ea
  refine b_op 63 (.int .i64 1) rfl rfl rfl hkn (fun W => run_mv a61 _ _ _ rfl e10 W) fun a62 ea => ?_
  replace e0 := kp ea e0 (by omega)
  replace e3 := kp ea e3 (by omega)
  replace e4 := kp ea e4 (by omega)
  replace e6 := kp ea e6 (by omega)
  replace e9 := kp ea e9 (by omega)
  replace e62 := kp ea e62 (by omega)
  have e63 := nw ea hz (by omega)
  replace hd := kd ea hd
  replace hz := kz ea hz
  clear e10
  clear ea
  refine b_call (vs := #[.slice (some ⟨g4, 0, none⟩) (spL xs).length (spL xs).length, .int .i64 1]) rfl rfl hkn rfl Try.func17 (by rfl) rfl (by rw [List.map_toArray, List.map_cons, List.map_cons, List.map_nil, e62, e63]) ?_
  refine bk_held (k := 1) kw hsl (by omega) rowG.rd fun w11 hb11 kw11 => ?_
  clear kw
  have kw := kw11
  replace rowG := rowG.bc hb11 (fun _ _ => rfl)
  replace bcS := bcS.trans hb11
  refine b_back rfl rfl fun a63 ea => ?_
  replace e0 := kp ea e0 (by omega)
  replace e3 := kp ea e3 (by omega)
  replace e4 := kp ea e4 (by omega)
  replace e6 := kp ea e6 (by omega)
  replace e9 := kp ea e9 (by omega)
  have e64 := nw ea hz (by omega)
  replace hd := kd ea hd
  replace hz := kz ea hz
  clear e62
  clear e63
  clear ea
  refine b_op 10 (.int .i64 ((1 + (spL xs).length : Nat) : Int)) rfl rfl rfl hkn (fun W => run_asg a63 _ (.tmp 64) _ rfl e64 W) fun a64 ea => ?_
  replace e0 := kp ea e0 (by omega)
  replace e3 := kp ea e3 (by omega)
  replace e4 := kp ea e4 (by omega)
  replace e6 := kp ea e6 (by omega)
  replace e9 := kp ea e9 (by omega)
  have e10 := nw ea hz (by omega)
  replace hd := kd ea hd
  replace hz := kz ea hz
  clear e64
  clear ea
  repeat
    first
      | refine b_seq ?_
      | refine b_end ?_
      | refine b_skip ?_
      | refine b_block ?_
      | refine b_loop ?_
      | refine b_inBlock ?_
      | refine b_region rfl ?_
  refine b_op 65 (.int .i64 ((1 + (spL xs).length : Nat) : Int)) rfl rfl rfl hkn (fun W => run_mv a64 _ _ _ rfl e10 W) fun a65 ea => ?_
  replace e0 := kp ea e0 (by omega)
  replace e3 := kp ea e3 (by omega)
  replace e4 := kp ea e4 (by omega)
  replace e6 := kp ea e6 (by omega)
  replace e9 := kp ea e9 (by omega)
  replace e10 := kp ea e10 (by omega)
  have e65 := nw ea hz (by omega)
  replace hd := kd ea hd
  replace hz := kz ea hz
  clear ea
  refine b_op 66 (.bool false) rfl rfl rfl hkn (fun W => run_lt a65 _ (.tmp 65) (.const (.int .i64 0)) _ _ _ _ false (by simp <;> omega) rfl e65 rfl W) fun a66 ea => ?_
  replace e0 := kp ea e0 (by omega)
  replace e3 := kp ea e3 (by omega)
  replace e4 := kp ea e4 (by omega)
  replace e6 := kp ea e6 (by omega)
  replace e9 := kp ea e9 (by omega)
  replace e10 := kp ea e10 (by omega)
  have e66 := nw ea hz (by omega)
  replace hd := kd ea hd
  replace hz := kz ea hz
  clear e65
  clear ea
  repeat
    first
      | refine b_seq ?_
      | refine b_end ?_
      | refine b_skip ?_
      | refine b_block ?_
      | refine b_loop ?_
      | refine b_inBlock ?_
      | refine b_region rfl ?_
  refine b_false e66 ?_
  repeat
    first
      | refine b_seq ?_
      | refine b_end ?_
      | refine b_skip ?_
      | refine b_block ?_
      | refine b_loop ?_
      | refine b_inBlock ?_
      | refine b_region rfl ?_
  refine b_op 67 (.int .i64 ((1 + (spL xs).length : Nat) : Int)) rfl rfl rfl hkn (fun W => run_mv a66 _ _ _ rfl e10 W) fun a67 ea => ?_
  replace e0 := kp ea e0 (by omega)
  replace e3 := kp ea e3 (by omega)
  replace e4 := kp ea e4 (by omega)
  replace e6 := kp ea e6 (by omega)
  replace e9 := kp ea e9 (by omega)
  have e67 := nw ea hz (by omega)
  replace hd := kd ea hd
  replace hz := kz ea hz
  clear e10
  clear e66
  clear ea
  refine b_op 68 (.int .i64 ((1 + (spL xs).length : Nat) : Int)) rfl rfl rfl hkn (fun W => run_mv a67 _ _ _ rfl e9 W) fun a68 ea => ?_
  replace e0 := kp ea e0 (by omega)
  replace e3 := kp ea e3 (by omega)
  replace e4 := kp ea e4 (by omega)
  replace e6 := kp ea e6 (by omega)
  replace e9 := kp ea e9 (by omega)
  replace e67 := kp ea e67 (by omega)
  have e68 := nw ea hz (by omega)
  replace hd := kd ea hd
  replace hz := kz ea hz
  clear ea
  refine b_op 69 (.bool false) rfl rfl rfl hkn (fun W => run_neqI0 a68 _ 67 68 _ _ false _ _ (by simp) rfl rfl e67 e68 W) fun a69 ea => ?_
  replace e0 := kp ea e0 (by omega)
  replace e3 := kp ea e3 (by omega)
  replace e4 := kp ea e4 (by omega)
  replace e6 := kp ea e6 (by omega)
  replace e9 := kp ea e9 (by omega)
  have e69 := nw ea hz (by omega)
  replace hd := kd ea hd
  replace hz := kz ea hz
  clear e67
  clear e68
  clear ea
  repeat
    first
      | refine b_seq ?_
      | refine b_end ?_
      | refine b_skip ?_
      | refine b_block ?_
      | refine b_loop ?_
      | refine b_inBlock ?_
      | refine b_region rfl ?_
  refine b_false e69 ?_
  repeat
    first
      | refine b_seq ?_
      | refine b_end ?_
      | refine b_skip ?_
      | refine b_block ?_
      | refine b_loop ?_
      | refine b_inBlock ?_
      | refine b_region rfl ?_
  refine b_op 71 (.slice ao xs.length ca) rfl rfl rfl hkn (fun W => run_mv a69 _ _ _ rfl e0 W) fun a70 ea => ?_
  replace e3 := kp ea e3 (by omega)
  replace e4 := kp ea e4 (by omega)
  replace e6 := kp ea e6 (by omega)
  replace e9 := kp ea e9 (by omega)
  have e71 := nw ea hz (by omega)
  replace hd := kd ea hd
  replace hz := kz ea hz
  clear e0
  clear e69
  clear ea
  refine b_call (vs := #[.slice ao xs.length ca]) rfl rfl hkn rfl Try.func13 (by rfl) rfl (by rw [List.map_toArray, List.map_cons, List.map_nil, e71]) ?_
  refine bk_toIntS kw hl (hx.bc bcS agS) fun w12 row12 hb12 kw12 => ?_
  clear kw
  have kw := kw12
  replace rowG := rowG.bc hb12 (fun _ _ => rfl)
  replace bcS := bcS.trans hb12
  refine b_back rfl rfl fun a71 ea => ?_
  replace e3 := kp ea e3 (by omega)
  replace e4 := kp ea e4 (by omega)
  replace e6 := kp ea e6 (by omega)
  replace e9 := kp ea e9 (by omega)
  have e72 := nw ea hz (by omega)
  replace hd := kd ea hd
  replace hz := kz ea hz
  clear e71
  clear ea
  refine b_call (vs := #[.slice (some ⟨w11.heap.size, 0, none⟩) xs.length xs.length]) rfl rfl hkn rfl Try.func14 (by rfl) rfl (by rw [List.map_toArray, List.map_cons, List.map_nil, e72]) ?_
  refine spaceOf_yes hr kw hl row12.rd fun Wg13 g13 w13 hWg13 hgg13 rowg13 hb13 kw13 => ?_
  clear kw
  have kw := kw13
  replace rowG := rowG.bc hb13 (agree_more hWg13)
  replace agS := agree_next hWg13 bcS.size agS
  replace bcS := bcS.trans hb13
  have rowH := rowg13
  refine b_back rfl rfl fun a72 ea => ?_
  replace e3 := kp ea e3 (by omega)
  replace e4 := kp ea e4 (by omega)
  replace e6 := kp ea e6 (by omega)
  replace e9 := kp ea e9 (by omega)
  have e73 := nw ea hz (by omega)
  replace hd := kd ea hd
  replace hz := kz ea hz
  clear e72
  clear ea
  refine b_op 70 (.tuple #[.slice (some ⟨g13, 0, none⟩) (spL xs).length (spL xs).length, .bool true]) rfl rfl rfl hkn (fun W => run_mv a72 _ _ _ rfl e73 W) fun a73 ea => ?_
  replace e3 := kp ea e3 (by omega)
  replace e4 := kp ea e4 (by omega)
  replace e6 := kp ea e6 (by omega)
  replace e9 := kp ea e9 (by omega)
  have e70 := nw ea hz (by omega)
  replace hd := kd ea hd
  replace hz := kz ea hz
  clear e73
  clear ea
  refine b_op 74 (.slice (some ⟨g13, 0, none⟩) (spL xs).length (spL xs).length) rfl rfl rfl hkn (fun W => run_ex a73 _ 70 0 _ _ rfl e70 rfl W) fun a74 ea => ?_
  replace e3 := kp ea e3 (by omega)
  replace e4 := kp ea e4 (by omega)
  replace e6 := kp ea e6 (by omega)
  replace e9 := kp ea e9 (by omega)
  replace e70 := kp ea e70 (by omega)
  have e74 := nw ea hz (by omega)
  replace hd := kd ea hd
  replace hz := kz ea hz
  clear ea
  refine b_op 75 (.bool true) rfl rfl rfl hkn (fun W => run_ex a74 _ 70 1 _ _ rfl e70 rfl W) fun a75 ea => ?_
  replace e3 := kp ea e3 (by omega)
  replace e4 := kp ea e4 (by omega)
  replace e6 := kp ea e6 (by omega)
  replace e9 := kp ea e9 (by omega)
  replace e74 := kp ea e74 (by omega)
  have e75 := nw ea hz (by omega)
  replace hd := kd ea hd
  replace hz := kz ea hz
  clear e70
  clear ea
  refine b_op 11 (.slice (some ⟨g13, 0, none⟩) (spL xs).length (spL xs).length) rfl rfl rfl hkn (fun W => run_asg a75 _ (.tmp 74) _ rfl e74 W) fun a76 ea => ?_
  replace e3 := kp ea e3 (by omega)
  replace e4 := kp ea e4 (by omega)
  replace e6 := kp ea e6 (by omega)
  replace e9 := kp ea e9 (by omega)
  replace e75 := kp ea e75 (by omega)
  have e11 := nw ea hz (by omega)
  replace hd := kd ea hd
  replace hz := kz ea hz
  clear e74
  clear ea
  refine b_op 12 (.bool true) rfl rfl rfl hkn (fun W => run_asg a76 _ (.tmp 75) _ rfl e75 W) fun a77 ea => ?_
  replace e3 := kp ea e3 (by omega)
  replace e4 := kp ea e4 (by omega)
  replace e6 := kp ea e6 (by omega)
  replace e9 := kp ea e9 (by omega)
  replace e11 := kp ea e11 (by omega)
  have e12 := nw ea hz (by omega)
  replace hd := kd ea hd
  replace hz := kz ea hz
  clear e75
  clear ea
  repeat
    first
      | refine b_seq ?_
      | refine b_end ?_
      | refine b_skip ?_
      | refine b_block ?_
      | refine b_loop ?_
      | refine b_inBlock ?_
      | refine b_region rfl ?_
  refine b_op 76 (.slice (some ⟨g13, 0, none⟩) (spL xs).length (spL xs).length) rfl rfl rfl hkn (fun W => run_mv a77 _ _ _ rfl e11 W) fun a78 ea => ?_
  replace e3 := kp ea e3 (by omega)
  replace e4 := kp ea e4 (by omega)
  replace e6 := kp ea e6 (by omega)
  replace e9 := kp ea e9 (by omega)
  replace e12 := kp ea e12 (by omega)
  have e76 := nw ea hz (by omega)
  replace hd := kd ea hd
  replace hz := kz ea hz
  clear e11
  clear ea
  refine b_op 77 (.slice aw (spL xs).length cw) rfl rfl rfl hkn (fun W => run_mv a78 _ _ _ rfl e3 W) fun a79 ea => ?_
  replace e4 := kp ea e4 (by omega)
  replace e6 := kp ea e6 (by omega)
  replace e9 := kp ea e9 (by omega)
  replace e12 := kp ea e12 (by omega)
  replace e76 := kp ea e76 (by omega)
  have e77 := nw ea hz (by omega)
  replace hd := kd ea hd
  replace hz := kz ea hz
  clear e3
  clear ea
  refine b_call (vs := #[.slice (some ⟨g13, 0, none⟩) (spL xs).length (spL xs).length, .slice aw (spL xs).length cw]) rfl rfl hkn rfl Try.func15 (by rfl) rfl (by rw [List.map_toArray, List.map_cons, List.map_cons, List.map_nil, e76, e77]) ?_
  refine bk_eqIntS_same kw hsl rowH.rd (hrw.bc bcS agS) fun w14 hb14 kw14 => ?_
  clear kw
  have kw := kw14
  replace rowG := rowG.bc hb14 (fun _ _ => rfl)
  replace rowH := rowH.bc hb14 (fun _ _ => rfl)
  replace bcS := bcS.trans hb14
  refine b_back rfl rfl fun a80 ea => ?_
  replace e4 := kp ea e4 (by omega)
  replace e6 := kp ea e6 (by omega)
  replace e9 := kp ea e9 (by omega)
  replace e12 := kp ea e12 (by omega)
  have e78 := nw ea hz (by omega)
  replace hd := kd ea hd
  replace hz := kz ea hz
  clear e76
  clear e77
  clear ea
  refine b_op 79 (.bool false) rfl rfl rfl hkn (fun W => run_not a80 _ 78 true _ rfl e78 W) fun a81 ea => ?_
  replace e4 := kp ea e4 (by omega)
  replace e6 := kp ea e6 (by omega)
  replace e9 := kp ea e9 (by omega)
  replace e12 := kp ea e12 (by omega)
  have e79 := nw ea hz (by omega)
  replace hd := kd ea hd
  replace hz := kz ea hz
  clear e78
  clear ea
  refine b_op 80 (.bool false) rfl rfl rfl hkn (fun W => run_mv a81 _ _ _ rfl e79 W) fun a82 ea => ?_
  replace e4 := kp ea e4 (by omega)
  replace e6 := kp ea e6 (by omega)
  replace e9 := kp ea e9 (by omega)
  replace e12 := kp ea e12 (by omega)
  have e80 := nw ea hz (by omega)
  replace hd := kd ea hd
  replace hz := kz ea hz
  clear e79
  clear ea
  refine b_op 81 (.bool true) rfl (wantedY rfl rfl e80) rfl hkn (fun W => run_mv a82 _ _ _ rfl e12 W) fun a83 ea => ?_
  replace e4 := kp ea e4 (by omega)
  replace e6 := kp ea e6 (by omega)
  replace e9 := kp ea e9 (by omega)
  replace e80 := kp ea e80 (by omega)
  have e81 := nw ea hz (by omega)
  replace hd := kd ea hd
  replace hz := kz ea hz
  clear e12
  clear ea
  refine b_op 82 (.bool true) rfl (wantedY rfl rfl e80) rfl hkn (fun W => run_mv a83 _ _ _ rfl e4 W) fun a84 ea => ?_
  replace e6 := kp ea e6 (by omega)
  replace e9 := kp ea e9 (by omega)
  replace e80 := kp ea e80 (by omega)
  replace e81 := kp ea e81 (by omega)
  have e82 := nw ea hz (by omega)
  replace hd := kd ea hd
  replace hz := kz ea hz
  clear e4
  clear ea
  refine b_op 83 (.bool false) rfl (wantedY rfl rfl e80) rfl hkn (fun W => run_neqB a84 _ 81 82 true true _ _ rfl rfl e81 e82 W) fun a85 ea => ?_
  replace e6 := kp ea e6 (by omega)
  replace e9 := kp ea e9 (by omega)
  replace e80 := kp ea e80 (by omega)
  have e83 := nw ea hz (by omega)
  replace hd := kd ea hd
  replace hz := kz ea hz
  clear e81
  clear e82
  clear ea
  refine b_op 84 (.bool false) rfl rfl rfl hkn (fun W => run_pickF a85 _ _ _ _ _ rfl e80 e83 W) fun a86 ea => ?_
  replace e6 := kp ea e6 (by omega)
  replace e9 := kp ea e9 (by omega)
  have e84 := nw ea hz (by omega)
  replace hd := kd ea hd
  replace hz := kz ea hz
  clear e80
  clear e83
  clear ea
  repeat
    first
      | refine b_seq ?_
      | refine b_end ?_
      | refine b_skip ?_
      | refine b_block ?_
      | refine b_loop ?_
      | refine b_inBlock ?_
      | refine b_region rfl ?_
  refine b_false e84 ?_
  repeat
    first
      | refine b_seq ?_
      | refine b_end ?_
      | refine b_skip ?_
      | refine b_block ?_
      | refine b_loop ?_
      | refine b_inBlock ?_
      | refine b_region rfl ?_
  refine b_op 10 (.int .i64 1) rfl rfl rfl hkn (fun W => run_asg a86 _ (.const (.int .i64 1)) (.int .i64 1) rfl rfl W) fun a87 ea => ?_
  replace e6 := kp ea e6 (by omega)
  replace e9 := kp ea e9 (by omega)
  have e10 := nw ea hz (by omega)
  replace hd := kd ea hd
  replace hz := kz ea hz
  clear e84
  clear ea
  repeat
    first
      | refine b_seq ?_
      | refine b_end ?_
      | refine b_skip ?_
      | refine b_block ?_
      | refine b_loop ?_
      | refine b_inBlock ?_
      | refine b_region rfl ?_
  refine b_op 85 (.slice (some ⟨g4, 0, none⟩) (spL xs).length (spL xs).length) rfl rfl rfl hkn (fun W => run_mv a87 _ _ _ rfl e6 W) fun a88 ea => ?_
  replace e9 := kp ea e9 (by omega)
  replace e10 := kp ea e10 (by omega)
  have e85 := nw ea hz (by omega)
  replace hd := kd ea hd
  replace hz := kz ea hz
  clear e6
  clear ea
  refine b_op 86 (.int .i64 1) rfl rfl rfl hkn (fun W => run_mv a88 _ _ _ rfl e10 W) fun a89 ea => ?_
  replace e9 := kp ea e9 (by omega)
  replace e85 := kp ea e85 (by omega)
  have e86 := nw ea hz (by omega)
  replace hd := kd ea hd
  replace hz := kz ea hz
  clear e10
  clear ea
  refine b_call (vs := #[.slice (some ⟨g4, 0, none⟩) (spL xs).length (spL xs).length, .int .i64 1]) rfl rfl hkn rfl Try.func17 (by rfl) rfl (by rw [List.map_toArray, List.map_cons, List.map_cons, List.map_nil, e85, e86]) ?_
  refine bk_held (k := 1) kw hsl (by omega) rowG.rd fun w15 hb15 kw15 => ?_
  clear kw
  have kw := kw15
  replace rowG := rowG.bc hb15 (fun _ _ => rfl)
  replace rowH := rowH.bc hb15 (fun _ _ => rfl)
  replace bcS := bcS.trans hb15
  refine b_back rfl rfl fun a90 ea => ?_
  replace e9 := kp ea e9 (by omega)
  have e87 := nw ea hz (by omega)
  replace hd := kd ea hd
  replace hz := kz ea hz
  clear e85
  clear e86
  clear ea
  refine b_op 10 (.int .i64 ((1 + (spL xs).length : Nat) : Int)) rfl rfl rfl hkn (fun W => run_asg a90 _ (.tmp 87) _ rfl e87 W) fun a91 ea => ?_
  replace e9 := kp ea e9 (by omega)
  have e10 := nw ea hz (by omega)
  replace hd := kd ea hd
  replace hz := kz ea hz
  clear e87
  clear ea
  repeat
    first
      | refine b_seq ?_
      | refine b_end ?_
      | refine b_skip ?_
      | refine b_block ?_
      | refine b_loop ?_
      | refine b_inBlock ?_
      | refine b_region rfl ?_
  refine b_op 88 (.int .i64 ((1 + (spL xs).length : Nat) : Int)) rfl rfl rfl hkn (fun W => run_mv a91 _ _ _ rfl e10 W) fun a92 ea => ?_
  replace e9 := kp ea e9 (by omega)
  replace e10 := kp ea e10 (by omega)
  have e88 := nw ea hz (by omega)
  replace hd := kd ea hd
  replace hz := kz ea hz
  clear ea
  refine b_op 89 (.bool false) rfl rfl rfl hkn (fun W => run_lt a92 _ (.tmp 88) (.const (.int .i64 0)) _ _ _ _ false (by simp <;> omega) rfl e88 rfl W) fun a93 ea => ?_
  replace e9 := kp ea e9 (by omega)
  replace e10 := kp ea e10 (by omega)
  have e89 := nw ea hz (by omega)
  replace hd := kd ea hd
  replace hz := kz ea hz
  clear e88
  clear ea
  repeat
    first
      | refine b_seq ?_
      | refine b_end ?_
      | refine b_skip ?_
      | refine b_block ?_
      | refine b_loop ?_
      | refine b_inBlock ?_
      | refine b_region rfl ?_
  refine b_false e89 ?_
  repeat
    first
      | refine b_seq ?_
      | refine b_end ?_
      | refine b_skip ?_
      | refine b_block ?_
      | refine b_loop ?_
      | refine b_inBlock ?_
      | refine b_region rfl ?_
  refine b_op 90 (.int .i64 ((1 + (spL xs).length : Nat) : Int)) rfl rfl rfl hkn (fun W => run_mv a93 _ _ _ rfl e10 W) fun a94 ea => ?_
  replace e9 := kp ea e9 (by omega)
  have e90 := nw ea hz (by omega)
  replace hd := kd ea hd
  replace hz := kz ea hz
  clear e10
  clear e89
  clear ea
  refine b_op 91 (.int .i64 ((1 + (spL xs).length : Nat) : Int)) rfl rfl rfl hkn (fun W => run_mv a94 _ _ _ rfl e9 W) fun a95 ea => ?_
  replace e90 := kp ea e90 (by omega)
  have e91 := nw ea hz (by omega)
  replace hd := kd ea hd
  replace hz := kz ea hz
  clear e9
  clear ea
  refine b_op 92 (.bool false) rfl rfl rfl hkn (fun W => run_neqI0 a95 _ 90 91 _ _ false _ _ (by simp) rfl rfl e90 e91 W) fun a96 ea => ?_
  have e92 := nw ea hz (by omega)
  replace hd := kd ea hd
  replace hz := kz ea hz
  clear e90
  clear e91
  clear ea
  repeat
    first
      | refine b_seq ?_
      | refine b_end ?_
      | refine b_skip ?_
      | refine b_block ?_
      | refine b_loop ?_
      | refine b_inBlock ?_
      | refine b_region rfl ?_
  refine b_false e92 ?_
  repeat
    first
      | refine b_seq ?_
      | refine b_end ?_
      | refine b_skip ?_
      | refine b_block ?_
      | refine b_loop ?_
      | refine b_inBlock ?_
      | refine b_region rfl ?_
  refine b_op 2 (.bool true) rfl rfl rfl hkn (fun W => run_asg a96 _ (.const (.bool true)) (.bool true) rfl rfl W) fun a97 ea => ?_
  have e2 := nw ea hz (by omega)
  replace hd := kd ea hd
  replace hz := kz ea hz
  clear e92
  clear ea
  repeat
    first
      | refine b_seq ?_
      | refine b_end ?_
      | refine b_skip ?_
      | refine b_block ?_
      | refine b_loop ?_
      | refine b_inBlock ?_
      | refine b_region rfl ?_
  refine b_ret ?_
  refine b_finish rfl (by kernel_rfl) hd Try.func3 (own_res1 rfl e2 _) (fun W es => events_results_tmp (t := 2) rfl _ _) ?_
  exact hp _ (bc0.trans bcS)

theorem exSpaceOf_long (n : Nat) (hl : ¬ n ≤ 1048576) (hp : ∀ τ d, Post (.bool true) (w.on τ d)) :
    WB Try.prog (EndQ Try.prog Post) Sh (G (Frame.enter Try.prog 3 #[.slice ao n ca] .normal) []) w := by
  have hkn : (base 3).kind ≠ .early := base_kind _
  have same : ∀ {a : Act}, a.tmps.size = 93 → ∀ {d : Nat}, d < 93 → ∀ v, (a.put (some d) v).eval (.tmp d) = v := fun h _ hd v => eval_put_same (by rw [h]; exact hd)
  rw [enter_at _ Try.func3 rfl]
  obtain ⟨a0, ha0, hz, hd, he⟩ := enter_acts 92 (#[.slice ao n ca] : Array Value)
  have hm : Try.f3.ntmps - (#[.slice ao n ca] : Array Value).size = 92 := by rw [Try.ntmps3]; rfl
  rw [hm]
  show WB Try.prog _ _ (G ((base 3).at _ [.code _]) _) _
  rw [← ha0]
  replace hz : a0.tmps.size = 93 := hz
  have e0 : a0.eval (.tmp 0) = .slice ao n ca := he 0 _ rfl
  clear ha0 hm he
  repeat
    first
      | refine b_seq ?_
      | refine b_end ?_
      | refine b_skip ?_
      | refine b_block ?_
      | refine b_loop ?_
      | refine b_inBlock ?_
      | refine b_region rfl ?_
  refine b_op 2 (.bool false) rfl rfl rfl hkn (fun W => run_asg a0 _ (.const (.bool false)) (.bool false) rfl rfl W) fun a1 ea => ?_
  replace e0 := kp ea e0 (by omega)
  replace hd := kd ea hd
  replace hz := kz ea hz
  clear ea
  repeat
    first
      | refine b_seq ?_
      | refine b_end ?_
      | refine b_skip ?_
      | refine b_block ?_
      | refine b_loop ?_
      | refine b_inBlock ?_
      | refine b_region rfl ?_
  refine b_op 13 (.slice ao n ca) rfl rfl rfl hkn (fun W => run_mv a1 _ _ _ rfl e0 W) fun a2 ea => ?_
  have e13 := nw ea hz (by omega)
  replace hd := kd ea hd
  replace hz := kz ea hz
  clear e0
  clear ea
  refine b_op 14 (.int .i64 n) rfl rfl rfl hkn (fun W => run_lenI a2 _ 13 _ _ _ _ rfl rfl e13 W) fun a3 ea => ?_
  have e14 := nw ea hz (by omega)
  replace hd := kd ea hd
  replace hz := kz ea hz
  clear e13
  clear ea
  refine b_op 15 (.bool true) rfl rfl rfl hkn (fun W => run_gt0 a3 _ (.tmp 14) (.const (.int .i64 1048576)) _ _ _ _ true (by simp; omega) rfl e14 rfl W) fun a4 ea => ?_
  have e15 := nw ea hz (by omega)
  replace hd := kd ea hd
  replace hz := kz ea hz
  clear e14
  clear ea
  repeat
    first
      | refine b_seq ?_
      | refine b_end ?_
      | refine b_skip ?_
      | refine b_block ?_
      | refine b_loop ?_
      | refine b_inBlock ?_
      | refine b_region rfl ?_
  refine b_true e15 ?_
  repeat
    first
      | refine b_seq ?_
      | refine b_end ?_
      | refine b_skip ?_
      | refine b_block ?_
      | refine b_loop ?_
      | refine b_inBlock ?_
      | refine b_region rfl ?_
  refine b_op 2 (.bool true) rfl rfl rfl hkn (fun W => run_asg a4 _ (.const (.bool true)) (.bool true) rfl rfl W) fun a5 ea => ?_
  have e2 := nw ea hz (by omega)
  replace hd := kd ea hd
  replace hz := kz ea hz
  clear e15
  clear ea
  repeat
    first
      | refine b_seq ?_
      | refine b_end ?_
      | refine b_skip ?_
      | refine b_block ?_
      | refine b_loop ?_
      | refine b_inBlock ?_
      | refine b_region rfl ?_
  refine b_ret ?_
  refine b_finish rfl (by kernel_rfl) hd Try.func3 (own_res1 rfl e2 _) (fun W es => events_results_tmp (t := 2) rfl _ _) ?_
  exact hp
end
end Go.Ph
