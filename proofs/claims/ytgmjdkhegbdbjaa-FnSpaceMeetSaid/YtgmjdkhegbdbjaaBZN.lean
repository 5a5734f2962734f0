/-
  The law FnSpaceMeet beside leavers.
-/
import Derived.Test.YtgmjdkhegbdbjaaBZJ
import Derived.Test.YtgmjdkhegbdbjaaSPG
import Derived.Test.YtgmjdkhegbdbjaaSPH
namespace Go.Ph
open Go Go.Conc Go.ConcN Go.RowKit Go.Conc.Lib Go.ConcR.Gen Go.ConcN.Gen Go.Br Go.Proofs Go.Proofs.Ytgmjdkhegbdbjaa Go.Sort
set_option linter.unusedVariables false
set_option linter.unusedSimpArgs false
set_option linter.unusedSectionVars false
set_option maxRecDepth 100000


section
variable {Q : (Nat → Bool) → Goroutine → World → Prop} {Sh : Nat → Bool} {w w0 : World} {cs : List Frame} {c0 : Frame} {ao bo : Option Addr} {ca cb : Nat} {xs ys : List Int}

variable {Post : Value → World → Prop}
theorem run_eqlB1 (a : Act) (o : Oper) (x y : Tmp) (b c : Bool) (t' : TypeId) (hr : (b == c) = true) (ho : o.op = .binOp .eql 4 (.tmp x) (.tmp y) t') (h : a.eval (.tmp x) = .bool b) (h2 : a.eval (.tmp y) = .bool c) (w : World) :
    (execOp a.eval o).run Try.prog w = .ok (.value (.bool true)) w ∧ (execOp a.eval o).events Try.prog w #[] = #[] := by
  unfold execOp
  simp only [ho, h, h2]
  cases b <;> cases c <;> first | (cases hr; done) | (constructor <;> simp [go_sem] <;> rfl)
theorem run_eqlI1 (a : Act) (o : Oper) (x y : Tmp) (i j : Int) (t' : TypeId) (hr : (i == j) = true) (ho : o.op = .binOp .eql 3 (.tmp x) (.tmp y) t') (h : a.eval (.tmp x) = .int .i64 i) (h2 : a.eval (.tmp y) = .int .i64 j) (w : World) :
    (execOp a.eval o).run Try.prog w = .ok (.value (.bool true)) w ∧ (execOp a.eval o).events Try.prog w #[] = #[] := by
  unfold execOp
  simp only [ho, h, h2]
  constructor <;> simp [go_sem, hr]
theorem run_eqlZ (a : Act) (o : Oper) (x : Tmp) (i : Int) (t t' : TypeId) (hr : (i == 0) = true) (ht : t = 3) (ho : o.op = .binOp .eql t (.tmp x) (.const (.int .i64 0)) t') (h : a.eval (.tmp x) = .int .i64 i) (w : World) :
    (execOp a.eval o).run Try.prog w = .ok (.value (.bool true)) w ∧ (execOp a.eval o).events Try.prog w #[] = #[] := by
  subst ht
  have h2 : a.eval (.const (.int .i64 0)) = .int .i64 0 := rfl
  unfold execOp
  simp only [ho, h, h2]
  constructor <;> simp [go_sem, hr]
theorem run_andI (a : Act) (o : Oper) (x y : Tmp) (i j : Int) (t t' : TypeId) (ht : t = 3) (ho : o.op = .binOp .and t (.tmp x) (.tmp y) t') (h : a.eval (.tmp x) = .int .i64 i) (h2 : a.eval (.tmp y) = .int .i64 j) (w : World) :
    (execOp a.eval o).run Try.prog w = .ok (.value (.int .i64 (bits .and .i64 i j))) w ∧ (execOp a.eval o).events Try.prog w #[] = #[] := by
  unfold execOp
  simp only [ho, h, h2]
  constructor <;> simp [go_sem]
theorem run_andNotI (a : Act) (o : Oper) (x y : Tmp) (i j : Int) (t t' : TypeId) (ht : t = 3) (ho : o.op = .binOp .andNot t (.tmp x) (.tmp y) t') (h : a.eval (.tmp x) = .int .i64 i) (h2 : a.eval (.tmp y) = .int .i64 j) (w : World) :
    (execOp a.eval o).run Try.prog w = .ok (.value (.int .i64 (bits .andNot .i64 i j))) w ∧ (execOp a.eval o).events Try.prog w #[] = #[] := by
  unfold execOp
  simp only [ho, h, h2]
  constructor <;> simp [go_sem]
theorem run_lenA (a : Act) (o : Oper) (x : Tmp) (t : TypeId) (ao : Option Addr) (n c : Nat) (ht : t = 32) (ho : o.op = .call { callee := .builtin .len, args := #[.tmp x], argTypes := #[t] }) (h : a.eval (.tmp x) = .slice ao n c) (w : World) :
    (execOp a.eval o).run Try.prog w = .ok (.value (.int .i64 n)) w ∧ (execOp a.eval o).events Try.prog w #[] = #[] := by
  subst ht
  unfold execOp
  simp only [ho]
  generalize a.eval = ρ at h ⊢
  constructor
  · simp [resolve, h, invoke, builtin, Builtin.len_, Builtin.lenOf, go_sem]
  · simp [resolve, h, invoke, builtin, Builtin.len_, Builtin.lenOf, go_sem]
abbrev BytesAt (w : World) (ao : Option Addr) (bs : List Nat) : Prop := Go.Proofs.Ytgmjdkhegbdbjaa.RdB w ao bs
theorem void_none (w : World) : (void (fun _ => false) w).heap = w.heap := by
  apply Array.ext_getElem?
  intro i
  exact void_same rfl
theorem bytes_heap {bs : List Nat} {W : World} (h : BytesAt w ao bs) (e : W.heap = w.heap) : BytesAt W ao bs := by
  intro k x hx
  obtain ⟨h1, b, off, h2, h3, h4⟩ := h k x hx
  refine ⟨h1, b, off, h2, by rw [e]; exact h3, ?_⟩
  rw [← h4]
  unfold World.cell?
  rw [e]
theorem bk_drawSpaceMeet {bs : List Nat} (kw : KW Try.prog link.tWg (fun _ => false) w) (hb : BytesAt w ao bs) (hc : bs.length ≤ ca) (hbA : bs ≠ [] → ∀ a, ao = some a → a.block < w.heap.size)
    (hq : ∀ aw cw rs x y w', rs.length ≤ 4 → RdB (fun _ => false) w' aw rs → BelowC w w' → KW Try.prog link.tWg (fun _ => false) w' → WB Try.prog Q (fun _ => false) ⟨c0.finish (.tuple #[.slice aw rs.length cw, .int .i64 x, .int .i64 y]), cs, .running, none, none⟩ w') :
    WB Try.prog Q (fun _ => false) (gor (Frame.enter Try.prog 27 #[.slice ao bs.length ca] .normal) [] (c0 :: cs)) w := by
  refine bk rfl kw (R := fun W v w' => ∃ (u : Value) (rs : List Int) (x y : Int), v = .tuple #[u, .int .i64 x, .int .i64 y] ∧ rs.length ≤ 4 ∧ w'.ownsRow W.heap.size 3 1 u rs.length (rs.map (Value.int .i64)) ∧ Below W.heap.size W w') (fun W hs hh => ?_) ?_
  · have e : W.heap = w.heap := hh.elim id fun h => h.trans (void_none w)
    exact (drawSpaceMeet_any ao ca bs W (bytes_heap hb e) hc (by rw [e]; exact hbA)).mono fun e' w' ⟨u, rs, x, y, h1, h2, h3, h4⟩ => ⟨_, h1, u, rs, x, y, rfl, h2, h3, h4⟩
  · rintro W v w' e e1 e2 ⟨u, rs, x, y, rfl, hl, ho, hbl⟩
    have hbc := bc_from e e1 e2 hbl
    have kw' := kw.bc hbc
    rw [e] at ho
    obtain ⟨aw, cw, rfl, hr⟩ := read_own kw' (fun b hb => kw.lt hb) ho
    exact hq aw cw rs x y w' hl hr hbc kw'

set_option maxHeartbeats 4000000 in
theorem fnSpaceMeet {bs : List Nat} (kw : KW Try.prog link.tWg (fun _ => false) w) (hl0 : bs.length ≤ 1048576) (hb : BytesAt w ao bs) (hc : bs.length ≤ ca) (hbA : bs ≠ [] → ∀ a, ao = some a → a.block < w.heap.size) (hp : ∀ w', BelowC w w' → ∀ τ d, Post (.bool true) (w'.on τ d)) :
    WB Try.prog (EndQ Try.prog Post) (fun _ => false) (G (Frame.enter Try.prog 8 #[.slice ao bs.length ca] .normal) []) w := by
  have hkn : (base 8).kind ≠ .early := base_kind _
  have same : ∀ {a : Act}, a.tmps.size = 93 → ∀ {d : Nat}, d < 93 → ∀ v, (a.put (some d) v).eval (.tmp d) = v := fun h _ hd v => eval_put_same (by rw [h]; exact hd)
  rw [enter_at _ Try.func8 rfl]
  obtain ⟨a0, ha0, hz, hd, he⟩ := enter_acts 92 (#[.slice ao bs.length ca] : Array Value)
  have hm : Try.f8.ntmps - (#[.slice ao bs.length ca] : Array Value).size = 92 := by rw [Try.ntmps8]; rfl
  rw [hm]
  show WB Try.prog _ _ (G ((base 8).at _ [.code _]) _) _
  rw [← ha0]
  replace hz : a0.tmps.size = 93 := hz
  have e0 : a0.eval (.tmp 0) = .slice ao bs.length ca := he 0 _ rfl
  clear ha0 hm he
  repeat
    first
      | refine b_seq ?_
      | refine b_end ?_
      | refine b_skip ?_
      | refine b_block ?_
      | refine b_loop ?_
      | refine b_inBlock ?_
      | refine b_region rfl ?_
  refine b_op 2 (.bool false) rfl rfl rfl hkn (fun W => run_asg a0 _ (.const (.bool false)) (.bool false) rfl rfl W) fun a1 ea => ?_
  replace e0 := kp ea e0 (by omega)
  replace hd := kd ea hd
  replace hz := kz ea hz
  clear ea
  repeat
    first
      | refine b_seq ?_
      | refine b_end ?_
      | refine b_skip ?_
      | refine b_block ?_
      | refine b_loop ?_
      | refine b_inBlock ?_
      | refine b_region rfl ?_
  refine b_op 14 (.slice ao bs.length ca) rfl rfl rfl hkn (fun W => run_mv a1 _ _ _ rfl e0 W) fun a2 ea => ?_
  replace e0 := kp ea e0 (by omega)
  have e14 := nw ea hz (by omega)
  replace hd := kd ea hd
  replace hz := kz ea hz
  clear ea
  refine b_op 15 (.int .i64 bs.length) rfl rfl rfl hkn (fun W => run_lenA a2 _ 14 _ _ _ _ rfl rfl e14 W) fun a3 ea => ?_
  replace e0 := kp ea e0 (by omega)
  have e15 := nw ea hz (by omega)
  replace hd := kd ea hd
  replace hz := kz ea hz
  clear e14
  clear ea
  refine b_op 16 (.bool false) rfl rfl rfl hkn (fun W => run_gt0 a3 _ (.tmp 15) (.const (.int .i64 1048576)) _ _ _ _ false (by simp; omega) rfl e15 rfl W) fun a4 ea => ?_
  replace e0 := kp ea e0 (by omega)
  have e16 := nw ea hz (by omega)
  replace hd := kd ea hd
  replace hz := kz ea hz
  clear e15
  clear ea
  repeat
    first
      | refine b_seq ?_
      | refine b_end ?_
      | refine b_skip ?_
      | refine b_block ?_
      | refine b_loop ?_
      | refine b_inBlock ?_
      | refine b_region rfl ?_
  refine b_false e16 ?_
  repeat
    first
      | refine b_seq ?_
      | refine b_end ?_
      | refine b_skip ?_
      | refine b_block ?_
      | refine b_loop ?_
      | refine b_inBlock ?_
      | refine b_region rfl ?_
  refine b_op 18 (.slice ao bs.length ca) rfl rfl rfl hkn (fun W => run_mv a4 _ _ _ rfl e0 W) fun a5 ea => ?_
  have e18 := nw ea hz (by omega)
  replace hd := kd ea hd
  replace hz := kz ea hz
  clear e0
  clear e16
  clear ea
  refine b_call (vs := #[.slice ao bs.length ca]) rfl rfl hkn rfl Try.func27 (by rfl) rfl (by rw [List.map_toArray, List.map_cons, List.map_nil, e18]) ?_
  refine bk_drawSpaceMeet kw hb hc hbA fun aw cw rs x y w1 hrl hrd bc kw1 => ?_
  have hl : rs.length ≤ 1048576 := by omega
  clear kw
  have kw := kw1
  refine b_back rfl rfl fun a6 ea => ?_
  have e19 := nw ea hz (by omega)
  replace hd := kd ea hd
  replace hz := kz ea hz
  clear e18
  clear ea
  refine b_op 17 (.tuple #[.slice aw rs.length cw, .int .i64 x, .int .i64 y]) rfl rfl rfl hkn (fun W => run_mv a6 _ _ _ rfl e19 W) fun a7 ea => ?_
  have e17 := nw ea hz (by omega)
  replace hd := kd ea hd
  replace hz := kz ea hz
  clear e19
  clear ea
  refine b_op 20 (.slice aw rs.length cw) rfl rfl rfl hkn (fun W => run_ex a7 _ 17 0 _ _ rfl e17 rfl W) fun a8 ea => ?_
  replace e17 := kp ea e17 (by omega)
  have e20 := nw ea hz (by omega)
  replace hd := kd ea hd
  replace hz := kz ea hz
  clear ea
  refine b_op 21 (.int .i64 x) rfl rfl rfl hkn (fun W => run_ex a8 _ 17 1 _ _ rfl e17 rfl W) fun a9 ea => ?_
  replace e17 := kp ea e17 (by omega)
  replace e20 := kp ea e20 (by omega)
  have e21 := nw ea hz (by omega)
  replace hd := kd ea hd
  replace hz := kz ea hz
  clear ea
  refine b_op 22 (.int .i64 y) rfl rfl rfl hkn (fun W => run_ex a9 _ 17 2 _ _ rfl e17 rfl W) fun a10 ea => ?_
  replace e20 := kp ea e20 (by omega)
  replace e21 := kp ea e21 (by omega)
  have e22 := nw ea hz (by omega)
  replace hd := kd ea hd
  replace hz := kz ea hz
  clear e17
  clear ea
  refine b_op 3 (.slice aw rs.length cw) rfl rfl rfl hkn (fun W => run_asg a10 _ (.tmp 20) _ rfl e20 W) fun a11 ea => ?_
  replace e21 := kp ea e21 (by omega)
  replace e22 := kp ea e22 (by omega)
  have e3 := nw ea hz (by omega)
  replace hd := kd ea hd
  replace hz := kz ea hz
  clear e20
  clear ea
  refine b_op 4 (.int .i64 x) rfl rfl rfl hkn (fun W => run_asg a11 _ (.tmp 21) _ rfl e21 W) fun a12 ea => ?_
  replace e22 := kp ea e22 (by omega)
  replace e3 := kp ea e3 (by omega)
  have e4 := nw ea hz (by omega)
  replace hd := kd ea hd
  replace hz := kz ea hz
  clear e21
  clear ea
  refine b_op 5 (.int .i64 y) rfl rfl rfl hkn (fun W => run_asg a12 _ (.tmp 22) _ rfl e22 W) fun a13 ea => ?_
  replace e3 := kp ea e3 (by omega)
  replace e4 := kp ea e4 (by omega)
  have e5 := nw ea hz (by omega)
  replace hd := kd ea hd
  replace hz := kz ea hz
  clear e22
  clear ea
  repeat
    first
      | refine b_seq ?_
      | refine b_end ?_
      | refine b_skip ?_
      | refine b_block ?_
      | refine b_loop ?_
      | refine b_inBlock ?_
      | refine b_region rfl ?_
  cases hs : smB rs x y with
  | false =>
    repeat
      first
        | refine b_seq ?_
        | refine b_end ?_
        | refine b_skip ?_
        | refine b_block ?_
        | refine b_loop ?_
        | refine b_inBlock ?_
        | refine b_region rfl ?_
    refine b_op 24 (.slice aw rs.length cw) rfl rfl rfl hkn (fun W => run_mv a13 _ _ _ rfl e3 W) fun a14 ea => ?_
    replace e3 := kp ea e3 (by omega)
    replace e4 := kp ea e4 (by omega)
    replace e5 := kp ea e5 (by omega)
    have e24 := nw ea hz (by omega)
    replace hd := kd ea hd
    replace hz := kz ea hz
    clear ea
    refine b_op 25 (.int .i64 x) rfl rfl rfl hkn (fun W => run_mv a14 _ _ _ rfl e4 W) fun a15 ea => ?_
    replace e3 := kp ea e3 (by omega)
    replace e4 := kp ea e4 (by omega)
    replace e5 := kp ea e5 (by omega)
    replace e24 := kp ea e24 (by omega)
    have e25 := nw ea hz (by omega)
    replace hd := kd ea hd
    replace hz := kz ea hz
    clear ea
    refine b_op 26 (.int .i64 y) rfl rfl rfl hkn (fun W => run_mv a15 _ _ _ rfl e5 W) fun a16 ea => ?_
    replace e3 := kp ea e3 (by omega)
    replace e4 := kp ea e4 (by omega)
    replace e5 := kp ea e5 (by omega)
    replace e24 := kp ea e24 (by omega)
    replace e25 := kp ea e25 (by omega)
    have e26 := nw ea hz (by omega)
    replace hd := kd ea hd
    replace hz := kz ea hz
    clear ea
    refine b_call (vs := #[.slice aw rs.length cw, .int .i64 x, .int .i64 y]) rfl rfl hkn rfl Try.func19 (by rfl) rfl (by rw [List.map_toArray, List.map_cons, List.map_cons, List.map_cons, List.map_nil, e24, e25, e26]) ?_
    refine spaceMeetB kw hl hrd fun Sh2f w2f hb2f kw2f ag2f => ?_
    clear kw
    have kw := kw2f
    replace hrd := hrd.bc hb2f ag2f
    replace bc := bc.trans hb2f
    rw [hs]
    refine b_back rfl rfl fun a17 ea => ?_
    replace e3 := kp ea e3 (by omega)
    replace e4 := kp ea e4 (by omega)
    replace e5 := kp ea e5 (by omega)
    have e27 := nw ea hz (by omega)
    replace hd := kd ea hd
    replace hz := kz ea hz
    clear e24
    clear e25
    clear e26
    clear ea
    refine b_op 23 (.tuple #[.int .i64 (smI rs x y), .bool false]) rfl rfl rfl hkn (fun W => run_mv a17 _ _ _ rfl e27 W) fun a18 ea => ?_
    replace e3 := kp ea e3 (by omega)
    replace e4 := kp ea e4 (by omega)
    replace e5 := kp ea e5 (by omega)
    have e23 := nw ea hz (by omega)
    replace hd := kd ea hd
    replace hz := kz ea hz
    clear e27
    clear ea
    refine b_op 28 (.int .i64 (smI rs x y)) rfl rfl rfl hkn (fun W => run_ex a18 _ 23 0 _ _ rfl e23 rfl W) fun a19 ea => ?_
    replace e3 := kp ea e3 (by omega)
    replace e4 := kp ea e4 (by omega)
    replace e5 := kp ea e5 (by omega)
    replace e23 := kp ea e23 (by omega)
    have e28 := nw ea hz (by omega)
    replace hd := kd ea hd
    replace hz := kz ea hz
    clear ea
    refine b_op 29 (.bool false) rfl rfl rfl hkn (fun W => run_ex a19 _ 23 1 _ _ rfl e23 rfl W) fun a20 ea => ?_
    replace e3 := kp ea e3 (by omega)
    replace e4 := kp ea e4 (by omega)
    replace e5 := kp ea e5 (by omega)
    replace e28 := kp ea e28 (by omega)
    have e29 := nw ea hz (by omega)
    replace hd := kd ea hd
    replace hz := kz ea hz
    clear e23
    clear ea
    refine b_op 6 (.int .i64 (smI rs x y)) rfl rfl rfl hkn (fun W => run_asg a20 _ (.tmp 28) _ rfl e28 W) fun a21 ea => ?_
    replace e3 := kp ea e3 (by omega)
    replace e4 := kp ea e4 (by omega)
    replace e5 := kp ea e5 (by omega)
    replace e29 := kp ea e29 (by omega)
    have e6 := nw ea hz (by omega)
    replace hd := kd ea hd
    replace hz := kz ea hz
    clear e28
    clear ea
    refine b_op 7 (.bool false) rfl rfl rfl hkn (fun W => run_asg a21 _ (.tmp 29) _ rfl e29 W) fun a22 ea => ?_
    replace e3 := kp ea e3 (by omega)
    replace e4 := kp ea e4 (by omega)
    replace e5 := kp ea e5 (by omega)
    replace e6 := kp ea e6 (by omega)
    have e7 := nw ea hz (by omega)
    replace hd := kd ea hd
    replace hz := kz ea hz
    clear e29
    clear ea
    repeat
      first
        | refine b_seq ?_
        | refine b_end ?_
        | refine b_skip ?_
        | refine b_block ?_
        | refine b_loop ?_
        | refine b_inBlock ?_
        | refine b_region rfl ?_
    refine b_op 31 (.slice aw rs.length cw) rfl rfl rfl hkn (fun W => run_mv a22 _ _ _ rfl e3 W) fun a23 ea => ?_
    replace e4 := kp ea e4 (by omega)
    replace e5 := kp ea e5 (by omega)
    replace e6 := kp ea e6 (by omega)
    replace e7 := kp ea e7 (by omega)
    have e31 := nw ea hz (by omega)
    replace hd := kd ea hd
    replace hz := kz ea hz
    clear e3
    clear ea
    refine b_op 32 (.int .i64 x) rfl rfl rfl hkn (fun W => run_mv a23 _ _ _ rfl e4 W) fun a24 ea => ?_
    replace e5 := kp ea e5 (by omega)
    replace e6 := kp ea e6 (by omega)
    replace e7 := kp ea e7 (by omega)
    replace e31 := kp ea e31 (by omega)
    have e32 := nw ea hz (by omega)
    replace hd := kd ea hd
    replace hz := kz ea hz
    clear e4
    clear ea
    refine b_op 33 (.int .i64 y) rfl rfl rfl hkn (fun W => run_mv a24 _ _ _ rfl e5 W) fun a25 ea => ?_
    replace e6 := kp ea e6 (by omega)
    replace e7 := kp ea e7 (by omega)
    replace e31 := kp ea e31 (by omega)
    replace e32 := kp ea e32 (by omega)
    have e33 := nw ea hz (by omega)
    replace hd := kd ea hd
    replace hz := kz ea hz
    clear e5
    clear ea
    refine b_call (vs := #[.slice aw rs.length cw, .int .i64 x, .int .i64 y]) rfl rfl hkn rfl Try.func18 (by rfl) rfl (by rw [List.map_toArray, List.map_cons, List.map_cons, List.map_cons, List.map_nil, e31, e32, e33]) ?_
    refine bk_specSpaceMeet kw hl hrd fun w3f hb3f kw3f => ?_
    clear kw
    have kw := kw3f
    replace hrd := hrd.bc hb3f (fun _ _ => rfl)
    replace bc := bc.trans hb3f
    rw [hs]
    refine b_back rfl rfl fun a26 ea => ?_
    replace e6 := kp ea e6 (by omega)
    replace e7 := kp ea e7 (by omega)
    have e34 := nw ea hz (by omega)
    replace hd := kd ea hd
    replace hz := kz ea hz
    clear e31
    clear e32
    clear e33
    clear ea
    refine b_op 30 (.tuple #[.int .i64 (smI rs x y), .bool false]) rfl rfl rfl hkn (fun W => run_mv a26 _ _ _ rfl e34 W) fun a27 ea => ?_
    replace e6 := kp ea e6 (by omega)
    replace e7 := kp ea e7 (by omega)
    have e30 := nw ea hz (by omega)
    replace hd := kd ea hd
    replace hz := kz ea hz
    clear e34
    clear ea
    refine b_op 35 (.int .i64 (smI rs x y)) rfl rfl rfl hkn (fun W => run_ex a27 _ 30 0 _ _ rfl e30 rfl W) fun a28 ea => ?_
    replace e6 := kp ea e6 (by omega)
    replace e7 := kp ea e7 (by omega)
    replace e30 := kp ea e30 (by omega)
    have e35 := nw ea hz (by omega)
    replace hd := kd ea hd
    replace hz := kz ea hz
    clear ea
    refine b_op 36 (.bool false) rfl rfl rfl hkn (fun W => run_ex a28 _ 30 1 _ _ rfl e30 rfl W) fun a29 ea => ?_
    replace e6 := kp ea e6 (by omega)
    replace e7 := kp ea e7 (by omega)
    replace e35 := kp ea e35 (by omega)
    have e36 := nw ea hz (by omega)
    replace hd := kd ea hd
    replace hz := kz ea hz
    clear e30
    clear ea
    refine b_op 8 (.int .i64 (smI rs x y)) rfl rfl rfl hkn (fun W => run_asg a29 _ (.tmp 35) _ rfl e35 W) fun a30 ea => ?_
    replace e6 := kp ea e6 (by omega)
    replace e7 := kp ea e7 (by omega)
    replace e36 := kp ea e36 (by omega)
    have e8 := nw ea hz (by omega)
    replace hd := kd ea hd
    replace hz := kz ea hz
    clear e35
    clear ea
    refine b_op 9 (.bool false) rfl rfl rfl hkn (fun W => run_asg a30 _ (.tmp 36) _ rfl e36 W) fun a31 ea => ?_
    replace e6 := kp ea e6 (by omega)
    replace e7 := kp ea e7 (by omega)
    replace e8 := kp ea e8 (by omega)
    have e9 := nw ea hz (by omega)
    replace hd := kd ea hd
    replace hz := kz ea hz
    clear e36
    clear ea
    repeat
      first
        | refine b_seq ?_
        | refine b_end ?_
        | refine b_skip ?_
        | refine b_block ?_
        | refine b_loop ?_
        | refine b_inBlock ?_
        | refine b_region rfl ?_
    refine b_op 37 (.bool false) rfl rfl rfl hkn (fun W => run_mv a31 _ _ _ rfl e7 W) fun a32 ea => ?_
    replace e6 := kp ea e6 (by omega)
    replace e7 := kp ea e7 (by omega)
    replace e8 := kp ea e8 (by omega)
    replace e9 := kp ea e9 (by omega)
    have e37 := nw ea hz (by omega)
    replace hd := kd ea hd
    replace hz := kz ea hz
    clear ea
    refine b_op 38 (.bool false) rfl rfl rfl hkn (fun W => run_mv a32 _ _ _ rfl e9 W) fun a33 ea => ?_
    replace e6 := kp ea e6 (by omega)
    replace e7 := kp ea e7 (by omega)
    replace e8 := kp ea e8 (by omega)
    replace e9 := kp ea e9 (by omega)
    replace e37 := kp ea e37 (by omega)
    have e38 := nw ea hz (by omega)
    replace hd := kd ea hd
    replace hz := kz ea hz
    clear ea
    refine b_op 39 (.bool false) rfl rfl rfl hkn (fun W => run_neqB0 a33 _ 37 38 _ _ false _ _ (by simp) rfl rfl e37 e38 W) fun a34 ea => ?_
    replace e6 := kp ea e6 (by omega)
    replace e7 := kp ea e7 (by omega)
    replace e8 := kp ea e8 (by omega)
    replace e9 := kp ea e9 (by omega)
    have e39 := nw ea hz (by omega)
    replace hd := kd ea hd
    replace hz := kz ea hz
    clear e37
    clear e38
    clear ea
    refine b_op 40 (.bool false) rfl rfl rfl hkn (fun W => run_mv a34 _ _ _ rfl e39 W) fun a35 ea => ?_
    replace e6 := kp ea e6 (by omega)
    replace e7 := kp ea e7 (by omega)
    replace e8 := kp ea e8 (by omega)
    replace e9 := kp ea e9 (by omega)
    have e40 := nw ea hz (by omega)
    replace hd := kd ea hd
    replace hz := kz ea hz
    clear e39
    clear ea
    refine b_op 41 (.int .i64 (smI rs x y)) rfl (wantedY rfl rfl e40) rfl hkn (fun W => run_mv a35 _ _ _ rfl e6 W) fun a36 ea => ?_
    replace e6 := kp ea e6 (by omega)
    replace e7 := kp ea e7 (by omega)
    replace e8 := kp ea e8 (by omega)
    replace e9 := kp ea e9 (by omega)
    replace e40 := kp ea e40 (by omega)
    have e41 := nw ea hz (by omega)
    replace hd := kd ea hd
    replace hz := kz ea hz
    clear ea
    refine b_op 42 (.int .i64 (smI rs x y)) rfl (wantedY rfl rfl e40) rfl hkn (fun W => run_mv a36 _ _ _ rfl e8 W) fun a37 ea => ?_
    replace e6 := kp ea e6 (by omega)
    replace e7 := kp ea e7 (by omega)
    replace e8 := kp ea e8 (by omega)
    replace e9 := kp ea e9 (by omega)
    replace e40 := kp ea e40 (by omega)
    replace e41 := kp ea e41 (by omega)
    have e42 := nw ea hz (by omega)
    replace hd := kd ea hd
    replace hz := kz ea hz
    clear ea
    refine b_op 43 (.bool false) rfl (wantedY rfl rfl e40) rfl hkn (fun W => run_neqI0 a37 _ 41 42 _ _ false _ _ (by simp) rfl rfl e41 e42 W) fun a38 ea => ?_
    replace e6 := kp ea e6 (by omega)
    replace e7 := kp ea e7 (by omega)
    replace e8 := kp ea e8 (by omega)
    replace e9 := kp ea e9 (by omega)
    replace e40 := kp ea e40 (by omega)
    have e43 := nw ea hz (by omega)
    replace hd := kd ea hd
    replace hz := kz ea hz
    clear e41
    clear e42
    clear ea
    refine b_op 44 (.bool false) rfl rfl rfl hkn (fun W => run_pickF a38 _ _ _ _ _ rfl e40 e43 W) fun a39 ea => ?_
    replace e6 := kp ea e6 (by omega)
    replace e7 := kp ea e7 (by omega)
    replace e8 := kp ea e8 (by omega)
    replace e9 := kp ea e9 (by omega)
    have e44 := nw ea hz (by omega)
    replace hd := kd ea hd
    replace hz := kz ea hz
    clear e40
    clear e43
    clear ea
    refine b_op 45 (.bool false) rfl rfl rfl hkn (fun W => run_mv a39 _ _ _ rfl e44 W) fun a40 ea => ?_
    replace e6 := kp ea e6 (by omega)
    replace e7 := kp ea e7 (by omega)
    replace e8 := kp ea e8 (by omega)
    replace e9 := kp ea e9 (by omega)
    have e45 := nw ea hz (by omega)
    replace hd := kd ea hd
    replace hz := kz ea hz
    clear e44
    clear ea
    refine b_op 46 (.bool false) rfl (wantedY rfl rfl e45) rfl hkn (fun W => run_mv a40 _ _ _ rfl e7 W) fun a41 ea => ?_
    replace e6 := kp ea e6 (by omega)
    replace e7 := kp ea e7 (by omega)
    replace e8 := kp ea e8 (by omega)
    replace e9 := kp ea e9 (by omega)
    replace e45 := kp ea e45 (by omega)
    have e46 := nw ea hz (by omega)
    replace hd := kd ea hd
    replace hz := kz ea hz
    clear ea
    refine b_op 47 (.bool true) rfl (wantedY rfl rfl e45) rfl hkn (fun W => run_not a41 _ 46 false _ rfl e46 W) fun a42 ea => ?_
    replace e6 := kp ea e6 (by omega)
    replace e7 := kp ea e7 (by omega)
    replace e8 := kp ea e8 (by omega)
    replace e9 := kp ea e9 (by omega)
    replace e45 := kp ea e45 (by omega)
    have e47 := nw ea hz (by omega)
    replace hd := kd ea hd
    replace hz := kz ea hz
    clear e46
    clear ea
    refine b_op 48 (.bool true) rfl rfl rfl hkn (fun W => run_pickF a42 _ _ _ _ _ rfl e45 e47 W) fun a43 ea => ?_
    replace e6 := kp ea e6 (by omega)
    replace e7 := kp ea e7 (by omega)
    replace e8 := kp ea e8 (by omega)
    replace e9 := kp ea e9 (by omega)
    have e48 := nw ea hz (by omega)
    replace hd := kd ea hd
    replace hz := kz ea hz
    clear e45
    clear e47
    clear ea
    repeat
      first
        | refine b_seq ?_
        | refine b_end ?_
        | refine b_skip ?_
        | refine b_block ?_
        | refine b_loop ?_
        | refine b_inBlock ?_
        | refine b_region rfl ?_
    refine b_true e48 ?_
    repeat
      first
        | refine b_seq ?_
        | refine b_end ?_
        | refine b_skip ?_
        | refine b_block ?_
        | refine b_loop ?_
        | refine b_inBlock ?_
        | refine b_region rfl ?_
    refine b_op 49 (.bool false) rfl rfl rfl hkn (fun W => run_mv a43 _ _ _ rfl e7 W) fun a44 ea => ?_
    replace e6 := kp ea e6 (by omega)
    replace e8 := kp ea e8 (by omega)
    replace e9 := kp ea e9 (by omega)
    have e49 := nw ea hz (by omega)
    replace hd := kd ea hd
    replace hz := kz ea hz
    clear e7
    clear e48
    clear ea
    refine b_op 50 (.bool false) rfl rfl rfl hkn (fun W => run_mv a44 _ _ _ rfl e9 W) fun a45 ea => ?_
    replace e6 := kp ea e6 (by omega)
    replace e8 := kp ea e8 (by omega)
    replace e49 := kp ea e49 (by omega)
    have e50 := nw ea hz (by omega)
    replace hd := kd ea hd
    replace hz := kz ea hz
    clear e9
    clear ea
    refine b_op 51 (.bool true) rfl rfl rfl hkn (fun W => run_eqlB1 a45 _ 49 50 _ _ _ (by simp) rfl e49 e50 W) fun a46 ea => ?_
    replace e6 := kp ea e6 (by omega)
    replace e8 := kp ea e8 (by omega)
    have e51 := nw ea hz (by omega)
    replace hd := kd ea hd
    replace hz := kz ea hz
    clear e49
    clear e50
    clear ea
    refine b_op 52 (.bool true) rfl rfl rfl hkn (fun W => run_mv a46 _ _ _ rfl e51 W) fun a47 ea => ?_
    replace e6 := kp ea e6 (by omega)
    replace e8 := kp ea e8 (by omega)
    have e52 := nw ea hz (by omega)
    replace hd := kd ea hd
    replace hz := kz ea hz
    clear e51
    clear ea
    refine b_op 53 (.int .i64 (smI rs x y)) rfl (wantedY rfl rfl e52) rfl hkn (fun W => run_mv a47 _ _ _ rfl e6 W) fun a48 ea => ?_
    replace e8 := kp ea e8 (by omega)
    replace e52 := kp ea e52 (by omega)
    have e53 := nw ea hz (by omega)
    replace hd := kd ea hd
    replace hz := kz ea hz
    clear e6
    clear ea
    refine b_op 54 (.int .i64 (smI rs x y)) rfl (wantedY rfl rfl e52) rfl hkn (fun W => run_mv a48 _ _ _ rfl e8 W) fun a49 ea => ?_
    replace e52 := kp ea e52 (by omega)
    replace e53 := kp ea e53 (by omega)
    have e54 := nw ea hz (by omega)
    replace hd := kd ea hd
    replace hz := kz ea hz
    clear e8
    clear ea
    refine b_op 55 (.bool true) rfl (wantedY rfl rfl e52) rfl hkn (fun W => run_eqlI1 a49 _ 53 54 _ _ _ (by simp) rfl e53 e54 W) fun a50 ea => ?_
    replace e52 := kp ea e52 (by omega)
    have e55 := nw ea hz (by omega)
    replace hd := kd ea hd
    replace hz := kz ea hz
    clear e53
    clear e54
    clear ea
    refine b_op 56 (.bool true) rfl rfl rfl hkn (fun W => run_pickT a50 _ _ _ _ _ rfl e52 e55 W) fun a51 ea => ?_
    have e56 := nw ea hz (by omega)
    replace hd := kd ea hd
    replace hz := kz ea hz
    clear e52
    clear e55
    clear ea
    refine b_op 2 (.bool true) rfl rfl rfl hkn (fun W => run_asg a51 _ (.tmp 56) _ rfl e56 W) fun a52 ea => ?_
    have e2 := nw ea hz (by omega)
    replace hd := kd ea hd
    replace hz := kz ea hz
    clear e56
    clear ea
    repeat
      first
        | refine b_seq ?_
        | refine b_end ?_
        | refine b_skip ?_
        | refine b_block ?_
        | refine b_loop ?_
        | refine b_inBlock ?_
        | refine b_region rfl ?_
    refine b_ret ?_
    refine b_finish rfl (by kernel_rfl) hd Try.func8 (own_res1 rfl e2 _) (fun W es => events_results_tmp (t := 2) rfl _ _) ?_
    exact hp _ bc
  | true =>
    obtain ⟨hf1, hf2, hf3⟩ := sm_facts hs
    have hzero : (bits .andNot .i64 (smI rs x y) (bits .and .i64 x y) == 0) = true := hf3
    repeat
      first
        | refine b_seq ?_
        | refine b_end ?_
        | refine b_skip ?_
        | refine b_block ?_
        | refine b_loop ?_
        | refine b_inBlock ?_
        | refine b_region rfl ?_
    refine b_op 24 (.slice aw rs.length cw) rfl rfl rfl hkn (fun W => run_mv a13 _ _ _ rfl e3 W) fun a14 ea => ?_
    replace e3 := kp ea e3 (by omega)
    replace e4 := kp ea e4 (by omega)
    replace e5 := kp ea e5 (by omega)
    have e24 := nw ea hz (by omega)
    replace hd := kd ea hd
    replace hz := kz ea hz
    clear ea
    refine b_op 25 (.int .i64 x) rfl rfl rfl hkn (fun W => run_mv a14 _ _ _ rfl e4 W) fun a15 ea => ?_
    replace e3 := kp ea e3 (by omega)
    replace e4 := kp ea e4 (by omega)
    replace e5 := kp ea e5 (by omega)
    replace e24 := kp ea e24 (by omega)
    have e25 := nw ea hz (by omega)
    replace hd := kd ea hd
    replace hz := kz ea hz
    clear ea
    refine b_op 26 (.int .i64 y) rfl rfl rfl hkn (fun W => run_mv a15 _ _ _ rfl e5 W) fun a16 ea => ?_
    replace e3 := kp ea e3 (by omega)
    replace e4 := kp ea e4 (by omega)
    replace e5 := kp ea e5 (by omega)
    replace e24 := kp ea e24 (by omega)
    replace e25 := kp ea e25 (by omega)
    have e26 := nw ea hz (by omega)
    replace hd := kd ea hd
    replace hz := kz ea hz
    clear ea
    refine b_call (vs := #[.slice aw rs.length cw, .int .i64 x, .int .i64 y]) rfl rfl hkn rfl Try.func19 (by rfl) rfl (by rw [List.map_toArray, List.map_cons, List.map_cons, List.map_cons, List.map_nil, e24, e25, e26]) ?_
    refine spaceMeetB kw hl hrd fun Sh4t w4t hb4t kw4t ag4t => ?_
    clear kw
    have kw := kw4t
    replace hrd := hrd.bc hb4t ag4t
    replace bc := bc.trans hb4t
    rw [hs]
    refine b_back rfl rfl fun a17 ea => ?_
    replace e3 := kp ea e3 (by omega)
    replace e4 := kp ea e4 (by omega)
    replace e5 := kp ea e5 (by omega)
    have e27 := nw ea hz (by omega)
    replace hd := kd ea hd
    replace hz := kz ea hz
    clear e24
    clear e25
    clear e26
    clear ea
    refine b_op 23 (.tuple #[.int .i64 (smI rs x y), .bool true]) rfl rfl rfl hkn (fun W => run_mv a17 _ _ _ rfl e27 W) fun a18 ea => ?_
    replace e3 := kp ea e3 (by omega)
    replace e4 := kp ea e4 (by omega)
    replace e5 := kp ea e5 (by omega)
    have e23 := nw ea hz (by omega)
    replace hd := kd ea hd
    replace hz := kz ea hz
    clear e27
    clear ea
    refine b_op 28 (.int .i64 (smI rs x y)) rfl rfl rfl hkn (fun W => run_ex a18 _ 23 0 _ _ rfl e23 rfl W) fun a19 ea => ?_
    replace e3 := kp ea e3 (by omega)
    replace e4 := kp ea e4 (by omega)
    replace e5 := kp ea e5 (by omega)
    replace e23 := kp ea e23 (by omega)
    have e28 := nw ea hz (by omega)
    replace hd := kd ea hd
    replace hz := kz ea hz
    clear ea
    refine b_op 29 (.bool true) rfl rfl rfl hkn (fun W => run_ex a19 _ 23 1 _ _ rfl e23 rfl W) fun a20 ea => ?_
    replace e3 := kp ea e3 (by omega)
    replace e4 := kp ea e4 (by omega)
    replace e5 := kp ea e5 (by omega)
    replace e28 := kp ea e28 (by omega)
    have e29 := nw ea hz (by omega)
    replace hd := kd ea hd
    replace hz := kz ea hz
    clear e23
    clear ea
    refine b_op 6 (.int .i64 (smI rs x y)) rfl rfl rfl hkn (fun W => run_asg a20 _ (.tmp 28) _ rfl e28 W) fun a21 ea => ?_
    replace e3 := kp ea e3 (by omega)
    replace e4 := kp ea e4 (by omega)
    replace e5 := kp ea e5 (by omega)
    replace e29 := kp ea e29 (by omega)
    have e6 := nw ea hz (by omega)
    replace hd := kd ea hd
    replace hz := kz ea hz
    clear e28
    clear ea
    refine b_op 7 (.bool true) rfl rfl rfl hkn (fun W => run_asg a21 _ (.tmp 29) _ rfl e29 W) fun a22 ea => ?_
    replace e3 := kp ea e3 (by omega)
    replace e4 := kp ea e4 (by omega)
    replace e5 := kp ea e5 (by omega)
    replace e6 := kp ea e6 (by omega)
    have e7 := nw ea hz (by omega)
    replace hd := kd ea hd
    replace hz := kz ea hz
    clear e29
    clear ea
    repeat
      first
        | refine b_seq ?_
        | refine b_end ?_
        | refine b_skip ?_
        | refine b_block ?_
        | refine b_loop ?_
        | refine b_inBlock ?_
        | refine b_region rfl ?_
    refine b_op 31 (.slice aw rs.length cw) rfl rfl rfl hkn (fun W => run_mv a22 _ _ _ rfl e3 W) fun a23 ea => ?_
    replace e3 := kp ea e3 (by omega)
    replace e4 := kp ea e4 (by omega)
    replace e5 := kp ea e5 (by omega)
    replace e6 := kp ea e6 (by omega)
    replace e7 := kp ea e7 (by omega)
    have e31 := nw ea hz (by omega)
    replace hd := kd ea hd
    replace hz := kz ea hz
    clear ea
    refine b_op 32 (.int .i64 x) rfl rfl rfl hkn (fun W => run_mv a23 _ _ _ rfl e4 W) fun a24 ea => ?_
    replace e3 := kp ea e3 (by omega)
    replace e4 := kp ea e4 (by omega)
    replace e5 := kp ea e5 (by omega)
    replace e6 := kp ea e6 (by omega)
    replace e7 := kp ea e7 (by omega)
    replace e31 := kp ea e31 (by omega)
    have e32 := nw ea hz (by omega)
    replace hd := kd ea hd
    replace hz := kz ea hz
    clear ea
    refine b_op 33 (.int .i64 y) rfl rfl rfl hkn (fun W => run_mv a24 _ _ _ rfl e5 W) fun a25 ea => ?_
    replace e3 := kp ea e3 (by omega)
    replace e4 := kp ea e4 (by omega)
    replace e5 := kp ea e5 (by omega)
    replace e6 := kp ea e6 (by omega)
    replace e7 := kp ea e7 (by omega)
    replace e31 := kp ea e31 (by omega)
    replace e32 := kp ea e32 (by omega)
    have e33 := nw ea hz (by omega)
    replace hd := kd ea hd
    replace hz := kz ea hz
    clear ea
    refine b_call (vs := #[.slice aw rs.length cw, .int .i64 x, .int .i64 y]) rfl rfl hkn rfl Try.func18 (by rfl) rfl (by rw [List.map_toArray, List.map_cons, List.map_cons, List.map_cons, List.map_nil, e31, e32, e33]) ?_
    refine bk_specSpaceMeet kw hl hrd fun w5t hb5t kw5t => ?_
    clear kw
    have kw := kw5t
    replace hrd := hrd.bc hb5t (fun _ _ => rfl)
    replace bc := bc.trans hb5t
    rw [hs]
    refine b_back rfl rfl fun a26 ea => ?_
    replace e3 := kp ea e3 (by omega)
    replace e4 := kp ea e4 (by omega)
    replace e5 := kp ea e5 (by omega)
    replace e6 := kp ea e6 (by omega)
    replace e7 := kp ea e7 (by omega)
    have e34 := nw ea hz (by omega)
    replace hd := kd ea hd
    replace hz := kz ea hz
    clear e31
    clear e32
    clear e33
    clear ea
    refine b_op 30 (.tuple #[.int .i64 (smI rs x y), .bool true]) rfl rfl rfl hkn (fun W => run_mv a26 _ _ _ rfl e34 W) fun a27 ea => ?_
    replace e3 := kp ea e3 (by omega)
    replace e4 := kp ea e4 (by omega)
    replace e5 := kp ea e5 (by omega)
    replace e6 := kp ea e6 (by omega)
    replace e7 := kp ea e7 (by omega)
    have e30 := nw ea hz (by omega)
    replace hd := kd ea hd
    replace hz := kz ea hz
    clear e34
    clear ea
    refine b_op 35 (.int .i64 (smI rs x y)) rfl rfl rfl hkn (fun W => run_ex a27 _ 30 0 _ _ rfl e30 rfl W) fun a28 ea => ?_
    replace e3 := kp ea e3 (by omega)
    replace e4 := kp ea e4 (by omega)
    replace e5 := kp ea e5 (by omega)
    replace e6 := kp ea e6 (by omega)
    replace e7 := kp ea e7 (by omega)
    replace e30 := kp ea e30 (by omega)
    have e35 := nw ea hz (by omega)
    replace hd := kd ea hd
    replace hz := kz ea hz
    clear ea
    refine b_op 36 (.bool true) rfl rfl rfl hkn (fun W => run_ex a28 _ 30 1 _ _ rfl e30 rfl W) fun a29 ea => ?_
    replace e3 := kp ea e3 (by omega)
    replace e4 := kp ea e4 (by omega)
    replace e5 := kp ea e5 (by omega)
    replace e6 := kp ea e6 (by omega)
    replace e7 := kp ea e7 (by omega)
    replace e35 := kp ea e35 (by omega)
    have e36 := nw ea hz (by omega)
    replace hd := kd ea hd
    replace hz := kz ea hz
    clear e30
    clear ea
    refine b_op 8 (.int .i64 (smI rs x y)) rfl rfl rfl hkn (fun W => run_asg a29 _ (.tmp 35) _ rfl e35 W) fun a30 ea => ?_
    replace e3 := kp ea e3 (by omega)
    replace e4 := kp ea e4 (by omega)
    replace e5 := kp ea e5 (by omega)
    replace e6 := kp ea e6 (by omega)
    replace e7 := kp ea e7 (by omega)
    replace e36 := kp ea e36 (by omega)
    have e8 := nw ea hz (by omega)
    replace hd := kd ea hd
    replace hz := kz ea hz
    clear e35
    clear ea
    refine b_op 9 (.bool true) rfl rfl rfl hkn (fun W => run_asg a30 _ (.tmp 36) _ rfl e36 W) fun a31 ea => ?_
    replace e3 := kp ea e3 (by omega)
    replace e4 := kp ea e4 (by omega)
    replace e5 := kp ea e5 (by omega)
    replace e6 := kp ea e6 (by omega)
    replace e7 := kp ea e7 (by omega)
    replace e8 := kp ea e8 (by omega)
    have e9 := nw ea hz (by omega)
    replace hd := kd ea hd
    replace hz := kz ea hz
    clear e36
    clear ea
    repeat
      first
        | refine b_seq ?_
        | refine b_end ?_
        | refine b_skip ?_
        | refine b_block ?_
        | refine b_loop ?_
        | refine b_inBlock ?_
        | refine b_region rfl ?_
    refine b_op 37 (.bool true) rfl rfl rfl hkn (fun W => run_mv a31 _ _ _ rfl e7 W) fun a32 ea => ?_
    replace e3 := kp ea e3 (by omega)
    replace e4 := kp ea e4 (by omega)
    replace e5 := kp ea e5 (by omega)
    replace e6 := kp ea e6 (by omega)
    replace e7 := kp ea e7 (by omega)
    replace e8 := kp ea e8 (by omega)
    replace e9 := kp ea e9 (by omega)
    have e37 := nw ea hz (by omega)
    replace hd := kd ea hd
    replace hz := kz ea hz
    clear ea
    refine b_op 38 (.bool true) rfl rfl rfl hkn (fun W => run_mv a32 _ _ _ rfl e9 W) fun a33 ea => ?_
    replace e3 := kp ea e3 (by omega)
    replace e4 := kp ea e4 (by omega)
    replace e5 := kp ea e5 (by omega)
    replace e6 := kp ea e6 (by omega)
    replace e7 := kp ea e7 (by omega)
    replace e8 := kp ea e8 (by omega)
    replace e37 := kp ea e37 (by omega)
    have e38 := nw ea hz (by omega)
    replace hd := kd ea hd
    replace hz := kz ea hz
    clear e9
    clear ea
    refine b_op 39 (.bool false) rfl rfl rfl hkn (fun W => run_neqB0 a33 _ 37 38 _ _ false _ _ (by simp) rfl rfl e37 e38 W) fun a34 ea => ?_
    replace e3 := kp ea e3 (by omega)
    replace e4 := kp ea e4 (by omega)
    replace e5 := kp ea e5 (by omega)
    replace e6 := kp ea e6 (by omega)
    replace e7 := kp ea e7 (by omega)
    replace e8 := kp ea e8 (by omega)
    have e39 := nw ea hz (by omega)
    replace hd := kd ea hd
    replace hz := kz ea hz
    clear e37
    clear e38
    clear ea
    refine b_op 40 (.bool false) rfl rfl rfl hkn (fun W => run_mv a34 _ _ _ rfl e39 W) fun a35 ea => ?_
    replace e3 := kp ea e3 (by omega)
    replace e4 := kp ea e4 (by omega)
    replace e5 := kp ea e5 (by omega)
    replace e6 := kp ea e6 (by omega)
    replace e7 := kp ea e7 (by omega)
    replace e8 := kp ea e8 (by omega)
    have e40 := nw ea hz (by omega)
    replace hd := kd ea hd
    replace hz := kz ea hz
    clear e39
    clear ea
    refine b_op 41 (.int .i64 (smI rs x y)) rfl (wantedY rfl rfl e40) rfl hkn (fun W => run_mv a35 _ _ _ rfl e6 W) fun a36 ea => ?_
    replace e3 := kp ea e3 (by omega)
    replace e4 := kp ea e4 (by omega)
    replace e5 := kp ea e5 (by omega)
    replace e6 := kp ea e6 (by omega)
    replace e7 := kp ea e7 (by omega)
    replace e8 := kp ea e8 (by omega)
    replace e40 := kp ea e40 (by omega)
    have e41 := nw ea hz (by omega)
    replace hd := kd ea hd
    replace hz := kz ea hz
    clear ea
    refine b_op 42 (.int .i64 (smI rs x y)) rfl (wantedY rfl rfl e40) rfl hkn (fun W => run_mv a36 _ _ _ rfl e8 W) fun a37 ea => ?_
    replace e3 := kp ea e3 (by omega)
    replace e4 := kp ea e4 (by omega)
    replace e5 := kp ea e5 (by omega)
    replace e6 := kp ea e6 (by omega)
    replace e7 := kp ea e7 (by omega)
    replace e40 := kp ea e40 (by omega)
    replace e41 := kp ea e41 (by omega)
    have e42 := nw ea hz (by omega)
    replace hd := kd ea hd
    replace hz := kz ea hz
    clear e8
    clear ea
    refine b_op 43 (.bool false) rfl (wantedY rfl rfl e40) rfl hkn (fun W => run_neqI0 a37 _ 41 42 _ _ false _ _ (by simp) rfl rfl e41 e42 W) fun a38 ea => ?_
    replace e3 := kp ea e3 (by omega)
    replace e4 := kp ea e4 (by omega)
    replace e5 := kp ea e5 (by omega)
    replace e6 := kp ea e6 (by omega)
    replace e7 := kp ea e7 (by omega)
    replace e40 := kp ea e40 (by omega)
    have e43 := nw ea hz (by omega)
    replace hd := kd ea hd
    replace hz := kz ea hz
    clear e41
    clear e42
    clear ea
    refine b_op 44 (.bool false) rfl rfl rfl hkn (fun W => run_pickF a38 _ _ _ _ _ rfl e40 e43 W) fun a39 ea => ?_
    replace e3 := kp ea e3 (by omega)
    replace e4 := kp ea e4 (by omega)
    replace e5 := kp ea e5 (by omega)
    replace e6 := kp ea e6 (by omega)
    replace e7 := kp ea e7 (by omega)
    have e44 := nw ea hz (by omega)
    replace hd := kd ea hd
    replace hz := kz ea hz
    clear e40
    clear e43
    clear ea
    refine b_op 45 (.bool false) rfl rfl rfl hkn (fun W => run_mv a39 _ _ _ rfl e44 W) fun a40 ea => ?_
    replace e3 := kp ea e3 (by omega)
    replace e4 := kp ea e4 (by omega)
    replace e5 := kp ea e5 (by omega)
    replace e6 := kp ea e6 (by omega)
    replace e7 := kp ea e7 (by omega)
    have e45 := nw ea hz (by omega)
    replace hd := kd ea hd
    replace hz := kz ea hz
    clear e44
    clear ea
    refine b_op 46 (.bool true) rfl (wantedY rfl rfl e45) rfl hkn (fun W => run_mv a40 _ _ _ rfl e7 W) fun a41 ea => ?_
    replace e3 := kp ea e3 (by omega)
    replace e4 := kp ea e4 (by omega)
    replace e5 := kp ea e5 (by omega)
    replace e6 := kp ea e6 (by omega)
    replace e45 := kp ea e45 (by omega)
    have e46 := nw ea hz (by omega)
    replace hd := kd ea hd
    replace hz := kz ea hz
    clear e7
    clear ea
    refine b_op 47 (.bool false) rfl (wantedY rfl rfl e45) rfl hkn (fun W => run_not a41 _ 46 true _ rfl e46 W) fun a42 ea => ?_
    replace e3 := kp ea e3 (by omega)
    replace e4 := kp ea e4 (by omega)
    replace e5 := kp ea e5 (by omega)
    replace e6 := kp ea e6 (by omega)
    replace e45 := kp ea e45 (by omega)
    have e47 := nw ea hz (by omega)
    replace hd := kd ea hd
    replace hz := kz ea hz
    clear e46
    clear ea
    refine b_op 48 (.bool false) rfl rfl rfl hkn (fun W => run_pickF a42 _ _ _ _ _ rfl e45 e47 W) fun a43 ea => ?_
    replace e3 := kp ea e3 (by omega)
    replace e4 := kp ea e4 (by omega)
    replace e5 := kp ea e5 (by omega)
    replace e6 := kp ea e6 (by omega)
    have e48 := nw ea hz (by omega)
    replace hd := kd ea hd
    replace hz := kz ea hz
    clear e45
    clear e47
    clear ea
    repeat
      first
        | refine b_seq ?_
        | refine b_end ?_
        | refine b_skip ?_
        | refine b_block ?_
        | refine b_loop ?_
        | refine b_inBlock ?_
        | refine b_region rfl ?_
    refine b_false e48 ?_
    repeat
      first
        | refine b_seq ?_
        | refine b_end ?_
        | refine b_skip ?_
        | refine b_block ?_
        | refine b_loop ?_
        | refine b_inBlock ?_
        | refine b_region rfl ?_
    refine b_op 58 (.slice aw rs.length cw) rfl rfl rfl hkn (fun W => run_mv a43 _ _ _ rfl e3 W) fun a44 ea => ?_
    replace e3 := kp ea e3 (by omega)
    replace e4 := kp ea e4 (by omega)
    replace e5 := kp ea e5 (by omega)
    replace e6 := kp ea e6 (by omega)
    have e58 := nw ea hz (by omega)
    replace hd := kd ea hd
    replace hz := kz ea hz
    clear e48
    clear ea
    refine b_op 59 (.int .i64 y) rfl rfl rfl hkn (fun W => run_mv a44 _ _ _ rfl e5 W) fun a45 ea => ?_
    replace e3 := kp ea e3 (by omega)
    replace e4 := kp ea e4 (by omega)
    replace e5 := kp ea e5 (by omega)
    replace e6 := kp ea e6 (by omega)
    replace e58 := kp ea e58 (by omega)
    have e59 := nw ea hz (by omega)
    replace hd := kd ea hd
    replace hz := kz ea hz
    clear ea
    refine b_op 60 (.int .i64 x) rfl rfl rfl hkn (fun W => run_mv a45 _ _ _ rfl e4 W) fun a46 ea => ?_
    replace e3 := kp ea e3 (by omega)
    replace e4 := kp ea e4 (by omega)
    replace e5 := kp ea e5 (by omega)
    replace e6 := kp ea e6 (by omega)
    replace e58 := kp ea e58 (by omega)
    replace e59 := kp ea e59 (by omega)
    have e60 := nw ea hz (by omega)
    replace hd := kd ea hd
    replace hz := kz ea hz
    clear ea
    refine b_call (vs := #[.slice aw rs.length cw, .int .i64 y, .int .i64 x]) rfl rfl hkn rfl Try.func19 (by rfl) rfl (by rw [List.map_toArray, List.map_cons, List.map_cons, List.map_cons, List.map_nil, e58, e59, e60]) ?_
    refine spaceMeetB kw hl hrd fun Sh6t w6t hb6t kw6t ag6t => ?_
    clear kw
    have kw := kw6t
    replace hrd := hrd.bc hb6t ag6t
    replace bc := bc.trans hb6t
    rw [smB_swap rs x y, hs, smI_swap hs]
    refine b_back rfl rfl fun a47 ea => ?_
    replace e3 := kp ea e3 (by omega)
    replace e4 := kp ea e4 (by omega)
    replace e5 := kp ea e5 (by omega)
    replace e6 := kp ea e6 (by omega)
    have e61 := nw ea hz (by omega)
    replace hd := kd ea hd
    replace hz := kz ea hz
    clear e58
    clear e59
    clear e60
    clear ea
    refine b_op 57 (.tuple #[.int .i64 (smI rs x y), .bool true]) rfl rfl rfl hkn (fun W => run_mv a47 _ _ _ rfl e61 W) fun a48 ea => ?_
    replace e3 := kp ea e3 (by omega)
    replace e4 := kp ea e4 (by omega)
    replace e5 := kp ea e5 (by omega)
    replace e6 := kp ea e6 (by omega)
    have e57 := nw ea hz (by omega)
    replace hd := kd ea hd
    replace hz := kz ea hz
    clear e61
    clear ea
    refine b_op 62 (.int .i64 (smI rs x y)) rfl rfl rfl hkn (fun W => run_ex a48 _ 57 0 _ _ rfl e57 rfl W) fun a49 ea => ?_
    replace e3 := kp ea e3 (by omega)
    replace e4 := kp ea e4 (by omega)
    replace e5 := kp ea e5 (by omega)
    replace e6 := kp ea e6 (by omega)
    replace e57 := kp ea e57 (by omega)
    have e62 := nw ea hz (by omega)
    replace hd := kd ea hd
    replace hz := kz ea hz
    clear ea
    refine b_op 63 (.bool true) rfl rfl rfl hkn (fun W => run_ex a49 _ 57 1 _ _ rfl e57 rfl W) fun a50 ea => ?_
    replace e3 := kp ea e3 (by omega)
    replace e4 := kp ea e4 (by omega)
    replace e5 := kp ea e5 (by omega)
    replace e6 := kp ea e6 (by omega)
    replace e62 := kp ea e62 (by omega)
    have e63 := nw ea hz (by omega)
    replace hd := kd ea hd
    replace hz := kz ea hz
    clear e57
    clear ea
    refine b_op 10 (.int .i64 (smI rs x y)) rfl rfl rfl hkn (fun W => run_asg a50 _ (.tmp 62) _ rfl e62 W) fun a51 ea => ?_
    replace e3 := kp ea e3 (by omega)
    replace e4 := kp ea e4 (by omega)
    replace e5 := kp ea e5 (by omega)
    replace e6 := kp ea e6 (by omega)
    replace e63 := kp ea e63 (by omega)
    have e10 := nw ea hz (by omega)
    replace hd := kd ea hd
    replace hz := kz ea hz
    clear e62
    clear ea
    refine b_op 11 (.bool true) rfl rfl rfl hkn (fun W => run_asg a51 _ (.tmp 63) _ rfl e63 W) fun a52 ea => ?_
    replace e3 := kp ea e3 (by omega)
    replace e4 := kp ea e4 (by omega)
    replace e5 := kp ea e5 (by omega)
    replace e6 := kp ea e6 (by omega)
    replace e10 := kp ea e10 (by omega)
    have e11 := nw ea hz (by omega)
    replace hd := kd ea hd
    replace hz := kz ea hz
    clear e63
    clear ea
    repeat
      first
        | refine b_seq ?_
        | refine b_end ?_
        | refine b_skip ?_
        | refine b_block ?_
        | refine b_loop ?_
        | refine b_inBlock ?_
        | refine b_region rfl ?_
    refine b_op 65 (.slice aw rs.length cw) rfl rfl rfl hkn (fun W => run_mv a52 _ _ _ rfl e3 W) fun a53 ea => ?_
    replace e4 := kp ea e4 (by omega)
    replace e5 := kp ea e5 (by omega)
    replace e6 := kp ea e6 (by omega)
    replace e10 := kp ea e10 (by omega)
    replace e11 := kp ea e11 (by omega)
    have e65 := nw ea hz (by omega)
    replace hd := kd ea hd
    replace hz := kz ea hz
    clear e3
    clear ea
    refine b_op 66 (.int .i64 (smI rs x y)) rfl rfl rfl hkn (fun W => run_mv a53 _ _ _ rfl e6 W) fun a54 ea => ?_
    replace e4 := kp ea e4 (by omega)
    replace e5 := kp ea e5 (by omega)
    replace e6 := kp ea e6 (by omega)
    replace e10 := kp ea e10 (by omega)
    replace e11 := kp ea e11 (by omega)
    replace e65 := kp ea e65 (by omega)
    have e66 := nw ea hz (by omega)
    replace hd := kd ea hd
    replace hz := kz ea hz
    clear ea
    refine b_op 67 (.int .i64 x) rfl rfl rfl hkn (fun W => run_mv a54 _ _ _ rfl e4 W) fun a55 ea => ?_
    replace e4 := kp ea e4 (by omega)
    replace e5 := kp ea e5 (by omega)
    replace e6 := kp ea e6 (by omega)
    replace e10 := kp ea e10 (by omega)
    replace e11 := kp ea e11 (by omega)
    replace e65 := kp ea e65 (by omega)
    replace e66 := kp ea e66 (by omega)
    have e67 := nw ea hz (by omega)
    replace hd := kd ea hd
    replace hz := kz ea hz
    clear ea
    refine b_call (vs := #[.slice aw rs.length cw, .int .i64 (smI rs x y), .int .i64 x]) rfl rfl hkn rfl Try.func19 (by rfl) rfl (by rw [List.map_toArray, List.map_cons, List.map_cons, List.map_cons, List.map_nil, e65, e66, e67]) ?_
    refine spaceMeetB kw hl hrd fun Sh7t w7t hb7t kw7t ag7t => ?_
    clear kw
    have kw := kw7t
    replace hrd := hrd.bc hb7t ag7t
    replace bc := bc.trans hb7t
    rw [hf1, hf2]
    refine b_back rfl rfl fun a56 ea => ?_
    replace e4 := kp ea e4 (by omega)
    replace e5 := kp ea e5 (by omega)
    replace e6 := kp ea e6 (by omega)
    replace e10 := kp ea e10 (by omega)
    replace e11 := kp ea e11 (by omega)
    have e68 := nw ea hz (by omega)
    replace hd := kd ea hd
    replace hz := kz ea hz
    clear e65
    clear e66
    clear e67
    clear ea
    refine b_op 64 (.tuple #[.int .i64 (smI rs x y), .bool true]) rfl rfl rfl hkn (fun W => run_mv a56 _ _ _ rfl e68 W) fun a57 ea => ?_
    replace e4 := kp ea e4 (by omega)
    replace e5 := kp ea e5 (by omega)
    replace e6 := kp ea e6 (by omega)
    replace e10 := kp ea e10 (by omega)
    replace e11 := kp ea e11 (by omega)
    have e64 := nw ea hz (by omega)
    replace hd := kd ea hd
    replace hz := kz ea hz
    clear e68
    clear ea
    refine b_op 69 (.int .i64 (smI rs x y)) rfl rfl rfl hkn (fun W => run_ex a57 _ 64 0 _ _ rfl e64 rfl W) fun a58 ea => ?_
    replace e4 := kp ea e4 (by omega)
    replace e5 := kp ea e5 (by omega)
    replace e6 := kp ea e6 (by omega)
    replace e10 := kp ea e10 (by omega)
    replace e11 := kp ea e11 (by omega)
    replace e64 := kp ea e64 (by omega)
    have e69 := nw ea hz (by omega)
    replace hd := kd ea hd
    replace hz := kz ea hz
    clear ea
    refine b_op 70 (.bool true) rfl rfl rfl hkn (fun W => run_ex a58 _ 64 1 _ _ rfl e64 rfl W) fun a59 ea => ?_
    replace e4 := kp ea e4 (by omega)
    replace e5 := kp ea e5 (by omega)
    replace e6 := kp ea e6 (by omega)
    replace e10 := kp ea e10 (by omega)
    replace e11 := kp ea e11 (by omega)
    replace e69 := kp ea e69 (by omega)
    have e70 := nw ea hz (by omega)
    replace hd := kd ea hd
    replace hz := kz ea hz
    clear e64
    clear ea
    refine b_op 12 (.int .i64 (smI rs x y)) rfl rfl rfl hkn (fun W => run_asg a59 _ (.tmp 69) _ rfl e69 W) fun a60 ea => ?_
    replace e4 := kp ea e4 (by omega)
    replace e5 := kp ea e5 (by omega)
    replace e6 := kp ea e6 (by omega)
    replace e10 := kp ea e10 (by omega)
    replace e11 := kp ea e11 (by omega)
    replace e70 := kp ea e70 (by omega)
    have e12 := nw ea hz (by omega)
    replace hd := kd ea hd
    replace hz := kz ea hz
    clear e69
    clear ea
    refine b_op 13 (.bool true) rfl rfl rfl hkn (fun W => run_asg a60 _ (.tmp 70) _ rfl e70 W) fun a61 ea => ?_
    replace e4 := kp ea e4 (by omega)
    replace e5 := kp ea e5 (by omega)
    replace e6 := kp ea e6 (by omega)
    replace e10 := kp ea e10 (by omega)
    replace e11 := kp ea e11 (by omega)
    replace e12 := kp ea e12 (by omega)
    have e13 := nw ea hz (by omega)
    replace hd := kd ea hd
    replace hz := kz ea hz
    clear e70
    clear ea
    repeat
      first
        | refine b_seq ?_
        | refine b_end ?_
        | refine b_skip ?_
        | refine b_block ?_
        | refine b_loop ?_
        | refine b_inBlock ?_
        | refine b_region rfl ?_
    refine b_op 71 (.bool true) rfl rfl rfl hkn (fun W => run_mv a61 _ _ _ rfl e11 W) fun a62 ea => ?_
    replace e4 := kp ea e4 (by omega)
    replace e5 := kp ea e5 (by omega)
    replace e6 := kp ea e6 (by omega)
    replace e10 := kp ea e10 (by omega)
    replace e12 := kp ea e12 (by omega)
    replace e13 := kp ea e13 (by omega)
    have e71 := nw ea hz (by omega)
    replace hd := kd ea hd
    replace hz := kz ea hz
    clear e11
    clear ea
    refine b_op 72 (.bool true) rfl rfl rfl hkn (fun W => run_mv a62 _ _ _ rfl e71 W) fun a63 ea => ?_
    replace e4 := kp ea e4 (by omega)
    replace e5 := kp ea e5 (by omega)
    replace e6 := kp ea e6 (by omega)
    replace e10 := kp ea e10 (by omega)
    replace e12 := kp ea e12 (by omega)
    replace e13 := kp ea e13 (by omega)
    have e72 := nw ea hz (by omega)
    replace hd := kd ea hd
    replace hz := kz ea hz
    clear e71
    clear ea
    refine b_op 73 (.bool true) rfl (wantedY rfl rfl e72) rfl hkn (fun W => run_mv a63 _ _ _ rfl e13 W) fun a64 ea => ?_
    replace e4 := kp ea e4 (by omega)
    replace e5 := kp ea e5 (by omega)
    replace e6 := kp ea e6 (by omega)
    replace e10 := kp ea e10 (by omega)
    replace e12 := kp ea e12 (by omega)
    replace e72 := kp ea e72 (by omega)
    have e73 := nw ea hz (by omega)
    replace hd := kd ea hd
    replace hz := kz ea hz
    clear e13
    clear ea
    refine b_op 74 (.bool true) rfl rfl rfl hkn (fun W => run_pickT a64 _ _ _ _ _ rfl e72 e73 W) fun a65 ea => ?_
    replace e4 := kp ea e4 (by omega)
    replace e5 := kp ea e5 (by omega)
    replace e6 := kp ea e6 (by omega)
    replace e10 := kp ea e10 (by omega)
    replace e12 := kp ea e12 (by omega)
    have e74 := nw ea hz (by omega)
    replace hd := kd ea hd
    replace hz := kz ea hz
    clear e72
    clear e73
    clear ea
    refine b_op 75 (.bool true) rfl rfl rfl hkn (fun W => run_mv a65 _ _ _ rfl e74 W) fun a66 ea => ?_
    replace e4 := kp ea e4 (by omega)
    replace e5 := kp ea e5 (by omega)
    replace e6 := kp ea e6 (by omega)
    replace e10 := kp ea e10 (by omega)
    replace e12 := kp ea e12 (by omega)
    have e75 := nw ea hz (by omega)
    replace hd := kd ea hd
    replace hz := kz ea hz
    clear e74
    clear ea
    refine b_op 76 (.int .i64 (smI rs x y)) rfl (wantedY rfl rfl e75) rfl hkn (fun W => run_mv a66 _ _ _ rfl e10 W) fun a67 ea => ?_
    replace e4 := kp ea e4 (by omega)
    replace e5 := kp ea e5 (by omega)
    replace e6 := kp ea e6 (by omega)
    replace e12 := kp ea e12 (by omega)
    replace e75 := kp ea e75 (by omega)
    have e76 := nw ea hz (by omega)
    replace hd := kd ea hd
    replace hz := kz ea hz
    clear e10
    clear ea
    refine b_op 77 (.int .i64 (smI rs x y)) rfl (wantedY rfl rfl e75) rfl hkn (fun W => run_mv a67 _ _ _ rfl e6 W) fun a68 ea => ?_
    replace e4 := kp ea e4 (by omega)
    replace e5 := kp ea e5 (by omega)
    replace e6 := kp ea e6 (by omega)
    replace e12 := kp ea e12 (by omega)
    replace e75 := kp ea e75 (by omega)
    replace e76 := kp ea e76 (by omega)
    have e77 := nw ea hz (by omega)
    replace hd := kd ea hd
    replace hz := kz ea hz
    clear ea
    refine b_op 78 (.bool true) rfl (wantedY rfl rfl e75) rfl hkn (fun W => run_eqlI1 a68 _ 76 77 _ _ _ (by simp) rfl e76 e77 W) fun a69 ea => ?_
    replace e4 := kp ea e4 (by omega)
    replace e5 := kp ea e5 (by omega)
    replace e6 := kp ea e6 (by omega)
    replace e12 := kp ea e12 (by omega)
    replace e75 := kp ea e75 (by omega)
    have e78 := nw ea hz (by omega)
    replace hd := kd ea hd
    replace hz := kz ea hz
    clear e76
    clear e77
    clear ea
    refine b_op 79 (.bool true) rfl rfl rfl hkn (fun W => run_pickT a69 _ _ _ _ _ rfl e75 e78 W) fun a70 ea => ?_
    replace e4 := kp ea e4 (by omega)
    replace e5 := kp ea e5 (by omega)
    replace e6 := kp ea e6 (by omega)
    replace e12 := kp ea e12 (by omega)
    have e79 := nw ea hz (by omega)
    replace hd := kd ea hd
    replace hz := kz ea hz
    clear e75
    clear e78
    clear ea
    refine b_op 80 (.bool true) rfl rfl rfl hkn (fun W => run_mv a70 _ _ _ rfl e79 W) fun a71 ea => ?_
    replace e4 := kp ea e4 (by omega)
    replace e5 := kp ea e5 (by omega)
    replace e6 := kp ea e6 (by omega)
    replace e12 := kp ea e12 (by omega)
    have e80 := nw ea hz (by omega)
    replace hd := kd ea hd
    replace hz := kz ea hz
    clear e79
    clear ea
    refine b_op 81 (.int .i64 (smI rs x y)) rfl (wantedY rfl rfl e80) rfl hkn (fun W => run_mv a71 _ _ _ rfl e12 W) fun a72 ea => ?_
    replace e4 := kp ea e4 (by omega)
    replace e5 := kp ea e5 (by omega)
    replace e6 := kp ea e6 (by omega)
    replace e80 := kp ea e80 (by omega)
    have e81 := nw ea hz (by omega)
    replace hd := kd ea hd
    replace hz := kz ea hz
    clear e12
    clear ea
    refine b_op 82 (.int .i64 (smI rs x y)) rfl (wantedY rfl rfl e80) rfl hkn (fun W => run_mv a72 _ _ _ rfl e6 W) fun a73 ea => ?_
    replace e4 := kp ea e4 (by omega)
    replace e5 := kp ea e5 (by omega)
    replace e6 := kp ea e6 (by omega)
    replace e80 := kp ea e80 (by omega)
    replace e81 := kp ea e81 (by omega)
    have e82 := nw ea hz (by omega)
    replace hd := kd ea hd
    replace hz := kz ea hz
    clear ea
    refine b_op 83 (.bool true) rfl (wantedY rfl rfl e80) rfl hkn (fun W => run_eqlI1 a73 _ 81 82 _ _ _ (by simp) rfl e81 e82 W) fun a74 ea => ?_
    replace e4 := kp ea e4 (by omega)
    replace e5 := kp ea e5 (by omega)
    replace e6 := kp ea e6 (by omega)
    replace e80 := kp ea e80 (by omega)
    have e83 := nw ea hz (by omega)
    replace hd := kd ea hd
    replace hz := kz ea hz
    clear e81
    clear e82
    clear ea
    refine b_op 84 (.bool true) rfl rfl rfl hkn (fun W => run_pickT a74 _ _ _ _ _ rfl e80 e83 W) fun a75 ea => ?_
    replace e4 := kp ea e4 (by omega)
    replace e5 := kp ea e5 (by omega)
    replace e6 := kp ea e6 (by omega)
    have e84 := nw ea hz (by omega)
    replace hd := kd ea hd
    replace hz := kz ea hz
    clear e80
    clear e83
    clear ea
    refine b_op 85 (.bool true) rfl rfl rfl hkn (fun W => run_mv a75 _ _ _ rfl e84 W) fun a76 ea => ?_
    replace e4 := kp ea e4 (by omega)
    replace e5 := kp ea e5 (by omega)
    replace e6 := kp ea e6 (by omega)
    have e85 := nw ea hz (by omega)
    replace hd := kd ea hd
    replace hz := kz ea hz
    clear e84
    clear ea
    refine b_op 86 (.int .i64 (smI rs x y)) rfl (wantedY rfl rfl e85) rfl hkn (fun W => run_mv a76 _ _ _ rfl e6 W) fun a77 ea => ?_
    replace e4 := kp ea e4 (by omega)
    replace e5 := kp ea e5 (by omega)
    replace e85 := kp ea e85 (by omega)
    have e86 := nw ea hz (by omega)
    replace hd := kd ea hd
    replace hz := kz ea hz
    clear e6
    clear ea
    refine b_op 87 (.int .i64 x) rfl (wantedY rfl rfl e85) rfl hkn (fun W => run_mv a77 _ _ _ rfl e4 W) fun a78 ea => ?_
    replace e5 := kp ea e5 (by omega)
    replace e85 := kp ea e85 (by omega)
    replace e86 := kp ea e86 (by omega)
    have e87 := nw ea hz (by omega)
    replace hd := kd ea hd
    replace hz := kz ea hz
    clear e4
    clear ea
    refine b_op 88 (.int .i64 y) rfl (wantedY rfl rfl e85) rfl hkn (fun W => run_mv a78 _ _ _ rfl e5 W) fun a79 ea => ?_
    replace e85 := kp ea e85 (by omega)
    replace e86 := kp ea e86 (by omega)
    replace e87 := kp ea e87 (by omega)
    have e88 := nw ea hz (by omega)
    replace hd := kd ea hd
    replace hz := kz ea hz
    clear e5
    clear ea
    refine b_op 89 (.int .i64 (bits .and .i64 ( x) ( y))) rfl (wantedY rfl rfl e85) rfl hkn (fun W => run_andI a79 _ 87 88 _ _ _ _ rfl rfl e87 e88 W) fun a80 ea => ?_
    replace e85 := kp ea e85 (by omega)
    replace e86 := kp ea e86 (by omega)
    have e89 := nw ea hz (by omega)
    replace hd := kd ea hd
    replace hz := kz ea hz
    clear e87
    clear e88
    clear ea
    refine b_op 90 (.int .i64 (bits .andNot .i64 ( (smI rs x y)) ( (bits .and .i64 ( x) ( y))))) rfl (wantedY rfl rfl e85) rfl hkn (fun W => run_andNotI a80 _ 86 89 _ _ _ _ rfl rfl e86 e89 W) fun a81 ea => ?_
    replace e85 := kp ea e85 (by omega)
    have e90 := nw ea hz (by omega)
    replace hd := kd ea hd
    replace hz := kz ea hz
    clear e86
    clear e89
    clear ea
    refine b_op 91 (.bool true) rfl (wantedY rfl rfl e85) rfl hkn (fun W => run_eqlZ a81 _ 90 _ _ _ hzero rfl rfl e90 W) fun a82 ea => ?_
    replace e85 := kp ea e85 (by omega)
    have e91 := nw ea hz (by omega)
    replace hd := kd ea hd
    replace hz := kz ea hz
    clear e90
    clear ea
    refine b_op 92 (.bool true) rfl rfl rfl hkn (fun W => run_pickT a82 _ _ _ _ _ rfl e85 e91 W) fun a83 ea => ?_
    have e92 := nw ea hz (by omega)
    replace hd := kd ea hd
    replace hz := kz ea hz
    clear e85
    clear e91
    clear ea
    refine b_op 2 (.bool true) rfl rfl rfl hkn (fun W => run_asg a83 _ (.tmp 92) _ rfl e92 W) fun a84 ea => ?_
    have e2 := nw ea hz (by omega)
    replace hd := kd ea hd
    replace hz := kz ea hz
    clear e92
    clear ea
    repeat
      first
        | refine b_seq ?_
        | refine b_end ?_
        | refine b_skip ?_
        | refine b_block ?_
        | refine b_loop ?_
        | refine b_inBlock ?_
        | refine b_region rfl ?_
    refine b_ret ?_
    refine b_finish rfl (by kernel_rfl) hd Try.func8 (own_res1 rfl e2 _) (fun W es => events_results_tmp (t := 2) rfl _ _) ?_
    exact hp _ bc

theorem fnSpaceMeet_long (n : Nat) (hl : ¬ n ≤ 1048576) (hp : ∀ τ d, Post (.bool true) (w.on τ d)) :
    WB Try.prog (EndQ Try.prog Post) Sh (G (Frame.enter Try.prog 8 #[.slice ao n ca] .normal) []) w := by
  have hkn : (base 8).kind ≠ .early := base_kind _
  have same : ∀ {a : Act}, a.tmps.size = 93 → ∀ {d : Nat}, d < 93 → ∀ v, (a.put (some d) v).eval (.tmp d) = v := fun h _ hd v => eval_put_same (by rw [h]; exact hd)
  rw [enter_at _ Try.func8 rfl]
  obtain ⟨a0, ha0, hz, hd, he⟩ := enter_acts 92 (#[.slice ao n ca] : Array Value)
  have hm : Try.f8.ntmps - (#[.slice ao n ca] : Array Value).size = 92 := by rw [Try.ntmps8]; rfl
  rw [hm]
  show WB Try.prog _ _ (G ((base 8).at _ [.code _]) _) _
  rw [← ha0]
  replace hz : a0.tmps.size = 93 := hz
  have e0 : a0.eval (.tmp 0) = .slice ao n ca := he 0 _ rfl
  clear ha0 hm he
  repeat
    first
      | refine b_seq ?_
      | refine b_end ?_
      | refine b_skip ?_
      | refine b_block ?_
      | refine b_loop ?_
      | refine b_inBlock ?_
      | refine b_region rfl ?_
  refine b_op 2 (.bool false) rfl rfl rfl hkn (fun W => run_asg a0 _ (.const (.bool false)) (.bool false) rfl rfl W) fun a1 ea => ?_
  replace e0 := kp ea e0 (by omega)
  replace hd := kd ea hd
  replace hz := kz ea hz
  clear ea
  repeat
    first
      | refine b_seq ?_
      | refine b_end ?_
      | refine b_skip ?_
      | refine b_block ?_
      | refine b_loop ?_
      | refine b_inBlock ?_
      | refine b_region rfl ?_
  refine b_op 14 (.slice ao n ca) rfl rfl rfl hkn (fun W => run_mv a1 _ _ _ rfl e0 W) fun a2 ea => ?_
  have e14 := nw ea hz (by omega)
  replace hd := kd ea hd
  replace hz := kz ea hz
  clear e0
  clear ea
  refine b_op 15 (.int .i64 n) rfl rfl rfl hkn (fun W => run_lenA a2 _ 14 _ _ _ _ rfl rfl e14 W) fun a3 ea => ?_
  have e15 := nw ea hz (by omega)
  replace hd := kd ea hd
  replace hz := kz ea hz
  clear e14
  clear ea
  refine b_op 16 (.bool true) rfl rfl rfl hkn (fun W => run_gt0 a3 _ (.tmp 15) (.const (.int .i64 1048576)) _ _ _ _ true (by simp; omega) rfl e15 rfl W) fun a4 ea => ?_
  have e16 := nw ea hz (by omega)
  replace hd := kd ea hd
  replace hz := kz ea hz
  clear e15
  clear ea
  repeat
    first
      | refine b_seq ?_
      | refine b_end ?_
      | refine b_skip ?_
      | refine b_block ?_
      | refine b_loop ?_
      | refine b_inBlock ?_
      | refine b_region rfl ?_
  refine b_true e16 ?_
  repeat
    first
      | refine b_seq ?_
      | refine b_end ?_
      | refine b_skip ?_
      | refine b_block ?_
      | refine b_loop ?_
      | refine b_inBlock ?_
      | refine b_region rfl ?_
  refine b_op 2 (.bool true) rfl rfl rfl hkn (fun W => run_asg a4 _ (.const (.bool true)) (.bool true) rfl rfl W) fun a5 ea => ?_
  have e2 := nw ea hz (by omega)
  replace hd := kd ea hd
  replace hz := kz ea hz
  clear e16
  clear ea
  repeat
    first
      | refine b_seq ?_
      | refine b_end ?_
      | refine b_skip ?_
      | refine b_block ?_
      | refine b_loop ?_
      | refine b_inBlock ?_
      | refine b_region rfl ?_
  refine b_ret ?_
  refine b_finish rfl (by kernel_rfl) hd Try.func8 (own_res1 rfl e2 _) (fun W es => events_results_tmp (t := 2) rfl _ _) ?_
  exact hp
end
end Go.Ph
