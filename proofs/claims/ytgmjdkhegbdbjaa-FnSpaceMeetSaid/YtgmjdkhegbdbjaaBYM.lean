/-
  A worker: from its birth to the loop.
-/
import Derived.Test.YtgmjdkhegbdbjaaBYL
namespace Go.Ph
open Go Go.Conc Go.ConcN Go.RowKit Go.Conc.Lib Go.ConcR.Gen Go.ConcN.Gen Go.Proofs Go.Proofs.Ytgmjdkhegbdbjaa
open Go.ConcR (KK wgBlock WgAt stA smA rd wr mk Payload Aside2 DC0)
set_option linter.unusedVariables false
set_option linter.unusedSimpArgs false
set_option linter.unusedSectionVars false
set_option maxRecDepth 100000

section
variable [Payload] {Wg Br Bf Bm c f : Nat} {xs : List Int}

theorem run_ld1 (a : Act) (o : Oper) (x : Tmp) (t : TypeId) (k : IntKind) (i : Int) (ad : Addr) (ht : t = 3) (ho : o.op = .load t (.tmp x)) (h : a.eval (.tmp x) = .pointer (some ad)) (w : World) (hc : w.cell? ad = some (.int k i)) :
    (execOp a.eval o).run Try.prog w = .ok (.value (.int k i)) w ∧ ∀ e ∈ (execOp a.eval o).events Try.prog w #[], e = ⟨.cell ad, false, false⟩ := by
  subst ht
  unfold execOp
  simp only [ho, h]
  constructor
  · simp [go_sem, hc]
  · simp [go_sem, hc]
theorem run_ldC (a : Act) (o : Oper) (x : Tmp) (c : Nat) (ad : Addr) (t : TypeId) (ht : t = 81) (ho : o.op = .load t (.tmp x)) (h : a.eval (.tmp x) = .pointer (some ad)) (w : World) (hc : w.cell? ad = some (.chan (some c))) :
    (execOp a.eval o).run Try.prog w = .ok (.value (.chan (some c))) w ∧ ∀ e ∈ (execOp a.eval o).events Try.prog w #[], e = ⟨.cell ad, false, false⟩ := by
  subst ht
  unfold execOp
  simp only [ho, h]
  constructor
  · simp [go_sem, hc]
  · simp [go_sem, hc]
theorem run_boxR (a : Act) (o : Oper) (x : Tmp) (ho : o.op = .box 45 (.tmp x)) (h : a.eval (.tmp x) = relOf xs) (w : World) :
    (execOp a.eval o).run Try.prog w = .ok (.value (.pointer (some ⟨w.heap.size, 0, none⟩))) (w.alloc (.cells #[.int .i64 xs.length, .int .i64 (Go.Proofs.Ytgmjdkhegbdbjaa.rowAt xs 0), .int .i64 (Go.Proofs.Ytgmjdkhegbdbjaa.rowAt xs 1), .int .i64 (Go.Proofs.Ytgmjdkhegbdbjaa.rowAt xs 2), .int .i64 (Go.Proofs.Ytgmjdkhegbdbjaa.rowAt xs 3)] relTy)) ∧ (execOp a.eval o).events Try.prog w #[] = #[] := by
  unfold execOp
  simp only [ho, h]
  constructor
  · simp [go_sem]
  · simp [go_sem]
theorem run_fa0 (a : Act) (o : Oper) (x : Tmp) (b : Nat) (ho : o.op = .fieldAddr 45 (.tmp x) 0) (h : a.eval (.tmp x) = .pointer (some ⟨b, 0, none⟩)) (w : World) :
    (execOp a.eval o).run Try.prog w = .ok (.value (.pointer (some ⟨b, 0, none⟩))) w ∧ (execOp a.eval o).events Try.prog w #[] = #[] := by
  unfold execOp
  simp only [ho, h]
  constructor
  · simp [go_sem]
  · simp [go_sem]
theorem run_sub (a : Act) (o : Oper) (x y : Operand) (t t' : TypeId) (i j : Int) (ho : o.op = .binOp .sub t x y t') (h : a.eval x = .int .i64 i) (h2 : a.eval y = .int .i64 j) (hr : -9223372036854775808 ≤ i - j ∧ i - j ≤ 9223372036854775807) (w : World) :
    (execOp a.eval o).run Try.prog w = .ok (.value (.int .i64 (i - j))) w ∧ (execOp a.eval o).events Try.prog w #[] = #[] := by
  have e1 : IntKind.i64.wrap (i - j) = i - j := by rw [IntKind.wrap_i64]; omega
  unfold execOp
  simp only [ho, h, h2]
  constructor
  · simp [go_sem, e1]
  · simp [go_sem]

def call62 (Wg Br Bf Bm : Nat) : Deferred := { target := .fn (.func 62) #[.pointer (some ⟨Wg, 0, none⟩), .pointer (some ⟨Br, 0, none⟩), .pointer (some ⟨Bf, 0, none⟩), .pointer (some ⟨Bm, 0, none⟩)], args := #[] }
theorem born62 (w : World) : stepG Try.prog false (born Try.prog (call62 Wg Br Bf Bm)) w =
    .go (G ((baseD 62).at ⟨#[.pointer (some ⟨Wg, 0, none⟩), .pointer (some ⟨Br, 0, none⟩), .pointer (some ⟨Bf, 0, none⟩), .pointer (some ⟨Bm, 0, none⟩), undef, undef, undef, undef], []⟩ [.code body62]) [bot]) w #[] := by
  simp [born, call62, stepG, unwind, callDeferred, invoke, callFunc, Try.func62, Try.f62, seen, GStep.after, G, Frame.enter, Frame.at, baseD, bot, body62]

/-- one operation that makes the block of a relation -/
theorem g_boxR {P : Program} {main : Bool} {R : World → World → Prop} {D : World → World → Array Event → Prop} {Stop : Goroutine → World → Prop} {m : Nat} {b : Frame} {a : Act} {k : List Item} {cs : List Frame} {w : World} {ops : Array Oper} {i : Nat} {rest : List Nat} {o : Oper} {v : World → Value} {u : World → World}
    (ho : ops[i]? = some o) (hg : o.guard = none) (hk : b.kind ≠ .early)
    (h : ∀ w₁, R w w₁ → (execOp a.eval o).run P w₁ = .ok (.value (v w₁)) (u w₁) ∧ D w₁ (u w₁) (listed P b.fn a o w₁) ∧ Goes P main R D Stop m (G (b.at (a.put o.dst (v w₁)) (.inRegion ops rest :: k)) cs) (u w₁)) :
    Goes P main R D Stop (m + 1) (G (b.at a (.inRegion ops (i :: rest) :: k)) cs) w := by
  refine Goes.step rfl fun w₁ h₁ => ?_
  obtain ⟨h1, h2, h3⟩ := h w₁ h₁
  rw [stepG_value ho (by unfold Region.wanted; rw [hg]) hk h1]
  exact ⟨h2, h3⟩

set_option maxHeartbeats 1000000 in
/-- sendMadeFrom, entered -/
theorem enter64 (n : Nat) (hn : xs.length = n) (h1 : 1 ≤ n) (h4 : n ≤ 4) (hf : f < n) {cs : List Frame}
    (hend : ∀ (a : Act) (w : World), a.defers = [dclose #[108] 0 #[false] c] → CW Wg Br Bf Bm c f xs w → SendK Try.prog link.tWg Wg relTy ⟨c, Bm, capOf Br Bf Bm⟩ [] (G { (base 64).at a [] with mode := .returning } cs) w) :
    ∃ m, ∀ w, CW Wg Br Bf Bm c f xs w → Goes Try.prog false (RK link.tWg Wg relTy (capOf Br Bf Bm)) (DK relTy (capOf Br Bf Bm)) (SendK Try.prog link.tWg Wg relTy ⟨c, Bm, capOf Br Bf Bm⟩ (sentFrom xs f 0 (2 ^ (n - f - 1)))) m
      (G ((base 64).at ⟨#[relOf xs, .int .i64 f, .chan (some c), undef, undef, undef, undef, undef, undef, undef, undef, undef, undef, undef, undef, undef, undef, undef, undef, undef, undef, undef, undef, undef, undef, undef, undef, undef, undef], []⟩ [.code body64]) cs) w := by
  have T : Terms (RK link.tWg Wg relTy (capOf Br Bf Bm)) (DK relTy (capOf Br Bf Bm)) := termsK
  have hkn : (base 64).kind ≠ .early := base_kind _
  have rl : ∀ {w w₁ : World}, CW Wg Br Bf Bm c f xs w → RK link.tWg Wg relTy (capOf Br Bf Bm) w w₁ → CW Wg Br Bf Bm c f xs w₁ := fun h r => h.rely r
  obtain ⟨k1, c1⟩ := allPoints_c (main := false) (ty := link.tWg) (Wg := Wg) (cap := capOf Br Bf Bm) (n - f - 1) (by omega)
  have hpow : 2 ^ (n - f - 1) * 2 ^ (f + 1) ≤ 16 := by
    rw [← Nat.pow_add, show n - f - 1 + (f + 1) = n by omega]
    exact Nat.le_trans (Nat.pow_le_pow_right (n := 2) (by omega) h4) (by decide)
  obtain ⟨ml, hl⟩ := sendsFrom (ty := link.tWg) (Wg := Wg) (cap := capOf Br Bf Bm) (F := CW Wg Br Bf Bm c f xs) (xs := xs) (c := c) (f := f) (ds := [dclose #[108] 0 #[false] c]) rl (fun o h => h.alloc o) (by omega) (by omega) (2 ^ (n - f - 1)) hpow (k := ⟨c, Bm, capOf Br Bf Bm⟩) rfl rfl cs
    (fun bx a w h => hend a w h.ds h.hF.1) (2 ^ (n - f - 1)) 0 (by omega)
  refine ⟨ml + k1 + 30, fun w hF => ?_⟩
  refine Goes.mono (n := ml + 5 + k1 + 3 + 16) ?_ (by omega)
  refine g_seq T ?_
  refine g_region T rfl ?_
  refine g_boxR (v := fun w => .pointer (some ⟨w.heap.size, 0, none⟩)) (u := fun w => w.alloc (.cells #[.int .i64 xs.length, .int .i64 (Go.Proofs.Ytgmjdkhegbdbjaa.rowAt xs 0), .int .i64 (Go.Proofs.Ytgmjdkhegbdbjaa.rowAt xs 1), .int .i64 (Go.Proofs.Ytgmjdkhegbdbjaa.rowAt xs 2), .int .i64 (Go.Proofs.Ytgmjdkhegbdbjaa.rowAt xs 3)] relTy)) rfl rfl hkn fun w₁ r₁ => ?_
  refine ⟨(run_boxR _ _ _ rfl rfl w₁).1, by rw [listed_nil (run_boxR _ _ _ rfl rfl w₁).2]; exact dk_alloc _ _, ?_⟩
  have hG : GK (CW Wg Br Bf Bm c f xs) xs w₁.heap.size _ := GK.new (F := CW Wg Br Bf Bm c f xs) (xs := xs) (fun {w} o h => CW.alloc h o) (rl hF r₁)
  clear hF r₁
  revert hG
  generalize w₁.heap.size = bx
  generalize w₁.alloc _ = w₂
  intro hG
  have rg := fun {w w₁ : World} (h : GK (CW Wg Br Bf Bm c f xs) xs bx w) (r : RK link.tWg Wg relTy (capOf Br Bf Bm) w w₁) => GK.rely (F := CW Wg Br Bf Bm c f xs) rl h r
  walk_nrm
  refine g_end T ?_
  refine g_seq T ?_
  refine g_region T rfl ?_
  refine g_val (v := .chan (some c)) rfl rfl hkn fun w₃ r₃ => ?_
  have hr := fun a o ho h => run_mv a o (.tmp 2) (.chan (some c)) ho h w₃
  refine ⟨(hr _ _ rfl rfl).1, quiet_K (hr _ _ rfl rfl).2, ?_⟩
  clear hr
  replace hG := rg hG r₃
  clear r₃
  walk_nrm
  refine Goes.step rfl fun w₄ r₄ => ?_
  rw [stepG_deferC (c := c) rfl rfl hkn rfl rfl]
  refine ⟨T.idle _, ?_⟩
  replace hG := rg hG r₄
  clear r₄
  walk_nrm
  refine g_end T ?_
  refine g_seq T ?_
  refine g_region T rfl ?_
  refine g_val (v := .pointer (some ⟨bx, 0, none⟩)) rfl rfl hkn fun w₅ r₅ => ?_
  have hr := fun a o ho h => run_fa0 a o 3 bx ho h w₅
  refine ⟨(hr _ _ rfl rfl).1, quiet_K (hr _ _ rfl rfl).2, ?_⟩
  clear hr
  replace hG := rg hG r₅
  clear r₅
  walk_nrm
  -- load n
  refine g_val (v := .int .i64 n) rfl rfl hkn fun w₆ r₆ => ?_
  replace hG := rg hG r₆
  clear r₆
  have hc : w₆.cell? ⟨bx, 0, none⟩ = some (.int .i64 (n : Int)) := by rw [← hn]; exact hG.2.cell0
  have hr := fun a o t ht ho h => run_ld1 a o 8 t .i64 n ⟨bx, 0, none⟩ ht ho h w₆ hc
  refine ⟨(hr _ _ _ rfl rfl rfl).1, dk_look fun e he => ?_, ?_⟩
  · rw [(hr _ _ _ rfl rfl rfl).2 e (mem_listed he)]
    exact .inl ⟨_, rfl, hG.2.lt, .inr (relAt_ty hG.2)⟩
  clear hr hc
  walk_nrm
  refine g_val (v := .int .i64 f) rfl rfl hkn fun w₇ r₇ => ?_
  have hr := fun a o ho h => run_mv a o (.tmp 1) (.int .i64 f) ho h w₇
  refine ⟨(hr _ _ rfl rfl).1, quiet_K (hr _ _ rfl rfl).2, ?_⟩
  replace hG := rg hG r₇
  clear r₇ hr
  walk_nrm
  refine g_val (v := .int .i64 ((n : Int) - f)) rfl rfl hkn fun w₈ r₈ => ?_
  have hr := fun a o t t' ho h h2 => run_sub a o (.tmp 9) (.tmp 10) t t' n f ho h h2 (by omega) w₈
  refine ⟨(hr _ _ _ _ rfl rfl rfl).1, quiet_K (hr _ _ _ _ rfl rfl rfl).2, ?_⟩
  replace hG := rg hG r₈
  clear r₈ hr
  walk_nrm
  refine g_val (v := .int .i64 ((n : Int) - f - 1)) rfl rfl hkn fun w₉ r₉ => ?_
  have hr := fun a o t t' ho h h2 => run_sub a o (.tmp 11) (.const (.int .i64 1)) t t' ((n : Int) - f) 1 ho h h2 (by omega) w₉
  refine ⟨(hr _ _ _ _ rfl rfl rfl).1, quiet_K (hr _ _ _ _ rfl rfl rfl).2, ?_⟩
  replace hG := rg hG r₉
  clear r₉ hr
  walk_nrm
  have hin : ((n : Int) - f - 1) = ((n - f - 1 : Nat) : Int) := by omega
  refine Goes.call (m := ml + 5) T (by rfl) (by rfl) hkn (by rfl) (nf := k1) (Post := fun v w' => v = .int .i64 ((2 ^ (n - f - 1) - 1 : Nat) : Int) ∧ GK (CW Wg Br Bf Bm c f xs) xs bx w') ?_ ?_
  · simp only [List.map_toArray, List.map_cons, List.map_nil]
    rw [← hin] at c1
    exact c1 (GK (CW Wg Br Bf Bm c f xs) xs bx) rg _ hG
  clear hG
  rintro v w10 ⟨rfl, hG⟩
  walk_nrm
  have hp1 := Nat.one_le_two_pow (n := n - f - 1)
  have hp2 : 2 ^ (n - f - 1) ≤ 16 := Nat.le_trans (Nat.pow_le_pow_right (n := 2) (by omega) (show n - f - 1 ≤ 4 by omega)) (by decide)
  have hadd : ((2 ^ (n - f - 1) - 1 : Nat) : Int) + 1 = ((2 ^ (n - f - 1) : Nat) : Int) := by omega
  refine g_val (v := .int .i64 ((2 ^ (n - f - 1) : Nat) : Int)) rfl rfl hkn fun w₁₁ r₁₁ => ?_
  have hr := fun a o t t' ho h h2 => run_add a o (.tmp 13) (.const (.int .i64 1)) t t' ((2 ^ (n - f - 1) - 1 : Nat) : Int) 1 ho h h2 (by omega) w₁₁
  rw [hadd] at hr
  refine ⟨(hr _ _ _ _ rfl rfl rfl).1, quiet_K (hr _ _ _ _ rfl rfl rfl).2, ?_⟩
  replace hG := rg hG r₁₁
  clear r₁₁ hr
  walk_nrm
  refine g_val (v := .int .i64 0) rfl rfl hkn fun w₁₂ r₁₂ => ?_
  have hr := fun a o ho h => run_mv a o (.const (.int .i64 0)) (.int .i64 0) ho h w₁₂
  refine ⟨(hr _ _ rfl rfl).1, quiet_K (hr _ _ rfl rfl).2, ?_⟩
  replace hG := rg hG r₁₂
  clear r₁₂ hr
  walk_nrm
  refine g_end T ?_
  refine g_block T ?_
  refine g_loop T ?_
  exact hl bx _ _ ⟨hG, rfl, rfl, rfl, rfl, rfl, rfl, rfl⟩

set_option maxHeartbeats 1000000 in
/-- ████ A worker, from its birth. ████ -/
theorem childBorn (n : Nat) (hn : xs.length = n) (h1 : 1 ≤ n) (h4 : n ≤ 4) (hf : f < n) :
    ∃ m, ∀ w, CW Wg Br Bf Bm c f xs w → Goes Try.prog false (RK link.tWg Wg relTy (capOf Br Bf Bm)) (DK relTy (capOf Br Bf Bm)) (SendK Try.prog link.tWg Wg relTy ⟨c, Bm, capOf Br Bf Bm⟩ (sentFrom xs f 0 (2 ^ (n - f - 1)))) m (born Try.prog (call62 Wg Br Bf Bm)) w := by
  have T : Terms (RK link.tWg Wg relTy (capOf Br Bf Bm)) (DK relTy (capOf Br Bf Bm)) := termsK
  have hkn : (baseD 62).kind ≠ .early := baseD_kind _
  have rl : ∀ {w w₁ : World}, CW Wg Br Bf Bm c f xs w → RK link.tWg Wg relTy (capOf Br Bf Bm) w w₁ → CW Wg Br Bf Bm c f xs w₁ := fun h r => h.rely r
  obtain ⟨m, hm⟩ := enter64 (Wg := Wg) (Br := Br) (Bf := Bf) (Bm := Bm) (c := c) (f := f) (xs := xs) n hn h1 h4 hf
    (cs := [fr62 ⟨#[.pointer (some ⟨Wg, 0, none⟩), .pointer (some ⟨Br, 0, none⟩), .pointer (some ⟨Bf, 0, none⟩), .pointer (some ⟨Bm, 0, none⟩), relOf xs, .int .i64 f, .chan (some c), undef], [done1 Wg]⟩, bot]) (fun a w hd hF => childEnd rfl hd hF)
  refine ⟨m + 10, fun w hF => ?_⟩
  refine Goes.step rfl fun w₁ r₁ => ?_
  rw [born62]
  refine ⟨T.idle _, ?_⟩
  replace hF := rl hF r₁
  clear r₁
  refine g_seq T ?_
  refine g_region T rfl ?_
  refine Goes.step rfl fun w₂ r₂ => ?_
  refine goes_eq (stepG_defer rfl rfl hkn rfl) ⟨T.idle _, ?_⟩
  replace hF := rl hF r₂
  clear r₂
  walk_nrm
  refine g_end T ?_
  refine g_region T rfl ?_
  refine g_val (v := relOf xs) rfl rfl hkn fun w₃ r₃ => ?_
  replace hF := rl hF r₃
  clear r₃
  have hr := fun a o ho h => run_ldR a o 1 Br xs ho h w₃ hF.rel
  refine ⟨(hr _ _ rfl rfl).1, dk_look fun e he => ?_, ?_⟩
  · obtain ⟨j, rfl⟩ := (hr _ _ rfl rfl).2 e (mem_listed he)
    exact .inl ⟨_, rfl, hF.rel.lt, .inl (.inl rfl)⟩
  clear hr
  walk_nrm
  refine g_val (v := .int .i64 f) rfl rfl hkn fun w₄ r₄ => ?_
  replace hF := rl hF r₄
  clear r₄
  have hr := fun a o t ht ho h => run_ld1 a o 2 t .i64 f ⟨Bf, 0, none⟩ ht ho h w₄ hF.first
  refine ⟨(hr _ _ _ rfl rfl rfl).1, dk_look fun e he => ?_, ?_⟩
  · rw [(hr _ _ _ rfl rfl rfl).2 e (mem_listed he)]
    exact .inl ⟨_, rfl, hF.ltf, .inl (.inr (.inl rfl))⟩
  clear hr
  walk_nrm
  refine g_val (v := .chan (some c)) rfl rfl hkn fun w₅ r₅ => ?_
  replace hF := rl hF r₅
  clear r₅
  have hr := fun a o t ht ho h => run_ldC a o 3 c ⟨Bm, 0, none⟩ t ht ho h w₅ hF.made
  refine ⟨(hr _ _ _ rfl rfl rfl).1, dk_look fun e he => ?_, ?_⟩
  · rw [(hr _ _ _ rfl rfl rfl).2 e (mem_listed he)]
    exact .inl ⟨_, rfl, hF.ltm, .inl (.inr (.inr rfl))⟩
  clear hr
  walk_nrm
  refine Goes.step rfl fun w₆ r₆ => ?_
  replace hF := rl hF r₆
  clear r₆
  refine goes_call rfl rfl hkn rfl Try.func64 rfl rfl ⟨T.idle _, ?_⟩
  walk_nrmf Try.f64
  exact hm _ hF
end
end Go.Ph
