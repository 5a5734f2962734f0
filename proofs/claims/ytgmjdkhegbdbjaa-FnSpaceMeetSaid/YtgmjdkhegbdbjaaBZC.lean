/-
  The functions of this program that make no goroutine and use no channel.
-/
import Derived.Test.YtgmjdkhegbdbjaaBYT
import Derived.Conc.LeavingOf
namespace Go.Ph
open Go Go.Conc Go.ConcN Go.RowKit Go.Conc.Lib Go.ConcR.Gen Go.ConcN.Gen Go.Proofs Go.Proofs.Ytgmjdkhegbdbjaa
open Go.ConcR (KK wgBlock WgAt stA smA rd wr mk Payload Aside2 DC0)
set_option linter.unusedVariables false
set_option linter.unusedSimpArgs false
set_option linter.unusedSectionVars false
set_option maxRecDepth 100000

/-- What the slots hold while the channels are emptied. -/
structure PR (Bs Wg n j : Nat) (v : Value) (a : Act) : Prop where
  ds : a.defers = []
  sz : a.tmps.size = 48
  s4 : a.eval (.tmp 4) = .pointer (some ⟨Wg, 0, none⟩)
  s7 : a.eval (.tmp 7) = v
  s28 : a.eval (.tmp 28) = .slice (some ⟨Bs, 0, none⟩) n n
  s29 : a.eval (.tmp 29) = .int .i64 n
  s30 : a.eval (.tmp 30) = .int .i64 j

section
variable [Payload] {W0 : World} {Wg Bs s0 n j B0 : Nat} {Sh : Nat → Bool} {ks : List Kid} {v : Value} {L : List Value} {w w₁ : World} {z : Value} {An : Goroutine → World → Prop}

theorem PR.put {a : Act} (h : PR Bs Wg n j v a) {d : Nat} (hd : d ≠ 4 ∧ d ≠ 7 ∧ d ≠ 28 ∧ d ≠ 29 ∧ d ≠ 30) (u : Value) : PR Bs Wg n j v (a.put (some d) u) :=
  ⟨h.ds, by simpa [Act.put] using h.sz, (eval_put (by omega)).trans h.s4, (eval_put (by omega)).trans h.s7, (eval_put (by omega)).trans h.s28, (eval_put (by omega)).trans h.s29, (eval_put (by omega)).trans h.s30⟩
theorem PR.same {a : Act} (h : PR Bs Wg n j v a) {d : Nat} (hd : d < 48) (u : Value) : (a.put (some d) u).eval (.tmp d) = u := eval_put_same (by rw [h.sz]; exact hd)
theorem PR.next {a : Act} (h : PR Bs Wg n j v a) : PR Bs Wg n (j + 1) v (a.put (some 30) (.int .i64 ((j : Int) + 1))) :=
  ⟨h.ds, by simpa [Act.put] using h.sz, (eval_put (by omega)).trans h.s4, (eval_put (by omega)).trans h.s7, (eval_put (by omega)).trans h.s28, (eval_put (by omega)).trans h.s29, eval_put_same (by rw [h.sz]; omega)⟩
theorem PR.sets {a : Act} (h : PR Bs Wg n j v a) (u : Value) : PR Bs Wg n j u (a.put (some 7) u) :=
  ⟨h.ds, by simpa [Act.put] using h.sz, (eval_put (by omega)).trans h.s4, eval_put_same (by rw [h.sz]; omega), (eval_put (by omega)).trans h.s28, (eval_put (by omega)).trans h.s29, (eval_put (by omega)).trans h.s30⟩

/-- What the starter knows while it empties them. -/
structure RQ (W0 : World) (Wg Bs s0 n B0 : Nat) (Sh : Nat → Bool) (ks : List Kid) (v : Value) (L : List Value) (w : World) : Prop where
  own : w.ownsRow B0 psT 1 v L.length L
  nn : ∃ g c, v = .slice (some ⟨g, 0, none⟩) L.length c
  arr : ∃ arr : Array Value, w.heap[Bs]? = some (.cells arr chT (0, 0)) ∧ arr.size = n ∧ ∀ (j : Nat) (k : Kid), ks[j]? = some k → arr[j]? = some (Value.chan (some k.c))
  b0 : B0 ≤ w.heap.size
  kp : ∀ b, kpR Wg ks b → b < B0
  lo : Bs < B0 ∧ s0 ≤ B0 ∧ Bs ≠ Wg ∧ s0 ≤ Bs ∧ Wg < B0 ∧ s0 ≤ Wg
  sh : ∀ b, Sh b = true → b < s0
  live : WgLive link.tWg Wg w
  old : ∀ b, b < s0 → w.heap[b]? = W0.heap[b]?
  env : w.os = W0.os ∧ w.output = W0.output

theorem cells_notChan {b : Nat} {c : Array Value} {t : TypeId} {f : Nat × Nat} (h : w.heap[b]? = some (.cells c t f)) : ¬ IsChan w b := by
  rintro ⟨_, _, _, _, _, _, h'⟩
  rw [h] at h'; cases h'
theorem ownsRow_of {e : TypeId} {size n B : Nat} {v : Value} {xs : List Value} (h : w.ownsRow B e size v n xs) (hk : ∀ g, B ≤ g → (∃ c, w.heap[g]? = some (.cells c e (0, 0))) → w₁.heap[g]? = w.heap[g]?) : w₁.ownsRow B e size v n xs := by
  refine ⟨h.1, ?_⟩
  rcases h.2 with hn | ⟨g, cap, cur, hv, hb, hg, rest⟩
  · exact .inl hn
  · exact .inr ⟨g, cap, cur, hv, hb, (hk g hb ⟨_, hg⟩).trans hg, rest⟩
theorem RQ.rely (h : RQ W0 Wg Bs s0 n B0 Sh ks v L w) (r : RR link.tWg Wg w w₁) : RQ W0 Wg Bs s0 n B0 Sh ks v L w₁ := by
  obtain ⟨arr, a1, a2⟩ := h.arr
  have hlo := h.lo
  have hb0 := h.b0
  exact ⟨ownsRow_of h.own fun g hg ⟨c, hc⟩ => r.old g (lt_of_heap hc) (.inr (cells_notChan hc)) (by omega), h.nn, ⟨arr, (r.old Bs (lt_of_heap a1) (.inr (cells_notChan a1)) hlo.2.2.1).trans a1, a2⟩, Nat.le_trans h.b0 r.size, h.kp, h.lo, h.sh, r.live h.live, fun b hb => (r.old b (by omega) (.inl (by omega)) (by omega)).trans (h.old b hb), r.env.os.trans h.env.1, r.env.output.trans h.env.2⟩
theorem RQ.alloc (h : RQ W0 Wg Bs s0 n B0 Sh ks v L w) (o : Obj) : RQ W0 Wg Bs s0 n B0 Sh ks v L (w.alloc o) := by
  obtain ⟨arr, a1, a2⟩ := h.arr
  have hlo := h.lo
  have hb0 := h.b0
  have hl := wgLive_lt h.live
  obtain ⟨st, sm, hw⟩ := h.live
  refine ⟨h.own.alloc o, h.nn, ⟨arr, (Below.heap_alloc _ _ _ (lt_of_heap a1)).trans a1, a2⟩, by rw [World.size_alloc]; omega, h.kp, h.lo, h.sh, ⟨st, sm, hw.of_block (Below.heap_alloc _ _ _ hl)⟩, fun b hb => (Below.heap_alloc _ _ _ (by omega)).trans (h.old b hb), h.env⟩

theorem termsR {ty : TypeId} {rel : TypeId} : Terms (RR ty Wg) (DC ty Wg rel Sh (kpR Wg ks)) := ⟨fun _ _ _ h1 h2 => h1.trans h2, fun w => dc_none w #[] (by simp)⟩

theorem app_any (h : RQ W0 Wg Bs s0 n B0 Sh ks v L w) {b : Nat} {i : Int} (hb : w.heap[b]? = some (.cells #[.int .i64 i] psT (0, 0))) (hbB : B0 ≤ b) (hl : L.length ≤ 1000) {a : Act} {o : Oper} {p q : Tmp} {t : TypeId} (ht : t = 48)
    (ho : o.op = .call { callee := .builtin .append, args := #[.tmp p, .tmp q], argTypes := #[t, t] }) (hs : a.eval (.tmp p) = v) (hx : a.eval (.tmp q) = .slice (some ⟨b, 0, none⟩) 1 1) (fn : FuncId) :
    ∃ v' w', (execOp a.eval o).run Try.prog w = .ok (.value v') w' ∧ RQ W0 Wg Bs s0 n B0 Sh ks v' (L ++ [.int .i64 i]) w' ∧ DC link.tWg Wg relTy Sh (kpR Wg ks) w w' (listed Try.prog fn a o w) := by
  subst ht
  obtain ⟨g, cap, rfl⟩ := h.nn
  obtain ⟨i0, hi, hz0, hz1, hz2⟩ := info_parts infoPs
  have hlo := h.lo
  obtain ⟨g', cap', w', hr, hown, hgr, hty, hev⟩ := append_one (P := Try.prog) w B0 48 o.type psT i0 (.int .i64 0) 8 undPs hi hz0 hz1 hz2 rfl g L.length cap L h.own b (.int .i64 i) hb rfl (by simp only [maxLen]; omega) (by omega) h.b0
  have hg : ∃ cur, w.heap[g]? = some (.cells cur psT (0, 0)) ∧ B0 ≤ g := by
    rcases h.own.2 with ⟨hn, _⟩ | ⟨g1, cap1, cur, hv, hbg, hgc, _⟩
    · cases hn
    · simp only [Value.slice.injEq, Option.some.injEq, Addr.mk.injEq, and_true, true_and] at hv
      rw [← hv.1] at hbg hgc
      exact ⟨cur, hgc, hbg⟩
  obtain ⟨cur, hgc, hbg⟩ := hg
  have hglt := lt_of_heap hgc
  have ngr : ¬ IsTy relTy w g := by
    rintro ⟨c, f, h'⟩
    rw [hgc] at h'
    simp only [Option.some.injEq, Obj.cells.injEq] at h'
    exact absurd h'.2.1 (by decide)
  have nbr : ¬ IsTy relTy w b := by
    rintro ⟨c, f, h'⟩
    rw [hb] at h'
    simp only [Option.some.injEq, Obj.cells.injEq] at h'
    exact absurd h'.2.1 (by decide)
  have keep : ∀ x, x < w.heap.size → x ≠ g → w'.heap[x]? = w.heap[x]? := fun x hx e => hgr.block x hx (by simpa using e)
  have hsh : ∀ x, B0 ≤ x → Sh x = false := fun x hx => by
    cases hh : Sh x with
    | false => rfl
    | true => have := h.sh _ hh; omega
  have hkp : ∀ x, kpR Wg ks x → x < B0 := h.kp
  have hwl := wgLive_lt h.live
  have hlive : WgLive link.tWg Wg w → WgLive link.tWg Wg w' := fun ⟨st, sm, hw⟩ => ⟨st, sm, hw.of_block (keep Wg hwl (by omega))⟩
  refine ⟨.slice (some ⟨g', 0, none⟩) (L.length + 1) cap', w', ?_, ?_, ⟨⟨hgr.tape, hgr.os, hgr.output⟩, hgr.size, fun x hx => ?_, fun x hx hxt => hty x relTy hx hxt, hlive, fun e he => ?_⟩⟩
  · unfold execOp
    simp only [ho, resolve, invoke, builtin, Sem.run_bind, Sem.run_pure, Result.andThen_ok, List.map_toArray, List.map_cons, List.map_nil, hs, hx, hr]
  · obtain ⟨arr, a1, a2⟩ := h.arr
    have hln : (L ++ [Value.int .i64 i]).length = L.length + 1 := by simp
    refine ⟨by rw [hln]; exact hown, ⟨g', cap', by rw [hln]⟩, ⟨arr, (keep Bs (lt_of_heap a1) (by omega)).trans a1, a2⟩, Nat.le_trans h.b0 hgr.size, h.kp, h.lo, h.sh, hlive h.live, fun x hx => (keep x (by have := h.b0; omega) (by omega)).trans (h.old x hx), hgr.os.trans h.env.1, hgr.output.trans h.env.2⟩
  · rcases hx with hx | hx
    · exact keep x (by have := hkp x hx; have := h.b0; omega) (by have := hkp x hx; omega)
    · exact keep x hx.lt fun e => by subst e; exact ngr hx
  · have he' := mem_listed he
    rw [events_append_op (P := Try.prog) (w := w) (.tmp p) (.tmp q) 48 ho hs hx #[]] at he'
    rcases hev e he' with ⟨ad, wt, rfl, h2⟩ | h2
    · rcases h2 with ⟨rfl, h2⟩ | h2
      · exact .inl ⟨ad, false, rfl, by rw [h2]; exact Nat.lt_of_lt_of_le (lt_of_heap hb) hgr.size, by omega, hsh _ (by omega), fun h => by cases h⟩
      · refine .inl ⟨ad, wt, rfl, by rw [h2]; exact Nat.lt_of_lt_of_le hglt hgr.size, by omega, hsh _ (by omega), fun _ => ⟨fun h3 => by have := hkp _ h3; omega, fun h3 => ?_⟩⟩
        rw [h2] at h3
        exact ngr (hty g relTy hglt h3)
    · exact .inr (.inr (.inr (.inr h2)))

theorem app_k (h : RQ W0 Wg Bs s0 n B0 Sh ks v L w) {b : Nat} {i : Int} (hb : w.heap[b]? = some (.cells #[.int .i64 i] psT (0, 0))) (hbB : B0 ≤ b) (hl : L.length ≤ 1000) {a : Act} {o : Oper} {p q : Tmp} {t : TypeId} (ht : t = 48)
    (ho : o.op = .call { callee := .builtin .append, args := #[.tmp p, .tmp q], argTypes := #[t, t] }) (hs : a.eval (.tmp p) = v) (hx : a.eval (.tmp q) = .slice (some ⟨b, 0, none⟩) 1 1) {fn : FuncId} {X : Value → World → Prop}
    (hX : ∀ v' w', RQ W0 Wg Bs s0 n B0 Sh ks v' (L ++ [.int .i64 i]) w' → X v' w') :
    ∃ v' w', (execOp a.eval o).run Try.prog w = .ok (.value v') w' ∧ DC link.tWg Wg relTy Sh (kpR Wg ks) w w' (listed Try.prog fn a o w) ∧ X v' w' := by
  obtain ⟨v', w', h1, h2, h3⟩ := app_any h hb hbB hl ht ho hs hx fn
  exact ⟨v', w', h1, h3, hX v' w' h2⟩

theorem served_G (fr : Frame) (cs : List Frame) (v : Value) : Conc.served (core (G fr cs)) v = G (fr.finish v) cs := rfl

set_option maxHeartbeats 4000000 in
/-- one channel is emptied -/
theorem inner {cs : List Frame} {c : Nat} {ls : List (Nat × List Value)} {Lf : List Value} (hLf : Lf.length ≤ 1000)
    (hN : ∀ a w v, PR Bs Wg n j v a → RQ W0 Wg Bs s0 n B0 Sh ks v Lf w → a.eval (.tmp 35) = .tuple #[.int .i64 0, .bool false] →
      RcvS Try.prog link.tWg Wg relTy Sh (.int .i64 0) An ks ls (G ((base 37).at a (.inRegion R16 [1] :: .code CI :: tailI)) cs) w) :
    ∀ (l : List Value), (∀ x ∈ l, ∃ i, x = Value.int .i64 i) → ∀ a w v L, a.eval (.tmp 34) = .chan (some c) → PR Bs Wg n j v a → RQ W0 Wg Bs s0 n B0 Sh ks v L w → L ++ l = Lf →
      Goes Try.prog true (RR link.tWg Wg) (DC link.tWg Wg relTy Sh (kpR Wg ks)) (RStop Try.prog link.tWg Wg relTy Sh (.int .i64 0) An ks c l ls) 5 (G ((base 37).at a (.code LI :: tailI)) cs) w := by
  have T : Terms (RR link.tWg Wg) (DC link.tWg Wg relTy Sh (kpR Wg ks)) := termsR
  have hkn : (base 37).kind ≠ .early := base_kind _
  obtain ⟨i0, hi, hz0, hz1, hz2⟩ := info_parts infoPs
  intro l
  induction l with
  | nil =>
    intro _ a w v L e34 hp hq hL
    rw [List.append_nil] at hL
    subst hL
    refine g_seq T ?_
    refine g_region T rfl ?_
    refine Goes.stop fun w₁ r => ?_
    refine ⟨rfl, stepG_recvC (ops := R16) rfl rfl hkn rfl e34 undC hi hz0, fun w₂ r₂ v hv => ?_⟩
    subst hv
    rw [served_G]
    exact hN _ _ _ (hp.put (d := 35) (by omega) _) ((hq.rely r).rely r₂) (hp.same (by omega) _)
  | cons x l ih =>
    intro hx a w v L e34 hp hq hL
    obtain ⟨i, rfl⟩ := hx x (by simp)
    refine g_seq T ?_
    refine g_region T rfl ?_
    refine Goes.stop fun w₁ r => ?_
    refine ⟨rfl, stepG_recvC (ops := R16) rfl rfl hkn rfl e34 undC hi hz0, fun w₂ r₂ v' hv => ?_⟩
    subst hv
    rw [served_G]
    rw [rcvS_cons]
    replace hq := (hq.rely r).rely r₂
    clear r r₂ w₁
    show ∃ m, Goes Try.prog true (RR link.tWg Wg) (DC link.tWg Wg relTy Sh (kpR Wg ks)) _ m (G ((base 37).at (a.put (some 35) (.tuple #[.int .i64 i, .bool true])) (.inRegion R16 [1] :: .code CI :: tailI)) cs) w₂
    have e35 : (a.put (some 35) (.tuple #[.int .i64 i, .bool true])).eval (.tmp 35) = .tuple #[.int .i64 i, .bool true] := hp.same (by omega) _
    replace e34 : (a.put (some 35) (.tuple #[.int .i64 i, .bool true])).eval (.tmp 34) = .chan (some c) := (eval_put (by omega)).trans e34
    replace hp := hp.put (d := 35) (by omega) (.tuple #[.int .i64 i, .bool true])
    revert hp e34 e35
    generalize a.put _ _ = a0
    intro e35 e34 hp
    clear a
    refine ⟨60, ?_⟩
    refine g_vd 36 (fun _ => .bool true) id rfl rfl rfl hkn fun w₃ r => ?_
    replace hq := hq.rely r
    refine ⟨(run_ex a0 _ _ 1 _ _ rfl e35 rfl w₃).1, quiet_S (run_ex a0 _ _ 1 _ _ rfl e35 rfl w₃).2, fun a1 ea => ?_⟩
    have e36 : a1.eval (.tmp 36) = .bool true := ea ▸ hp.same (by omega) _
    replace e35 : a1.eval (.tmp 35) = .tuple #[.int .i64 i, .bool true] := by rw [ea]; exact (eval_put (by omega)).trans e35
    replace e34 : a1.eval (.tmp 34) = .chan (some c) := by rw [ea]; exact (eval_put (by omega)).trans e34
    replace hp : PR Bs Wg n j v a1 := ea ▸ hp.put (by omega) _
    clear ea r w₂
    refine g_end T ?_
    refine g_seq T ?_
    refine g_true T e36 ?_
    refine g_skip T ?_
    refine g_block T ?_
    refine g_seq T ?_
    refine g_region T rfl ?_
    refine g_vd 37 (fun _ => .int .i64 i) id rfl rfl rfl hkn fun w₄ r => ?_
    replace hq := hq.rely r
    refine ⟨(run_ex a1 _ _ 0 _ _ rfl e35 rfl w₄).1, quiet_S (run_ex a1 _ _ 0 _ _ rfl e35 rfl w₄).2, fun a2 ea => ?_⟩
    have e37 : a2.eval (.tmp 37) = .int .i64 i := ea ▸ hp.same (by omega) _
    replace e34 : a2.eval (.tmp 34) = .chan (some c) := by rw [ea]; exact (eval_put (by omega)).trans e34
    replace hp : PR Bs Wg n j v a2 := ea ▸ hp.put (by omega) _
    clear ea r w₃ e36 e35
    refine g_vd 10 (fun _ => .int .i64 i) id rfl rfl rfl hkn fun w₅ r => ?_
    replace hq := hq.rely r
    refine ⟨(run_asg a2 _ (.tmp 37) _ rfl e37 w₅).1, quiet_S (run_asg a2 _ (.tmp 37) _ rfl e37 w₅).2, fun a3 ea => ?_⟩
    have e10 : a3.eval (.tmp 10) = .int .i64 i := ea ▸ hp.same (by omega) _
    replace e34 : a3.eval (.tmp 34) = .chan (some c) := by rw [ea]; exact (eval_put (by omega)).trans e34
    replace hp : PR Bs Wg n j v a3 := ea ▸ hp.put (by omega) _
    clear ea r w₄ e37
    refine g_end T ?_
    refine g_region T rfl ?_
    refine g_vd 38 (fun _ => v) id rfl rfl rfl hkn fun w₆ r => ?_
    replace hq := hq.rely r
    refine ⟨(run_mv a3 _ _ _ rfl hp.s7 w₆).1, quiet_S (run_mv a3 _ _ _ rfl hp.s7 w₆).2, fun a4 ea => ?_⟩
    have e38 : a4.eval (.tmp 38) = v := ea ▸ hp.same (by omega) _
    replace e34 : a4.eval (.tmp 34) = .chan (some c) := by rw [ea]; exact (eval_put (by omega)).trans e34
    replace e10 : a4.eval (.tmp 10) = .int .i64 i := by rw [ea]; exact (eval_put (by omega)).trans e10
    replace hp : PR Bs Wg n j v a4 := ea ▸ hp.put (by omega) _
    clear ea r w₅
    refine g_vd 39 (fun _ => .int .i64 i) id rfl rfl rfl hkn fun w₇ r => ?_
    replace hq := hq.rely r
    refine ⟨(run_mv a4 _ _ _ rfl e10 w₇).1, quiet_S (run_mv a4 _ _ _ rfl e10 w₇).2, fun a5 ea => ?_⟩
    have e39 : a5.eval (.tmp 39) = .int .i64 i := ea ▸ hp.same (by omega) _
    replace e34 : a5.eval (.tmp 34) = .chan (some c) := by rw [ea]; exact (eval_put (by omega)).trans e34
    replace e38 : a5.eval (.tmp 38) = v := by rw [ea]; exact (eval_put (by omega)).trans e38
    replace hp : PR Bs Wg n j v a5 := ea ▸ hp.put (by omega) _
    clear ea r w₆ e10
    refine g_vd 40 (fun w => .slice (some ⟨w.heap.size, 0, none⟩) 1 1) (fun w => w.alloc (.cells #[.int .i64 i] psT)) rfl rfl rfl hkn fun w₈ r => ?_
    replace hq := hq.rely r
    refine ⟨(run_bs a5 _ (.tmp 39) _ _ rfl rfl e39 w₈).1, dc_alloc (fun b hb => Nat.lt_of_lt_of_le (hq.kp b hb) hq.b0) _ (fun c f h => by cases h) _ (fun e he => by rw [listed_nil (run_bs a5 _ (.tmp 39) _ _ rfl rfl e39 w₈).2] at he; simp at he), fun a6 ea => ?_⟩
    have e40 : a6.eval (.tmp 40) = .slice (some ⟨w₈.heap.size, 0, none⟩) 1 1 := ea ▸ hp.same (by omega) _
    replace e34 : a6.eval (.tmp 34) = .chan (some c) := by rw [ea]; exact (eval_put (by omega)).trans e34
    replace e38 : a6.eval (.tmp 38) = v := by rw [ea]; exact (eval_put (by omega)).trans e38
    replace hp : PR Bs Wg n j v a6 := ea ▸ hp.put (by omega) _
    have hnb := new_alloc (w := w₈) (.cells #[.int .i64 i] psT)
    have hbB : B0 ≤ w₈.heap.size := hq.b0
    replace hq := hq.alloc (.cells #[.int .i64 i] psT)
    revert hq hnb hbB e40
    generalize w₈.alloc _ = w₉
    generalize w₈.heap.size = b
    intro e40 hnb hbB hq
    clear ea r w₇ w₈ e39
    refine g_ex 41 rfl rfl rfl hkn fun w₁₀ r => ?_
    replace hnb := (r.old b (lt_of_heap hnb) (.inr (cells_notChan hnb)) (by have := hq.lo; omega)).trans hnb
    replace hq := hq.rely r
    have hLl : L.length ≤ 1000 := by
      have := congrArg List.length hL
      rw [List.length_append] at this
      omega
    refine app_k hq hnb hbB hLl rfl rfl e38 e40 fun v' w' hq' a7 ea => ?_
    have e41 : a7.eval (.tmp 41) = v' := ea ▸ hp.same (by omega) _
    replace e34 : a7.eval (.tmp 34) = .chan (some c) := by rw [ea]; exact (eval_put (by omega)).trans e34
    replace hp : PR Bs Wg n j v a7 := ea ▸ hp.put (by omega) _
    clear ea r hnb hq e38 e40 w₉ w₁₀
    refine g_vd 7 (fun _ => v') id rfl rfl rfl hkn fun w₁₁ r => ?_
    replace hq' := hq'.rely r
    refine ⟨(run_asg a7 _ (.tmp 41) _ rfl e41 w₁₁).1, quiet_S (run_asg a7 _ (.tmp 41) _ rfl e41 w₁₁).2, fun a8 ea => ?_⟩
    replace e34 : a8.eval (.tmp 34) = .chan (some c) := by rw [ea]; exact (eval_put (by omega)).trans e34
    replace hp : PR Bs Wg n j v' a8 := ea ▸ hp.sets _
    clear ea r e41
    refine g_end T ?_
    refine g_inBlock T ?_
    refine g_inLoop T ?_
    exact (ih (fun x hx' => hx x (by simp [hx'])) a8 _ v' (L ++ [.int .i64 i]) e34 hp hq' (by rw [List.append_assoc]; exact hL)).mono (by omega)
end
end Go.Ph

namespace Go.Ph
open Go Go.Conc Go.ConcN Go.RowKit Go.Conc.Lib Go.ConcR.Gen Go.ConcN.Gen Go.Proofs Go.Proofs.Ytgmjdkhegbdbjaa
open Go.ConcR (KK wgBlock WgAt stA smA rd wr mk Payload Aside2 DC0)
set_option linter.unusedVariables false
set_option linter.unusedSimpArgs false
set_option linter.unusedSectionVars false
set_option maxRecDepth 100000

noncomputable def R20 : Array Oper := match End37 with | .seq (.region _ ops _) _ => ops | _ => #[]
noncomputable def C21 : Code := match End37 with | .seq _ c => c | _ => .skip

section
variable [Payload] {W0 : World} {Wg Bs Br s0 n j B0 : Nat} {Sh : Nat → Bool} {ks : List Kid} {v : Value} {L : List Value} {w w₁ : World} {xs : List Int}

/-- What stands when all channels are emptied. -/
structure RE (W0 : World) (Wg s0 sz : Nat) (v : Value) (L : List Value) (w : World) : Prop where
  own : w.ownsRow s0 psT 1 v L.length L
  nn : ∃ g c, v = .slice (some ⟨g, 0, none⟩) L.length c ∧ g ≠ Wg
  lo : s0 ≤ Wg
  hi : s0 ≤ w.heap.size
  size : w.heap.size = sz
  old : ∀ b, b < s0 → w.heap[b]? = W0.heap[b]?
  env : w.os = W0.os ∧ w.output = W0.output
theorem RQ.re (h : RQ W0 Wg Bs s0 n B0 Sh ks v L w) : RE W0 Wg s0 w.heap.size v L w := by
  have hlo := h.lo
  have hb0 := h.b0
  have hx : w.ownsRow s0 psT 1 v L.length L ∧ ∀ g c, v = .slice (some ⟨g, 0, none⟩) L.length c → B0 ≤ g := by
    refine ⟨⟨h.own.1, ?_⟩, fun g c hv => ?_⟩
    · rcases h.own.2 with hn | ⟨g, cap, cur, hv, hb, rest⟩
      · exact .inl hn
      · exact .inr ⟨g, cap, cur, hv, by omega, rest⟩
    · rcases h.own.2 with ⟨hn, _⟩ | ⟨g1, cap, cur, hv1, hb, _⟩
      · rw [hv] at hn; cases hn
      · rw [hv] at hv1
        simp only [Value.slice.injEq, Option.some.injEq, Addr.mk.injEq, and_true, true_and] at hv1
        rw [hv1.1]; exact hb
  obtain ⟨g, c, hv⟩ := h.nn
  exact ⟨hx.1, ⟨g, c, hv, fun e => by have := hx.2 g c hv; omega⟩, hlo.2.2.2.2.2, by omega, rfl, h.old, h.env⟩
theorem RE.rc {sz : Nat} (h : RE W0 Wg s0 sz v L w) (r : RC link.tWg Wg Wg w w₁) : RE W0 Wg s0 sz v L w₁ := by
  have ha := r.aside
  have hb : ∀ k, k ≠ Wg → w₁.heap[k]? = w.heap[k]? := fun k hk => ha.block k hk hk
  obtain ⟨g, c, hv, hne⟩ := h.nn
  refine ⟨⟨h.own.1, ?_⟩, h.nn, h.lo, by rw [ha.size]; exact h.hi, ha.size.trans h.size, fun b hlt => (hb b (by have := h.lo; omega)).trans (h.old b hlt), ha.os.trans h.env.1, ha.output.trans h.env.2⟩
  rcases h.own.2 with hn | ⟨g1, cap, cur, hv1, hbb, hg, rest⟩
  · exact .inl hn
  · refine .inr ⟨g1, cap, cur, hv1, hbb, (hb g1 ?_).trans hg, rest⟩
    rw [hv] at hv1
    simp only [Value.slice.injEq, Option.some.injEq, Addr.mk.injEq, and_true, true_and] at hv1
    rw [← hv1.1]; exact hne

/-- Within Wait, at its loop's head. -/
def AnS (W0 : World) (Bs Wg s0 n : Nat) (L : List Value) (cs : List Frame) (g : Goroutine) (w : World) : Prop :=
  ∃ sz v a, PR Bs Wg n n v a ∧ AnchWN link (RE W0 Wg s0 sz v L) Wg ((base 37).at a [.inRegion R20 [0], .code C21]) cs g w
/-- Behind 'acquire'. -/
def FinS (W0 : World) (Bs Wg s0 n : Nat) (L : List Value) (cs : List Frame) (g : Goroutine) (w : World) : Prop :=
  ∃ sz v a, PR Bs Wg n n v a ∧ WFin Try.prog link Wg (RE W0 Wg s0 sz v L) (G ((base 37).at (a.put (some 43) (.tuple #[])) [.inRegion R20 [], .code C21]) cs) g w

theorem XKd.mono {P : Program} {ty : TypeId} {An An' : Goroutine → World → Prop} (h : ∀ g w, An g w → An' g w) {g : Goroutine} {w : World} (x : XKd P ty Wg An g w) : XKd P ty Wg An' g w := by
  obtain ⟨h1, g', h2, m, h3⟩ := x
  exact ⟨h1, g', h2, m, goes_imp h h3⟩
theorem XAcq.mono {P : Program} {ty : TypeId} {F F' : Goroutine → World → Prop} (h : ∀ g w, F g w → F' g w) {g : Goroutine} {w : World} (x : XAcq P ty Wg F g w) : XAcq P ty Wg F' g w := by
  obtain ⟨h1, g', h2, h3⟩ := x
  exact ⟨h1, g', h2, fun w₁ r k => h _ _ (h3 w₁ r k)⟩
theorem XKe.mono {P : Program} {ty : TypeId} {F F' : Goroutine → World → Prop} (h : ∀ g w, F g w → F' g w) {g : Goroutine} {w : World} (x : XKe P ty Wg F g w) : XKe P ty Wg F' g w := by
  obtain ⟨h1, g', h2, m, h3⟩ := x
  exact ⟨h1, g', h2, m, goes_imp (fun _ _ => XAcq.mono h) h3⟩
theorem XW4.mono {P : Program} {ty : TypeId} {F F' : Goroutine → World → Prop} (h : ∀ g w, F g w → F' g w) {g : Goroutine} {w : World} (x : XW4 P ty Wg F g w) : XW4 P ty Wg F' g w := by
  refine ⟨x.1, fun hw => ?_⟩
  obtain ⟨g', h2, m, h3⟩ := x.2 hw
  exact ⟨g', h2, m, goes_imp (fun _ _ => XKe.mono h) h3⟩
theorem XW3.mono {P : Program} {ty : TypeId} {F F' : Goroutine → World → Prop} (h : ∀ g w, F g w → F' g w) {g : Goroutine} {w : World} (x : XW3 P ty Wg F g w) : XW3 P ty Wg F' g w := by
  refine ⟨x.1, x.2.1, x.2.2.1, fun hw => ?_⟩
  obtain ⟨g', h2, m, h3⟩ := x.2.2.2 hw
  exact ⟨g', h2, m, goes_imp (fun _ _ => XW4.mono h) h3⟩
theorem XW2.mono {P : Program} {ty : TypeId} {F F' An An' : Goroutine → World → Prop} (h : ∀ g w, F g w → F' g w) (hA : ∀ g w, An g w → An' g w) {vs : Nat} {g : Goroutine} {w : World} (x : XW2 P ty Wg F An vs g w) : XW2 P ty Wg F' An' vs g w := by
  refine ⟨x.1, fun v hv hw => ⟨fun e => ?_, fun e => ?_⟩⟩
  · obtain ⟨g', h2, m, h3⟩ := (x.2 v hv hw).1 e
    exact ⟨g', h2, m, goes_imp (fun _ _ => XW3.mono h) h3⟩
  · obtain ⟨g', h2, m, h3⟩ := (x.2 v hv hw).2 e
    exact ⟨g', h2, m, goes_imp hA h3⟩
theorem XW1.mono {P : Program} {ty : TypeId} {F F' An An' : Goroutine → World → Prop} (h : ∀ g w, F g w → F' g w) (hA : ∀ g w, An g w → An' g w) {g : Goroutine} {w : World} (x : XW1 P ty Wg F An g w) : XW1 P ty Wg F' An' g w := by
  refine ⟨x.1, fun v hv hw => ?_⟩
  obtain ⟨g', h1, h2, h3⟩ := x.2 v hv hw
  refine ⟨g', h1, fun e => ?_, fun e => ?_⟩
  · obtain ⟨m, h4⟩ := h2 e
    exact ⟨m, goes_imp (fun _ _ => XKe.mono h) h4⟩
  · obtain ⟨m, h4⟩ := h3 e
    exact ⟨m, goes_imp (fun _ _ => XW2.mono h hA) h4⟩

theorem anS_run {cs : List Frame} (g : Goroutine) (w : World) (h : AnS W0 Bs Wg s0 n L cs g w) : g.status = .running := by
  obtain ⟨sz, v, a, _, T, rfl, _⟩ := h
  rfl
theorem anS_round {cs : List Frame} (g : Goroutine) (w : World) (h : AnS W0 Bs Wg s0 n L cs g w) :
    ∃ m, Goes Try.prog true (RC link.tWg Wg Wg) (DQ Wg) (XW1 Try.prog link.tWg Wg (FinS W0 Bs Wg s0 n L cs) (AnS W0 Bs Wg s0 n L cs)) m g w := by
  obtain ⟨sz, v, a, hp, hA⟩ := h
  obtain ⟨m, hm⟩ := waitRound wgLib (fun w w' r h => RE.rc h r) g w hA
  exact ⟨m, goes_imp (fun g w x => x.mono (fun g w y => ⟨sz, v, a, hp, y⟩) (fun g w y => ⟨sz, v, a, hp, y⟩)) hm⟩

theorem quiet_Q {P : Program} {fn : FuncId} {a : Act} {o : Oper} {w : World} (he : (execOp a.eval o).events P w #[] = #[]) : DQ Wg w w (listed P fn a o w) := by
  rw [listed_nil he]
  exact dq_none w #[] (by simp)
theorem termsQ {ty : TypeId} : Terms (RC ty Wg Wg) (DQ Wg) := ⟨fun _ _ _ h1 h2 => h1.trans h2, fun w => dq_none w #[] (by simp)⟩

set_option maxHeartbeats 2000000 in
/-- Behind the last channel: to Wait. -/
theorem toWait {cs : List Frame} {sz : Nat} (hj : j + 1 = n) (hn : n ≤ 4) {a : Act} (hp : PR Bs Wg n j v a) (hq : RE W0 Wg s0 sz v L w ∧ WgLive link.tWg Wg w) (e35 : a.eval (.tmp 35) = .tuple #[.int .i64 0, .bool false]) :
    Goes Try.prog true (RC link.tWg Wg Wg) (DQ Wg) (XKd Try.prog link.tWg Wg (AnS W0 Bs Wg s0 n L cs)) 40 (G ((base 37).at a (.inRegion R16 [1] :: .code CI :: tailI)) cs) w := by
  have T : Terms (RC link.tWg Wg Wg) (DQ Wg) := termsQ
  have hkn : (base 37).kind ≠ .early := base_kind _
  have rl : ∀ {w w₁ : World}, (RE W0 Wg s0 sz v L w ∧ WgLive link.tWg Wg w) → RC link.tWg Wg Wg w w₁ → RE W0 Wg s0 sz v L w₁ ∧ WgLive link.tWg Wg w₁ := fun h r => ⟨h.1.rc r, r.live h.2⟩
  refine g_vd 36 (fun _ => .bool false) id rfl rfl rfl hkn fun w₁ r => ?_
  replace hq := rl hq r
  refine ⟨(run_ex a _ _ 1 _ _ rfl e35 rfl w₁).1, quiet_Q (run_ex a _ _ 1 _ _ rfl e35 rfl w₁).2, fun a1 ea => ?_⟩
  have e36 : a1.eval (.tmp 36) = .bool false := ea ▸ hp.same (by omega) _
  replace hp : PR Bs Wg n j v a1 := ea ▸ hp.put (by omega) _
  clear ea r e35
  refine g_end T ?_
  refine g_seq T ?_
  refine g_false T e36 ?_
  refine g_exit T rfl ?_
  refine g_inBlock T ?_
  refine g_region T rfl ?_
  refine g_vd 42 (fun _ => .int .i64 ((j : Int) + 1)) id rfl rfl rfl hkn fun w₂ r => ?_
  replace hq := rl hq r
  refine ⟨(run_add a1 _ (.tmp 30) (.const (.int .i64 1)) _ _ j 1 rfl hp.s30 rfl (by omega) w₂).1, quiet_Q (run_add a1 _ (.tmp 30) (.const (.int .i64 1)) _ _ j 1 rfl hp.s30 rfl (by omega) w₂).2, fun a2 ea => ?_⟩
  have e42 : a2.eval (.tmp 42) = .int .i64 ((j : Int) + 1) := ea ▸ hp.same (by omega) _
  replace hp : PR Bs Wg n j v a2 := ea ▸ hp.put (by omega) _
  clear ea r e36
  refine g_vd 30 (fun _ => .int .i64 ((j : Int) + 1)) id rfl rfl rfl hkn fun w₃ r => ?_
  replace hq := rl hq r
  refine ⟨(run_mv a2 _ _ _ rfl e42 w₃).1, quiet_Q (run_mv a2 _ _ _ rfl e42 w₃).2, fun a3 ea => ?_⟩
  have hp3 : PR Bs Wg n n v a3 := by rw [ea]; have := hp.next; rw [hj] at this; exact this
  clear ea r e42 hp
  refine g_end T ?_
  refine g_inLoop T ?_
  refine g_seq T ?_
  refine g_region T rfl ?_
  refine g_vd 31 (fun _ => .bool false) id rfl rfl rfl hkn fun w₄ r => ?_
  replace hq := rl hq r
  refine ⟨(run_lt a3 _ _ _ _ _ n n false (by simp) rfl hp3.s30 hp3.s29 w₄).1, quiet_Q (run_lt a3 _ _ _ _ _ n n false (by simp) rfl hp3.s30 hp3.s29 w₄).2, fun a4 ea => ?_⟩
  have e31 : a4.eval (.tmp 31) = .bool false := ea ▸ hp3.same (by omega) _
  replace hp : PR Bs Wg n n v a4 := ea ▸ hp3.put (by omega) _
  clear ea r hp3
  refine g_end T ?_
  refine g_seq T ?_
  refine g_false T e31 ?_
  refine g_exit T rfl ?_
  refine g_seq T ?_
  refine g_region T rfl ?_
  refine Goes.step rfl fun w₅ r => ?_
  replace hq := rl hq r
  refine goes_call rfl rfl hkn rfl wgLib.f_wait (nm_wait link) rfl ⟨T.idle _, ?_⟩
  have em : (#[Operand.tmp 4].map a4.eval) = #[.pointer (some ⟨Wg, 0, none⟩)] := by
    rw [List.map_toArray, List.map_cons, List.map_nil, hp.s4]
  rw [em]
  refine Goes.mono (n := 4) ?_ (by omega)
  have hw := waitStart (L := link) (P := Try.prog) (F := RE W0 Wg s0 sz v L) (b₀ := base 37) (a₀ := a4) (ops₀ := R20) (i₀ := 0) (rest₀ := []) (k₀ := [.code C21]) (cs := cs) wgLib (fun w w' r h => RE.rc h r) w₅ hq
  exact goes_imp (fun g w x => XKd.mono (fun g w y => ⟨sz, v, a4, hp, y⟩) x) hw

set_option maxHeartbeats 4000000 in
/-- From the head of the loop over the channels to the loop that empties one. -/
theorem toInner {cs : List Frame} {Stop : Goroutine → World → Prop} (hj : j < n) {k : Kid} (hk : ks[j]? = some k) (K : ∀ a w, a.eval (.tmp 34) = .chan (some k.c) → PR Bs Wg n j v a → RQ W0 Wg Bs s0 n B0 Sh ks v L w →
      Goes Try.prog true (RR link.tWg Wg) (DC link.tWg Wg relTy Sh (kpR Wg ks)) Stop 5 (G ((base 37).at a (.code LI :: tailI)) cs) w) :
    ∀ a w, PR Bs Wg n j v a → RQ W0 Wg Bs s0 n B0 Sh ks v L w →
      Goes Try.prog true (RR link.tWg Wg) (DC link.tWg Wg relTy Sh (kpR Wg ks)) Stop 40 (G ((base 37).at a (.code LO :: tailO)) cs) w := by
  have T : Terms (RR link.tWg Wg) (DC link.tWg Wg relTy Sh (kpR Wg ks)) := termsR
  have hkn : (base 37).kind ≠ .early := base_kind _
  intro a w hp hq
  refine g_seq T ?_
  refine g_region T rfl ?_
  refine g_vd 31 (fun _ => .bool true) id rfl rfl rfl hkn fun w₁ r => ?_
  replace hq := hq.rely r
  refine ⟨(run_lt a _ _ _ _ _ j n true (by simp; omega) rfl hp.s30 hp.s29 w₁).1, quiet_S (run_lt a _ _ _ _ _ j n true (by simp; omega) rfl hp.s30 hp.s29 w₁).2, fun a1 ea => ?_⟩
  have e31 : a1.eval (.tmp 31) = .bool true := ea ▸ hp.same (by omega) _
  replace hp : PR Bs Wg n j v a1 := ea ▸ hp.put (by omega) _
  clear ea r
  refine g_end T ?_
  refine g_seq T ?_
  refine g_true T e31 ?_
  refine g_skip T ?_
  refine g_seq T ?_
  refine g_block T ?_
  refine g_seq T ?_
  refine g_region T rfl ?_
  refine g_vd 32 (fun _ => .pointer (some ((⟨Bs, 0, none⟩ : Addr).add j))) id rfl rfl rfl hkn fun w₂ r => ?_
  replace hq := hq.rely r
  refine ⟨(run_ixC a1 _ _ _ _ _ n j rfl rfl hp.s28 hp.s30 hj w₂).1, quiet_S (run_ixC a1 _ _ _ _ _ n j rfl rfl hp.s28 hp.s30 hj w₂).2, fun a2 ea => ?_⟩
  have e32 : a2.eval (.tmp 32) = .pointer (some ⟨Bs, j, none⟩) := by rw [ea, hp.same (by omega) _]; simp [Addr.add]; intro h; omega
  replace hp : PR Bs Wg n j v a2 := ea ▸ hp.put (by omega) _
  clear ea r e31
  refine g_vd 33 (fun _ => .chan (some k.c)) id rfl rfl rfl hkn fun w₃ r => ?_
  replace hq := hq.rely r
  obtain ⟨arr, h1, h2, h3⟩ := hq.arr
  have hc : w₃.cell? ⟨Bs, j, none⟩ = some (.chan (some k.c)) := by
    have := h3 j k hk
    simp [World.cell?, h1, this]
  have hss : Sh Bs = false := by
    cases h : Sh Bs with
    | false => rfl
    | true => have := hq.sh _ h; have := hq.lo; omega
  refine ⟨(run_ldC a2 _ _ _ _ _ rfl rfl e32 w₃ hc).1, dc_read (ad := ⟨Bs, j, none⟩) (lt_of_heap h1) hq.lo.2.2.1 hss (fun e he => (run_ldC a2 _ _ _ _ _ rfl rfl e32 w₃ hc).2 e (mem_listed he)), fun a3 ea => ?_⟩
  have e33 : a3.eval (.tmp 33) = .chan (some k.c) := ea ▸ hp.same (by omega) _
  replace hp : PR Bs Wg n j v a3 := ea ▸ hp.put (by omega) _
  clear ea r e32 hc hss h1 h2 h3 arr
  refine g_vd 9 (fun _ => .chan (some k.c)) id rfl rfl rfl hkn fun w₄ r => ?_
  replace hq := hq.rely r
  refine ⟨(run_asg a3 _ (.tmp 33) _ rfl e33 w₄).1, quiet_S (run_asg a3 _ (.tmp 33) _ rfl e33 w₄).2, fun a4 ea => ?_⟩
  have e9 : a4.eval (.tmp 9) = .chan (some k.c) := ea ▸ hp.same (by omega) _
  replace hp : PR Bs Wg n j v a4 := ea ▸ hp.put (by omega) _
  clear ea r e33
  refine g_end T ?_
  refine g_seq T ?_
  refine g_region T rfl ?_
  refine g_vd 34 (fun _ => .chan (some k.c)) id rfl rfl rfl hkn fun w₅ r => ?_
  replace hq := hq.rely r
  refine ⟨(run_mv a4 _ _ _ rfl e9 w₅).1, quiet_S (run_mv a4 _ _ _ rfl e9 w₅).2, fun a5 ea => ?_⟩
  have e34 : a5.eval (.tmp 34) = .chan (some k.c) := ea ▸ hp.same (by omega) _
  replace hp : PR Bs Wg n j v a5 := ea ▸ hp.put (by omega) _
  clear ea r e9
  refine g_end T ?_
  refine g_block T ?_
  refine g_loop T ?_
  exact (K a5 _ e34 hp hq).mono (by omega)

set_option maxHeartbeats 4000000 in
/-- All channels, from the head of the loop over them. -/
theorem outer {cs : List Frame} {Lf : List Value} (hLf : Lf.length ≤ 1000) (hn : n ≤ 4) :
    ∀ (ls : List (Nat × List Value)) (c : Nat) (l : List Value) (j : Nat), (∀ (i : Nat) (p : Nat × List Value), ((c, l) :: ls)[i]? = some p → (∃ k, ks[j + i]? = some k ∧ k.c = p.1) ∧ ∀ x ∈ p.2, ∃ i, x = Value.int .i64 i) → j + (ls.length + 1) = n →
      ∀ a w v L, PR Bs Wg n j v a → RQ W0 Wg Bs s0 n B0 Sh ks v L w → L ++ l ++ (ls.map (·.2)).flatten = Lf →
      Goes Try.prog true (RR link.tWg Wg) (DC link.tWg Wg relTy Sh (kpR Wg ks)) (RStop Try.prog link.tWg Wg relTy Sh (.int .i64 0) (AnS W0 Bs Wg s0 n Lf cs) ks c l ls) 40 (G ((base 37).at a (.code LO :: tailO)) cs) w := by
  have T : Terms (RR link.tWg Wg) (DC link.tWg Wg relTy Sh (kpR Wg ks)) := termsR
  have hkn : (base 37).kind ≠ .early := base_kind _
  intro ls
  induction ls with
  | nil =>
    intro c l j hm hjn a w v L hp hq hL
    obtain ⟨⟨k, hk, rfl⟩, hx⟩ := hm 0 (c, l) rfl
    rw [Nat.add_zero] at hk
    simp only [List.length_nil, Nat.zero_add, List.map_nil, List.flatten_nil, List.append_nil] at hjn hL
    refine toInner (by omega) hk (fun a w e34 hp hq => ?_) a w hp hq
    refine inner hLf (fun a w v hp hq e35 => ?_) l hx a w v L e34 hp hq hL
    exact ⟨40, toWait hjn hn hp ⟨hq.re, hq.live⟩ e35⟩
  | cons p ls ih =>
    obtain ⟨c', l'⟩ := p
    intro c l j hm hjn a w v L hp hq hL
    obtain ⟨⟨k, hk, rfl⟩, hx⟩ := hm 0 (c, l) rfl
    rw [Nat.add_zero] at hk
    simp only [List.length_cons, List.map_cons, List.flatten_cons] at hjn hL
    refine toInner (by omega) hk (fun a w e34 hp hq => ?_) a w hp hq
    have hLl : (L ++ l).length ≤ 1000 := by
      have := congrArg List.length hL
      rw [List.length_append] at this
      omega
    refine inner (Lf := L ++ l) hLl (fun a w v hp hq e35 => ?_) l hx a w v L e34 hp hq rfl
    rw [rcvS_cons]
    refine ⟨60, ?_⟩
    refine g_vd 36 (fun _ => .bool false) id rfl rfl rfl hkn fun w₁ r => ?_
    replace hq := hq.rely r
    refine ⟨(run_ex a _ _ 1 _ _ rfl e35 rfl w₁).1, quiet_S (run_ex a _ _ 1 _ _ rfl e35 rfl w₁).2, fun a1 ea => ?_⟩
    have e36 : a1.eval (.tmp 36) = .bool false := ea ▸ hp.same (by omega) _
    replace hp : PR Bs Wg n j v a1 := ea ▸ hp.put (by omega) _
    clear ea r e35
    refine g_end T ?_
    refine g_seq T ?_
    refine g_false T e36 ?_
    refine g_exit T rfl ?_
    refine g_inBlock T ?_
    refine g_region T rfl ?_
    refine g_vd 42 (fun _ => .int .i64 ((j : Int) + 1)) id rfl rfl rfl hkn fun w₂ r => ?_
    replace hq := hq.rely r
    refine ⟨(run_add a1 _ (.tmp 30) (.const (.int .i64 1)) _ _ j 1 rfl hp.s30 rfl (by omega) w₂).1, quiet_S (run_add a1 _ (.tmp 30) (.const (.int .i64 1)) _ _ j 1 rfl hp.s30 rfl (by omega) w₂).2, fun a2 ea => ?_⟩
    have e42 : a2.eval (.tmp 42) = .int .i64 ((j : Int) + 1) := ea ▸ hp.same (by omega) _
    replace hp : PR Bs Wg n j v a2 := ea ▸ hp.put (by omega) _
    clear ea r e36
    refine g_vd 30 (fun _ => .int .i64 ((j : Int) + 1)) id rfl rfl rfl hkn fun w₃ r => ?_
    replace hq := hq.rely r
    refine ⟨(run_mv a2 _ _ _ rfl e42 w₃).1, quiet_S (run_mv a2 _ _ _ rfl e42 w₃).2, fun a3 ea => ?_⟩
    have hp3 : PR Bs Wg n (j + 1) v a3 := by rw [ea]; exact hp.next
    clear ea r e42 hp
    refine g_end T ?_
    refine g_inLoop T ?_
    refine Goes.mono (n := 40) ?_ (by omega)
    refine ih c' l' (j + 1) (fun i p hi => ?_) (by omega) a3 _ v (L ++ l) hp3 hq ?_
    · have := hm (i + 1) p hi
      rw [show j + (i + 1) = j + 1 + i by omega] at this
      exact this
    · rw [← hL]; simp only [List.append_assoc]
end
end Go.Ph

namespace Go.Ph
open Go Go.Conc Go.ConcN Go.RowKit Go.Conc.Lib Go.ConcR.Gen Go.ConcN.Gen Go.Proofs Go.Proofs.Ytgmjdkhegbdbjaa
open Go.ConcR (KK wgBlock WgAt stA smA rd wr mk Payload Aside2 DC0)
set_option linter.unusedVariables false
set_option linter.unusedSimpArgs false
set_option linter.unusedSectionVars false
set_option maxRecDepth 100000

section
variable [Payload] {W0 : World} {Wg Bs Br s0 n j B0 : Nat} {Sh : Nat → Bool} {ks : List Kid} {v : Value} {L : List Value} {w w₁ : World} {xs : List Int}

/-- What the starter knows before it has made its list of sets. -/
structure RQ0 (W0 : World) (Wg Bs s0 n : Nat) (Sh : Nat → Bool) (ks : List Kid) (w : World) : Prop where
  arr : ∃ arr : Array Value, w.heap[Bs]? = some (.cells arr chT (0, 0)) ∧ arr.size = n ∧ ∀ (j : Nat) (k : Kid), ks[j]? = some k → arr[j]? = some (Value.chan (some k.c))
  kp : ∀ b, kpR Wg ks b → b < w.heap.size
  lo : Bs ≠ Wg ∧ s0 ≤ Bs ∧ s0 ≤ Wg
  sh : ∀ b, Sh b = true → b < s0
  live : WgLive link.tWg Wg w
  old : ∀ b, b < s0 → w.heap[b]? = W0.heap[b]?
  env : w.os = W0.os ∧ w.output = W0.output
theorem RQ0.rely (h : RQ0 W0 Wg Bs s0 n Sh ks w) (r : RR link.tWg Wg w w₁) : RQ0 W0 Wg Bs s0 n Sh ks w₁ := by
  obtain ⟨arr, a1, a2⟩ := h.arr
  have hlo := h.lo
  have hbs := lt_of_heap a1
  exact ⟨⟨arr, (r.old Bs (lt_of_heap a1) (.inr (cells_notChan a1)) hlo.1).trans a1, a2⟩, fun b hb => Nat.lt_of_lt_of_le (h.kp b hb) r.size, h.lo, h.sh, r.live h.live, fun b hb => (r.old b (by omega) (.inl (by omega)) (by omega)).trans (h.old b hb), r.env.os.trans h.env.1, r.env.output.trans h.env.2⟩
theorem SW.rq0 (h : SW W0 Wg Br Bs s0 n Sh ks xs w) (hw : WgLive link.tWg Wg w) : RQ0 W0 Wg Bs s0 n Sh ks w :=
  ⟨h.arr, fun b hb => hb.elim (fun x => (h.kept b x).1) (fun x => by rw [x]; exact h.wg), ⟨h.ne.1, h.low.2.1, h.low.2.2⟩, h.sh, hw, h.old, h.env⟩
theorem RQ0.made (h : RQ0 W0 Wg Bs s0 n Sh ks w) (i : Int) : RQ W0 Wg Bs s0 n w.heap.size Sh ks (.slice (some ⟨w.heap.size, 0, none⟩) 1 1) [.int .i64 i] (w.alloc (.cells #[.int .i64 i] psT)) := by
  obtain ⟨arr, a1, a2⟩ := h.arr
  have hlo := h.lo
  have hwl := wgLive_lt h.live
  have hbs := lt_of_heap a1
  obtain ⟨st, sm, hw⟩ := h.live
  refine ⟨⟨by simp, .inr ⟨w.heap.size, 1, _, rfl, Nat.le_refl _, new_alloc _, by simp, by simp [maxLen], by simp, by simp⟩⟩, ⟨_, _, rfl⟩, ⟨arr, (Below.heap_alloc _ _ _ hbs).trans a1, a2⟩, by rw [World.size_alloc]; omega, h.kp, ⟨hbs, by omega, hlo.1, hlo.2.1, hwl, hlo.2.2⟩, h.sh, ⟨st, sm, hw.of_block (Below.heap_alloc _ _ _ hwl)⟩, fun b hb => (Below.heap_alloc _ _ _ (by omega)).trans (h.old b hb), h.env⟩

theorem listsOf_get {V : Nat → List Value} : ∀ (ks : List Kid) (i0 i : Nat) (p : Nat × List Value), (listsOf V i0 ks)[i]? = some p → ∃ k, ks[i]? = some k ∧ k.c = p.1 ∧ p.2 = V (i0 + i)
  | [], _, _, _, h => by simp [listsOf] at h
  | k :: ks, i0, 0, p, h => by
    simp only [listsOf, List.getElem?_cons_zero, Option.some.injEq] at h
    subst h
    exact ⟨k, rfl, rfl, rfl⟩
  | k :: ks, i0, i + 1, p, h => by
    simp only [listsOf, List.getElem?_cons_succ] at h
    obtain ⟨k', h1, h2, h3⟩ := listsOf_get ks (i0 + 1) i p h
    exact ⟨k', h1, h2, by rw [h3, show i0 + 1 + i = i0 + (i + 1) by omega]⟩
theorem listsOf_length {V : Nat → List Value} : ∀ (ks : List Kid) (i0 : Nat), (listsOf V i0 ks).length = ks.length
  | [], _ => rfl
  | k :: ks, i0 => by simp [listsOf, listsOf_length ks]
theorem listsOf_vals {V : Nat → List Value} : ∀ (ks : List Kid) (i0 : Nat), ((listsOf V i0 ks).map (·.2)).flatten = ((List.range' i0 ks.length).map V).flatten
  | [], _ => rfl
  | k :: ks, i0 => by
    simp only [listsOf, List.map_cons, List.flatten_cons, List.length_cons, List.range'_succ]
    rw [listsOf_vals ks]
theorem sentFrom_int : ∀ (f b r : Nat), ∀ x ∈ sentFrom xs f b r, ∃ i, x = Value.int .i64 i
  | _, _, 0, x, h => by simp [sentFrom] at h
  | f, b, r + 1, x, h => by
    simp only [sentFrom, List.mem_cons] at h
    rcases h with rfl | h
    · exact ⟨_, rfl⟩
    · exact sentFrom_int f (b + 1) r x h
theorem sentFrom_length : ∀ (f b r : Nat), (sentFrom xs f b r).length = r
  | _, _, 0 => rfl
  | f, b, r + 1 => by simp [sentFrom, sentFrom_length f (b + 1) r]

/-- all sets, in the order in which they are received -/
def gotAll (xs : List Int) (n : Nat) : List Value := .int .i64 0 :: ((List.range' 0 n).map (valsAt xs n)).flatten
theorem gotAll_length (h : n ≤ 4) : (gotAll xs n).length ≤ 1000 := by
  rcases (by omega : n = 0 ∨ n = 1 ∨ n = 2 ∨ n = 3 ∨ n = 4) with rfl | rfl | rfl | rfl | rfl <;> simp [gotAll, List.range', valsAt, sentFrom_length]

set_option maxHeartbeats 4000000 in
/-- Behind the last go statement. -/
theorem emptied {cs : List Frame} (h1 : 1 ≤ n) (hn : n ≤ 4) (hkn' : ks.length = n) {a : Act} (hp : PS Br Bs Wg n (n - 1) a) (hs : SW W0 Wg Br Bs s0 n Sh ks xs w) (hw : WgAt link.tWg Wg w ((n : Int) * KK) 0) :
    RcvS Try.prog link.tWg Wg relTy Sh (.int .i64 0) (AnS W0 Bs Wg s0 n (gotAll xs n) cs) ks (listsOf (valsAt xs n) 0 ks) (G ((base 37).at a (.inRegion (R37 9) [] :: tail37)) cs) w := by
  have T : Terms (RR link.tWg Wg) (DC link.tWg Wg relTy Sh (kpR Wg ks)) := termsR
  have hkn : (base 37).kind ≠ .early := base_kind _
  have hgl := listsOf_get (V := valsAt xs n) ks 0
  have hvl := listsOf_vals (V := valsAt xs n) ks 0
  have hll := listsOf_length (V := valsAt xs n) ks 0
  revert hgl hvl hll
  cases hls : listsOf (valsAt xs n) 0 ks with
  | nil => intro _ _ h; simp at h; omega
  | cons p ls =>
    obtain ⟨c, l⟩ := p
    intro hgl hvl hll
    rw [rcvS_cons]
    have hq := hs.rq0 ⟨_, _, hw⟩
    clear hs hw
    refine ⟨80, ?_⟩
    refine g_end T ?_
    refine g_inBlock T ?_
    refine g_region T rfl ?_
    refine g_vd 26 (fun _ => .int .i64 (((n - 1 : Nat) : Int) + 1)) id rfl rfl rfl hkn fun w₁ r => ?_
    replace hq := hq.rely r
    refine ⟨(run_add a _ (.tmp 16) (.const (.int .i64 1)) _ _ ((n - 1 : Nat) : Int) 1 rfl hp.s16 rfl (by omega) w₁).1, quiet_S (run_add a _ (.tmp 16) (.const (.int .i64 1)) _ _ ((n - 1 : Nat) : Int) 1 rfl hp.s16 rfl (by omega) w₁).2, fun a1 ea => ?_⟩
    have e26 : a1.eval (.tmp 26) = .int .i64 (((n - 1 : Nat) : Int) + 1) := ea ▸ hp.same (by omega) _
    replace hp : PS Br Bs Wg n (n - 1) a1 := ea ▸ hp.put (by omega) _
    clear ea r
    refine g_vd 16 (fun _ => .int .i64 (((n - 1 : Nat) : Int) + 1)) id rfl rfl rfl hkn fun w₂ r => ?_
    replace hq := hq.rely r
    refine ⟨(run_mv a1 _ _ _ rfl e26 w₂).1, quiet_S (run_mv a1 _ _ _ rfl e26 w₂).2, fun a2 ea => ?_⟩
    have hp2 : PS Br Bs Wg n n a2 := by rw [ea]; have := hp.next; rw [show n - 1 + 1 = n by omega] at this; exact this
    clear ea r e26 hp
    refine g_end T ?_
    refine g_inLoop T ?_
    refine g_seq T ?_
    refine g_region T rfl ?_
    refine g_vd 17 (fun _ => .bool false) id rfl rfl rfl hkn fun w₃ r => ?_
    replace hq := hq.rely r
    refine ⟨(run_lt a2 _ _ _ _ _ n n false (by simp) rfl hp2.s16 hp2.s15 w₃).1, quiet_S (run_lt a2 _ _ _ _ _ n n false (by simp) rfl hp2.s16 hp2.s15 w₃).2, fun a3 ea => ?_⟩
    have e17 : a3.eval (.tmp 17) = .bool false := ea ▸ hp2.same (by omega) _
    replace hp : PS Br Bs Wg n n a3 := ea ▸ hp2.put (by omega) _
    clear ea r hp2
    refine g_end T ?_
    refine g_seq T ?_
    refine g_false T e17 ?_
    refine g_exit T rfl ?_
    refine g_seq T ?_
    refine g_region T rfl ?_
    have ds := hp.ds
    have sz := hp.sz
    have s3 := hp.s3
    have s4 := hp.s4
    clear hp e17
    have same : ∀ {a : Act}, a.tmps.size = 48 → ∀ {d : Nat}, d < 48 → ∀ v, (a.put (some d) v).eval (.tmp d) = v := fun h _ hd v => eval_put_same (by rw [h]; exact hd)
    refine g_vd 27 (fun w => .slice (some ⟨w.heap.size, 0, none⟩) 1 1) (fun w => w.alloc (.cells #[.int .i64 0] psT)) rfl rfl rfl hkn fun w₄ r => ?_
    replace hq := hq.rely r
    refine ⟨(run_bs a3 _ (.const (.int .i64 0)) _ _ rfl rfl rfl w₄).1, dc_alloc hq.kp _ (fun c f h => by cases h) _ (fun e he => by rw [listed_nil (run_bs a3 _ (.const (.int .i64 0)) _ _ rfl rfl rfl w₄).2] at he; simp at he), fun a4 ea => ?_⟩
    have e27 : a4.eval (.tmp 27) = .slice (some ⟨w₄.heap.size, 0, none⟩) 1 1 := ea ▸ same sz (by omega) _
    replace ds : a4.defers = [] := by rw [ea]; exact ds
    replace sz : a4.tmps.size = 48 := by rw [ea]; simpa [Act.put] using sz
    replace s3 : a4.eval (.tmp 3) = .slice (some ⟨Bs, 0, none⟩) n n := by rw [ea]; exact (eval_put (by omega)).trans s3
    replace s4 : a4.eval (.tmp 4) = .pointer (some ⟨Wg, 0, none⟩) := by rw [ea]; exact (eval_put (by omega)).trans s4
    replace hq := hq.made 0
    revert hq e27
    generalize w₄.alloc _ = w₅
    generalize w₄.heap.size = B0
    intro e27 hq
    clear ea r w₄
    refine g_vd 7 (fun _ => .slice (some ⟨B0, 0, none⟩) 1 1) id rfl rfl rfl hkn fun w₆ r => ?_
    replace hq := hq.rely r
    refine ⟨(run_asg a4 _ (.tmp 27) _ rfl e27 w₆).1, quiet_S (run_asg a4 _ (.tmp 27) _ rfl e27 w₆).2, fun a5 ea => ?_⟩
    have s7 : a5.eval (.tmp 7) = .slice (some ⟨B0, 0, none⟩) 1 1 := ea ▸ same sz (by omega) _
    replace ds : a5.defers = [] := by rw [ea]; exact ds
    replace sz : a5.tmps.size = 48 := by rw [ea]; simpa [Act.put] using sz
    replace s3 : a5.eval (.tmp 3) = .slice (some ⟨Bs, 0, none⟩) n n := by rw [ea]; exact (eval_put (by omega)).trans s3
    replace s4 : a5.eval (.tmp 4) = .pointer (some ⟨Wg, 0, none⟩) := by rw [ea]; exact (eval_put (by omega)).trans s4
    clear ea r e27
    refine g_end T ?_
    refine g_seq T ?_
    refine g_seq T ?_
    refine g_region T rfl ?_
    refine g_vd 28 (fun _ => .slice (some ⟨Bs, 0, none⟩) n n) id rfl rfl rfl hkn fun w₇ r => ?_
    replace hq := hq.rely r
    refine ⟨(run_mv a5 _ _ _ rfl s3 w₇).1, quiet_S (run_mv a5 _ _ _ rfl s3 w₇).2, fun a6 ea => ?_⟩
    have s28 : a6.eval (.tmp 28) = .slice (some ⟨Bs, 0, none⟩) n n := ea ▸ same sz (by omega) _
    replace ds : a6.defers = [] := by rw [ea]; exact ds
    replace sz : a6.tmps.size = 48 := by rw [ea]; simpa [Act.put] using sz
    replace s4 : a6.eval (.tmp 4) = .pointer (some ⟨Wg, 0, none⟩) := by rw [ea]; exact (eval_put (by omega)).trans s4
    replace s7 : a6.eval (.tmp 7) = .slice (some ⟨B0, 0, none⟩) 1 1 := by rw [ea]; exact (eval_put (by omega)).trans s7
    clear ea r s3
    refine g_vd 29 (fun _ => .int .i64 n) id rfl rfl rfl hkn fun w₈ r => ?_
    replace hq := hq.rely r
    refine ⟨(run_len a6 _ 28 _ _ _ _ rfl rfl s28 w₈).1, quiet_S (run_len a6 _ 28 _ _ _ _ rfl rfl s28 w₈).2, fun a7 ea => ?_⟩
    have s29 : a7.eval (.tmp 29) = .int .i64 n := ea ▸ same sz (by omega) _
    replace ds : a7.defers = [] := by rw [ea]; exact ds
    replace sz : a7.tmps.size = 48 := by rw [ea]; simpa [Act.put] using sz
    replace s4 : a7.eval (.tmp 4) = .pointer (some ⟨Wg, 0, none⟩) := by rw [ea]; exact (eval_put (by omega)).trans s4
    replace s7 : a7.eval (.tmp 7) = .slice (some ⟨B0, 0, none⟩) 1 1 := by rw [ea]; exact (eval_put (by omega)).trans s7
    replace s28 : a7.eval (.tmp 28) = .slice (some ⟨Bs, 0, none⟩) n n := by rw [ea]; exact (eval_put (by omega)).trans s28
    clear ea r
    refine g_vd 30 (fun _ => .int .i64 0) id rfl rfl rfl hkn fun w₉ r => ?_
    replace hq := hq.rely r
    refine ⟨(run_mv a7 _ (.const (.int .i64 0)) (.int .i64 0) rfl rfl w₉).1, quiet_S (run_mv a7 _ (.const (.int .i64 0)) (.int .i64 0) rfl rfl w₉).2, fun a8 ea => ?_⟩
    have hp : PR Bs Wg n 0 (.slice (some ⟨B0, 0, none⟩) 1 1) a8 := ⟨by rw [ea]; exact ds, by rw [ea]; simpa [Act.put] using sz, by rw [ea]; exact (eval_put (by omega)).trans s4, by rw [ea]; exact (eval_put (by omega)).trans s7, by rw [ea]; exact (eval_put (by omega)).trans s28, by rw [ea]; exact (eval_put (by omega)).trans s29, by rw [ea]; exact same sz (by omega) _⟩
    clear ea r ds sz s4 s7 s28 s29
    refine g_end T ?_
    refine g_block T ?_
    refine g_loop T ?_
    refine Goes.mono (n := 40) ?_ (by omega)
    refine outer (gotAll_length hn) hn ls c l 0 (fun i p hi => ?_) (by simp at hll; omega) a8 _ _ [.int .i64 0] hp hq ?_
    · obtain ⟨k, k1, k2, k3⟩ := hgl i p hi
      refine ⟨⟨k, by rw [Nat.zero_add]; exact k1, k2⟩, fun x hx => ?_⟩
      rw [k3] at hx
      exact sentFrom_int _ _ _ x hx
    · simp only [List.map_cons, List.flatten_cons] at hvl
      rw [List.append_assoc, hvl, hkn']
      rfl
end
end Go.Ph

namespace Go.Br
open Go Go.Conc Go.RowKit
open Go.ConcN (sumTo)
set_option linter.unusedVariables false
set_option linter.unusedSimpArgs false

section
variable {Sh Sh' : Nat → Bool} {w w' : World}
/-- The shunned rows emptied. -/
def void (Sh : Nat → Bool) (w : World) : World := { w with heap := w.heap.mapIdx fun b o => if Sh b then (match o with | .cells _ e f => .cells #[] e f | o => o) else o }
theorem void_size : (void Sh w).heap.size = w.heap.size := by simp [void]
theorem void_get (b : Nat) : (void Sh w).heap[b]? = (w.heap[b]?).map fun o => if Sh b then (match o with | .cells _ e f => .cells #[] e f | o => o) else o := by
  simp [void, Array.getElem?_mapIdx]
theorem void_same {b : Nat} (h : Sh b = false) : (void Sh w).heap[b]? = w.heap[b]? := by
  rw [void_get, h]
  simp
theorem rel_void (hs : ∀ b, Sh b = true → IsCells w b) : Rel Sh w (void Sh w) := by
  refine ⟨rfl, rfl, void_size, fun b hb => void_same hb, fun b hb => ?_⟩
  obtain ⟨c, e, f, hc⟩ := hs b hb
  exact ⟨c, e, f, hc, by rw [void_get, hc, hb]; rfl⟩
theorem isCells_lt {b : Nat} (h : IsCells w b) : b < w.heap.size := by
  obtain ⟨c, e, f, h⟩ := h
  exact (Array.getElem?_eq_some_iff.1 h).1

/-- What was there stands. -/
structure BelowC (w w' : World) : Prop where
  os : w'.os = w.os
  output : w'.output = w.output
  size : w.heap.size ≤ w'.heap.size
  block : ∀ k, k < w.heap.size → w'.heap[k]? = w.heap[k]?
theorem BelowC.refl (w : World) : BelowC w w := ⟨rfl, rfl, Nat.le_refl _, fun _ _ => rfl⟩
theorem IsCells.of {b : Nat} (h : IsCells w b) (e : w'.heap[b]? = w.heap[b]?) : IsCells w' b := by
  obtain ⟨c, t, f, h⟩ := h; exact ⟨c, t, f, e.trans h⟩
theorem BelowC.trans {a b c : World} (h : BelowC a b) (k : BelowC b c) : BelowC a c :=
  ⟨k.os.trans h.os, k.output.trans h.output, Nat.le_trans h.size k.size, fun x hx => (k.block x (Nat.lt_of_lt_of_le hx h.size)).trans (h.block x hx)⟩
theorem BelowC.of_heap (h : w'.heap = w.heap) (h1 : w'.os = w.os) (h2 : w'.output = w.output) : BelowC w w' := ⟨h1, h2, by rw [h]; exact Nat.le_refl _, fun _ _ => by rw [h]⟩
theorem BelowC.alloc (o : Obj) : BelowC w (w.alloc o) := ⟨rfl, rfl, by rw [World.size_alloc]; exact Nat.le_succ _, fun k hk => Below.heap_alloc _ _ _ hk⟩
theorem BelowC.void (h : BelowC w w') (hs : ∀ b, b < w.heap.size → Sh' b = Sh b) : BelowC (void Sh w) (void Sh' w') := by
  refine ⟨h.os, h.output, by rw [void_size, void_size]; exact h.size, fun k hk => ?_⟩
  rw [void_size] at hk
  rw [void_get, void_get, h.block k hk, hs k hk]
end

section
variable {P : Program} {K : FuncId → Bool} {Q Q' : (Nat → Bool) → Goroutine → World → Prop} {Sh : Nat → Bool} {g g1 : Goroutine} {w : World} {b : Frame} {a : Act} {k k' : List Item} {cs : List Frame}
theorem WB.on (h : WB P Q Sh g w) (τ : Tape) (d : Nat) : WB P Q Sh g (w.on τ d) := fun τ' d' => h τ' d'
theorem WB.off {τ : Tape} {d : Nat} (h : WB P Q Sh g (w.on τ d)) : WB P Q Sh g w := fun τ' d' => h τ' d'
theorem WB.ctl (hr : g.status = .running) (h : ∀ W, stepG P true g W = .go g1 W #[]) (hn : WB P Q Sh g1 w) : WB P Q Sh g w :=
  WB.step hr fun τ d => ⟨g1, _, #[], h _, .refl _, by simp, hn.on τ d⟩

theorem b_seq {x y : Code} (h : WB P Q Sh (G (b.at a (.code x :: .code y :: k)) cs) w) : WB P Q Sh (G (b.at a (.code (.seq x y) :: k)) cs) w := WB.ctl rfl (fun _ => stepG_seq) h
theorem b_skip (h : WB P Q Sh (G (b.at a k) cs) w) : WB P Q Sh (G (b.at a (.code .skip :: k)) cs) w := WB.ctl rfl (fun _ => stepG_skip) h
theorem b_inBlock {id : Nat} (h : WB P Q Sh (G (b.at a k) cs) w) : WB P Q Sh (G (b.at a (.inBlock id :: k)) cs) w := WB.ctl rfl (fun _ => stepG_inBlock) h
theorem b_block {id : Nat} {c : Code} (h : WB P Q Sh (G (b.at a (.code c :: .inBlock id :: k)) cs) w) : WB P Q Sh (G (b.at a (.code (.block id c) :: k)) cs) w := WB.ctl rfl (fun _ => stepG_block) h
theorem b_loop {c : Code} (h : WB P Q Sh (G (b.at a (.code c :: .inLoop c :: k)) cs) w) : WB P Q Sh (G (b.at a (.code (.loop c) :: k)) cs) w := WB.ctl rfl (fun _ => stepG_loop) h
theorem b_region {id : Nat} {ops : Array Oper} {l : List Nat} (hl : List.range ops.size = l) (h : WB P Q Sh (G (b.at a (.inRegion ops l :: k)) cs) w) : WB P Q Sh (G (b.at a (.code (.region id ops false) :: k)) cs) w := WB.ctl rfl (fun _ => by rw [stepG_region, hl]) h
theorem b_end {ops : Array Oper} (h : WB P Q Sh (G (b.at a k) cs) w) : WB P Q Sh (G (b.at a (.inRegion ops [] :: k)) cs) w := WB.ctl rfl (fun _ => stepG_region_end) h
theorem b_true {c : Operand} {x y : Code} (hc : a.eval c = .bool true) (h : WB P Q Sh (G (b.at a (.code x :: k)) cs) w) : WB P Q Sh (G (b.at a (.code (.cond c x y) :: k)) cs) w := WB.ctl rfl (fun _ => by rw [stepG_cond hc]; rfl) h
theorem b_false {c : Operand} {x y : Code} (hc : a.eval c = .bool false) (h : WB P Q Sh (G (b.at a (.code y :: k)) cs) w) : WB P Q Sh (G (b.at a (.code (.cond c x y) :: k)) cs) w := WB.ctl rfl (fun _ => by rw [stepG_cond hc]; rfl) h
theorem b_ret (h : WB P Q Sh (G { b.at a (.code .ret :: k) with mode := .returning } cs) w) : WB P Q Sh (G (b.at a (.code .ret :: k)) cs) w := WB.ctl rfl (fun _ => stepG_ret') h
section
variable {ops : Array Oper} {i : Nat} {rest : List Nat} {o : Oper}
theorem b_no (ho : ops[i]? = some o) (hw : Region.wanted o (yielded ops a.tmps) = false) (h : ∀ a', a' = a.put o.dst undef → WB P Q Sh (G (b.at a' (.inRegion ops rest :: k)) cs) w) : WB P Q Sh (G (b.at a (.inRegion ops (i :: rest) :: k)) cs) w :=
  WB.ctl rfl (fun _ => stepG_unwanted ho hw) (h _ rfl)
/-- An operation that touches nothing. -/
theorem b_op (d : Tmp) (v : Value) (ho : ops[i]? = some o) (hw : Region.wanted o (yielded ops a.tmps) = true) (hd : o.dst = some d) (hk : b.kind ≠ .early) (hr : ∀ W, (execOp a.eval o).run P W = .ok (.value v) W ∧ (execOp a.eval o).events P W #[] = #[])
    (h : ∀ a', a' = a.put (some d) v → WB P Q Sh (G (b.at a' (.inRegion ops rest :: k)) cs) w) : WB P Q Sh (G (b.at a (.inRegion ops (i :: rest) :: k)) cs) w :=
  WB.ctl rfl (fun W => by rw [stepG_value ho hw hk (hr W).1, hd, listed_nil (hr W).2]) (h _ rfl)
/-- An operation that makes, reads or writes memory. -/
theorem b_mem (ho : ops[i]? = some o) (hw : Region.wanted o (yielded ops a.tmps) = true) (hk : b.kind ≠ .early)
    (h : ∀ τ d, ∃ u, (∃ v, (execOp a.eval o).run P (w.on τ d) = .ok (.value v) u ∧ ∀ a', a' = a.put o.dst v → WB P Q Sh (G (b.at a' (.inRegion ops rest :: k)) cs) u) ∧ Grew (w.on τ d) u ∧ ∀ e ∈ (execOp a.eval o).events P (w.on τ d) #[], OkEv Sh u.heap.size e) :
    WB P Q Sh (G (b.at a (.inRegion ops (i :: rest) :: k)) cs) w := by
  refine WB.step rfl fun τ d => ?_
  obtain ⟨u, ⟨v, h1, h2⟩, h3, h4⟩ := h τ d
  exact ⟨_, u, _, stepG_value ho hw hk h1, h3, fun e he => h4 e (mem_listed he), h2 _ rfl⟩
theorem b_memN (ho : ops[i]? = some o) (hw : Region.wanted o (yielded ops a.tmps) = true) (hd : o.dst = none) (hk : b.kind ≠ .early)
    (h : ∀ τ d, ∃ u, (execOp a.eval o).run P (w.on τ d) = .ok .skip u ∧ Grew (w.on τ d) u ∧ (∀ e ∈ (execOp a.eval o).events P (w.on τ d) #[], OkEv Sh u.heap.size e) ∧ WB P Q Sh (G (b.at a (.inRegion ops rest :: k)) cs) u) :
    WB P Q Sh (G (b.at a (.inRegion ops (i :: rest) :: k)) cs) w := by
  refine WB.step rfl fun τ d => ?_
  obtain ⟨u, h1, h3, h4, h2⟩ := h τ d
  exact ⟨_, u, _, by rw [stepG_none ho hw hk h1, hd]; rfl, h3, fun e he => h4 e (mem_listed he), h2⟩
/-- A call of a function with a body. -/
theorem b_call {f : FuncId} {fn : Func} {c : Code} {args : Array Operand} {ats : Array TypeId} {vs : Array Value} (ho : ops[i]? = some o) (hw : Region.wanted o (yielded ops a.tmps) = true) (hk : b.kind ≠ .early) (hop : o.op = .call { callee := .value (.func f), args, argTypes := ats })
    (hf : P.funcs[f]? = some fn) (hname : (fn.name == "runtime.NumGoroutine") = false) (hb : fn.body = some c) (ha : args.map a.eval = vs)
    (h : WB P Q Sh (gor (Frame.enter P f vs .normal) [] (b.at a (.inRegion ops (i :: rest) :: k) :: cs)) w) : WB P Q Sh (G (b.at a (.inRegion ops (i :: rest) :: k)) cs) w := by
  subst ha
  have hb' : fn.body.isNone = false := by rw [hb]; rfl
  refine WB.ctl rfl (fun W => ?_) h
  rw [stepG_enter ho hw hk (run_call_body hop hf hname hb')]
  have : listed P b.fn a o W = #[] := by unfold listed; rw [events_call_body hop hf hname hb']; exact seen_none P _
  rw [this]
  rfl
theorem b_back {v : Value} {d : Tmp} (ho : ops[i]? = some o) (hd : o.dst = some d) (h : ∀ a', a' = a.put (some d) v → WB P Q Sh (G (b.at a' (.inRegion ops rest :: k)) cs) w) : WB P Q Sh ⟨(b.at a (.inRegion ops (i :: rest) :: k)).finish v, cs, .running, none, none⟩ w := by
  rw [Frame.finish_at, ho]
  have := h _ rfl
  rw [← hd] at this
  exact this
/-- The return of a frame to its caller. -/
theorem b_leave {fn : Func} {todo : List Item} {c0 : Frame} {v : Value} (hn : b.kind = .normal) (hd : a.defers = []) (hf : P.funcs[b.fn]? = some fn) (hr : ∀ W, (results fn a.tmps).run P W = .ok v W) (he : ∀ W es, (results fn a.tmps).events P W es = es)
    (h : WB P Q Sh ⟨c0.finish v, cs, .running, none, none⟩ w) : WB P Q Sh (G { b.at a todo with mode := .returning } (c0 :: cs)) w := by
  refine WB.ctl rfl (fun W => ?_) h
  rw [stepG_leave hn hd hf (hr W) (he W _)]
  rfl
end
end
end Go.Br

namespace Go.Br
open Go Go.Conc Go.RowKit
open Go.ConcN (sumTo)
set_option linter.unusedVariables false
set_option linter.unusedSimpArgs false

structure KEnv (P : Program) (K : FuncId → Bool) : Prop where
  sd : P.follows .staticDataAhead = true
  closed : Closed P K
  fin : ∃ c, EndFrame P c

/-- These functions call one another alone. -/
def closedB (P : Program) (l : List FuncId) : Bool := l.all fun f => (match P.funcs[f]? with | some fn => (match fn.body with | some c => okCode P (fun f => l.contains f) c | none => false) | none => false)
theorem closed_of {P : Program} {l : List FuncId} (h : closedB P l = true) : Closed P (fun f => l.contains f) := by
  unfold closedB at h
  rw [List.all_eq_true] at h
  intro f hf
  have h2 := h f (List.contains_iff_mem.1 hf)
  split at h2
  · rename_i fn hfn
    split at h2
    · rename_i c hc
      exact ⟨fn, c, hfn, hc, h2⟩
    · cases h2
  · cases h2

/-- What holds of every world of such a walk: the program's own variables are laid; the shunned blocks are of this type. -/
structure KW (P : Program) (ty : TypeId) (Sh : Nat → Bool) (w : World) : Prop where
  np : NP P w
  sh : ∀ b, Sh b = true → ∃ c f, w.heap[b]? = some (.cells c ty f)

section
variable {P : Program} {K : FuncId → Bool} {ty : TypeId} {Q Q' : (Nat → Bool) → Goroutine → World → Prop} {Sh Sh' : Nat → Bool} {g g1 : Goroutine} {w w' : World} {cs : List Frame} {c0 : Frame}
theorem KW.cells (h : KW P ty Sh w) {b : Nat} (hb : Sh b = true) : IsCells w b := by obtain ⟨c, f, h⟩ := h.sh b hb; exact ⟨c, ty, f, h⟩
theorem KW.lt (h : KW P ty Sh w) {b : Nat} (hb : Sh b = true) : b < w.heap.size := isCells_lt (h.cells hb)
theorem KW.bc (h : KW P ty Sh w) (k : BelowC w w') : KW P ty Sh w' :=
  ⟨fun b hb => (h.np b hb).of (k.block b (isCells_lt (h.np b hb))), fun b hb => by obtain ⟨c, f, hc⟩ := h.sh b hb; exact ⟨c, f, (k.block b (h.lt hb)).trans hc⟩⟩
theorem KW.more (h : KW P ty Sh w) {W : Nat} {c : Array Value} {f : Nat × Nat} (hw : w.heap[W]? = some (.cells c ty f)) : KW P ty (fun b => Sh b || b == W) w :=
  ⟨h.np, fun b hb => by
    simp only [Bool.or_eq_true, beq_iff_eq] at hb
    rcases hb with hb | rfl
    · exact h.sh b hb
    · exact ⟨c, f, hw⟩⟩

/-- ████ A call by its contracts. -/
theorem callK (E : KEnv P K) {f : FuncId} (hK : K f = true) {args : Array Value} (kw : KW P ty Sh w) {R : World → Value → World → Prop}
    (h : ∀ W, (∃ τ, W = w.on τ 0) ∨ (∃ τ, W = (void Sh w).on τ 0) → Calls P f args W fun e w' => ∃ v, e = .returned v ∧ R W v w')
    (hq : ∀ τ v w', R (w.on τ 0) v w' → WB P Q Sh ⟨c0.finish v, cs, .running, none, none⟩ w') : WB P Q Sh (gor (Frame.enter P f args .normal) [] (c0 :: cs)) w := by
  obtain ⟨c, hc⟩ := E.fin
  refine WB.call (u := void Sh w) (R := fun v w' => ∃ τ0 w0 τ d, R (w.on τ0 0) v w0 ∧ w' = w0.on τ d) E.sd E.closed hc hK kw.np (rel_void fun b hb => kw.cells hb) ?_ (fun τ => ?_) (fun τ => ?_) ?_
  · rintro v w' τ d ⟨τ0, w0, τ1, d1, h1, rfl⟩
    exact ⟨τ0, w0, τ, d, h1, rfl⟩
  · exact (h _ (.inl ⟨τ, rfl⟩)).mono fun e w' ⟨v, he, hR⟩ => ⟨v, he, τ, w', w'.tape, w'.drawn, hR, rfl⟩
  · exact (h _ (.inr ⟨τ, rfl⟩)).mono fun e w' ⟨v, he, hR⟩ => ⟨v, he, trivial⟩
  · rintro v w' ⟨τ0, w0, τ, d, h1, rfl⟩
    exact (hq τ0 v w0 h1).on τ d

/-- Steps of goroutine 0's own, told world by world. -/
theorem WB.goes {D : World → World → Array Event → Prop} {S : Goroutine → World → Prop} (hD : ∀ w1 w2 es, D w1 w2 es → ∀ e ∈ es, EvL (ShunOf Sh) w.heap.size e) (h : ∀ τ d, ∃ k, Goes P true AtRel D S k g (w.on τ d)) (hS : ∀ g' w', S g' w' → w.heap.size ≤ w'.heap.size ∧ WB P Q Sh g' w') : WB P Q Sh g w := by
  intro τ d gs sl t q h0 hL hP
  obtain ⟨k, hG⟩ := h τ d
  obtain ⟨N, gs', a', w', sl', t', q', e1, e2, e3, hR, e5, e6⟩ := walk_beside hD (k + sumTo gs.size q) k gs g (w.on τ d) sl t q (Nat.le_refl _) h0 hL hP hG
  obtain ⟨hsz, hwb⟩ := hS _ _ hR
  obtain ⟨M, Sh2, gs3, g3, w3, sl3, t3, q3, f1, f2, f3, f4, f5⟩ := hwb w'.tape w'.drawn gs' sl' t' q' e3 e5 (e6.mono hsz)
  refine ⟨N + M, Sh2, gs3, g3, w3, sl3, t3, q3, ?_, f2, f3, f4, f5⟩
  rw [runNT_add, e1]
  exact f1

/-- Goroutine 0 stands at its last step, whatever the scheduler draws: it ends the run with this value. -/
def EndQ (P : Program) (Post : Value → World → Prop) (Sh : Nat → Bool) (g : Goroutine) (w : World) : Prop :=
  g.status = .running ∧ ∃ v, ∀ d, stepG P true g (w.at d) = .ended (.done v) (w.at d) #[] ∧ Post v (w.at d)
theorem b_finish {Post : Value → World → Prop} {b : Frame} {a : Act} {todo : List Item} {fn : Func} {v : Value} (hn : b.kind = .normal) (hin : P.inits.idxOf? b.fn = none) (hd : a.defers = []) (hf : P.funcs[b.fn]? = some fn) (hr : ∀ W, (results fn a.tmps).run P W = .ok v W) (he : ∀ W es, (results fn a.tmps).events P W es = es)
    (hp : ∀ τ d, Post v (w.on τ d)) : WB P (EndQ P Post) Sh (G { b.at a todo with mode := .returning } []) w := by
  refine WB.done fun τ d => ⟨rfl, v, fun d' => ⟨?_, hp τ d'⟩⟩
  simp [G, stepG, unwind, Frame.at, hd, hf, hr, he, hin, doReturn, hn, GStep.after, seen_none]

theorem past_wider {S S' : Loc → Prop} {B : Nat} {t : Trace} (h : Past S B t) (hs : ∀ l, S l → S' l) : Past S' B t := ⟨h.clean, fun i a ha hm => (h.known i a ha hm).imp id fun x => ⟨hs _ x.1, x.2⟩, h.over, h.hears, h.seen⟩
/-- ████ The whole run: from goroutine 0 alone to the end of the run. -/
theorem run_of_wb {Post : Value → World → Prop} {W : World} (h : WB P (EndQ P Post) (fun _ => false) g W) :
    ∃ M last o w' t', runNT P (M + 1) (solo g W) #[] = (.ended o w', t') ∧ runN P M (solo g W) = .next last ∧ step P last = .ended o w' ∧ Conc.Good P Post last o w' t' := by
  have hp0 : Past (ShunOf fun _ => false) W.heap.size #[] := by
    exact past_wider (past_nil.mono (Nat.zero_le W.heap.size)) fun l hl => hl.elim
  obtain ⟨N, Sh', gs', g', w', sl', t', q', e1, e2, ⟨hs, v, hv⟩, e4, e5⟩ := h W.tape W.drawn #[g] none #[] (fun _ => 0) rfl (leavers_one P g) hp0
  have hG : Goes P true AtRel (fun _ _ es => es = #[]) (AtEnd P (ShunOf Sh') w'.heap.size Post) 0 g' w' := by
    rintro w₁ ⟨d, rfl⟩
    exact ⟨hs, v, #[], (hv d).1, by simp, (hv d).2⟩
  obtain ⟨M, last, o, w2, t2, f1, f2, f3, f4⟩ := beside_ends (sl := sl') (fun w1 w2 es he e hm => by rw [he] at hm; simp at hm) e2 e4 e5 hG
  have e1' : runNT P N (solo g W) #[] = (.next (crowd gs' w' sl'), t') := e1
  refine ⟨N + M, last, o, w2, t2, ?_, ?_, f3, f4⟩
  · rw [show N + M + 1 = N + (M + 1) by omega, runNT_add, e1']
    exact f1
  · have hn : runN P N (solo g W) = .next (crowd gs' w' sl') := by rw [← runNT_fst _ _ _ #[], e1']
    rw [← runNT_fst _ _ _ #[], runNT_add, e1']
    have := runNT_fst P M (crowd gs' w' sl') t'
    rw [f2] at this
    exact this
end
#print axioms run_of_wb
end Go.Br

namespace Go.Ph
open Go Go.Conc Go.RowKit Go.Br Go.Proofs Go.Proofs.Ytgmjdkhegbdbjaa
open Go.ConcR (Payload)
set_option linter.unusedVariables false
set_option linter.unusedSimpArgs false
set_option maxRecDepth 100000

def kfs : List FuncId := [12, 13, 15, 16, 17, 18, 20, 22, 24, 25, 27, 28, 30, 32, 33, 34, 35, 36, 38, 39, 40, 41, 42, 43, 44, 45, 46, 47, 50, 51, 53, 57, 58, 59, 60, 66, 67, 68, 69, 70, 75, 76, 77, 98, 99, 100, 101, 102, 107, 108, 109, 115, 116, 117, 118, 119, 120, 121, 122, 123, 124, 125, 126, 127, 128, 129, 130, 131, 132, 133, 134]
theorem kClosed : closedB Try.prog kfs = true := by kernel_rfl
def doorW : String := String.ofList ([102, 109, 116, 39, 115, 32, 100, 111, 111, 114].map Char.ofNat)
noncomputable def lastF : Frame := { (default : Frame) with fn := Try.prog.funcs.size, todo := [.call (default : Deferred) false doorW #[]], defers := [], mode := .run }
theorem next_door : (Extern.next doorW).isNone = true := by kernel_rfl
theorem lastF_end : EndFrame Try.prog lastF := by
  have hn : Try.prog.funcs[Try.prog.funcs.size]? = none := by simp
  refine ⟨rfl, fun v w => ?_, fun chain w => ?_⟩
  · have hx : Extern.next doorW = none := Option.isNone_iff_eq_none.1 next_door
    simp only [lastF, Frame.finish, stepG, stepG.exec, hx, Option.elim]
    exact ⟨_, _, _, rfl⟩
  · have hc : ∀ fr : Frame, fr.fn = Try.prog.funcs.size → fr.todo = [.call (default : Deferred) false doorW #[]] → fr.catches Try.prog = true := by
      intro fr h1 h2
      unfold Frame.catches
      rw [h1, hn, h2]
      show String.startsWith doorW _ = true
      decide +kernel
    simp only [lastF, Frame.raise, stepG, unwind]
    exact ⟨_, _, _, if_pos (hc _ rfl rfl)⟩
theorem sdAhead : Try.prog.follows .staticDataAhead = true := by kernel_rfl
theorem kEnv : KEnv Try.prog (fun f => kfs.contains f) := ⟨sdAhead, closed_of kClosed, lastF, lastF_end⟩
end Go.Ph
