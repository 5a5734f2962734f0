/-
  The invariant of the phase and its measure; steps of those that leave; steps of a worker while it sends.
-/
import Derived.Test.YtgmjdkhegbdbjaaBRM
import Derived.Calls
import Derived.Test.YtgmjdkhegbdbjaaBRB
import Derived.Conc.CrowdComm
namespace Go.Br
open Go Go.Conc
open Go.ConcN (sumTo upd sumTo_upd upd_ne upd_same)
set_option linter.unusedVariables false
set_option linter.unusedSimpArgs false

/-- The shunned places. -/
def ShunOf (Sh : Nat → Bool) : Loc → Prop
  | .cell a => Sh a.block = true
  | .obj r => Sh r = true
  | _ => False

theorem evL_of_ok {Sh : Nat → Bool} {B : Nat} {e : Event} (h : OkEv Sh B e) : EvL (ShunOf Sh) B e := by
  obtain ⟨l, wr, sy⟩ := e
  cases l with
  | cell a =>
    refine ⟨fun x hx hs => ?_, by simp, by simp, h.2⟩
    exfalso
    simp only [MemAct.ofEvent, MemAct.touch?, Option.some.injEq] at hx
    subst hx
    have : Sh a.block = true := hs
    rw [h.1] at this; cases this
  | obj r =>
    refine ⟨fun x hx hs => ?_, by simp, by simp, ?_⟩
    · exfalso
      have hs' : x.loc = .obj r → False := fun e => by
        rw [e] at hs
        have : Sh r = true := hs
        rw [h.1] at this; cases this
      cases wr <;> cases sy <;> simp only [MemAct.ofEvent, MemAct.touch?, Option.some.injEq, reduceCtorEq] at hx <;> (subst hx; exact hs' rfl)
    · cases wr <;> cases sy <;> exact h.2
  | output => exact h.elim
  | goroutines => exact h.elim
  | mark m => cases m <;> first | exact h.elim | exact ⟨fun x hx => by simp [MemAct.ofEvent, MemAct.touch?] at hx, by simp, by simp, trivial⟩

section
variable {P : Program} {Sh : Nat → Bool} {Q : Goroutine → World → Prop}

/-- ████ The inductive walk beside leavers, on whatever tape. ████ -/
theorem walk_ends {g : Goroutine} {w : World} (hE : Ends P Sh Q g w) : ∀ (M : Nat) (τ : Tape) (d : Nat) (gs : Array Goroutine) (sl : Option (Nat × Nat)) (t : Trace) (q : Nat → Nat), sumTo gs.size q ≤ M → gs[0]? = some g → Leavers P t gs q → Past (ShunOf Sh) w.heap.size t →
    ∃ (N : Nat) (gs' : Array Goroutine) (g' : Goroutine) (w' : World) (sl' : Option (Nat × Nat)) (t' : Trace) (q' : Nat → Nat),
      runNT P N (crowd gs (w.on τ d) sl) t = (.next (crowd gs' w' sl'), t') ∧ gs'.size = gs.size ∧ gs'[0]? = some g' ∧ Q g' w' ∧ Leavers P t' gs' q' ∧ Past (ShunOf Sh) w'.heap.size t' := by
  induction hE with
  | stop h => exact fun M τ d gs sl t q _ h0 hL hP => ⟨0, gs, _, _, sl, t, q, rfl, rfl, h0, h τ d, hL, hP⟩
  | @step g w hrun G W E h hg he hn ih =>
    intro M
    induction M using Nat.strongRecOn with
    | ind M ihM =>
      intro τ d gs sl t q hM h0 hL hP
      have hwake : ∀ x ∈ gs, awake x := fun x hx => by
        obtain ⟨i, hi⟩ := Array.mem_iff_getElem?.1 hx
        cases i with
        | zero =>
          have hxg : x = g := Option.some.inj (hi.symm.trans h0)
          exact awake_of (.inl (by rw [hxg]; exact hrun))
        | succ i => exact awake_of ((hL.old (i + 1) x (Nat.succ_pos i) hi).status.imp id .inr)
      obtain ⟨i, a, d', sl', hi, har, hst⟩ := crowd_pick (P := P) (w := w.on τ d) (sl := sl) hwake ⟨0, g, h0, hrun⟩
      have hother : ∀ (b c : Nat) (fn : FuncId) (pos : String) (es : Array Event) (t : Trace), b ≠ c → Deaf (t ++ MemOp.ofEvents b fn pos es) c = Deaf t c := fun b c fn pos es t hne =>
        Deaf_other t hne _ fun op hop => by obtain ⟨e, _, rfl⟩ := Go.Conc.mem_ofEvents hop; rfl
      cases i with
      | zero =>
        -- goroutine 0 goes on
        obtain rfl : a = g := Option.some.inj (hi.symm.trans h0)
        have hgo : stepG P (0 == 0) a ((w.on τ d).at d') = .go (G τ d') (W τ d') (E τ d') := h τ d'
        have hT := runT_crowd_go (P := P) (sl := sl') (i := 0) hi hgo
        have hlt : 0 < gs.size := (Array.getElem?_eq_some_iff.1 h0).1
        have hsz : ((gs.map (woken P a (G τ d') (W τ d'))).setIfInBounds 0 (G τ d')).size = gs.size := by simp
        have hP' : Past (ShunOf Sh) (W τ d').heap.size (t ++ MemOp.ofEvents 0 a.frame.fn a.frame.place (E τ d')) :=
          (hP.mono (hg τ d').size).own fun e hm => evL_of_ok (he τ d' e hm)
        have hL' : Leavers P (t ++ MemOp.ofEvents 0 a.frame.fn a.frame.place (E τ d')) ((gs.map (woken P a (G τ d') (W τ d'))).setIfInBounds 0 (G τ d')) q := by
          refine ⟨fun j x hj hx => ?_, fun j hj => ?_⟩
          · rw [Array.getElem?_setIfInBounds_ne (by omega), Array.getElem?_map] at hx
            obtain ⟨y, hy, rfl⟩ := Option.map_eq_some_iff.1 hx
            rw [woken_quitsD (hL.old j y hj hy), hother 0 j _ _ _ _ (by omega)]
            exact hL.old j y hj hy
          · rw [hsz] at hj
            rw [hother 0 j _ _ _ _ (by omega)]
            exact hL.above j hj
        obtain ⟨N, gs', g', w', sl2, t', q', e1, e2, e3, e4, e5, e6⟩ := ih τ d' (sumTo gs.size q) (W τ d').tape (W τ d').drawn _ sl' _ q (by rw [hsz]; exact Nat.le_refl _) (by simp [hlt]) hL' hP'
        refine ⟨N + 1, gs', g', w', sl2, t', q', ?_, e2.trans hsz, e3, e4, e5, e6⟩
        simp only [runNT, hst, hT]
        exact e1
      | succ i =>
        -- one that is leaving takes a step
        have hlt : i + 1 < gs.size := (Array.getElem?_eq_some_iff.1 hi).1
        have hq := hL.old (i + 1) a (Nat.succ_pos i) hi
        cases hqi : q (i + 1) with
        | zero =>
          rw [hqi] at hq
          have := har.symm.trans hq.1
          cases this
        | succ k =>
          rw [hqi] at hq
          rcases hq with ⟨hfin, _⟩ | ⟨_, a', es, hmute, hstep, hq'⟩
          · have := har.symm.trans hfin
            cases this
          have hT := runT_crowd_go (P := P) (w := (w.on τ d).at d') (sl := sl') (i := i + 1) hi (hstep _)
          have hsz : ((gs.map (woken P a a' ((w.on τ d).at d'))).setIfInBounds (i + 1) a').size = gs.size := by simp
          have hsum : sumTo gs.size (upd q (i + 1) k) + (k + 1) = sumTo gs.size q + k := by
            have := sumTo_upd q k id hlt
            simpa [hqi] using this
          have hL' : Leavers P (t ++ MemOp.ofEvents (i + 1) a.frame.fn a.frame.place es) ((gs.map (woken P a a' ((w.on τ d).at d'))).setIfInBounds (i + 1) a') (upd q (i + 1) k) := by
            refine ⟨fun j x hj hx => ?_, fun j hj => ?_⟩
            · by_cases hji : i + 1 = j
              · subst hji
                rw [Array.getElem?_setIfInBounds_self_of_lt (by simpa using hlt)] at hx
                obtain rfl := Option.some.inj hx
                rw [upd_same, Deaf_own]
                exact hq'
              · rw [Array.getElem?_setIfInBounds_ne hji, Array.getElem?_map] at hx
                obtain ⟨y, hy, rfl⟩ := Option.map_eq_some_iff.1 hx
                rw [woken_quitsD (hL.old j y hj hy), upd_ne q k (Ne.symm hji), hother (i + 1) j _ _ _ _ hji]
                exact hL.old j y hj hy
            · rw [hsz] at hj
              rw [hother (i + 1) j _ _ _ _ (by omega)]
              exact hL.above j hj
          obtain ⟨N, gs', g', w', sl2, t', q', e1, e2, e3, e4, e5, e6⟩ := ihM (sumTo gs.size (upd q (i + 1) k)) (by omega) τ d' _ sl' _ (upd q (i + 1) k) (by rw [hsz]; exact Nat.le_refl _) (by
            rw [Array.getElem?_setIfInBounds_ne (by omega), Array.getElem?_map, h0]
            simp [woken_run hrun]) hL' (hP.mute (by omega) hmute)
          refine ⟨N + 1, gs', g', w', sl2, t', q', ?_, e2.trans hsz, e3, e4, e5, e6⟩
          simp only [runNT, hst, hT]
          exact e1
end
end Go.Br

namespace Go.Br
open Go
set_option linter.unusedVariables false
set_option linter.unusedSimpArgs false

section
variable {P : Program} {K : FuncId → Bool}

theorem NP.grew {w w' : World} (h : NP P w) (g : Grew w w') : NP P w' := fun b hb => g.rows b (h b hb)

/-- The same walk above another base. -/
theorem rebase (hS : P.follows .staticDataAhead = true) (hC : Closed P K) {b1 : List Frame} (hb : b1 ≠ []) (b2 : List Frame) {n : Nat} {g g' : Goroutine} {w w' : World} (r : RunK P K b1 n g w g' w') :
    ∀ {fr : Frame} {kcs : List Frame}, g = gor fr kcs b1 → KSt P K fr kcs → NP P w → ∃ fr' kcs', g' = gor fr' kcs' b1 ∧ KSt P K fr' kcs' ∧ RunK P K b2 n (gor fr kcs b2) w (gor fr' kcs' b2) w' := by
  induction r with
  | zero g w => exact fun hg hk _ => ⟨_, _, hg, hk, .zero _ _⟩
  | @succ n g g1 g2 w w1 w2 es h hk1 r ih =>
    intro fr kcs hg hk hN
    subst hg
    rcases step_all hS hC hk with ⟨hm, rfl, fn, hf⟩ | hw
    · exact absurd hk1 (stop_no hb ⟨fr, [], rfl, hk⟩ ⟨hm, rfl⟩ ⟨fn, hf⟩ h)
    · rcases (hw w hN).1 with ⟨fr1, kcs1, w1', es', hf, hks⟩ | bad
      · have e := h.step.symm.trans (hf b1).step
        simp only [GStep.go.injEq] at e
        obtain ⟨rfl, rfl, rfl⟩ := e
        obtain ⟨fr', kcs', e1, e2, e3⟩ := ih rfl hks (hN.grew h.grew)
        exact ⟨fr', kcs', e1, e2, .succ (hf b2) ⟨_, _, rfl, hks⟩ e3⟩
      · exfalso
        rcases bad b1 with ⟨o, w', es', e⟩ | ⟨w', es', chain, e⟩
        · have := h.step.symm.trans e; cases this
        · have := h.step.symm.trans e
          simp only [GStep.go.injEq] at this
          rw [this.1] at hk1
          rcases hk1.mode with hm | hm <;> cases hm

/-- The frame that ends a run as soon as it is come back to. -/
structure EndFrame (P : Program) (c : Frame) : Prop where
  defers : c.defers = []
  finish : ∀ v w, ∃ o w' es, stepG P true ⟨c.finish v, [], .running, none, none⟩ w = .ended o w' es
  raise : ∀ chain w, ∃ o w' es, stepG P true ⟨c.raise chain, [], .running, none, none⟩ w = .ended o w' es

theorem lone_ended {fr : Frame} {cs : List Frame} {w w' : World} {o : Outcome} {es : Array Event} (h : stepG P true ⟨fr, cs, .running, none, none⟩ w = .ended o w' es) : step P (lone fr cs w) = .ended o w' :=
  step_lone_ended (by rw [h]; rfl)
theorem lone_go {fr fr' : Frame} {cs cs' : List Frame} {w w' : World} {es : Array Event} (h : stepG P true ⟨fr, cs, .running, none, none⟩ w = .go ⟨fr', cs', .running, none, none⟩ w' es) : step P (lone fr cs w) = .next (lone fr' cs' w') :=
  step_lone_go (by rw [h]; rfl)
theorem lone_inj {fr fr' : Frame} {cs cs' : List Frame} {w w' : World} (h : lone fr cs w = lone fr' cs' w') : fr = fr' ∧ cs = cs' ∧ w = w' := by
  simp only [lone, Machine.mk.injEq] at h
  obtain ⟨h1, h2, _⟩ := h
  have := congrArg (fun a : Array Goroutine => a[0]?) h2
  simp at this
  exact ⟨this.1, this.2, h1⟩

/-- What panics does not come back. -/
theorem pan_never (hC : Closed P K) {c : Frame} (hc : EndFrame P c) : ∀ (n : Nat) (kcs : List Frame) (fr : Frame) (chain : List PanicEntry) (w : World) (fr' : Frame) (w' : World), K fr.fn = true → fr.mode = .panicking chain → fr.defers = [] → (∀ x ∈ kcs, KFrame P K x ∧ x.mode = .run) → fr'.mode = .returning → runN P n (lone fr (kcs ++ [c]) w) ≠ .next (lone fr' [c] w') := by
  intro n
  induction n with
  | zero =>
    intro kcs fr chain w fr' w' hK hm hd hk hr h
    simp only [runN, Stepped.next.injEq] at h
    obtain ⟨rfl, _, _⟩ := lone_inj h
    rw [hm] at hr; cases hr
  | succ n ih =>
    intro kcs fr chain w fr' w' hK hm hd hk hr h
    obtain ⟨fn, b, hf, _, _⟩ := hC _ hK
    have hcat : fr.catches P = false := by unfold Frame.catches; rw [hf]
    have hst : ∀ x rest, stepG P true ⟨fr, x :: rest, .running, none, none⟩ w = .go ⟨x.raise chain, rest, .running, none, none⟩ w := by
      intro x rest
      unfold stepG unwind
      simp only [hm, hd, hcat, Bool.false_eq_true, if_false]
    cases kcs with
    | nil =>
      have h1 := lone_go (hst c [])
      simp only [runN, List.nil_append, h1] at h
      cases n with
      | zero =>
        simp only [runN, Stepped.next.injEq] at h
        obtain ⟨_, h2, _⟩ := lone_inj h
        cases h2
      | succ n =>
        obtain ⟨o, w2, es, e⟩ := hc.raise chain w
        simp only [runN, lone_ended e] at h
        cases h
    | cons x kcs =>
      have h1 := lone_go (hst x (kcs ++ [c]))
      simp only [runN, List.cons_append, h1] at h
      obtain ⟨hxF, hxm⟩ := hk x (List.mem_cons_self ..)
      exact ih kcs (x.raise chain) chain w fr' w' (by unfold Frame.raise; rw [hxm]; exact hxF.fn) (by unfold Frame.raise; rw [hxm]) (by unfold Frame.raise; rw [hxm]; exact hxF.defers) (fun y hy => hk y (List.mem_cons_of_mem _ hy)) hr h

/-- A lone run to the return is a walk. -/
theorem runK_of_lone (hS : P.follows .staticDataAhead = true) (hC : Closed P K) {c : Frame} (hc : EndFrame P c) : ∀ (n : Nat) (fr : Frame) (kcs : List Frame) (w : World) (fr' : Frame) (w' : World), KSt P K fr kcs → NP P w → fr'.mode = .returning → runN P n (lone fr (kcs ++ [c]) w) = .next (lone fr' [c] w') →
    ∃ m, RunK P K [c] m (gor fr kcs [c]) w (gor fr' [] [c]) w' ∧ KSt P K fr' [] := by
  intro n
  induction n with
  | zero =>
    intro fr kcs w fr' w' hk hN hr h
    simp only [runN, Stepped.next.injEq] at h
    obtain ⟨rfl, h2, rfl⟩ := lone_inj h
    have hz : kcs = [] := by
      have := congrArg List.length h2
      simp only [List.length_append, List.length_singleton] at this
      exact List.eq_nil_of_length_eq_zero (by omega)
    subst hz
    exact ⟨0, .zero _ _, hk⟩
  | succ n ih =>
    intro fr kcs w fr' w' hk hN hr h
    rcases step_all hS hC hk with ⟨hm, rfl, fn, hf⟩ | hw
    · -- it is the return itself: the run cannot go on and come back
      exfalso
      have hd := hk.frame.defers
      have hkd := hk.frame.kind
      cases hres : (results fn fr.tmps).runT P w #[] with
      | mk r es =>
        cases r with
        | ok v w2 =>
          have e : stepG P true ⟨fr, [c], .running, none, none⟩ w = .go ⟨c.finish v, [], .running, none, none⟩ w2 (seen P fr.fn es ++ #[]) := by
            unfold stepG unwind
            simp only [hm, hd, hf, hres, doReturn, hkd, GStep.after]
          simp only [runN, List.nil_append, lone_go e] at h
          cases n with
          | zero =>
            simp only [runN, Stepped.next.injEq] at h
            obtain ⟨_, h2, _⟩ := lone_inj h
            cases h2
          | succ n =>
            obtain ⟨o, w3, es3, e3⟩ := hc.finish v w2
            simp only [runN, lone_ended e3] at h
            cases h
        | halt x w2 =>
          have e : ∃ o w3 es3, stepG P true ⟨fr, [c], .running, none, none⟩ w = .ended o w3 es3 := by
            cases x <;> exact ⟨_, _, _, by unfold stepG unwind; simp only [hm, hd, hf, hres, GStep.after]; rfl⟩
          obtain ⟨o, w3, es3, e⟩ := e
          simp only [runN, List.nil_append, lone_ended e] at h
          cases h
    · rcases (hw w hN).1 with ⟨fr1, kcs1, w1, es, hf, hk1⟩ | bad
      · have e : step P (lone fr (kcs ++ [c]) w) = .next (lone fr1 (kcs1 ++ [c]) w1) := lone_go (hf [c]).step
        simp only [runN, e] at h
        obtain ⟨m, r, hk'⟩ := ih fr1 kcs1 w1 fr' w' hk1 (hN.grew (hf [c]).grew) hr h
        exact ⟨m + 1, .succ (hf [c]) ⟨_, _, rfl, hk1⟩ r, hk'⟩
      · exfalso
        rcases bad [c] with ⟨o, w2, es, e⟩ | ⟨w2, es, chain, e⟩
        · simp only [runN, show step P (lone fr (kcs ++ [c]) w) = .ended o w2 from lone_ended e] at h
          cases h
        · have e' : step P (lone fr (kcs ++ [c]) w) = .next (lone { fr with mode := .panicking chain } (kcs ++ [c]) w2) := lone_go e
          simp only [runN, e'] at h
          exact pan_never hC hc n kcs { fr with mode := .panicking chain } chain w2 fr' w' hk.frame.fn rfl hk.frame.defers hk.callers hr h

/-- ████ A contract of the lone calculus, as a walk above any base. -/
theorem walk_of_calls (hS : P.follows .staticDataAhead = true) (hC : Closed P K) {c : Frame} (hc : EndFrame P c) {f : FuncId} (hK : K f = true) {args : Array Value} {w : World} {R : Value → World → Prop} (hN : NP P w)
    (h : Calls P f args w fun e w' => ∃ v, e = .returned v ∧ R v w') (base : List Frame) :
    ∃ n fr w' v, RunK P K base n (gor (Frame.enter P f args .normal) [] base) w (gor fr [] base) w' ∧ KSt P K fr [] ∧ fr.leaving P w' (.returned v) ∧ R v w' := by
  obtain ⟨e, w', fr, ⟨v, rfl, hR⟩, hcomes, _, hl⟩ := h [c]
  obtain ⟨n, hn⟩ := (show Steps P _ _ from hcomes)
  obtain ⟨fn, b, h1, h2, h3⟩ := hC f hK
  have hk0 : KSt P K (Frame.enter P f args .normal) [] := ⟨⟨rfl, rfl, rfl, hK, fun it hit => by
    simp only [Frame.enter, h1, Option.bind_some, h2, Option.getD_some, List.mem_singleton] at hit
    rw [hit]; exact h3⟩, .inl rfl, fun x hx => by cases hx⟩
  obtain ⟨m, r, hk⟩ := runK_of_lone hS hC hc n _ [] w fr w' hk0 hN hl.1 hn
  obtain ⟨fr', kcs', e1, e2, e3⟩ := rebase hS hC (b1 := [c]) (by simp) base r rfl hk0 hN
  simp only [gor, Goroutine.mk.injEq] at e1
  obtain ⟨rfl, e4, _⟩ := e1
  have hz : kcs' = [] := by
    have := congrArg List.length e4
    simp only [List.length_append, List.length_singleton, List.length_nil] at this
    exact List.eq_nil_of_length_eq_zero (by omega)
  subst hz
  exact ⟨m, fr, w', v, e3, hk, hl, hR⟩
end
end Go.Br

namespace Go.Br
open Go Go.Conc
open Go.ConcN (sumTo)
set_option linter.unusedVariables false
set_option linter.unusedSimpArgs false

section
variable {P : Program} {K : FuncId → Bool}

theorem NP.rel {Sh : Nat → Bool} {w u : World} (h : NP P w) (r : Rel Sh w u) : NP P u := fun b hb => by
  obtain ⟨c, e, f, hc⟩ := h b hb
  cases hs : Sh b with
  | false => exact ⟨c, e, f, (r.same b hs).trans hc⟩
  | true => obtain ⟨c', e', f', _, h2⟩ := r.shun b hs; exact ⟨_, _, _, h2⟩

theorem leaving_on {fr : Frame} {w : World} {v : Value} (h : fr.leaving P w (.returned v)) (τ : Tape) (d : Nat) : fr.leaving P (w.on τ d) (.returned v) := by
  obtain ⟨h1, h2, h3, fn, hf, hr⟩ := h
  refine ⟨h1, h2, h3, fn, hf, ?_⟩
  have hrt : ∃ es, (results fn fr.tmps).runT P w #[] = (.ok v w, es) := by
    cases he : (results fn fr.tmps).runT P w #[] with
    | mk r es =>
      have := Sem.runT_fst P (results fn fr.tmps) w #[]
      rw [he, hr] at this
      dsimp only at this
      subst this
      exact ⟨es, rfl⟩
  obtain ⟨es, hrt⟩ := hrt
  obtain ⟨_, k⟩ := (fair_results (P := P) fn fr.tmps).sim (fun _ => false) w (w.on τ d) #[] v w es (rel_self w τ d) hrt
  obtain ⟨Δ, _, alt⟩ := k (fun i hi q => by omega)
  rcases alt #[] with ⟨⟨b, hb⟩, _⟩ | ⟨u', e, ag⟩
  · cases hb
  · have h5 : u' = w.on τ d := by
      have := rel_none ag.rel
      rw [ag.tapeU, ag.drawnU] at this
      simpa [World.on] using this
    rw [h5] at e
    rw [← Sem.runT_fst P (results fn fr.tmps) (w.on τ d) #[], e]

/-- ████ -/
theorem calls_beside (hS : P.follows .staticDataAhead = true) (hC : Closed P K) {c : Frame} (hc : EndFrame P c) {f : FuncId} (hK : K f = true) {args : Array Value} {Sh : Nat → Bool} {w u : World} (hN : NP P w) (hr : Rel Sh w u) {R : Value → World → Prop}
    (hR : ∀ v w τ d, R v w → R v (w.on τ d))
    (h : ∀ τ, Calls P f args (w.on τ 0) fun e w' => ∃ v, e = .returned v ∧ R v w') (hu : ∀ τ, Calls P f args (u.on τ 0) fun e w' => ∃ v, e = .returned v ∧ True)
    {base : List Frame} (hb : base ≠ []) {τ : Tape} {d : Nat} {gs : Array Goroutine} {sl : Option (Nat × Nat)} {t : Trace} {q : Nat → Nat}
    (h0 : gs[0]? = some (gor (Frame.enter P f args .normal) [] base)) (hL : Leavers P t gs q) (hP : Past (ShunOf Sh) w.heap.size t) :
    ∃ (N : Nat) (gs' : Array Goroutine) (fr : Frame) (w' : World) (v : Value) (sl' : Option (Nat × Nat)) (t' : Trace) (q' : Nat → Nat),
      runNT P N (crowd gs (w.on τ d) sl) t = (.next (crowd gs' w' sl'), t') ∧ gs'.size = gs.size ∧ gs'[0]? = some (gor fr [] base) ∧ (fr.leaving P w' (.returned v) ∧ K fr.fn = true ∧ ∃ us v', Rel Sh w' us ∧ fr.leaving P us (.returned v')) ∧ R v w' ∧ Leavers P t' gs' q' ∧ Past (ShunOf Sh) w'.heap.size t' := by
  obtain ⟨fn, b, h1, h2, h3⟩ := hC f hK
  have hk0 : KSt P K (Frame.enter P f args .normal) [] := ⟨⟨rfl, rfl, rfl, hK, fun it hit => by
    simp only [Frame.enter, h1, Option.bind_some, h2, Option.getD_some, List.mem_singleton] at hit
    rw [hit]; exact h3⟩, .inl rfl, fun x hx => by cases hx⟩
  have hNon : ∀ τ, NP P (w.on τ 0) := fun τ b hb => hN b hb
  have hNu : ∀ τ, NP P (u.on τ 0) := fun τ b hb => (hN.rel hr) b hb
  have A : Asked P K base Sh (fun g w => ∃ fr v, g = gor fr [] base ∧ (fr.leaving P w (.returned v) ∧ K fr.fn = true) ∧ R v w) (fun g u => ∃ fr v, g = gor fr [] base ∧ fr.leaving P u (.returned v)) (gor (Frame.enter P f args .normal) [] base) w u := by
    refine ⟨hS, hC, hb, ⟨_, _, rfl, hk0⟩, hN, hr, fun τ => ?_, fun τ => ?_, fun g w τ d ⟨fr, v, e1, e2, e3⟩ => ⟨fr, v, e1, ⟨leaving_on e2.1 τ d, e2.2⟩, hR v w τ d e3⟩⟩
    · obtain ⟨n, fr, w', v, r, hk, hl, hRv⟩ := walk_of_calls hS hC hc hK (hNon τ) (h τ) base
      exact ⟨n, _, w', r, ⟨_, _, rfl, hk⟩, ⟨hl.1, rfl⟩, fr, v, rfl, ⟨hl, hk.frame.fn⟩, hRv⟩
    · obtain ⟨n, fr, w', v, r, hk, hl, _⟩ := walk_of_calls (R := fun _ _ => True) hS hC hc hK (hNu τ) (hu τ) base
      exact ⟨n, _, w', r, ⟨_, _, rfl, hk⟩, ⟨hl.1, rfl⟩, fr, v, rfl, hl⟩
  obtain ⟨N, gs', g', w', sl', t', q', e1, e2, e3, ⟨⟨fr, v, rfl, hl, hRv⟩, us, hrel, fr', v', hfr, hlu⟩, e5, e6⟩ := walk_ends (ends_of A) (sumTo gs.size q) τ d gs sl t q (Nat.le_refl _) h0 hL hP
  have hff : fr = fr' := congrArg Goroutine.frame hfr
  exact ⟨N, gs', fr, w', v, sl', t', q', e1, e2, e3, ⟨hl.1, hl.2, us, v', hrel, by rw [hff]; exact hlu⟩, hRv, e5, e6⟩
end
#print axioms calls_beside
end Go.Br

namespace Go.Br
open Go Go.Conc
open Go.ConcN (sumTo)
set_option linter.unusedVariables false
set_option linter.unusedSimpArgs false

/-- From goroutine 0 at g, world w, whatever leaves beside it, on whatever tape: the machine comes to Q (which places are shunned then, goroutine 0, the world). -/
def WB (P : Program) (Q : (Nat → Bool) → Goroutine → World → Prop) (Sh : Nat → Bool) (g : Goroutine) (w : World) : Prop :=
  ∀ (τ : Tape) (d : Nat) (gs : Array Goroutine) (sl : Option (Nat × Nat)) (t : Trace) (q : Nat → Nat), gs[0]? = some g → Leavers P t gs q → Past (ShunOf Sh) w.heap.size t →
    ∃ (N : Nat) (Sh' : Nat → Bool) (gs' : Array Goroutine) (g' : Goroutine) (w' : World) (sl' : Option (Nat × Nat)) (t' : Trace) (q' : Nat → Nat),
      runNT P N (crowd gs (w.on τ d) sl) t = (.next (crowd gs' w' sl'), t') ∧ gs'[0]? = some g' ∧ Q Sh' g' w' ∧ Leavers P t' gs' q' ∧ Past (ShunOf Sh') w'.heap.size t'

section
variable {P : Program} {K : FuncId → Bool} {Q Q' : (Nat → Bool) → Goroutine → World → Prop} {Sh : Nat → Bool} {g : Goroutine} {w : World}

theorem WB.done (h : ∀ τ d, Q Sh g (w.on τ d)) : WB P Q Sh g w := fun τ d gs sl t q h0 hL hP => ⟨0, Sh, gs, g, _, sl, t, q, rfl, h0, h τ d, hL, hP⟩

theorem WB.bind (h : WB P Q' Sh g w) (hq : ∀ Sh' g' w', Q' Sh' g' w' → WB P Q Sh' g' w') : WB P Q Sh g w := fun τ d gs sl t q h0 hL hP => by
  obtain ⟨N, Sh', gs', g', w', sl', t', q', e1, e2, e3, e4, e5⟩ := h τ d gs sl t q h0 hL hP
  obtain ⟨M, Sh2, gs2, g2, w2, sl2, t2, q2, f1, f2, f3, f4, f5⟩ := hq _ _ _ e3 w'.tape w'.drawn gs' sl' t' q' e2 e4 e5
  refine ⟨N + M, Sh2, gs2, g2, w2, sl2, t2, q2, ?_, f2, f3, f4, f5⟩
  rw [runNT_add, e1]
  exact f1

theorem WB.ends (h : Ends P Sh (fun g' w' => WB P Q Sh g' w') g w) : WB P Q Sh g w := fun τ d gs sl t q h0 hL hP => by
  obtain ⟨N, gs', g', w', sl', t', q', e1, _, e3, e4, e5, e6⟩ := walk_ends h (sumTo gs.size q) τ d gs sl t q (Nat.le_refl _) h0 hL hP
  obtain ⟨M, Sh2, gs2, g2, w2, sl2, t2, q2, f1, f2, f3, f4, f5⟩ := e4 w'.tape w'.drawn gs' sl' t' q' e3 e5 e6
  refine ⟨N + M, Sh2, gs2, g2, w2, sl2, t2, q2, ?_, f2, f3, f4, f5⟩
  rw [runNT_add, e1]
  exact f1

/-- One step of goroutine 0's. -/
theorem WB.step (hr : g.status = .running) (h : ∀ (τ : Tape) (d : Nat), ∃ g1 w1 es, stepG P true g (w.on τ d) = .go g1 w1 es ∧ Grew (w.on τ d) w1 ∧ (∀ e ∈ es, OkEv Sh w1.heap.size e) ∧ WB P Q Sh g1 w1) : WB P Q Sh g w := by
  refine WB.ends (.step hr (fun τ d => (h τ d).choose) (fun τ d => (h τ d).choose_spec.choose) (fun τ d => (h τ d).choose_spec.choose_spec.choose) (fun τ d => ?_) (fun τ d => ?_) (fun τ d => ?_) (fun τ d => ?_))
  · exact (h τ d).choose_spec.choose_spec.choose_spec.1
  · exact (h τ d).choose_spec.choose_spec.choose_spec.2.1
  · exact (h τ d).choose_spec.choose_spec.choose_spec.2.2.1
  · exact .stop fun τ' d' τ2 d2 gs sl t q h0 hL hP => (h τ d).choose_spec.choose_spec.choose_spec.2.2.2 τ2 d2 gs sl t q h0 hL hP

/-- A call of a function of K, made beside leavers: its contract, and the return to the caller. -/
theorem WB.call (hS : P.follows .staticDataAhead = true) (hC : Closed P K) {c : Frame} (hc : EndFrame P c) {f : FuncId} (hK : K f = true) {args : Array Value} {u : World} (hN : NP P w) (hr : Rel Sh w u) {R : Value → World → Prop}
    (hR : ∀ v w τ d, R v w → R v (w.on τ d))
    (h : ∀ τ, Calls P f args (w.on τ 0) fun e w' => ∃ v, e = .returned v ∧ R v w') (hu : ∀ τ, Calls P f args (u.on τ 0) fun e w' => ∃ v, e = .returned v ∧ True)
    {c0 : Frame} {rest : List Frame} (hq : ∀ v w', R v w' → WB P Q Sh ⟨c0.finish v, rest, .running, none, none⟩ w') : WB P Q Sh (gor (Frame.enter P f args .normal) [] (c0 :: rest)) w := by
  refine WB.bind (Q' := fun Sh' g' w' => Sh' = Sh ∧ ∃ fr v, g' = gor fr [] (c0 :: rest) ∧ (fr.leaving P w' (.returned v) ∧ K fr.fn = true ∧ ∃ us v', Rel Sh w' us ∧ fr.leaving P us (.returned v')) ∧ R v w') ?_ ?_
  · intro τ d gs sl t q h0 hL hP
    obtain ⟨N, gs', fr, w', v, sl', t', q', e1, _, e3, e4, e5, e6, e7⟩ := calls_beside hS hC hc hK hN hr hR h hu (by simp) (τ := τ) (d := d) (sl := sl) h0 hL hP
    exact ⟨N, Sh, gs', _, w', sl', t', q', e1, e3, ⟨rfl, fr, v, rfl, e4, e5⟩, e6, e7⟩
  · rintro Sh' g' w' ⟨rfl, fr, v, rfl, ⟨hl, hKf, us, v', hrel, hlu⟩, hRv⟩
    obtain ⟨h1, h2, h3, fn, hf, hr⟩ := hl
    obtain ⟨_, _, _, fn', hf', hru⟩ := hlu
    have e : fn' = fn := Option.some.inj (hf'.symm.trans hf)
    subst e
    refine WB.step rfl fun τ d => ?_
    obtain ⟨_, _, _, fn2, hf2, hr2⟩ := leaving_on (P := P) (fr := fr) (w := w') (v := v) ⟨h1, h2, h3, fn', hf, hr⟩ τ d
    have e2 : fn2 = fn' := Option.some.inj (hf2.symm.trans hf)
    subst e2
    have hrt : ∃ es, (results fn2 fr.tmps).runT P (w'.on τ d) #[] = (.ok v (w'.on τ d), es) := by
      cases he : (results fn2 fr.tmps).runT P (w'.on τ d) #[] with
      | mk r es =>
        have := Sem.runT_fst P (results fn2 fr.tmps) (w'.on τ d) #[]
        rw [he, hr2] at this
        dsimp only at this
        subst this
        exact ⟨es, rfl⟩
    obtain ⟨es, hrt⟩ := hrt
    have hev : ∀ e ∈ es, OkEv Sh' (w'.on τ d).heap.size e := by
      obtain ⟨_, k⟩ := (fair_results (P := P) fn2 fr.tmps).sim Sh' (w'.on τ d) us #[] v (w'.on τ d) es ⟨hrel.os, hrel.output, hrel.size, hrel.same, hrel.shun⟩ hrt
      obtain ⟨Δ, h4, alt⟩ := k (fun i hi q => by omega)
      rcases alt #[] with ⟨_, x, u2, fs, h5, _⟩ | ⟨u2, _, ag⟩
      · exfalso
        have := Sem.runT_fst P (results fn2 fr.tmps) us #[]
        rw [h5, hru] at this
        cases this
      · intro e he
        rw [h4] at he
        exact ag.evs e (by simpa using he)
    refine ⟨⟨c0.finish v, rest, .running, none, none⟩, w'.on τ d, seen P fr.fn es ++ #[], ?_, .refl _, fun e he => ?_, fun τ' d' => hq v w' hRv τ' d'⟩
    · unfold gor stepG unwind
      simp only [h1, h2, hf, hrt, doReturn, h3, List.nil_append, GStep.after]
    · exact hev e (seen_sub (P := P) (fn := fr.fn) (es := es) (by simpa using he))
end
end Go.Br

namespace Go.Ph
open Go Go.Conc Go.ConcN
open Go.ConcR (KK wgBlock WgAt stA smA rd wr mk Payload Aside2 DC0 Bk g_of_ofEvents)
open Go.Br (ShunOf)
set_option linter.unusedVariables false
set_option linter.unusedSimpArgs false
set_option linter.unusedSectionVars false

/-- A worker's values that are still to be sent; 2: on its way, 1: parked, 0: its channel is closed. -/
structure WX where
  left : List Value
  st : Nat

section
variable (P : Program) (ty : TypeId) (Wg : Nat) (rel : TypeId) [Payload]

inductive WS (k : Kid) : WX → WD → Goroutine → World → Prop
  | walk {vs : List Value} {f : Nat} {g : Goroutine} {w : World} : Goes P false (RK ty Wg rel k.cap) (DK rel k.cap) (SendK P ty Wg rel k vs) f g w → WS k ⟨vs, 2⟩ ⟨7, f, 0⟩ g w
  | park {v z : Value} {vs : List Value} {g₂ : Goroutine} {w : World} :
      (∀ w₁, RK ty Wg rel k.cap w w₁ → ∃ m, Goes P false (RK ty Wg rel k.cap) (DK rel k.cap) (SendK P ty Wg rel k vs) m (Conc.served g₂ undef) w₁) → WS k ⟨v :: vs, 1⟩ ⟨7, 0, 0⟩ (parked g₂ #[scase k.c v z] .send) w
  | r0 {f : Nat} {v : Value} {g : Goroutine} {w : World} : Goes P false (RW ty Wg k.box 1 0 0) DC0 (AtR0 P ty Wg k.box 1 0 1 v) f g w → WS k ⟨[], 0⟩ ⟨7, f, 0⟩ g w
  | tail {s f d : Nat} {v : Value} {g : Goroutine} {w : World} : s ≤ 6 → WSit P ty Wg k.box 1 No No 0 1 v s f d g w → WS k ⟨[], 0⟩ ⟨s, f, d⟩ g w

inductive Tg where
  | st (r s : Nat) | rv (ls : List (Nat × List Value)) | rp (ls : List (Nat × List Value)) | wt (c : CTag)

section
variable (Sh : Nat → Bool) (z : Value) (Fin An : Goroutine → World → Prop) (V : Nat → List Value)

def RStop (ks : List Kid) (c : Nat) (l : List Value) (ls : List (Nat × List Value)) : Goroutine → World → Prop :=
  match l with
  | [] => AtRecv P ty Wg z c fun v g₂ w₂ => v = .tuple #[z, .bool false] → RcvS P ty Wg rel Sh z An ks ls g₂ w₂
  | x :: xs => AtRecv P ty Wg z c fun v g₂ w₂ => v = .tuple #[x, .bool true] → RcvS P ty Wg rel Sh z An ks ((c, xs) :: ls) g₂ w₂

theorem rcvS_cons (ks : List Kid) (c : Nat) (l : List Value) (ls : List (Nat × List Value)) (g : Goroutine) (w : World) :
    RcvS P ty Wg rel Sh z An ks ((c, l) :: ls) g w ↔ ∃ m, Goes P true (RR ty Wg) (DC ty Wg rel Sh (kpR Wg ks)) (RStop P ty Wg rel Sh z An ks c l ls) m g w := by
  cases l <;> exact Iff.rfl

/-- Tag, fuel, deafness. -/
inductive CS (ks : List Kid) : Tg → Nat → Nat → Goroutine → World → Prop
  | s5 {r m : Nat} {g : Goroutine} {w : World} : GS P ty Wg rel Sh ks (G5 P ty Wg rel Sh z An V r ks) m g w → CS ks (.st r 5) m 0 g w
  | s3 {r m : Nat} {g : Goroutine} {w : World} : GS P ty Wg rel Sh ks (G3 P ty Wg rel Sh z An V r ks) m g w → CS ks (.st r 3) m 1 g w
  | s2 {r m : Nat} {g : Goroutine} {w : World} : GS P ty Wg rel Sh ks (G2 P ty Wg rel Sh z An V r ks) m g w → CS ks (.st r 2) m 0 g w
  | rv {c m : Nat} {l : List Value} {ls : List (Nat × List Value)} {g : Goroutine} {w : World} : Goes P true (RR ty Wg) (DC ty Wg rel Sh (kpR Wg ks)) (RStop P ty Wg rel Sh z An ks c l ls) m g w → CS ks (.rv ((c, l) :: ls)) m 0 g w
  | rp {c : Nat} {l : List Value} {ls : List (Nat × List Value)} {g : Goroutine} {w : World} : (∀ w₁, RR ty Wg w w₁ → RStop P ty Wg rel Sh z An ks c l ls g w₁) → CS ks (.rp ((c, l) :: ls)) 0 0 (parked (core g) #[rcase c z] (.recv true)) w
  | kd {m : Nat} {g : Goroutine} {w : World} : Goes P true (RC ty Wg Wg) (DQ Wg) (XKd P ty Wg An) m g w → CS ks (.wt .kd) m 0 g w
  | anch {m : Nat} {g : Goroutine} {w : World} : Goes P true (RC ty Wg Wg) (DQ Wg) An m g w → CS ks (.wt .anch) m 1 g w
  | w1 {m : Nat} {g : Goroutine} {w : World} : Goes P true (RC ty Wg Wg) (DQ Wg) (XW1 P ty Wg Fin An) m g w → CS ks (.wt .w1) m 1 g w
  | w2 {vs m : Nat} {g : Goroutine} {w : World} : Goes P true (RC ty Wg Wg) (DQ Wg) (XW2 P ty Wg Fin An vs) m g w → CS ks (.wt (.w2 vs)) m 1 g w
  | w3 {m : Nat} {g : Goroutine} {w : World} : Goes P true (RC ty Wg Wg) (DQ Wg) (XW3 P ty Wg Fin) m g w → CS ks (.wt .w3) (m + 1) 1 g w
  | blk {g : Goroutine} {w : World} : (∀ w₁, RC ty Wg Wg w w₁ → XW3 P ty Wg Fin g w₁) → CS ks (.wt .blk) 0 1 { g with status := .blocked } w
  | w4 {m : Nat} {g : Goroutine} {w : World} : Goes P true (RC ty Wg Wg) (DQ Wg) (XW4 P ty Wg Fin) m g w → CS ks (.wt .w4) m 1 g w
  | ke {m : Nat} {g : Goroutine} {w : World} : Goes P true (RC ty Wg Wg) (DQ Wg) (XKe P ty Wg Fin) m g w → CS ks (.wt .ke) m 1 g w
  | acq {m : Nat} {g : Goroutine} {w : World} : Goes P true (RC ty Wg Wg) (DQ Wg) (XAcq P ty Wg Fin) m g w → CS ks (.wt .acq) m 0 g w
end
end

/-- What the starter suffers, by where it stands. -/
def relyOf (ty : TypeId) (Wg : Nat) : Tg → World → World → Prop
  | .st _ _ => RS
  | .rv _ => RR ty Wg
  | .rp _ => RR ty Wg
  | .wt _ => RC ty Wg Wg

section
variable {P : Program} {ty : TypeId} {Wg : Nat} {rel : TypeId} [Payload] {Sh : Nat → Bool} {z : Value} {Fin An : Goroutine → World → Prop} {V : Nat → List Value} {ks : List Kid} {k : Kid} {x : WX} {d : WD} {g : Goroutine} {w w' w₁ : World} {tag : Tg} {f d0 : Nat} {a : Goroutine}

theorem rw_of_rk (h : RK ty Wg rel k.cap w w₁) (hb : k.cap k.box) : RW ty Wg k.box 1 0 0 w w₁ := by
  have e := h.keep k.box (.inl hb)
  exact ⟨fun b hb => absurd hb (Nat.not_lt_zero _), h.live, fun ⟨cs, hc, hn⟩ => ⟨cs, e.trans hc, hn⟩, cell_of_block e 0⟩

theorem WS.rely (h : WS P ty Wg rel k x d g w) (hr : RK ty Wg rel k.cap w w₁) (hb : k.cap k.box) : WS P ty Wg rel k x d g w₁ := by
  have tr : ∀ a b c, RK ty Wg rel k.cap a b → RK ty Wg rel k.cap b c → RK ty Wg rel k.cap a c := fun _ _ _ h1 h2 => h1.trans h2
  have tw : ∀ a b c, RW ty Wg k.box 1 0 0 a b → RW ty Wg k.box 1 0 0 b c → RW ty Wg k.box 1 0 0 a c := fun _ _ _ h1 h2 => h1.trans h2
  cases h with
  | walk h => exact .walk (Goes.rely tr h hr)
  | park h => exact .park fun w₂ h₂ => h w₂ (hr.trans h₂)
  | r0 h => exact .r0 (Goes.rely tw h (rw_of_rk hr hb))
  | tail hs h => exact .tail hs (h.rely (rw_of_rk hr hb))

theorem SendK.run : ∀ {l : List Value} {g : Goroutine} {w : World}, SendK P ty Wg rel k l g w → g.status = .running
  | [], _, _, h => h.1
  | _ :: _, _, _, h => h.1

theorem WS.status (h : WS P ty Wg rel k x d g w) : (x.st ≠ 1 ∧ (g.status = .running ∨ g.status = .finished)) ∨ (x.st = 1 ∧ g.status = .blocked) := by
  cases h with
  | walk h => exact .inl ⟨by simp, .inl (Goes.running (fun _ _ => SendK.run) w (.refl w) h)⟩
  | park h => exact .inr ⟨rfl, rfl⟩
  | r0 h => exact .inl ⟨by simp, .inl (Goes.running (fun _ _ x => x.1) w (RW.refl w) h)⟩
  | tail _ h => exact .inl ⟨by simp, h.status⟩

theorem WS.woken (h : WS P ty Wg rel k x d g w) (ho : x.st = 1 → ∃ s r tm, w'.heap[k.c]? = some (.chan 0 #[] false s r tm)) (a a' : Goroutine) : woken P a a' w' g = g := by
  unfold Go.Conc.woken
  split
  · cases h with
    | walk h => exact again_running _ (.inl (Goes.running (fun _ _ => SendK.run) w (.refl w) h))
    | park h =>
      obtain ⟨s, r, tm, hc⟩ := ho rfl
      exact again_parked_open rfl hc
    | r0 h => exact again_running _ (.inl (Goes.running (fun _ _ x => x.1) w (RW.refl w) h))
    | tail _ h => exact again_running _ h.status
  · rfl

theorem RStop.run {c : Nat} {l : List Value} {ls : List (Nat × List Value)} (h : RStop P ty Wg rel Sh z An ks c l ls g w) : g.status = .running := by
  cases l <;> exact h.1
theorem RStop.comm {c : Nat} {l : List Value} {ls : List (Nat × List Value)} (h : RStop P ty Wg rel Sh z An ks c l ls g w) : stepG P true g w = .comm (core g) #[rcase c z] true (.recv true) w #[] := by
  cases l <;> exact h.2.1
/-- The same frame, callers: the same stop. -/
theorem RStop.same {c : Nat} {l : List Value} {ls : List (Nat × List Value)} {g' : Goroutine} (h : RStop P ty Wg rel Sh z An ks c l ls g w) (h0 : g'.status = .running) (h1 : g'.frame = g.frame) (h2 : g'.callers = g.callers) (h3 : g'.dying = g.dying) : RStop P ty Wg rel Sh z An ks c l ls g' w := by
  have e : core g' = core g := by
    obtain ⟨f, c, s, d, o⟩ := g
    obtain ⟨f', c', s', d', o'⟩ := g'
    simp only at h1 h2 h3
    subst h1 h2 h3
    rfl
  have s := stepG_same (P := P) (main := true) h1 h2 h3 w
  cases l with
  | nil => exact ⟨h0, by rw [s, e]; exact h.2.1, by rw [e]; exact h.2.2⟩
  | cons v l => exact ⟨h0, by rw [s, e]; exact h.2.1, by rw [e]; exact h.2.2⟩

theorem CS.rely (h : CS P ty Wg rel Sh z Fin An V ks tag f d0 a w) (hr : relyOf ty Wg tag w w') : CS P ty Wg rel Sh z Fin An V ks tag f d0 a w' := by
  have tr : ∀ x y z, RC ty Wg Wg x y → RC ty Wg Wg y z → RC ty Wg Wg x z := fun _ _ _ h1 h2 => h1.trans h2
  have ts : ∀ x y z, RS x y → RS y z → RS x z := fun _ _ _ h1 h2 => h1.trans h2
  have t2 : ∀ x y z, RR ty Wg x y → RR ty Wg y z → RR ty Wg x z := fun _ _ _ h1 h2 => h1.trans h2
  cases h with
  | s5 h => exact .s5 (Goes.rely ts h hr)
  | s3 h => exact .s3 (Goes.rely ts h hr)
  | s2 h => exact .s2 (Goes.rely ts h hr)
  | rv h => exact .rv (Goes.rely t2 h hr)
  | rp h => exact .rp fun w₂ h₂ => h w₂ (RR.trans hr h₂)
  | kd h => exact .kd (Goes.rely tr h hr)
  | anch h => exact .anch (Goes.rely tr h hr)
  | w1 h => exact .w1 (Goes.rely tr h hr)
  | w2 h => exact .w2 (Goes.rely tr h hr)
  | w3 h => exact .w3 (Goes.rely tr h hr)
  | blk h => exact .blk (fun w₂ h₂ => h w₂ (RC.trans hr h₂))
  | w4 h => exact .w4 (Goes.rely tr h hr)
  | ke h => exact .ke (Goes.rely tr h hr)
  | acq h => exact .acq (Goes.rely tr h hr)

def asleep : Tg → Prop
  | .rp _ | .wt .blk => True
  | _ => False

theorem CS.status (hAr : ∀ g w, An g w → g.status = .running) (h : CS P ty Wg rel Sh z Fin An V ks tag f d0 a w) : (a.status = .running ∧ ¬ asleep tag) ∨ (a.status = .blocked ∧ asleep tag) := by
  cases h with
  | s5 h => exact .inl ⟨Goes.running (fun _ _ x => x.1) w (.refl w) h, by simp [asleep]⟩
  | s3 h => exact .inl ⟨Goes.running (fun _ _ x => x.1) w (.refl w) h, by simp [asleep]⟩
  | s2 h => exact .inl ⟨Goes.running (fun _ _ x => x.1) w (.refl w) h, by simp [asleep]⟩
  | rv h => exact .inl ⟨Goes.running (fun _ _ x => x.run) w (.refl w) h, by simp [asleep]⟩
  | rp h => exact .inr ⟨rfl, trivial⟩
  | kd h => exact .inl ⟨Goes.running (fun _ _ x => x.1) w (.refl w) h, by simp [asleep]⟩
  | anch h => exact .inl ⟨Goes.running hAr w (.refl w) h, by simp [asleep]⟩
  | w1 h => exact .inl ⟨Goes.running (fun _ _ x => x.1) w (.refl w) h, by simp [asleep]⟩
  | w2 h => exact .inl ⟨Goes.running (fun _ _ x => x.1) w (.refl w) h, by simp [asleep]⟩
  | w3 h => exact .inl ⟨Goes.running (fun _ _ x => x.1) w (.refl w) h, by simp [asleep]⟩
  | blk h => exact .inr ⟨rfl, trivial⟩
  | w4 h => exact .inl ⟨Goes.running (fun _ _ x => x.1) w (.refl w) h, by simp [asleep]⟩
  | ke h => exact .inl ⟨Goes.running (fun _ _ x => x.1) w (.refl w) h, by simp [asleep]⟩
  | acq h => exact .inl ⟨Goes.running (fun _ _ x => x.1) w (.refl w) h, by simp [asleep]⟩

/-- Let try again: as it stood, or awake. -/
def Wakes (t t' : Tg) : Prop := t' = t ∨ (∃ ls, t = .rp ls ∧ t' = .rv ls) ∨ (t = .wt .blk ∧ t' = .wt .w3)

/-- Under another's step: as it stood; or it is let try again. A starter that waits at an open channel goes on waiting; at a closed one it is let try again, wherever the step is one that may wake. -/
theorem CS.wokenBy (hAr : ∀ g w, An g w → g.status = .running) (h : CS P ty Wg rel Sh z Fin An V ks tag f d0 a w) (hr : relyOf ty Wg tag w w') (g g' : Goroutine)
    (hch : ∀ c l ls, tag = .rp ((c, l) :: ls) → ∃ cl s r tm, w'.heap[c]? = some (.chan 0 #[] cl s r tm) ∧ (cl = true → mayWake P g = true ∧ g'.status = .running)) :
    ∃ tag' f', CS P ty Wg rel Sh z Fin An V ks tag' f' d0 (woken P g g' w' a) w' ∧ f' ≤ f + 1 ∧ Wakes tag tag' ∧ (mayWake P g = true → g'.status = .running → tag' ≠ .wt .blk) ∧
      (∀ c l ls, tag' = .rp ((c, l) :: ls) → ∃ s r tm, w'.heap[c]? = some (.chan 0 #[] false s r tm)) ∧ ((∀ c l ls, tag = .rp ((c, l) :: ls) → ∃ s r tm, w'.heap[c]? = some (.chan 0 #[] false s r tm)) → (∀ ls, tag = .rp ls → tag' = tag)) := by
  have h' := h.rely hr
  have stay : (woken P g g' w' a = a) → (mayWake P g = true → g'.status = .running → tag ≠ .wt .blk) → (∀ c l ls, tag = .rp ((c, l) :: ls) → ∃ s r tm, w'.heap[c]? = some (.chan 0 #[] false s r tm)) → ∃ tag' f', CS P ty Wg rel Sh z Fin An V ks tag' f' d0 (woken P g g' w' a) w' ∧ f' ≤ f + 1 ∧ Wakes tag tag' ∧ (mayWake P g = true → g'.status = .running → tag' ≠ .wt .blk) ∧
      (∀ c l ls, tag' = .rp ((c, l) :: ls) → ∃ s r tm, w'.heap[c]? = some (.chan 0 #[] false s r tm)) ∧ ((∀ c l ls, tag = .rp ((c, l) :: ls) → ∃ s r tm, w'.heap[c]? = some (.chan 0 #[] false s r tm)) → (∀ ls, tag = .rp ls → tag' = tag)) :=
    fun e hb hc => ⟨tag, f, by rw [e]; exact h', by omega, .inl rfl, hb, hc, fun _ _ _ => rfl⟩
  rcases h'.status hAr with ⟨hs, hne⟩ | ⟨hs, hsl⟩
  · refine stay ?_ (fun _ _ e => hne (by rw [e]; trivial)) fun c l ls e => absurd (show asleep tag by rw [e]; trivial) hne
    unfold Go.Conc.woken
    split
    · exact again_running _ (.inl hs)
    · rfl
  · cases h' with
    | rp hb =>
      rename_i c l ls g0
      obtain ⟨cl, s, r, tm, hc, hcl⟩ := hch c l ls rfl
      cases cl with
      | false =>
        refine stay ?_ (fun _ _ e => by cases e) fun c' l' ls' e => by
          simp only [Tg.rp.injEq, List.cons.injEq, Prod.mk.injEq] at e
          obtain ⟨⟨rfl, rfl⟩, rfl⟩ := e
          exact ⟨s, r, tm, hc⟩
        unfold Go.Conc.woken
        split
        · exact again_parked_open rfl hc
        · rfl
      | true =>
        obtain ⟨hmw, hrun⟩ := hcl rfl
        have e : woken P g g' w' (parked (core g0) #[rcase c z] (.recv true)) = { parked (core g0) #[rcase c z] (.recv true) with status := .running } := by
          unfold Go.Conc.woken
          rw [if_pos (by simp [hmw, hrun])]
          exact again_parked_shut rfl hc
        refine ⟨.rv ((c, l) :: ls), 0, ?_, by omega, .inr (.inl ⟨_, rfl, rfl⟩), fun _ _ => by simp, fun _ _ _ e => by simp at e, fun ho => ?_⟩
        · rw [e]
          exact .rv (Goes.stop fun w₂ h₂ => (hb w₂ h₂).same rfl rfl rfl rfl)
        · obtain ⟨_, _, _, ho⟩ := ho c l ls rfl
          rw [hc] at ho
          cases ho
    | blk hb =>
      rename_i g0
      have h3 := hb w' (RC.refl w')
      by_cases hwk : (mayWake P g && g'.status != .blocked && g'.status != .waiting) = true
      · refine ⟨.wt .w3, 0 + 1, ?_, by omega, .inr (.inr ⟨rfl, rfl⟩), fun _ _ => by simp, fun _ _ _ e => by simp at e, fun _ _ e => by simp at e⟩
        have e : woken P g g' w' ({ g0 with status := .blocked } : Goroutine) = g0 := by
          unfold Go.Conc.woken
          rw [if_pos hwk]
          exact Go.ConcR.again_blocked h3.1 h3.2.1 _
        rw [e]
        exact .w3 (Goes.stop hb)
      · refine stay ?_ (fun h1 h2 => absurd (by simp [h1, h2]) hwk) fun _ _ _ e => by simp at e
        unfold Go.Conc.woken
        rw [if_neg hwk]
    | _ => exact hsl.elim
end
end Go.Ph

namespace Go.Ph
open Go Go.Conc Go.ConcN
open Go.ConcR (KK wgBlock WgAt stA smA rd wr mk Payload Aside2 DC0 Bk g_of_ofEvents bk_of_mute ofEvent_loc_mark loc_of_ofEvent)
open Go.Br (ShunOf)
set_option linter.unusedVariables false
set_option linter.unusedSimpArgs false
set_option linter.unusedSectionVars false

def RdOf (rel : TypeId) (ks : List Kid) (w : World) (i : Nat) (l : Loc) : Prop := (∃ a : Addr, l = .cell a ∧ ∃ k, ks[i]? = some k ∧ (k.cap a.block ∨ IsTy rel w a.block)) ∨ ∃ k, ks[i]? = some k ∧ l = .obj k.c

/-- A change of the world that the workers bear. -/
structure WOk (ty : TypeId) (Wg : Nat) (rel : TypeId) (ks : List Kid) (w w' : World) : Prop where
  size : w.heap.size ≤ w'.heap.size
  keep : ∀ b, (∃ k ∈ ks, k.cap b) ∨ IsTy rel w b → w'.heap[b]? = w.heap[b]?
  back : ∀ b, b < w.heap.size → IsTy rel w' b → IsTy rel w b
  live : WgLive ty Wg w → WgLive ty Wg w'

section
variable (P : Program) (ty : TypeId) (Wg : Nat) (rel : TypeId) [Payload] (Sh : Nat → Bool)
structure Com (m0 : Nat) (ks : List Kid) (gs : Array Goroutine) (w : World) (t : Trace) (X : Nat → WX) (D : Nat → WD) (q : Nat → Nat) (d0 : Nat) : Prop where
  pos : 0 < m0
  size : gs.size = m0 + ks.length
  old : ∀ i g, 0 < i → i < m0 → gs[i]? = some g → QuitsD P (q i) (Deaf t i) g
  above : ∀ i, m0 + ks.length ≤ i → Deaf t i = 0
  kid : ∀ (i : Nat) (k : Kid), ks[i]? = some k → ∃ g, gs[m0 + i]? = some g ∧ WS P ty Wg rel k (X i) (D i) g w ∧ (∃ s r tm, w.heap[k.c]? = some (.chan 0 #[] ((X i).st == 0) s r tm)) ∧ Deaf t (m0 + i) = (D i).deaf ∧ ((D i).stage ≤ 6 → ∃ r, RelBy (stA Wg) t (m0 + i) r)
  fit : ∀ (i : Nat) (k : Kid), ks[i]? = some k → k.cap k.box ∧ PayAt k.box 1 w ∧ ∀ b, k.cap b → b ≠ Wg ∧ Sh b = false ∧ ∃ c e f, w.heap[b]? = some (.cells c e f)
  dist : ∀ (i i' : Nat) (k k' : Kid), ks[i]? = some k → ks[i']? = some k' → k.c = k'.c → i = i'
  norel : NoRelease (stA Wg) t
  tr : TP (ShunOf Sh) (ShN Wg) m0 ks.length (RdOf rel ks w) w.heap.size t
  deaf0 : Deaf t 0 = d0
  live : WgLive ty Wg w
  shw : Sh Wg = false
  shty : ∀ b, Sh b = true → b < w.heap.size ∧ ¬ IsTy rel w b
  shc : ∀ k ∈ ks, Sh k.c = false
  lo : ∀ k ∈ ks, Wg < k.c
end

section
variable {P : Program} {ty : TypeId} {Wg : Nat} {rel : TypeId} [Payload] {Sh : Nat → Bool} {m0 : Nat} {ks : List Kid} {gs gs' : Array Goroutine} {w w' : World} {t u : Trace} {X X' : Nat → WX} {D D' : Nat → WD} {q q' : Nat → Nat} {d0 d0' : Nat}

theorem WOk.refl (w : World) : WOk ty Wg rel ks w w := ⟨Nat.le_refl _, fun _ _ => rfl, fun _ _ h => h, id⟩
theorem WOk.at (w : World) (d : Nat) : WOk ty Wg rel ks w (w.at d) := ⟨Nat.le_refl _, fun _ _ => rfl, fun _ _ h => h, id⟩
theorem WOk.of_old (hs : w.heap.size ≤ w'.heap.size) (ho : ∀ b, b < w.heap.size → w'.heap[b]? = w.heap[b]?) (hc : ∀ k ∈ ks, ∀ b, k.cap b → b < w.heap.size) : WOk ty Wg rel ks w w' := by
  refine ⟨hs, fun b hb => ho b ?_, fun b hb h => h.of (ho b hb).symm, fun ⟨st, sm, hl⟩ => ⟨st, sm, hl.of_block (ho Wg ?_)⟩⟩
  · rcases hb with ⟨k, hk, hb⟩ | hb
    · exact hc k hk b hb
    · exact hb.lt
  · exact (Array.getElem?_eq_some_iff.1 (show w.heap[Wg]? = _ from hl)).1
theorem WOk.of_dc {kp : Nat → Prop} {es : Array Event} (h : DC ty Wg rel Sh kp w w' es) (hk : ∀ b, keptBy ks b → kp b) : WOk ty Wg rel ks w w' :=
  ⟨h.size, fun b hb => h.keep b (hb.imp (fun ⟨k, hk', hb⟩ => hk b ⟨k, hk', .inr hb⟩) id), h.back, h.live⟩
theorem isTy_wg {st sm : Int} (h : WgAt ty Wg w st sm) (hne : ty ≠ rel) : ¬ IsTy rel w Wg := by
  rintro ⟨c, f, h'⟩
  have h : w.heap[Wg]? = some (wgBlock ty st sm) := h
  rw [h] at h'
  unfold wgBlock at h'
  simp only [Option.some.injEq, Obj.cells.injEq] at h'
  exact hne h'.2.1
theorem WOk.of_wg (hne : ty ≠ rel) (hA : Aside Wg w w') (hl : WgLive ty Wg w) (hl' : WgLive ty Wg w') (hc : ∀ k ∈ ks, ∀ b, k.cap b → b ≠ Wg) : WOk ty Wg rel ks w w' := by
  refine ⟨Nat.le_of_eq hA.size.symm, fun b hb => hA.block b ?_, fun b hb h => ?_, fun _ => hl'⟩
  · rintro rfl
    rcases hb with ⟨k, hk, hb⟩ | hb
    · exact hc k hk b hb rfl
    · obtain ⟨_, _, h⟩ := hl; exact isTy_wg h hne hb
  · by_cases e : b = Wg
    · subst e
      obtain ⟨_, _, h'⟩ := hl'
      exact absurd h (isTy_wg h' hne)
    · exact h.of (hA.block b e).symm
theorem WOk.of_chan {c : Nat} (hA : Aside c w w') (hc : IsChan w c) (hc' : IsChan w' c) (hcap : ∀ k ∈ ks, ∀ b, k.cap b → b ≠ c) : WOk ty Wg rel ks w w' := by
  refine ⟨Nat.le_of_eq hA.size.symm, fun b hb => hA.block b ?_, fun b hb h => ?_, fun ⟨st, sm, hl⟩ => ⟨st, sm, hl.of_block (hA.block Wg ?_)⟩⟩
  · rintro rfl
    rcases hb with ⟨k, hk, hb⟩ | hb
    · exact hcap k hk b hb rfl
    · exact hb.notChan hc
  · by_cases e : b = c
    · subst e; exact absurd hc' h.notChan
    · exact h.of (hA.block b e).symm
  · rintro rfl
    obtain ⟨_, _, _, _, _, _, h⟩ := hc
    have hl : w.heap[Wg]? = some (wgBlock ty st sm) := hl
    rw [hl] at h; cases h

theorem mem_of_get {i : Nat} {k : Kid} (h : ks[i]? = some k) : k ∈ ks := List.mem_of_getElem? h
theorem get_lt {i : Nat} {k : Kid} (h : ks[i]? = some k) : i < ks.length := (List.getElem?_eq_some_iff.1 h).1
theorem get_of_lt {i : Nat} (h : i < ks.length) : ∃ k, ks[i]? = some k := ⟨_, List.getElem?_eq_getElem h⟩

theorem WOk.rk (h : WOk ty Wg rel ks w w') {k : Kid} (hk : k ∈ ks) : RK ty Wg rel k.cap w w' := ⟨h.size, fun b hb => h.keep b (hb.imp (fun x => ⟨k, hk, x⟩) id), h.live⟩


theorem Com.capLt (h : Com P ty Wg rel Sh m0 ks gs w t X D q d0) : ∀ k ∈ ks, ∀ b, k.cap b → b < w.heap.size := fun k hk b hb => by
  obtain ⟨i, hi⟩ := List.getElem?_of_mem hk
  obtain ⟨_, _, c, e, f, hc⟩ := (h.fit i k hi).2.2 b hb
  exact (Array.getElem?_eq_some_iff.1 hc).1
theorem Com.capWg (h : Com P ty Wg rel Sh m0 ks gs w t X D q d0) : ∀ k ∈ ks, ∀ b, k.cap b → b ≠ Wg := fun k hk b hb => by
  obtain ⟨i, hi⟩ := List.getElem?_of_mem hk
  exact ((h.fit i k hi).2.2 b hb).1
theorem Com.capChan (h : Com P ty Wg rel Sh m0 ks gs w t X D q d0) {i : Nat} {k' : Kid} (hk' : ks[i]? = some k') : ∀ k ∈ ks, ∀ b, k.cap b → b ≠ k'.c := fun k hk b hb e => by
  obtain ⟨j, hj⟩ := List.getElem?_of_mem hk
  obtain ⟨_, _, c, e', f, hc⟩ := (h.fit j k hj).2.2 b hb
  obtain ⟨_, _, _, ⟨_, _, _, hch⟩, _⟩ := h.kid i k' hk'
  rw [e, hch] at hc; cases hc
theorem Com.isChan (h : Com P ty Wg rel Sh m0 ks gs w t X D q d0) {i : Nat} {k : Kid} (hk : ks[i]? = some k) : IsChan w k.c := by
  obtain ⟨_, _, _, ⟨_, _, _, hch⟩, _⟩ := h.kid i k hk
  exact ⟨_, _, _, _, _, _, hch⟩
theorem Com.wgLt (h : Com P ty Wg rel Sh m0 ks gs w t X D q d0) : Wg < w.heap.size := by obtain ⟨_, _, hl⟩ := h.live; exact (Array.getElem?_eq_some_iff.1 (show w.heap[Wg]? = _ from hl)).1

theorem Com.ap (h : Com P ty Wg rel Sh m0 ks gs w t X D q d0) (hne : ty ≠ rel) : Ap (ShunOf Sh) (ShN Wg) ks.length (RdOf rel ks w) := by
  refine ⟨?_, ?_, ?_, ?_⟩
  · rintro l ⟨a, rfl, rfl⟩ hs
    have : Sh a.block = true := hs
    rw [h.shw] at this; cases this
  · rintro i hi l (⟨a, rfl, k, hk, hr⟩ | ⟨k, hk, rfl⟩) ⟨a', e, hw⟩
    · cases e
      rcases hr with hr | hr
      · exact ((h.fit i k hk).2.2 _ hr).1 hw
      · obtain ⟨_, _, hl⟩ := h.live
        rw [hw] at hr
        exact isTy_wg hl hne hr
    · cases e
  · rintro i hi l (⟨a, rfl, k, hk, hr⟩ | ⟨k, hk, rfl⟩) hs
    · have hs : Sh a.block = true := hs
      rcases hr with hr | hr
      · rw [((h.fit i k hk).2.2 _ hr).2.1] at hs; cases hs
      · exact (h.shty _ hs).2 hr
    · have hs : Sh k.c = true := hs
      rw [h.shc k (mem_of_get hk)] at hs; cases hs
  · rintro i hi l (⟨a, rfl, _⟩ | ⟨k, hk, rfl⟩) <;> rfl

theorem Com.grow (h : Com P ty Wg rel Sh m0 ks gs w t X D q d0) (hw : WOk ty Wg rel ks w w') : TP (ShunOf Sh) (ShN Wg) m0 ks.length (RdOf rel ks w') w'.heap.size t := by
  refine h.tr.grow hw.size ?_ ?_
  · rintro i hi l (⟨a, rfl, k, hk, hr⟩ | ⟨k, hk, rfl⟩)
    · exact .inl ⟨a, rfl, k, hk, hr.imp id fun x => x.of (hw.keep _ (.inr x))⟩
    · exact .inr ⟨k, hk, rfl⟩
  · rintro i hi l (⟨a, rfl, k, hk, hr⟩ | ⟨k, hk, rfl⟩) hl
    · exact .inl ⟨a, rfl, k, hk, hr.imp id fun x => hw.back _ hl x⟩
    · exact .inr ⟨k, hk, rfl⟩

theorem Com.next (h : Com P ty Wg rel Sh m0 ks gs w t X D q d0) (hw : WOk ty Wg rel ks w w') (hsize : gs'.size = gs.size)
    (hold : ∀ i g, 0 < i → i < m0 → gs'[i]? = some g → QuitsD P (q' i) (Deaf (t ++ u) i) g) (habove : ∀ i, m0 + ks.length ≤ i → Deaf (t ++ u) i = 0)
    (hkid : ∀ (i : Nat) (k : Kid), ks[i]? = some k → ∃ g, gs'[m0 + i]? = some g ∧ WS P ty Wg rel k (X' i) (D' i) g w' ∧ (∃ s r tm, w'.heap[k.c]? = some (.chan 0 #[] ((X' i).st == 0) s r tm)) ∧ Deaf (t ++ u) (m0 + i) = (D' i).deaf ∧ ((D' i).stage ≤ 6 → ∃ r, RelBy (stA Wg) (t ++ u) (m0 + i) r))
    (hnr : ∀ op ∈ u, op.act ≠ .mark (.release (stA Wg))) (htr : TP (ShunOf Sh) (ShN Wg) m0 ks.length (RdOf rel ks w') w'.heap.size (t ++ u)) (hd0 : Deaf (t ++ u) 0 = d0') :
    Com P ty Wg rel Sh m0 ks gs' w' (t ++ u) X' D' q' d0' := by
  refine ⟨h.pos, hsize.trans h.size, hold, habove, hkid, fun i k hk => ?_, h.dist, h.norel.app hnr, htr, hd0, hw.live h.live, h.shw, fun b hb => ⟨Nat.lt_of_lt_of_le (h.shty b hb).1 hw.size, fun x => (h.shty b hb).2 (hw.back b (h.shty b hb).1 x)⟩, h.shc, h.lo⟩
  obtain ⟨h1, ⟨cs, h2, h3⟩, h4⟩ := h.fit i k hk
  have kp : ∀ b, k.cap b → w'.heap[b]? = w.heap[b]? := fun b hb => hw.keep b (.inl ⟨k, mem_of_get hk, hb⟩)
  exact ⟨h1, ⟨cs, (kp _ h1).trans h2, h3⟩, fun b hb => ⟨(h4 b hb).1, (h4 b hb).2.1, by obtain ⟨c, e, f, hc⟩ := (h4 b hb).2.2; exact ⟨c, e, f, (kp b hb).trans hc⟩⟩⟩

theorem get_set_same {i : Nat} (x : Goroutine) (hi : i < gs.size) : (gs.setIfInBounds i x)[i]? = some x := by simp [hi]
theorem get_set_ne {i j : Nat} (x : Goroutine) (hi : i ≠ j) : (gs.setIfInBounds i x)[j]? = gs[j]? := Array.getElem?_setIfInBounds_ne hi

/-- A draw of the scheduler's. -/
theorem Com.at' (h : Com P ty Wg rel Sh m0 ks gs w t X D q d0) (d : Nat) : Com P ty Wg rel Sh m0 ks gs (w.at d) t X D q d0 := by
  have := h.next (gs' := gs) (u := #[]) (X' := X) (D' := D) (q' := q) (d0' := d0) (WOk.at w d) rfl (by simpa using h.old) (by simpa using h.above) (fun i k hk => by
    obtain ⟨g, h1, h2, h3, h4, h5⟩ := h.kid i k hk
    exact ⟨g, h1, h2.rely ((WOk.at w d).rk (mem_of_get hk)) (h.fit i k hk).1, h3, by simpa using h4, by simpa using h5⟩) (by simp) (by simpa using h.grow (WOk.at w d)) (by simpa using h.deaf0)
  simpa using this

/-- A step of worker i's. -/
theorem Com.stepWt (h : Com P ty Wg rel Sh m0 ks gs w t X D q d0) (hne : ty ≠ rel) {i : Nat} {k : Kid} (hk : ks[i]? = some k) {g g' : Goroutine} {fn : FuncId} {pos : String} {es : Array Event} {x' : WX} {d' : WD}
    (hw : WOk ty Wg rel ks w w') (hch : ∀ (i' : Nat) (k' : Kid), ks[i']? = some k' → ∃ s r tm, w'.heap[k'.c]? = some (.chan 0 #[] ((upd X i x' i').st == 0) s r tm))
    (hs' : WS P ty Wg rel k x' d' g' w') (hok : Ap (ShunOf Sh) (ShN Wg) ks.length (RdOf rel ks w') → TP (ShunOf Sh) (ShN Wg) m0 ks.length (RdOf rel ks w') w'.heap.size t → TP (ShunOf Sh) (ShN Wg) m0 ks.length (RdOf rel ks w') w'.heap.size (t ++ MemOp.ofEvents (m0 + i) fn pos es))
    (hnr : ∀ op ∈ MemOp.ofEvents (m0 + i) fn pos es, op.act ≠ .mark (.release (stA Wg))) (hdeaf : deafBehind (D i).deaf es = d'.deaf)
    (hrel : d'.stage ≤ 6 → ∃ r, RelBy (stA Wg) (t ++ MemOp.ofEvents (m0 + i) fn pos es) (m0 + i) r) :
    Com P ty Wg rel Sh m0 ks ((gs.map (woken P g g' w')).setIfInBounds (m0 + i) g') w' (t ++ MemOp.ofEvents (m0 + i) fn pos es) (upd X i x') (upd D i d') q d0 := by
  have hlt := get_lt hk
  have hap := h.ap hne
  have hap' : Ap (ShunOf Sh) (ShN Wg) ks.length (RdOf rel ks w') := by
    refine ⟨hap.sh, ?_, ?_, ?_⟩
    · rintro j hj l (⟨a, rfl, k', hk', hr⟩ | ⟨k', hk', rfl⟩) ⟨a', e, hwg⟩
      · cases e
        rcases hr with hr | hr
        · exact h.capWg k' (mem_of_get hk') _ hr hwg
        · obtain ⟨_, _, hl⟩ := hw.live h.live
          rw [hwg] at hr
          exact isTy_wg hl hne hr
      · cases e
    · rintro j hj l (⟨a, rfl, k', hk', hr⟩ | ⟨k', hk', rfl⟩) hs
      · have hs : Sh a.block = true := hs
        rcases hr with hr | hr
        · rw [((h.fit j k' hk').2.2 _ hr).2.1] at hs; cases hs
        · exact (h.shty _ hs).2 (hw.back _ (h.shty _ hs).1 hr)
      · have hs : Sh k'.c = true := hs
        rw [h.shc k' (mem_of_get hk')] at hs; cases hs
    · rintro j hj l (⟨a, rfl, _⟩ | ⟨k', hk', rfl⟩) <;> rfl
  refine h.next hw (by simp) (fun j x hj hjm hx => ?_) (fun j hj => ?_) (fun i' k' hk' => ?_) hnr (hok hap' (h.grow hw)) ?_
  · rw [get_map_set _ _ _ _ (by omega)] at hx
    obtain ⟨y, hy, rfl⟩ := Option.map_eq_some_iff.1 hx
    have hq := h.old j y hj hjm hy
    rw [woken_quitsD hq, Deaf_other t (by omega) _ g_of_ofEvents]
    exact hq
  · rw [Deaf_other t (by omega) _ g_of_ofEvents]; exact h.above j hj
  · by_cases e : i' = i
    · subst e
      rw [hk] at hk'; cases hk'
      refine ⟨g', get_map_set_same _ _ _ (by rw [h.size]; omega), by rw [upd_same, upd_same]; exact hs', hch i' k hk, ?_, by rw [upd_same]; exact hrel⟩
      obtain ⟨_, _, _, _, hd, _⟩ := h.kid i' k hk
      rw [Deaf_own, hd, upd_same]; exact hdeaf
    · obtain ⟨y, hy, hsy, _, hd, hr⟩ := h.kid i' k' hk'
      have hc := hch i' k' hk'
      refine ⟨y, ?_, by rw [upd_ne _ _ e, upd_ne _ _ e]; exact hsy.rely (hw.rk (mem_of_get hk')) (h.fit i' k' hk').1, hc, ?_, ?_⟩
      · rw [get_map_set _ _ _ _ (by omega), hy, Option.map_some, hsy.woken (fun h1 => ?_)]
        rw [upd_ne _ _ e] at hc
        rw [h1] at hc
        exact hc
      · rw [Deaf_other t (by omega) _ g_of_ofEvents, hd, upd_ne _ _ e]
      · rw [upd_ne _ _ e]
        intro hst
        obtain ⟨r, hr⟩ := hr hst
        exact ⟨r, hr.appOther g_of_ofEvents (by omega)⟩
  · rw [Deaf_other t (by have := h.pos; omega) _ g_of_ofEvents]; exact h.deaf0

theorem Com.stepW (h : Com P ty Wg rel Sh m0 ks gs w t X D q d0) (hne : ty ≠ rel) {i : Nat} {k : Kid} (hk : ks[i]? = some k) {g g' : Goroutine} {fn : FuncId} {pos : String} {es : Array Event} {x' : WX} {d' : WD}
    (hw : WOk ty Wg rel ks w w') (hch : ∀ (i' : Nat) (k' : Kid), ks[i']? = some k' → ∃ s r tm, w'.heap[k'.c]? = some (.chan 0 #[] ((upd X i x' i').st == 0) s r tm))
    (hs' : WS P ty Wg rel k x' d' g' w') (hok : ∀ op ∈ MemOp.ofEvents (m0 + i) fn pos es, OkW (ShN Wg) (RdOf rel ks w' i) w'.heap.size op)
    (hnr : ∀ op ∈ MemOp.ofEvents (m0 + i) fn pos es, op.act ≠ .mark (.release (stA Wg))) (hdeaf : deafBehind (D i).deaf es = d'.deaf)
    (hrel : d'.stage ≤ 6 → ∃ r, RelBy (stA Wg) (t ++ MemOp.ofEvents (m0 + i) fn pos es) (m0 + i) r) :
    Com P ty Wg rel Sh m0 ks ((gs.map (woken P g g' w')).setIfInBounds (m0 + i) g') w' (t ++ MemOp.ofEvents (m0 + i) fn pos es) (upd X i x') (upd D i d') q d0 :=
  h.stepWt hne hk hw hch hs' (fun A T => T.appW A (get_lt hk) g_of_ofEvents hok) hnr hdeaf hrel

/-- A step of the starter's. -/
theorem Com.step0 (h : Com P ty Wg rel Sh m0 ks gs w t X D q d0) (hne : ty ≠ rel) {a a' : Goroutine} {fn : FuncId} {pos : String} {es : Array Event}
    (hw : WOk ty Wg rel ks w w') (hch : ∀ (i : Nat) (k : Kid), ks[i]? = some k → w'.heap[k.c]? = w.heap[k.c]?)
    (hok : ∀ op ∈ MemOp.ofEvents 0 fn pos es, Ok0 (ShunOf Sh) (ShN Wg) ks.length (RdOf rel ks w') w'.heap.size op)
    (hnr : ∀ op ∈ MemOp.ofEvents 0 fn pos es, op.act ≠ .mark (.release (stA Wg))) :
    Com P ty Wg rel Sh m0 ks ((gs.map (woken P a a' w')).setIfInBounds 0 a') w' (t ++ MemOp.ofEvents 0 fn pos es) X D q (deafBehind d0 es) := by
  have hp := h.pos
  have hap := h.ap hne
  have hap' : Ap (ShunOf Sh) (ShN Wg) ks.length (RdOf rel ks w') := by
    refine ⟨hap.sh, ?_, ?_, ?_⟩
    · rintro j hj l (⟨a, rfl, k', hk', hr⟩ | ⟨k', hk', rfl⟩) ⟨a', e, hwg⟩
      · cases e
        rcases hr with hr | hr
        · exact h.capWg k' (mem_of_get hk') _ hr hwg
        · obtain ⟨_, _, hl⟩ := hw.live h.live
          rw [hwg] at hr
          exact isTy_wg hl hne hr
      · cases e
    · rintro j hj l (⟨a, rfl, k', hk', hr⟩ | ⟨k', hk', rfl⟩) hs
      · have hs : Sh a.block = true := hs
        rcases hr with hr | hr
        · rw [((h.fit j k' hk').2.2 _ hr).2.1] at hs; cases hs
        · exact (h.shty _ hs).2 (hw.back _ (h.shty _ hs).1 hr)
      · have hs : Sh k'.c = true := hs
        rw [h.shc k' (mem_of_get hk')] at hs; cases hs
    · rintro j hj l (⟨a, rfl, _⟩ | ⟨k', hk', rfl⟩) <;> rfl
  refine h.next hw (by simp) (fun j x hj hjm hx => ?_) (fun j hj => ?_) (fun i' k' hk' => ?_) hnr ((h.grow hw).app0 hap' g_of_ofEvents hok) ?_
  · rw [get_map_set _ _ _ _ (by omega)] at hx
    obtain ⟨y, hy, rfl⟩ := Option.map_eq_some_iff.1 hx
    have hq := h.old j y hj hjm hy
    rw [woken_quitsD hq, Deaf_other t (by omega) _ g_of_ofEvents]
    exact hq
  · rw [Deaf_other t (by omega) _ g_of_ofEvents]; exact h.above j hj
  · obtain ⟨y, hy, hsy, hc, hd, hr⟩ := h.kid i' k' hk'
    rw [← hch i' k' hk'] at hc
    refine ⟨y, ?_, hsy.rely (hw.rk (mem_of_get hk')) (h.fit i' k' hk').1, hc, ?_, fun hst => ?_⟩
    · rw [get_map_set _ _ _ _ (by omega), hy, Option.map_some, hsy.woken (fun h1 => ?_)]
      rw [h1] at hc
      exact hc
    · rw [Deaf_other t (by omega) _ g_of_ofEvents, hd]
    · obtain ⟨r, hr⟩ := hr hst
      exact ⟨r, hr.appOther g_of_ofEvents (by omega)⟩
  · rw [Deaf_own, h.deaf0]

/-- A step of one that is only leaving. -/
theorem Com.stepQ (h : Com P ty Wg rel Sh m0 ks gs w t X D q d0) {i : Nat} (hi0 : 0 < i) (him : i < m0) {g g' : Goroutine} {fn : FuncId} {pos : String} {es : Array Event} {kq : Nat} (hm : ∀ e ∈ es, e.mute = true) (hq' : QuitsD P kq (deafBehind (Deaf t i) es) g') :
    Com P ty Wg rel Sh m0 ks ((gs.map (woken P g g' w)).setIfInBounds i g') w (t ++ MemOp.ofEvents i fn pos es) X D (upd q i kq) d0 := by
  refine h.next (WOk.refl w) (by simp) (fun j x hj hjm hx => ?_) (fun j hj => ?_) (fun i' k' hk' => ?_) (fun op hop => ?_) ((h.grow (WOk.refl w)).appN (fun op hop => ?_) fun op hop => ?_) ?_
  · by_cases e : i = j
    · subst e
      rw [get_map_set_same _ _ _ (by rw [h.size]; omega)] at hx
      cases hx
      rw [upd_same, Deaf_own]; exact hq'
    · rw [get_map_set _ _ _ _ e] at hx
      obtain ⟨y, hy, rfl⟩ := Option.map_eq_some_iff.1 hx
      have hq := h.old j y hj hjm hy
      rw [woken_quitsD hq, upd_ne _ _ (Ne.symm e), Deaf_other t e _ g_of_ofEvents]
      exact hq
  · rw [Deaf_other t (by omega) _ g_of_ofEvents]; exact h.above j hj
  · obtain ⟨y, hy, hsy, hc, hd, hr⟩ := h.kid i' k' hk'
    refine ⟨y, ?_, hsy, hc, ?_, fun hst => ?_⟩
    · rw [get_map_set _ _ _ _ (by omega), hy, Option.map_some, hsy.woken (fun h1 => ?_)]
      rw [h1] at hc
      exact hc
    · rw [Deaf_other t (by omega) _ g_of_ofEvents, hd]
    · obtain ⟨r, hr⟩ := hr hst
      exact ⟨r, hr.appOther g_of_ofEvents (by omega)⟩
  · obtain ⟨e, he, rfl⟩ := Go.Conc.mem_ofEvents hop
    intro hx
    have := loc_of_ofEvent hx
    have hmu := hm e he
    obtain ⟨loc, wr, sy⟩ := e
    dsimp only at this
    subst this
    cases hmu
  · obtain ⟨e, he, rfl⟩ := Go.Conc.mem_ofEvents hop; exact touch_mute (hm e he)
  · obtain ⟨e, he, rfl⟩ := Go.Conc.mem_ofEvents hop; exact low_mute (hm e he) _
  · rw [Deaf_other t (by omega) _ g_of_ofEvents]; exact h.deaf0
end
end Go.Ph

namespace Go.Ph
open Go Go.Conc Go.ConcN
open Go.ConcR (KK wgBlock WgAt stA smA rd wr mk Payload Aside2 DC0 Bk g_of_ofEvents bk_of_mute ofEvent_loc_mark loc_of_ofEvent ofEvent_cell ofEvent_mk)
open Go.Br (ShunOf)
set_option linter.unusedVariables false
set_option linter.unusedSimpArgs false
set_option linter.unusedSectionVars false

section
variable {P : Program} {ty : TypeId} {Wg : Nat} {rel : TypeId} [Payload] {Sh : Nat → Bool} {m0 : Nat} {ks : List Kid} {gs gs' : Array Goroutine} {w w' : World} {t u : Trace} {X X' : Nat → WX} {D D' : Nat → WD} {q q' : Nat → Nat} {d0 d0' : Nat}

/-! ### entries -/
theorem ext_facts {e : Event} (h : (∃ f, e.loc = .mark (.extern f)) ∨ e.loc = .mark .noRoom) : (MemAct.ofEvent e).touch? = none ∧ (∀ B, (MemAct.ofEvent e).low B) ∧ e.loc ≠ .mark .disable ∧ e.loc ≠ .mark .enable ∧ ∀ a, e.loc ≠ .mark (.release a) := by
  rcases h with ⟨f, h⟩ | h
  all_goals
    refine ⟨by rw [ofEvent_loc_mark h]; rfl, fun B => by rw [ofEvent_loc_mark h]; trivial, by rw [h]; simp, by rw [h]; simp, fun a => by rw [h]; simp⟩

theorem evK_facts {cap : Nat → Prop} {e : Event} (h : EvK rel cap w e) : e.loc ≠ .mark .disable ∧ e.loc ≠ .mark .enable ∧ e.loc ≠ .mark (.release (stA Wg)) := by
  rcases h with ⟨a, rfl, _⟩ | h
  · exact ⟨by simp, by simp, by simp⟩
  · have := ext_facts h; exact ⟨this.2.2.1, this.2.2.2.1, this.2.2.2.2 _⟩
theorem evC_facts {kp : Nat → Prop} {e : Event} (h : EvC Wg rel Sh kp w e) : e.loc ≠ .mark .disable ∧ e.loc ≠ .mark .enable ∧ e.loc ≠ .mark (.release (stA Wg)) := by
  rcases h with ⟨a, wt, rfl, _⟩ | ⟨a, wt, rfl, _⟩ | ⟨a, h, _⟩ | h
  · exact ⟨by simp, by simp, by simp⟩
  · exact ⟨by simp, by simp, by simp⟩
  · rcases h with h | h <;> rw [h] <;> exact ⟨by simp, by simp, by simp⟩
  · have := ext_facts h; exact ⟨this.2.2.1, this.2.2.2.1, this.2.2.2.2 _⟩

theorem okW_of_evK {i : Nat} {k : Kid} (hk : ks[i]? = some k) (hw : WOk ty Wg rel ks w w') {g : Nat} {fn : FuncId} {pos : String} {es : Array Event} (h : ∀ e ∈ es, EvK rel k.cap w e) :
    ∀ op ∈ MemOp.ofEvents g fn pos es, OkW (ShN Wg) (RdOf rel ks w' i) w'.heap.size op := by
  intro op hop
  obtain ⟨e, he, rfl⟩ := Go.Conc.mem_ofEvents hop
  rcases h e he with ⟨a, rfl, hlt, hr⟩ | hx
  · refine ⟨?_, fun x hx => .inr ?_⟩
    · simp only [ofEvent_cell]; exact Nat.lt_of_lt_of_le hlt hw.size
    · simp only [ofEvent_cell, MemAct.touch?, Option.some.injEq] at hx
      subst hx
      exact ⟨.inl ⟨a, rfl, k, hk, hr.imp id fun y => y.of (hw.keep _ (.inr y))⟩, rfl, rfl⟩
  · have := ext_facts hx
    exact ⟨this.2.1 _, fun x hx => by simp only [this.1] at hx; cases hx⟩

theorem ok0_of_evC {kp : Nat → Prop} (hkp : ∀ b, keptBy ks b → kp b) (hl : WgLive ty Wg w') {fn : FuncId} {pos : String} {es : Array Event} (h : ∀ e ∈ es, EvC Wg rel Sh kp w' e) :
    ∀ op ∈ MemOp.ofEvents 0 fn pos es, Ok0 (ShunOf Sh) (ShN Wg) ks.length (RdOf rel ks w') w'.heap.size op := by
  intro op hop
  have hlt : Wg < w'.heap.size := by obtain ⟨_, _, hl⟩ := hl; exact (Array.getElem?_eq_some_iff.1 (show w'.heap[Wg]? = _ from hl)).1
  obtain ⟨e, he, rfl⟩ := Go.Conc.mem_ofEvents hop
  rcases h e he with ⟨a, wt, rfl, h1, h2, h3, h4⟩ | ⟨a, wt, rfl, h1⟩ | ⟨a, h1, h2⟩ | hx
  · refine ⟨by simp only [ofEvent_cell]; exact h1, fun x hx => .inr ?_⟩
    simp only [ofEvent_cell, MemAct.touch?, Option.some.injEq] at hx
    subst hx
    refine ⟨?_, fun hs => ?_, fun hwt i hi hr => ?_⟩
    · rintro ⟨a', e, hw⟩; cases e; exact h2 hw
    · have hs : Sh a.block = true := hs
      rw [h3] at hs; cases hs
    · obtain ⟨a', e, k, hk, hr⟩ | ⟨k, hk, e⟩ := hr
      case inr => cases e
      cases e
      obtain ⟨n1, n2⟩ := h4 hwt
      rcases hr with hr | hr
      · exact n1 (hkp _ ⟨k, mem_of_get hk, .inr hr⟩)
      · exact n2 hr
  · refine ⟨by simp only [ofEvent_cell]; show a.block < _; rw [h1]; exact hlt, fun x hx => .inl ?_⟩
    simp only [ofEvent_cell, MemAct.touch?, Option.some.injEq] at hx
    subst hx
    exact ⟨⟨a, rfl, h1⟩, by simp⟩
  · have hlow : a.block < w'.heap.size := by rw [h2]; exact hlt
    rcases h1 with h1 | h1
    all_goals
      refine ⟨by simp only [ofEvent_loc_mark h1]; exact hlow, fun x hx => .inl ?_⟩
      simp only [ofEvent_loc_mark h1, MemAct.touch?, Option.some.injEq] at hx
      subst hx
      exact ⟨⟨a, rfl, h2⟩, by simp⟩
  · have := ext_facts hx
    exact ⟨this.2.1 _, fun x hx => by simp only [this.1] at hx; cases hx⟩

theorem norel_of {g : Nat} {fn : FuncId} {pos : String} {es : Array Event} (h : ∀ e ∈ es, e.loc ≠ .mark (.release (stA Wg))) : ∀ op ∈ MemOp.ofEvents g fn pos es, op.act ≠ .mark (.release (stA Wg)) := by
  intro op hop e
  obtain ⟨x, hx, rfl⟩ := Go.Conc.mem_ofEvents hop
  exact h x hx (loc_of_ofEvent e)

/-- The library's bookkeeping. -/
theorem okW_of_bk {R : Loc → Prop} {B : Nat} (hlt : Wg < B) {g : Nat} {fn : FuncId} {pos : String} {es : Array Event} (h : ∀ e ∈ es, Bk Wg e) : ∀ op ∈ MemOp.ofEvents g fn pos es, OkW (ShN Wg) R B op := by
  intro op hop
  obtain ⟨e, he, rfl⟩ := Go.Conc.mem_ofEvents hop
  rcases h e he with h1 | h1 | ⟨a, wr, rfl, ha⟩
  · exact ⟨by simp only [ofEvent_loc_mark h1]; trivial, fun x hx => by simp only [ofEvent_loc_mark h1] at hx; cases hx⟩
  · exact ⟨by simp only [ofEvent_loc_mark h1]; trivial, fun x hx => by simp only [ofEvent_loc_mark h1] at hx; cases hx⟩
  · refine ⟨by simp only [ofEvent_cell]; show a.block < B; rw [ha]; exact hlt, fun x hx => ?_⟩
    simp only [ofEvent_cell, MemAct.touch?, Option.some.injEq] at hx
    subst hx
    exact .inl ⟨⟨a, rfl, ha⟩, rfl⟩
theorem ok0_of_bk {S : Loc → Prop} {R : Nat → Loc → Prop} {j B : Nat} (hlt : Wg < B) {fn : FuncId} {pos : String} {es : Array Event} (h : ∀ e ∈ es, Bk Wg e) : ∀ op ∈ MemOp.ofEvents 0 fn pos es, Ok0 S (ShN Wg) j R B op := by
  intro op hop
  obtain ⟨e, he, rfl⟩ := Go.Conc.mem_ofEvents hop
  rcases h e he with h1 | h1 | ⟨a, wr, rfl, ha⟩
  · exact ⟨by simp only [ofEvent_loc_mark h1]; trivial, fun x hx => by simp only [ofEvent_loc_mark h1] at hx; cases hx⟩
  · exact ⟨by simp only [ofEvent_loc_mark h1]; trivial, fun x hx => by simp only [ofEvent_loc_mark h1] at hx; cases hx⟩
  · refine ⟨by simp only [ofEvent_cell]; show a.block < B; rw [ha]; exact hlt, fun x hx => ?_⟩
    simp only [ofEvent_cell, MemAct.touch?, Option.some.injEq] at hx
    subst hx
    exact .inl ⟨⟨a, rfl, ha⟩, by simp⟩
theorem ok0_of_evQ {S : Loc → Prop} {R : Nat → Loc → Prop} {j B : Nat} (hlt : Wg < B) {fn : FuncId} {pos : String} {es : Array Event} (h : ∀ e ∈ es, EvQ Wg e) : ∀ op ∈ MemOp.ofEvents 0 fn pos es, Ok0 S (ShN Wg) j R B op := by
  intro op hop
  obtain ⟨e, he, rfl⟩ := Go.Conc.mem_ofEvents hop
  rcases h e he with ⟨a, h1, h2⟩ | hx
  · have hlow : a.block < B := by rw [h2]; exact hlt
    rcases h1 with h1 | h1
    all_goals
      refine ⟨by simp only [ofEvent_loc_mark h1]; exact hlow, fun x hx => .inl ?_⟩
      simp only [ofEvent_loc_mark h1, MemAct.touch?, Option.some.injEq] at hx
      subst hx
      exact ⟨⟨a, rfl, h2⟩, by simp⟩
  · have := ext_facts hx
    exact ⟨this.2.1 _, fun x hx => by simp only [this.1] at hx; cases hx⟩
theorem evQ_facts {e : Event} (h : EvQ Wg e) : e.loc ≠ .mark .disable ∧ e.loc ≠ .mark .enable ∧ e.loc ≠ .mark (.release (stA Wg)) := by
  rcases h with ⟨a, h, _⟩ | h
  · rcases h with h | h <;> rw [h] <;> exact ⟨by simp, by simp, by simp⟩
  · have := ext_facts h; exact ⟨this.2.2.1, this.2.2.2.1, this.2.2.2.2 _⟩
theorem bk_norel {es : Array Event} (h : ∀ e ∈ es, Bk Wg e) : ∀ e ∈ es, e.loc ≠ .mark (.release (stA Wg)) := by
  intro e he hl
  rcases h e he with h1 | h1 | ⟨a, wr, rfl, _⟩
  · rw [h1] at hl; cases hl
  · rw [h1] at hl; cases hl
  · cases hl

/-- Operations that touch nothing and are no word of the library's. -/
structure Plain (B : Nat) (op : MemOp) : Prop where
  touch : op.act.touch? = none
  low : op.act.low B
  dis : op.act ≠ .mark .disable
  en : op.act ≠ .mark .enable
  rel : ∀ a, op.act ≠ .mark (.release a)


/-- A communication of worker i's, with the starter or not: no other turns. -/
theorem Com.comm (h : Com P ty Wg rel Sh m0 ks gs w t X D q d0) {i : Nat} {k : Kid} (hk : ks[i]? = some k) {g' : Goroutine} {x' : WX} {f' : Nat} (hsz : gs'.size = gs.size) (h1 : gs'[m0 + i]? = some g') (h2 : ∀ j, j ≠ 0 → j ≠ m0 + i → gs'[j]? = gs[j]?)
    (hw : WOk ty Wg rel ks w w') (hch : ∀ (i' : Nat) (k' : Kid), ks[i']? = some k' → ∃ s r tm, w'.heap[k'.c]? = some (.chan 0 #[] ((upd X i x' i').st == 0) s r tm)) (hs' : WS P ty Wg rel k x' ⟨7, f', 0⟩ g' w') (hd : (D i).deaf = 0)
    (hg : ∀ op ∈ u, op.g = 0 ∨ op.g = m0 + i) (hu : ∀ op ∈ u, Plain w'.heap.size op) : Com P ty Wg rel Sh m0 ks gs' w' (t ++ u) (upd X i x') (upd D i ⟨7, f', 0⟩) q d0 := by
  have hp := h.pos
  have hst : ∀ g, Deaf (t ++ u) g = Deaf t g := fun g => Deaf_still t g u fun op hop => ⟨(hu op hop).dis, (hu op hop).en⟩
  refine h.next hw hsz (fun j x hj hjm hx => ?_) (fun j hj => by rw [hst]; exact h.above j hj) (fun i' k' hk' => ?_) (fun op hop => (hu op hop).rel _) ((h.grow hw).appN (fun op hop => (hu op hop).touch) fun op hop => (hu op hop).low) (by rw [hst]; exact h.deaf0)
  · rw [h2 j (by omega) (by omega)] at hx
    rw [hst]; exact h.old j x hj hjm hx
  · by_cases e : i' = i
    · subst e
      rw [hk] at hk'; cases hk'
      obtain ⟨_, _, _, _, hdf, _⟩ := h.kid i' k hk
      exact ⟨g', h1, by rw [upd_same, upd_same]; exact hs', hch i' k hk, by rw [hst, hdf, upd_same]; exact hd, by rw [upd_same]; intro hc; exact absurd hc (by simp)⟩
    · obtain ⟨y, hy, hsy, _, hdf, hr⟩ := h.kid i' k' hk'
      refine ⟨y, by rw [h2 _ (by omega) (by omega)]; exact hy, by rw [upd_ne _ _ e, upd_ne _ _ e]; exact hsy.rely (hw.rk (mem_of_get hk')) (h.fit i' k' hk').1, hch i' k' hk', by rw [hst, hdf, upd_ne _ _ e], ?_⟩
      rw [upd_ne _ _ e]
      intro hs
      obtain ⟨r, hr⟩ := hr hs
      exact ⟨r, hr.appNot fun op hop => by rcases hg op hop with e' | e' <;> omega⟩

/-- The starter alone turns; the world stands. -/
theorem Com.only0 (h : Com P ty Wg rel Sh m0 ks gs w t X D q d0) (hsz : gs'.size = gs.size) (h2 : ∀ j, j ≠ 0 → gs'[j]? = gs[j]?) (hg : ∀ op ∈ u, op.g = 0) (hu : ∀ op ∈ u, Plain w.heap.size op) : Com P ty Wg rel Sh m0 ks gs' w (t ++ u) X D q d0 := by
  have hp := h.pos
  have hst : ∀ g, Deaf (t ++ u) g = Deaf t g := fun g => Deaf_still t g u fun op hop => ⟨(hu op hop).dis, (hu op hop).en⟩
  refine h.next (WOk.refl w) hsz (fun j x hj hjm hx => ?_) (fun j hj => by rw [hst]; exact h.above j hj) (fun i' k' hk' => ?_) (fun op hop => (hu op hop).rel _) ((h.grow (WOk.refl w)).appN (fun op hop => (hu op hop).touch) fun op hop => (hu op hop).low) (by rw [hst]; exact h.deaf0)
  · rw [h2 j (by omega)] at hx
    rw [hst]; exact h.old j x hj hjm hx
  · obtain ⟨y, hy, hsy, hc, hdf, hr⟩ := h.kid i' k' hk'
    refine ⟨y, by rw [h2 _ (by omega)]; exact hy, hsy, hc, by rw [hst, hdf], fun hs => ?_⟩
    obtain ⟨r, hr⟩ := hr hs
    exact ⟨r, hr.appNot fun op hop => by rw [hg op hop]; omega⟩

/-- A go statement. -/
theorem Com.spawn (h : Com P ty Wg rel Sh m0 ks gs w t X D q d0) (hne : ty ≠ rel) (hd : d0 = 0) {V : Nat → List Value} {a' child : Goroutine} {x y : MemOp} {m : Nat} {k : Kid} (hx : x.g = 0 ∧ x.act = .go (m0 + ks.length)) (hy : y.g = m0 + ks.length ∧ y.act = .start) (hko : KidOk Wg Sh ks k w)
    (hc : Goes P false (RK ty Wg rel k.cap) (DK rel k.cap) (SendK P ty Wg rel k (V ks.length)) m child w) :
    Com P ty Wg rel Sh m0 (ks ++ [k]) ((gs.setIfInBounds 0 a').push child) w (t ++ #[x, y]) (upd X ks.length ⟨V ks.length, 2⟩) (upd D ks.length ⟨7, m, 0⟩) q 0 := by
  have hp := h.pos
  subst hd
  have hm : ∀ op ∈ #[x, y], op = x ∨ op = y := by intro op hop; simpa using hop
  have hst0 : ∀ op ∈ #[x, y], op.act ≠ .mark .disable ∧ op.act ≠ .mark .enable := by
    intro op hop
    rcases hm op hop with rfl | rfl
    · rw [hx.2]; exact ⟨by simp, by simp⟩
    · rw [hy.2]; exact ⟨by simp, by simp⟩
  have hst : ∀ g, Deaf (t ++ #[x, y]) g = Deaf t g := fun g => Deaf_still t g _ hst0
  have hnew : ∀ (i : Nat) (k' : Kid), (ks ++ [k])[i]? = some k' → (i < ks.length ∧ ks[i]? = some k') ∨ (i = ks.length ∧ k' = k) := by
    intro i k' hk'
    rcases Nat.lt_or_ge i ks.length with hlt | hge
    · exact .inl ⟨hlt, by rwa [List.getElem?_append_left hlt] at hk'⟩
    · rw [List.getElem?_append_right hge] at hk'
      have := get_lt hk'
      simp only [List.length_cons, List.length_nil] at this
      have e : i = ks.length := by omega
      subst e
      simp only [Nat.sub_self, List.getElem?_cons_zero, Option.some.injEq] at hk'
      exact .inr ⟨rfl, hk'.symm⟩
  have hold : ∀ {i : Nat} {k' : Kid}, ks[i]? = some k' → (ks ++ [k])[i]? = some k' := fun {i k'} hk' => by rw [List.getElem?_append_left (get_lt hk')]; exact hk'
  have hap := h.ap hne
  have hap' : Ap (ShunOf Sh) (ShN Wg) (ks.length + 1) (RdOf rel (ks ++ [k]) w) := by
    refine ⟨hap.sh, ?_, ?_, ?_⟩
    · rintro j hj l (⟨a, rfl, k', hk', hr⟩ | ⟨k', hk', rfl⟩) ⟨a', e, hwg⟩
      · cases e
        rcases hr with hr | hr
        · rcases hnew j k' hk' with ⟨_, hk''⟩ | ⟨_, rfl⟩
          · exact h.capWg k' (mem_of_get hk'') _ hr hwg
          · exact (hko.cap _ hr).1 hwg
        · obtain ⟨_, _, hl⟩ := h.live
          rw [hwg] at hr
          exact isTy_wg hl hne hr
      · cases e
    · rintro j hj l (⟨a, rfl, k', hk', hr⟩ | ⟨k', hk', rfl⟩) hs
      · have hs : Sh a.block = true := hs
        rcases hr with hr | hr
        · rcases hnew j k' hk' with ⟨_, hk''⟩ | ⟨_, rfl⟩
          · rw [((h.fit j k' hk'').2.2 _ hr).2.1] at hs; cases hs
          · rw [(hko.cap _ hr).2.1] at hs; cases hs
        · exact (h.shty _ hs).2 hr
      · have hs : Sh k'.c = true := hs
        rcases hnew j k' hk' with ⟨_, hk''⟩ | ⟨_, rfl⟩
        · rw [h.shc k' (mem_of_get hk'')] at hs; cases hs
        · rw [hko.shc] at hs; cases hs
    · rintro j hj l (⟨a, rfl, _⟩ | ⟨k', hk', rfl⟩) <;> rfl
  have htr : TP (ShunOf Sh) (ShN Wg) m0 ks.length (RdOf rel (ks ++ [k]) w) w.heap.size t := by
    refine h.tr.grow (Nat.le_refl _) ?_ ?_
    · rintro i hi l (⟨a, rfl, k', hk', hr⟩ | ⟨k', hk', rfl⟩)
      · exact .inl ⟨a, rfl, k', hold hk', hr⟩
      · exact .inr ⟨k', hold hk', rfl⟩
    · rintro i hi l (⟨a, rfl, k', hk', hr⟩ | ⟨k', hk', rfl⟩) _
      · rcases hnew i k' hk' with ⟨_, hk''⟩ | ⟨e, _⟩
        · exact .inl ⟨a, rfl, k', hk'', hr⟩
        · omega
      · rcases hnew i k' hk' with ⟨_, hk''⟩ | ⟨e, _⟩
        · exact .inr ⟨k', hk'', rfl⟩
        · omega
  have hlen : (ks ++ [k]).length = ks.length + 1 := by simp
  refine ⟨hp, by simp [h.size]; omega, fun i g hi him hg => ?_, fun i hi => ?_, fun i k' hk' => ?_, fun i k' hk' => ?_, fun i i' k1 k2 h1 h2 e => ?_, h.norel.app fun op hop => ?_, ?_, by rw [hst]; exact h.deaf0, h.live, h.shw, h.shty, fun k' hk' => (List.mem_append.1 hk').elim (h.shc k') fun e => by rw [List.mem_singleton] at e; subst e; exact hko.shc, fun k' hk' => (List.mem_append.1 hk').elim (h.lo k') fun e => by rw [List.mem_singleton] at e; subst e; exact hko.lo⟩
  · rw [Array.getElem?_push_lt (by simp [h.size]; omega), ← Array.getElem?_eq_getElem, Array.getElem?_setIfInBounds_ne (by omega)] at hg
    rw [hst]; exact h.old i g hi him hg
  · rw [hst]; exact h.above i (by rw [hlen] at hi; omega)
  · rcases hnew i k' hk' with ⟨hlt, hk''⟩ | ⟨rfl, rfl⟩
    · obtain ⟨g, hg, hs, hch, hdf, hr⟩ := h.kid i k' hk''
      refine ⟨g, ?_, by rw [upd_ne _ _ (by omega), upd_ne _ _ (by omega)]; exact hs, by rw [upd_ne _ _ (by omega)]; exact hch, by rw [hst, hdf, upd_ne _ _ (by omega)], ?_⟩
      · rw [Array.getElem?_push_lt (by simp [h.size]; omega), ← Array.getElem?_eq_getElem, Array.getElem?_setIfInBounds_ne (by omega)]
        exact hg
      · rw [upd_ne _ _ (by omega)]
        intro hs6
        obtain ⟨r, hr⟩ := hr hs6
        refine ⟨r, hr.appNot fun op hop => ?_⟩
        rcases hm op hop with rfl | rfl
        · rw [hx.1]; omega
        · rw [hy.1]; omega
    · refine ⟨child, ?_, by rw [upd_same, upd_same]; exact .walk hc, ?_, ?_, by rw [upd_same]; intro hs6; exact absurd hs6 (by simp)⟩
      · rw [show m0 + ks.length = (gs.setIfInBounds 0 a').size by simp [h.size], Array.getElem?_push_size]
      · rw [upd_same]; obtain ⟨s, r, tm, hch⟩ := hko.chan; exact ⟨s, r, tm, hch⟩
      · rw [hst, upd_same]; exact h.above _ (Nat.le_refl _)
  · rcases hnew i k' hk' with ⟨_, hk''⟩ | ⟨_, rfl⟩
    · exact h.fit i k' hk''
    · exact ⟨hko.box, hko.pay, hko.cap⟩
  · rcases hnew i k1 h1 with ⟨_, h1'⟩ | ⟨rfl, rfl⟩ <;> rcases hnew i' k2 h2 with ⟨_, h2'⟩ | ⟨rfl, rfl⟩
    · exact h.dist i i' k1 k2 h1' h2' e
    · exact absurd e (hko.new k1 (mem_of_get h1'))
    · exact absurd e.symm (hko.new k2 (mem_of_get h2'))
    · rfl
  · rcases hm op hop with rfl | rfl
    · rw [hx.2]; simp
    · rw [hy.2]; simp
  · rw [hlen]
    exact htr.fork hap' hx hy h.deaf0 (h.above _ (Nat.le_refl _))
end
end Go.Ph

namespace Go.Ph
open Go Go.Conc Go.ConcN
open Go.ConcR (KK wgBlock WgAt stA smA rd wr mk Payload Aside2 DC0 Bk g_of_ofEvents bk_of_mute ofEvent_loc_mark loc_of_ofEvent ofEvent_cell ofEvent_mk)
open Go.Br (ShunOf)
set_option linter.unusedVariables false
set_option linter.unusedSimpArgs false
set_option linter.unusedSectionVars false

def wtX (x : WX) : Nat := 20 * x.left.length + 2 * x.st
def Xsum (n : Nat) (X : Nat → WX) : Nat := sumTo n fun i => wtX (X i)
def pz (n W v : Nat) : Tg → Nat
  | .st r s => 12 * n + 24 + (r + 1) * W + s
  | .rv ls => 8 * n + 16 + 4 * ls.length + 2
  | .rp ls => 8 * n + 16 + 4 * ls.length + 1
  | .wt c => ConcN.phi n v c
def kt : Tg → CTag
  | .wt c => c
  | _ => .kd

/-- Whose values are still to be received. -/
def RvOk (ks : List Kid) (X : Nat → WX) (ls : List (Nat × List Value)) (i0 : Nat) : Prop :=
  i0 + ls.length = ks.length ∧ (∀ i, i < i0 → (X i).st = 0) ∧ ∀ (p c : Nat) (l : List Value), ls[p]? = some (c, l) → ∃ k : Kid, ks[i0 + p]? = some k ∧ k.c = c ∧ (X (i0 + p)).left = l

section
variable (ty : TypeId) (Wg n : Nat) (V : Nat → List Value)
def GOk (ks : List Kid) (X : Nat → WX) (D : Nat → WD) (w : World) : Tg → Prop
  | .st r s => ks.length + r + 1 = n ∧ ∀ i, i < ks.length → (X i).left = V i ∧ 1 ≤ (X i).st
  | .rv ls => ks.length = n ∧ (∃ i0, RvOk ks X ls i0) ∧ ∃ st sm, WgAt ty Wg w st sm ∧ ConcN.Mode n D .kd st sm
  | .rp ls => ks.length = n ∧ (∃ i0, RvOk ks X ls i0 ∧ (X i0).st = 2 ∧ ls ≠ []) ∧ ∃ st sm, WgAt ty Wg w st sm ∧ ConcN.Mode n D .kd st sm
  | .wt c => ks.length = n ∧ (∀ i, i < ks.length → (X i).st = 0) ∧ ∃ st sm, WgAt ty Wg w st sm ∧ ConcN.Mode n D c st sm
end

section
variable (P : Program) (ty : TypeId) (Wg : Nat) (rel : TypeId) [Payload] (Sh : Nat → Bool) (z : Value) (Fin An : Goroutine → World → Prop) (V : Nat → List Value) (n W m0 : Nat)
def Inv (μ : Nat × Nat) (m : Machine) (t : Trace) : Prop :=
  ∃ (gs : Array Goroutine) (w : World) (sl : Option (Nat × Nat)) (ks : List Kid) (X : Nat → WX) (D : Nat → WD) (q : Nat → Nat) (tag : Tg) (f0 d0 : Nat) (a : Goroutine),
    m = crowd gs w sl ∧ gs[0]? = some a ∧ CS P ty Wg rel Sh z Fin An V ks tag f0 d0 a w ∧ Com P ty Wg rel Sh m0 ks gs w t X D q d0 ∧ GOk ty Wg n V ks X D w tag ∧
    μ = (pz n W (Vc ks.length D) tag + Xsum ks.length X + Ssum ks.length D, f0 + 2 * Fsum ks.length D + 2 * sumTo m0 q)
end

theorem upd_self {α : Type} (f : Nat → α) (i : Nat) : upd f i (f i) = f := by funext a; unfold upd; split <;> simp_all
theorem Xsum_upd {n i : Nat} (X : Nat → WX) (x : WX) (hi : i < n) : Xsum n (upd X i x) + wtX (X i) = Xsum n X + wtX x := sumTo_upd X x wtX hi

section
variable {P : Program} {ty : TypeId} {Wg : Nat} {rel : TypeId} [Payload] {Sh : Nat → Bool} {z : Value} {Fin An : Goroutine → World → Prop} {V : Nat → List Value} {n W m0 : Nat}
  {ks : List Kid} {gs : Array Goroutine} {w w' : World} {sl : Option (Nat × Nat)} {t : Trace} {X X' : Nat → WX} {D D' : Nat → WD} {q : Nat → Nat} {tag tag' : Tg} {f0 d0 : Nat} {a : Goroutine}

theorem relyOf_refl (w : World) : relyOf ty Wg tag w w := by cases tag <;> first | exact RS.refl w | exact RR.refl w | exact RC.refl w
theorem relyOf_at (w : World) (d : Nat) : relyOf ty Wg tag w (w.at d) := by
  cases tag <;> first | exact ⟨⟨rfl, rfl, rfl⟩, Nat.le_refl _, fun _ _ => rfl⟩ | exact ⟨⟨rfl, rfl, rfl⟩, Nat.le_refl _, fun _ _ _ _ => rfl, fun _ h => h, id⟩ | exact RC.at w d

/-- The tag as it was, or awake at the semaphore. -/
def Ret (tag tag' : Tg) : Prop := tag' = tag ∨ (tag = .wt .blk ∧ tag' = .wt .w3)
theorem pz_ret {v : Nat} (h : Ret tag tag') : pz n W v tag' = pz n W v tag := by rcases h with rfl | ⟨rfl, rfl⟩ <;> rfl
theorem GOk.ret (h : GOk ty Wg n V ks X D w tag) (hr : Ret tag tag') : GOk ty Wg n V ks X D w tag' := by
  rcases hr with rfl | ⟨rfl, rfl⟩
  · exact h
  · obtain ⟨h1, h2, st, sm, h3, h4⟩ := h
    exact ⟨h1, h2, st, sm, h3, h4.retag (.inr ⟨rfl, rfl⟩)⟩

theorem ws_stage {k : Kid} {x : WX} {d : WD} {g : Goroutine} (h : WS P ty Wg rel k x d g w) : (x.st ≠ 0 → d.stage = 7 ∧ d.deaf = 0) ∧ (x.st = 0 → x.left = []) ∧ x.st ≤ 2 := by
  cases h <;> simp

/-- The channel that the starter waits at is open. -/
theorem rp_open (hcom : Com P ty Wg rel Sh m0 ks gs w t X D q d0) (hg : GOk ty Wg n V ks X D w tag) : ∀ (c : Nat) (l : List Value) (ls : List (Nat × List Value)), tag = .rp ((c, l) :: ls) → ∃ s r tm, w.heap[c]? = some (.chan 0 #[] false s r tm) := by
  rintro c l ls rfl
  obtain ⟨_, ⟨i0, ⟨_, _, h3⟩, h4, _⟩, _⟩ := hg
  obtain ⟨k, hk, rfl, _⟩ := h3 0 c l rfl
  obtain ⟨_, _, _, hch, _⟩ := hcom.kid _ k hk
  rw [Nat.add_zero, h4] at hch
  exact hch

/-- The starter under a step of another's that closes no channel it waits at. -/
theorem other (hAr : ∀ g w, An g w → g.status = .running) (hcs : CS P ty Wg rel Sh z Fin An V ks tag f0 d0 a w) (hr : relyOf ty Wg tag w w') (g g' : Goroutine)
    (hch : ∀ (c : Nat) (l : List Value) (ls : List (Nat × List Value)), tag = .rp ((c, l) :: ls) → ∃ s r tm, w'.heap[c]? = some (.chan 0 #[] false s r tm)) :
    ∃ tag' f', CS P ty Wg rel Sh z Fin An V ks tag' f' d0 (woken P g g' w' a) w' ∧ f' ≤ f0 + 1 ∧ Ret tag tag' ∧ (mayWake P g = true → g'.status = .running → tag' ≠ .wt .blk) := by
  obtain ⟨tag', f', h1, h2, h3, h4, h5, h6⟩ := hcs.wokenBy hAr hr g g' fun c l ls e => let ⟨s, r, tm, hc⟩ := hch c l ls e; ⟨false, s, r, tm, hc, fun x => by cases x⟩
  refine ⟨tag', f', h1, h2, ?_, h4⟩
  rcases h3 with e | ⟨ls, e1, e2⟩ | ⟨e1, e2⟩
  · exact .inl e
  · have := h6 hch ls e1
    exact .inl this
  · exact .inr ⟨e1, e2⟩

/-- Where a step leads. -/
def Leads (P : Program) (ty : TypeId) (Wg : Nat) (rel : TypeId) [Payload] (Sh : Nat → Bool) (z : Value) (Fin An : Goroutine → World → Prop) (V : Nat → List Value) (n W m0 : Nat) (μ : Nat × Nat) (m : Machine) (t : Trace) (i : Nat) : Prop :=
  ∃ m₁ ops μ', runT P m i = (.next m₁, ops) ∧ Lt2 μ' μ ∧ Inv P ty Wg rel Sh z Fin An V n W m0 μ' m₁ (t ++ ops)

/-- A step of one that is only leaving. -/
theorem stepLeaver (hAr : ∀ g w, An g w → g.status = .running) (ha : gs[0]? = some a) (hcs : CS P ty Wg rel Sh z Fin An V ks tag f0 d0 a w) (hcom : Com P ty Wg rel Sh m0 ks gs w t X D q d0) (hg : GOk ty Wg n V ks X D w tag)
    {i : Nat} (hi0 : 0 < i) (him : i < m0) {g : Goroutine} (hgi : gs[i]? = some g) (hrun : g.status = .running) :
    Leads P ty Wg rel Sh z Fin An V n W m0 (pz n W (Vc ks.length D) tag + Xsum ks.length X + Ssum ks.length D, f0 + 2 * Fsum ks.length D + 2 * sumTo m0 q) (crowd gs w sl) t i := by
  have hq := hcom.old i g hi0 him hgi
  cases hqi : q i with
  | zero => rw [hqi] at hq; rw [hq.1] at hrun; cases hrun
  | succ kq =>
    rw [hqi] at hq
    rcases hq with ⟨hf, _⟩ | ⟨_, g', es, hm, hstp, hq'⟩
    · rw [hf] at hrun; cases hrun
    have hb : (i == 0) = false := by simp; omega
    have hT := runT_crowd_go (P := P) (sl := sl) (i := i) hgi (by rw [hb]; exact hstp w)
    obtain ⟨tag', f', hcs', hf', hret, _⟩ := other hAr hcs (relyOf_refl w) g g' (rp_open hcom hg)
    have hsum : sumTo m0 (upd q i kq) + (kq + 1) = sumTo m0 q + kq := by
      have := sumTo_upd q kq id him
      simpa [hqi] using this
    refine ⟨_, _, (pz n W (Vc ks.length D) tag' + Xsum ks.length X + Ssum ks.length D, f' + 2 * Fsum ks.length D + 2 * sumTo m0 (upd q i kq)), hT, ?_, _, w, sl, ks, X, D, upd q i kq, tag', f', d0, woken P g g' w a, rfl, ?_, hcs', hcom.stepQ hi0 him hm hq', hg.ret hret, rfl⟩
    · rw [pz_ret hret]
      exact Prod.Lex.right _ (by omega)
    · rw [get_map_set _ _ _ _ (by omega), ha]; rfl

theorem relyOf_dk {cap : Nat → Prop} {es : Array Event} (hD : DK rel cap w w' es) (hnw : ∀ c, tag ≠ .wt c) : relyOf ty Wg tag w w' := by
  have hs : RS w w' := ⟨hD.env, hD.size, hD.old⟩
  have hr : RR ty Wg w w' := ⟨hD.env, hD.size, fun b hb _ _ => hD.old b hb, fun b hb => hb.of (hD.old b hb.lt), fun ⟨st, sm, hl⟩ => ⟨st, sm, hl.of_block (hD.old Wg (Array.getElem?_eq_some_iff.1 (show w.heap[Wg]? = _ from hl)).1)⟩⟩
  cases tag with
  | wt c => exact absurd rfl (hnw c)
  | st _ _ => exact hs
  | rv _ => exact hr
  | rp _ => exact hr

theorem GOk.world (h : GOk ty Wg n V ks X D w tag) (hwg : w'.heap[Wg]? = w.heap[Wg]?) (hX : X' = X) (hD : ∀ i, i < ks.length → (D' i).stage = (D i).stage) : GOk ty Wg n V ks X' D' w' tag := by
  subst hX
  have md : ∀ {c st sm}, ks.length = n → ConcN.Mode n D c st sm → ConcN.Mode n D' c st sm := fun e hm => hm.congr fun i hi => hD i (by omega)
  cases tag with
  | st r s => exact h
  | rv ls => obtain ⟨h1, h2, st, sm, h3, h4⟩ := h; exact ⟨h1, h2, st, sm, h3.of_block hwg, md h1 h4⟩
  | rp ls => obtain ⟨h1, h2, st, sm, h3, h4⟩ := h; exact ⟨h1, h2, st, sm, h3.of_block hwg, md h1 h4⟩
  | wt c => obtain ⟨h1, h2, st, sm, h3, h4⟩ := h; exact ⟨h1, h2, st, sm, h3.of_block hwg, md h1 h4⟩

theorem GOk.notWt (h : GOk ty Wg n V ks X D w tag) {i : Nat} (hi : i < ks.length) (hx : (X i).st ≠ 0) : ∀ c, tag ≠ .wt c := by
  rintro c rfl
  exact hx (h.2.1 i hi)

/-- An idle step of a worker's while it sends. -/
theorem idleWorker (hne : ty ≠ rel) (hAr : ∀ g w, An g w → g.status = .running) (ha : gs[0]? = some a) (hcs : CS P ty Wg rel Sh z Fin An V ks tag f0 d0 a w) (hcom : Com P ty Wg rel Sh m0 ks gs w t X D q d0) (hg : GOk ty Wg n V ks X D w tag)
    {i : Nat} {k : Kid} (hk : ks[i]? = some k) {vs : List Value} {fu : Nat} {g g' : Goroutine} {es : Array Event} (hX : X i = ⟨vs, 2⟩) (hDi : D i = ⟨7, fu + 1, 0⟩) (hgi : gs[m0 + i]? = some g)
    (hgo : stepG P false g w = .go g' w' es) (hD : DK rel k.cap w w' es) (hG : Goes P false (RK ty Wg rel k.cap) (DK rel k.cap) (SendK P ty Wg rel k vs) fu g' w') :
    Leads P ty Wg rel Sh z Fin An V n W m0 (pz n W (Vc ks.length D) tag + Xsum ks.length X + Ssum ks.length D, f0 + 2 * Fsum ks.length D + 2 * sumTo m0 q) (crowd gs w sl) t (m0 + i) := by
  have hp := hcom.pos
  have hlt := get_lt hk
  have hb : (m0 + i == 0) = false := by simp; omega
  have hT := runT_crowd_go (P := P) (sl := sl) (i := m0 + i) hgi (by rw [hb]; exact hgo)
  have hnw := hg.notWt hlt (by rw [hX]; simp)
  have hw : WOk ty Wg rel ks w w' := WOk.of_old hD.size hD.old hcom.capLt
  have hold : ∀ b, b < w.heap.size → w'.heap[b]? = w.heap[b]? := hD.old
  have hchan : ∀ (i' : Nat) (k' : Kid), ks[i']? = some k' → w'.heap[k'.c]? = w.heap[k'.c]? := fun i' k' hk' => hold _ (hcom.isChan hk').lt
  obtain ⟨tag', f', hcs', hf', hret, _⟩ := other hAr hcs (relyOf_dk hD hnw) g g' (fun c l ls e => by
    obtain ⟨s, r, tm, hc⟩ := rp_open hcom hg c l ls e
    exact ⟨s, r, tm, by rw [hold c (Array.getElem?_eq_some_iff.1 hc).1]; exact hc⟩)
  have hcom' := hcom.stepW hne hk (g := g) (fn := g.frame.fn) (pos := g.frame.place) (x' := ⟨vs, 2⟩) (d' := ⟨7, fu, 0⟩) hw (fun i' k' hk' => by
      rw [hchan i' k' hk', ← hX, upd_self]
      obtain ⟨_, _, _, hc, _⟩ := hcom.kid i' k' hk'
      exact hc) (.walk hG) (okW_of_evK hk hw hD.evs) (norel_of fun e he => (evK_facts (hD.evs e he)).2.2)
      (by rw [hDi]; exact deafBehind_idle (fun e he => ⟨(evK_facts (Wg := Wg) (hD.evs e he)).1, (evK_facts (Wg := Wg) (hD.evs e he)).2.1⟩) 0) (fun h => absurd h (by simp))
  have hF : Fsum ks.length (upd D i ⟨7, fu, 0⟩) + (fu + 1) = Fsum ks.length D + fu := by
    have := sumTo_upd D (⟨7, fu, 0⟩ : WD) WD.fuel hlt
    simpa [Fsum, hDi] using this
  have hS : Ssum ks.length (upd D i ⟨7, fu, 0⟩) = Ssum ks.length D := by
    have := sumTo_upd D (⟨7, fu, 0⟩ : WD) WD.stage hlt
    simp only [hDi] at this
    simp only [Ssum]; omega
  have hV : Vc ks.length (upd D i ⟨7, fu, 0⟩) = Vc ks.length D := by
    have := Vc_upd D (⟨7, fu, 0⟩ : WD) hlt
    simp only [hDi, cnt] at this
    omega
  refine ⟨_, _, (pz n W (Vc ks.length (upd D i ⟨7, fu, 0⟩)) tag' + Xsum ks.length (upd X i ⟨vs, 2⟩) + Ssum ks.length (upd D i ⟨7, fu, 0⟩), f' + 2 * Fsum ks.length (upd D i ⟨7, fu, 0⟩) + 2 * sumTo m0 q), hT, ?_, _, w', sl, ks, upd X i ⟨vs, 2⟩, upd D i ⟨7, fu, 0⟩, q, tag', f', d0, woken P g g' w' a, rfl, ?_, hcs', hcom', ?_, rfl⟩
  · rw [pz_ret hret, hV, hS, ← hX, upd_self]
    exact Prod.Lex.right _ (by omega)
  · rw [get_map_set _ _ _ _ (by omega), ha]; rfl
  · refine (hg.world (D' := upd D i ⟨7, fu, 0⟩) (hold Wg hcom.wgLt) (by rw [← hX, upd_self]) fun j _ => ?_).ret hret
    by_cases e : j = i
    · subst e; rw [upd_same, hDi]
    · rw [upd_ne _ _ e]

/-- Who offers what. -/
theorem offers_kid {k : Kid} {x : WX} {d : WD} {g : Goroutine} (h : WS P ty Wg rel k x d g w) (c : Nat) : offersAt g c false = [] ∧ (offersAt g c true ≠ [] → k.c = c ∧ x.st = 1) := by
  rcases h.status with ⟨h1, h2⟩ | ⟨h1, h2⟩
  · have hb : g.status ≠ .blocked := by rcases h2 with h2 | h2 <;> rw [h2] <;> simp
    exact ⟨offersAt_of_not_blocked hb _ _, fun hx => absurd (offersAt_of_not_blocked hb _ _) hx⟩
  · cases h with
    | park hp =>
      refine ⟨offersAt_parked_send' _ _ _ _ _ _, fun hx => ⟨?_, rfl⟩⟩
      rw [offersAt_parked_send] at hx
      split at hx
      · assumption
      · exact absurd rfl hx
    | walk _ => cases h1
    | r0 _ => cases h1
    | tail _ _ => cases h1

theorem offers_old (hcom : Com P ty Wg rel Sh m0 ks gs w t X D q d0) {j : Nat} {x : Goroutine} (hj : gs[j]? = some x) (hj0 : j ≠ 0) (c : Nat) : offersAt x c false = [] ∧ (offersAt x c true ≠ [] → ∃ i k, j = m0 + i ∧ ks[i]? = some k ∧ k.c = c ∧ (X i).st = 1) := by
  rcases Nat.lt_or_ge j m0 with hlt | hge
  · have hq := (hcom.old j x (by omega) hlt hj).status
    have hb : x.status ≠ .blocked := by rcases hq with h2 | h2 <;> rw [h2] <;> simp
    exact ⟨offersAt_of_not_blocked hb _ _, fun hx => absurd (offersAt_of_not_blocked hb _ _) hx⟩
  · obtain ⟨i, rfl⟩ : ∃ i, j = m0 + i := ⟨j - m0, by omega⟩
    have hil : i < ks.length := by
      have := (Array.getElem?_eq_some_iff.1 hj).1
      rw [hcom.size] at this; omega
    obtain ⟨k, hk⟩ := get_of_lt hil
    obtain ⟨y, hy, hs, _⟩ := hcom.kid i k hk
    rw [hj] at hy; cases hy
    have := offers_kid hs c
    exact ⟨this.1, fun hx => ⟨i, k, rfl, hk, (this.2 hx).1, (this.2 hx).2⟩⟩
end
end Go.Ph
