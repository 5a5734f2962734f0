/-
  From a walk beside leavers to the row of the sixth form that says 'leaving'.
-/
import Derived.Test.YtgmjdkhegbdbjaaBZQ
import Derived.Conc.LeavingOf
namespace Go.Ph
open Go Go.Conc Go.Br Go.Proofs Go.Proofs.Ytgmjdkhegbdbjaa
open Go.RowKit (Below)
set_option linter.unusedVariables false
set_option maxRecDepth 100000

theorem noReadies : Try.prog.funcs.all (fun f => ((f.body.map readies).any (fun l => !l.isEmpty)) == false) = true := by kernel_rfl
theorem np_all (w : World) : NP Try.prog w := fun b hb => by
  exfalso
  apply hb
  unfold Program.stepOf
  rw [Array.findIdx?_eq_none_iff]
  intro f hf
  have := Array.all_eq_true_iff_forall_mem.1 noReadies f hf
  cases hbd : f.body with
  | none => simp
  | some c =>
    rw [hbd] at this
    simp only [Option.map_some, Option.any_some, beq_false, Bool.not_not] at this ⊢
    rw [List.isEmpty_iff] at this
    rw [this]
    simp
theorem kw0 (w : World) : KW Try.prog link.tWg (fun _ => false) w := ⟨np_all w, fun b hb => by cases hb⟩

/-- the law's goroutine comes to its end with true, and what was there stands -/
def Walks (f : FuncId) (args : Array Value) (W : World) : Prop :=
  ∀ Post : Value → World → Prop, (∀ w', BelowC W w' → ∀ τ d, Post (.bool true) (w'.on τ d)) → WB Try.prog (EndQ Try.prog Post) (fun _ => false) (G (Frame.enter Try.prog f args .normal) []) W

section
variable {H : Type} {enc : TypeId × Value → H}
theorem leaving_of_walks {a : Assume} {os : Os} {f : FuncId} {fn : Func} {s : ChangeSpec} {conds : List PathCond} {apart fresh handsOn again : Bool}
    (own : ownKnob Try.checked.prog.godebug = none) (started : os.Started) (hfn : Try.checked.prog.funcs[f]? = some fn)
    (witness : ∃ (w : World) (tape : Tape) (i : Input), w.os = os ∧ (w.forCall tape i).Shaped Try.checked.prog ∧ i.vars = [] ∧ Input.okWide Try.checked.prog (w.forCall tape i) .any w.heap.size f i ∧
      s.pre6 enc Try.checked.prog fn conds apart (w.forCall tape i).memory i.args ∧ a.holds Try.checked.prog (lone (Frame.enter Try.checked.prog f i.args .normal) [] (w.forCall tape i)))
    (runs : ∀ (W : World) (base : Nat) (args : Array Value) (ds gs : List (DataW H)) (before : List MemPlace),
      (∀ (j : Nat) t v, fn.params[j]? = some t → args[j]? = some v → Value.okWide Try.prog W .any base t v) →
      DataW.Whole enc Try.prog fn.params.toList s.vars apart W args.toList ds gs before →
      conds.all (PathCond.test Try.prog ⟨fn.params.toList, ds, s.plain.varTypes Try.prog, gs⟩) = true →
      (DataW.weightsEach Try.prog (fn.params.toList ++ s.plain.varTypes Try.prog) (ds ++ gs)).all (· ≤ reachBytes) = true →
      Walks f args W ∧ ∀ W' : World, Below W.heap.size W W' → s.post enc Try.prog fn apart fresh handsOn again W args (.bool true) W') :
    ReturnsInLeavingWide a Try.checked os f .any (s.pre6 enc Try.checked.prog fn conds apart) (s.post enc Try.checked.prog fn apart fresh handsOn again) := by
  refine returnsInLeavingWide_of_good own started witness ?_
  intro w tape i _ _ _ hok hpre hholds
  obtain ⟨_, _, _, fn', hfn', _, _, _, _, hval⟩ := hok
  have e : fn' = fn := Option.some.inj (hfn'.symm.trans hfn)
  subst e
  obtain ⟨⟨ds, gs, before, hw, hc⟩, hz⟩ := hpre
  have hw' := DataW.Whole.of_heap (w' := w.forCall tape i) (by rfl) hw
  obtain ⟨hwb, hpost⟩ := runs (w.forCall tape i) w.heap.size i.args ds gs before hval hw' hc (hz.weights hw)
  obtain ⟨M, last, o, w', t', h1, h2, h3, h4⟩ := run_of_wb (hwb (fun v W' => s.post enc Try.prog fn' apart fresh handsOn again (w.forCall tape i) i.args v (W'.on (w.forCall tape i).tape W'.drawn)) fun w' hb τ d => hpost _ ⟨hb.os, rfl, hb.output, hb.size, hb.block⟩)
  exact ⟨M, last, o, w', t', h1, h2, h3, h4.mono fun v hp => by
    have hb := ChangeSpec.post_blind hp
    exact hb⟩
end
end Go.Ph
