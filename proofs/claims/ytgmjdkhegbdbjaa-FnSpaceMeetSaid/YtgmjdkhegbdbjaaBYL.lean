/-
  A worker: from its birth to its Done.
-/
import Derived.Test.YtgmjdkhegbdbjaaEE
import Derived.Test.YtgmjdkhegbdbjaaGA
import Derived.WalkMore
import Derived.Deep.CutRange
import Derived.Deep.RegionHeld3
import Derived.Test.YtgmjdkhegbdbjaaED
import Derived.Test.YtgmjdkhegbdbjaaBYW
import Derived.Conc.CompanyMem
import Derived.Conc.DeferLaws
import Derived.Conc.TokenWalk
import Derived.Test.YtgmjdkhegbdbjaaChecked
import Derived.Conc.WgGenN
namespace Go.Proofs.Ytgmjdkhegbdbjaa
open Go.RowKit

/-! the model's -/
/-! the program's -/
end Go.Proofs.Ytgmjdkhegbdbjaa

namespace Go.Proofs.Ytgmjdkhegbdbjaa
open Go.RowKit

def lenOf : Value → Nat
  | .slice _ n _ => n
  | _ => 0

end Go.Proofs.Ytgmjdkhegbdbjaa

namespace Go.Proofs.Ytgmjdkhegbdbjaa
open Go.RowKit

end Go.Proofs.Ytgmjdkhegbdbjaa

namespace Go.Proofs.Ytgmjdkhegbdbjaa
open Go.RowKit

end Go.Proofs.Ytgmjdkhegbdbjaa

namespace Go.Proofs.Ytgmjdkhegbdbjaa
open Go.RowKit

end Go.Proofs.Ytgmjdkhegbdbjaa

namespace Go.Proofs.Ytgmjdkhegbdbjaa
open Go.RowKit


/-! the model's star -/
end Go.Proofs.Ytgmjdkhegbdbjaa

namespace Go.Proofs.Ytgmjdkhegbdbjaa
open Go.RowKit

theorem img_step (xs : List Int) (z : Fin 16) (k : Nat) (hk : k < 4) : imgTo xs (z.val : Int) (k + 1) = if hasB (z.val : Int) k then bits .or .i64 (imgTo xs (z.val : Int) k) (rowAt xs k) else imgTo xs (z.val : Int) k := by
  rw [imgTo_succ, b_bit z ⟨k, hk⟩]

/-- a test or a step -/
inductive Pr where
  | test (z : Int)
  | step (xs : List Int)
def Pr.ok (n : Nat) : Pr → Prop
  | .test z => St n z
  | .step xs => xs.length = n ∧ Rl n xs
def Pr.back : Pr → Int → Int
  | .test z, s => bits .and .i64 s z
  | .step xs, s => imgA (turnL xs) s

end Go.Proofs.Ytgmjdkhegbdbjaa

namespace Go.Ph
open Go Go.Conc Go.ConcN Go.RowKit Go.Proofs Go.Proofs.Ytgmjdkhegbdbjaa
set_option linter.unusedVariables false
set_option linter.unusedSimpArgs false
set_option linter.unusedSectionVars false

abbrev relTy : TypeId := 45

section
variable {main : Bool} {ty : TypeId} {Wg : Nat} {cap : Nat → Prop}

theorem termsK : Terms (RK ty Wg relTy cap) (DK relTy cap) := ⟨fun _ _ _ h k => h.trans k, fun w => ⟨.refl w, Nat.le_refl _, fun _ _ => rfl, by simp⟩⟩
theorem dk_alloc (w : World) (o : Obj) : DK relTy cap w (w.alloc o) #[] := ⟨⟨rfl, rfl, rfl⟩, by rw [World.size_alloc]; exact Nat.le_succ _, fun b hb => Below.heap_alloc _ _ _ hb, by simp⟩
theorem dk_look {w : World} {es : Array Event} (h : ∀ e ∈ es, EvK relTy cap w e) : DK relTy cap w w es := ⟨.refl w, Nat.le_refl _, fun _ _ => rfl, h⟩
theorem relAt_ty {w : World} {b : Nat} {xs : List Int} (h : RelAt w b xs) : IsTy relTy w b := ⟨_, _, h⟩
theorem relAt_rk {w w₁ : World} {b : Nat} {xs : List Int} (h : RelAt w b xs) (r : RK ty Wg relTy cap w w₁) : RelAt w₁ b xs := (r.keep b (.inr (relAt_ty h))).trans h

set_option maxRecDepth 100000 in
theorem onePoint_c (i : Nat) (h : i < 4) : ∃ k, ∀ (F : World → Prop), (∀ {w w₁ : World}, F w → RK ty Wg relTy cap w w₁ → F w₁) → ∀ w, F w →
    CallsC Try.prog main (RK ty Wg relTy cap) (DK relTy cap) 92 #[.int .i64 i] k w fun v w' => v = .int .i64 (pt i) ∧ F w' := by
  rcases (by omega : i = 0 ∨ i = 1 ∨ i = 2 ∨ i = 3) with rfl | rfl | rfl | rfl
  all_goals
    co_apply Exists.intro
    intro F rl w hF
    co_apply callsC_of_wpC Try.func92 (by rfl) rfl
    simp only [Try.ntmps92, List.size_toArray, List.length_cons, List.length_nil, Nat.reduceAdd, Nat.reduceSub, Array.replicate_succ, Array.replicate_zero, List.push_toArray, List.append_toArray, List.nil_append, List.cons_append]
    have T : Terms (RK ty Wg relTy cap) (DK relTy cap) := termsK
    co_go T rl hF (co_quiet T)
    exact ⟨rfl, _, resultsC_tmp (by rfl) _, by rfl, hF⟩

set_option maxRecDepth 100000 in
theorem allPoints_c (n : Nat) (h : n ≤ 4) : ∃ k, ∀ (F : World → Prop), (∀ {w w₁ : World}, F w → RK ty Wg relTy cap w w₁ → F w₁) → ∀ w, F w →
    CallsC Try.prog main (RK ty Wg relTy cap) (DK relTy cap) 77 #[.int .i64 n] k w fun v w' => v = .int .i64 ((2 ^ n - 1 : Nat) : Int) ∧ F w' := by
  rcases (by omega : n = 0 ∨ n = 1 ∨ n = 2 ∨ n = 3 ∨ n = 4) with rfl | rfl | rfl | rfl | rfl
  all_goals
    co_apply Exists.intro
    intro F rl w hF
    co_apply callsC_of_wpC Try.func77 (by rfl) rfl
    simp only [Try.ntmps77, List.size_toArray, List.length_cons, List.length_nil, Nat.reduceAdd, Nat.reduceSub, Array.replicate_succ, Array.replicate_zero, List.push_toArray, List.append_toArray, List.nil_append, List.cons_append]
    have T : Terms (RK ty Wg relTy cap) (DK relTy cap) := termsK
    co_go T rl hF (co_quiet T)
    exact ⟨rfl, _, resultsC_tmp (by rfl) _, by rfl, hF⟩
theorem callsC_more {P : Program} {R : World → World → Prop} {D : World → World → Array Event → Prop} {f : FuncId} {args : Array Value} {n n' : Nat} {w : World} {Post : Value → World → Prop} (h : CallsC P main R D f args n w Post) (hn : n ≤ n') : CallsC P main R D f args n' w Post := by
  obtain ⟨fn, c, h1, h2, h3, h4⟩ := h
  exact ⟨fn, c, h1, h2, h3, wpC_more h4 hn⟩

theorem onePoint_u : ∃ k, ∀ i : Nat, i < 4 → ∀ (F : World → Prop), (∀ {w w₁ : World}, F w → RK ty Wg relTy cap w w₁ → F w₁) → ∀ w, F w →
    CallsC Try.prog main (RK ty Wg relTy cap) (DK relTy cap) 92 #[.int .i64 i] k w fun v w' => v = .int .i64 (pt i) ∧ F w' := by
  obtain ⟨k0, c0⟩ := onePoint_c (main := main) (ty := ty) (Wg := Wg) (cap := cap) 0 (by omega)
  obtain ⟨k1, c1⟩ := onePoint_c (main := main) (ty := ty) (Wg := Wg) (cap := cap) 1 (by omega)
  obtain ⟨k2, c2⟩ := onePoint_c (main := main) (ty := ty) (Wg := Wg) (cap := cap) 2 (by omega)
  obtain ⟨k3, c3⟩ := onePoint_c (main := main) (ty := ty) (Wg := Wg) (cap := cap) 3 (by omega)
  refine ⟨k0 + k1 + k2 + k3, fun i hi F rl w hF => ?_⟩
  rcases (by omega : i = 0 ∨ i = 1 ∨ i = 2 ∨ i = 3) with rfl | rfl | rfl | rfl
  · exact callsC_more (c0 F rl w hF) (by omega)
  · exact callsC_more (c1 F rl w hF) (by omega)
  · exact callsC_more (c2 F rl w hF) (by omega)
  · exact callsC_more (c3 F rl w hF) (by omega)

set_option maxRecDepth 100000 in
theorem has_u : ∃ k, ∀ (s : Int) (j : Nat), j < 4 → ∀ (F : World → Prop), (∀ {w w₁ : World}, F w → RK ty Wg relTy cap w w₁ → F w₁) → ∀ w, F w →
    CallsC Try.prog main (RK ty Wg relTy cap) (DK relTy cap) 104 #[.int .i64 s, .int .i64 j] k w fun v w' => v = .bool (hasB s j) ∧ F w' := by
  obtain ⟨k1, c1⟩ := onePoint_u (main := main) (ty := ty) (Wg := Wg) (cap := cap)
  co_apply Exists.intro
  intro s j hj F rl w hF
  have T : Terms (RK ty Wg relTy cap) (DK relTy cap) := termsK
  co_apply callsC_of_wpC Try.func104 (by rfl) rfl
  simp only [Try.ntmps104, List.size_toArray, List.length_cons, List.length_nil, Nat.reduceAdd, Nat.reduceSub, Array.replicate_succ, Array.replicate_zero, List.push_toArray, List.append_toArray, List.nil_append, List.cons_append]
  co_go T rl hF (co_quiet T)
  co_apply opsC_call T rfl (by rfl) rfl
  · simp only [List.map_toArray, List.map_cons, List.map_nil]
    exact c1 j hj F rl _ hF
  clear hF
  rintro v w1 ⟨rfl, hF⟩
  walk_nrm
  co_go T rl hF (co_quiet T)
  exact ⟨rfl, _, resultsC_tmp (by rfl) _, by rfl, hF⟩

def GK (F : World → Prop) (xs : List Int) (b : Nat) (w : World) : Prop := F w ∧ RelAt w b xs
theorem GK.rely {F : World → Prop} {xs : List Int} {b : Nat} (rl : ∀ {w w₁ : World}, F w → RK ty Wg relTy cap w w₁ → F w₁) {w w₁ : World} (h : GK F xs b w) (r : RK ty Wg relTy cap w w₁) : GK F xs b w₁ := ⟨rl h.1 r, relAt_rk h.2 r⟩
theorem GK.new {F : World → Prop} {xs : List Int} (hA : ∀ {w : World} (o : Obj), F w → F (w.alloc o)) {w : World} (h : F w) :
    GK F xs w.heap.size (w.alloc (.cells #[.int .i64 xs.length, .int .i64 (Go.Proofs.Ytgmjdkhegbdbjaa.rowAt xs 0), .int .i64 (Go.Proofs.Ytgmjdkhegbdbjaa.rowAt xs 1), .int .i64 (Go.Proofs.Ytgmjdkhegbdbjaa.rowAt xs 2), .int .i64 (Go.Proofs.Ytgmjdkhegbdbjaa.rowAt xs 3)] relTy)) := ⟨hA _ h, RelAt.new w xs⟩

/-- where the walk over the points stands -/
def IR (F : World → Prop) (xs : List Int) (z : Int) (b : Nat) (a : Act) (w : World) : Prop := GK F xs b w ∧ ∃ (k : Nat) (a0 a1 a2 a3 a4 a5 a6 a7 a8 a9 a10 a11 a12 : Value), k ≤ xs.length ∧
  a = ⟨#[relOf xs, .int .i64 z, .pointer (some ⟨b, 0, none⟩), undef, .int .i64 0, .int .i64 (imgTo xs z k), a0, .pointer (some ⟨b, 0, none⟩), .int .i64 xs.length, .int .i64 k, a1, a2, a3, a4, a5, a6, a7, a8, a9, a10, a11, a12, undef], []⟩
def muR (xs : List Int) (a : Act) (w : World) : Nat := xs.length - (intOf (a.tmps.getD 9 undef)).toNat

set_option maxRecDepth 100000 in
set_option maxHeartbeats 1000000 in
theorem related_u {xs : List Int} (h4 : xs.length ≤ 4) (z : Fin 16) : ∃ k, ∀ (F : World → Prop), (∀ {w w₁ : World}, F w → RK ty Wg relTy cap w w₁ → F w₁) → (∀ {w : World} (o : Obj), F w → F (w.alloc o)) → ∀ w, F w →
    CallsC Try.prog main (RK ty Wg relTy cap) (DK relTy cap) 91 #[relOf xs, .int .i64 (z.val : Int)] k w fun v w' => v = .int .i64 (imgA xs z.val) ∧ F w' := by
  obtain ⟨k1, c1⟩ := has_u (main := main) (ty := ty) (Wg := Wg) (cap := cap)
  have hst : ∀ k, k < 4 → imgTo xs (z.val : Int) (k + 1) = if hasB (z.val : Int) k then bits .or .i64 (imgTo xs (z.val : Int) k) (Go.Proofs.Ytgmjdkhegbdbjaa.rowAt xs k) else imgTo xs (z.val : Int) k := fun k hk => img_step xs z k hk
  co_apply Exists.intro
  intro F rl0 hA w hF
  have T : Terms (RK ty Wg relTy cap) (DK relTy cap) := termsK
  co_apply callsC_of_wpC Try.func91 (by rfl) rfl
  simp only [Try.ntmps91, List.size_toArray, List.length_cons, List.length_nil, Nat.reduceAdd, Nat.reduceSub, Array.replicate_succ, Array.replicate_zero, List.push_toArray, List.append_toArray, List.nil_append, List.cons_append]
  co_ctl T
  co_reg T
  co_opw rl0 hF (skip) (rw [listed_nil (by simp [go_sem])]; exact dk_alloc _ _)
  replace hF := GK.new (xs := xs) hA hF
  have rl := fun {b : Nat} {w w₁ : World} => GK.rely (ty := ty) (Wg := Wg) (cap := cap) (xs := xs) (b := b) (w := w) (w₁ := w₁) rl0
  co_go T rl hF (co_quiet T)
  co_opw rl hF (have hc := hF.2.cell0) (refine dk_look ?_; co_evs (exact .inl ⟨_, rfl, hF.2.lt, .inr (relAt_ty hF.2)⟩))
  co_go T rl hF (co_quiet T)
  co_apply wpC_loop T (IR F xs (z.val : Int) _) (muR xs) _ xs.length
  · exact ⟨hF, 0, undef, undef, undef, undef, undef, undef, undef, undef, undef, undef, undef, undef, undef, Nat.zero_le _, rfl⟩
  · simp [muR, intOf]
  · clear hF
    rintro a w ⟨hF, k, a0, a1, a2, a3, a4, a5, a6, a7, a8, a9, a10, a11, a12, hk, rfl⟩
    co_go T rl hF (co_quiet T)
    co_split T (decide ((k : Int) < (xs.length : Int)))
    · intro hlt
      replace hlt : k < xs.length := by have := of_decide_eq_true hlt; omega
      co_go T rl hF (co_quiet T)
      co_apply opsC_call T rfl (by rfl) rfl
      · simp only [List.map_toArray, List.map_cons, List.map_nil]
        exact c1 (z.val : Int) k (by omega) (GK F xs _) rl _ hF
      clear hF
      rintro v w1 ⟨rfl, hF⟩
      walk_nrm
      co_go T rl hF (co_quiet T)
      have e1 : IntKind.i64.wrap ((k : Int) + 1) = ((k + 1 : Nat) : Int) := by rw [IntKind.wrap_i64]; omega
      co_split T (hasB (z.val : Int) k)
      · intro hb
        co_go T rl hF (co_quiet T)
        have hk4 : k < 4 := by omega
        have hki : (k : Int) < 4 := by omega
        have hix : ∀ (a : Addr) (w : World), (Instr.indexAt 43 (.pointer (some a)) (.int .i64 (k : Int))).events Try.prog w #[] = #[] := fun a w => events_indexAt_array _ _ 4 a .i64 k Try.underlying43 ⟨by omega, by omega⟩
        co_opw rl hF (skip) (rw [listed_nil (by simp [go_sem, hix])]; exact Terms.idle T _)
        co_opw rl hF (have hc := hF.2.row k hk4) (refine dk_look ?_; co_evs (exact .inl ⟨_, rfl, hF.2.lt, .inr (relAt_ty hF.2)⟩))
        co_go T rl hF (co_quiet T)
        have e2 := hst k hk4
        rw [if_pos hb] at e2
        simp only [e1, ← e2]
        refine ⟨⟨hF, k + 1, _, _, _, _, _, _, _, _, _, _, _, _, _, hlt, rfl⟩, ?_⟩
        simp [muR, intOf]
        omega
      · intro hb
        co_go T rl hF (co_quiet T)
        have e2 := hst k (by omega)
        rw [if_neg (by rw [hb]; exact Bool.false_ne_true)] at e2
        simp only [e1, ← e2]
        refine ⟨⟨hF, k + 1, _, _, _, _, _, _, _, _, _, _, _, _, _, hlt, rfl⟩, ?_⟩
        simp [muR, intOf]
        omega
    · intro hlt
      obtain rfl : k = xs.length := by have := of_decide_eq_false hlt; omega
      co_go T rl hF (co_quiet T)
      exact ⟨rfl, _, resultsC_tmp (by rfl) _, rfl, hF.1⟩
end
end Go.Ph

namespace Go.Ph
open Go Go.Conc Go.ConcN Go.RowKit
set_option linter.unusedVariables false
set_option linter.unusedSimpArgs false
set_option linter.unusedSectionVars false

def dclose (ats : Array TypeId) (ty : TypeId) (cns : Array Bool) (c : Nat) : Deferred := { target := .builtin .close ats ty cns, args := #[.chan (some c)] }

section
variable {P : Program} {main : Bool} {b : Frame} {a : Act} {k : List Item} {cs : List Frame} {w : World} {ops : Array Oper} {i : Nat} {rest : List Nat} {o : Oper}

theorem stepG_deferC {x : Tmp} {ats : Array TypeId} {c : Nat} (ho : ops[i]? = some o) (hw : Region.wanted o (yielded ops a.tmps) = true) (hk : b.kind ≠ .early)
    (hop : o.op = .defer { callee := .builtin .close, args := #[.tmp x], argTypes := ats }) (hx : a.eval (.tmp x) = .chan (some c)) :
    stepG P main (G (b.at a (.inRegion ops (i :: rest) :: k)) cs) w = .go (G (b.at (Act.put ⟨a.tmps, dclose ats o.type #[false] c :: a.defers⟩ o.dst undef) (.inRegion ops rest :: k)) cs) w #[] := by
  have hr : (execOp a.eval o).run P w = .ok (.defer (dclose ats o.type #[false] c)) w := by
    unfold execOp
    simp [hop, resolve, hx, dclose]
  have he : (execOp a.eval o).events P w #[] = #[] := by
    unfold execOp
    simp [hop, resolve]
  have hfin : (b.at ⟨a.tmps, dclose ats o.type #[false] c :: a.defers⟩ (.inRegion ops (i :: rest) :: k)).finish undef = b.at (Act.put ⟨a.tmps, dclose ats o.type #[false] c :: a.defers⟩ o.dst undef) (.inRegion ops rest :: k) := by rw [Frame.finish_at, ho]; rfl
  have hk' : (b.kind == CallKind.early) = false := by simpa using hk
  rw [stepG_oper ho hw, ← hfin]
  simp [stepG.apply, hr, he, G, Frame.at, hk', GStep.after, seen_none]

theorem stepG_unwind_close {todo : List Item} {ds : List Deferred} {ats : Array TypeId} {ty : TypeId} {cns : Array Bool} {c s r : Nat} {tm : Bool} (hd : a.defers = dclose ats ty cns c :: ds)
    (hc : w.heap[c]? = some (.chan 0 #[] false s r tm)) (hq : (P.funcs[b.fn]?).any (·.norace) = false) :
    stepG P main (G { b.at a todo with mode := .returning } cs) w = .go (G { b.at ⟨a.tmps, ds⟩ todo with mode := .returning } cs) (w.shut c s r tm) #[⟨.obj c, false, true⟩, ⟨.obj c, true, true⟩] := by
  have hr : (invoke (.builtin .close ats ty cns) #[.chan (some c)]).run P w = .ok (.value (.tuple #[])) (w.shut c s r tm) := by
    simp [invoke, go_sem, run_close_open _ _ hc, World.shut]
  have hl : seen P b.fn ((invoke (.builtin .close ats ty cns) #[.chan (some c)]).events P w #[]) = #[⟨.obj c, false, true⟩, ⟨.obj c, true, true⟩] := by
    rw [show (invoke (.builtin .close ats ty cns) #[.chan (some c)]).events P w #[] = #[⟨.obj c, false, true⟩, ⟨.obj c, true, true⟩] by simp [invoke, go_sem, events_close_open _ _ hc]]
    exact seen_eq hq (by simp)
  simp [G, stepG, unwind, callDeferred, Frame.at, hd, dclose, hr, GStep.after] at hl ⊢
  exact hl

theorem stepG_sendC {x y : Tmp} {c : Nat} {v : Value} (ho : ops[i]? = some o) (hw : Region.wanted o (yielded ops a.tmps) = true) (hk : b.kind ≠ .early)
    (hop : o.op = .send (.tmp x) (.tmp y)) (hx : a.eval (.tmp x) = .chan (some c)) (hy : a.eval (.tmp y) = v) :
    stepG P main (G (b.at a (.inRegion ops (i :: rest) :: k)) cs) w = .comm (G (b.at a (.inRegion ops (i :: rest) :: k)) cs) #[scase c v (.tuple #[])] true .send w #[] := by
  have hr : (execOp a.eval o).run P w = .ok (.comm #[scase c v (.tuple #[])] true .send) w := by
    unfold execOp
    simp [hop, hx, hy, scase]
  have he : (execOp a.eval o).events P w #[] = #[] := by
    unfold execOp
    simp [hop]
  rw [stepG_comm ho hw hk hr]
  simp [listed, he, seen_none]
end
end Go.Ph

namespace Go.Ph
open Go Go.Conc Go.ConcN
set_option linter.unusedVariables false
set_option linter.unusedSimpArgs false
set_option linter.unusedSectionVars false

def doneOf (l : Array Bool) (j : Nat) : Bool := l.getD j false
def cntD (l : Array Bool) : Nat → Nat
  | 0 => 0
  | n + 1 => cntD l n + if doneOf l n then 1 else 0
theorem cntD_le (l : Array Bool) : ∀ n, cntD l n ≤ n
  | 0 => Nat.le_refl _
  | n + 1 => by have := cntD_le l n; simp only [cntD]; split <;> omega
theorem cntD_all {l : Array Bool} : ∀ {n}, cntD l n = n → ∀ j, j < n → doneOf l j = true
  | 0, _, j, h => absurd h (Nat.not_lt_zero _)
  | n + 1, h, j, hj => by
    have hle := cntD_le l n
    simp only [cntD] at h
    by_cases hd : doneOf l n = true
    · rw [if_pos hd] at h
      by_cases e : j = n
      · subst e; exact hd
      · exact cntD_all (n := n) (by omega) j (by omega)
    · rw [if_neg hd] at h; omega
theorem doneOf_set {l : Array Bool} {i : Nat} (hi : i < l.size) (j : Nat) : doneOf (l.setIfInBounds i true) j = if j = i then true else doneOf l j := by
  unfold doneOf
  simp only [Array.getD_eq_getD_getElem?]
  by_cases e : j = i
  · subst e; simp [hi]
  · rw [Array.getElem?_setIfInBounds_ne (fun h => e h.symm), if_neg e]
theorem cntD_set {l : Array Bool} {i : Nat} (hi : i < l.size) (hn : doneOf l i = false) : ∀ n, cntD (l.setIfInBounds i true) n = cntD l n + if i < n then 1 else 0
  | 0 => by simp [cntD]
  | n + 1 => by
    have ih := cntD_set hi hn n
    simp only [cntD, ih, doneOf_set hi]
    by_cases e : n = i
    · subst e; simp [hn]
    · rw [if_neg e]
      by_cases h1 : i < n
      · rw [if_pos h1, if_pos (show i < n + 1 by omega)]; omega
      · rw [if_neg h1, if_neg (show ¬ i < n + 1 by omega)]; omega

/-- What an operation hangs on whatever the mode. -/
def hangs (o : Oper) (done : Nat → Bool) : Prop := ∀ e ∈ o.after, (∀ md, Region.binds md e = true) → done e.on = true

section
variable {P : Program} {main : Bool} {R : World → World → Prop} {D : World → World → Array Event → Prop} {Stop : Goroutine → World → Prop} {b : Frame} {k : List Item} {cs : List Frame} {ops : Array Oper}

theorem go_ind (T : Terms R D) {J : (Nat → Bool) → Act → World → Prop} {c m0 : Nat} {md : Region.Mode} (hJR : ∀ d a w w', J d a w → R w w' → J d a w')
    (hedge : ∀ (i : Nat) (o : Oper), ops[i]? = some o → ∀ e ∈ o.after, e.on < i)
    (hstep : ∀ (done : Nat → Bool) (a : Act) (w : World) (i : Nat) (o : Oper), J done a w → ops[i]? = some o → done i = false → hangs o done → ∀ (rest : List Nat) (m : Nat), ((∀ j, j < ops.size → j ≠ i → done j = true) → rest = []) →
      (∀ a' w', J (fun j => if j = i then true else done j) a' w' → Goes P main R D Stop m (G (b.at a' (.inRegion ops rest :: k)) cs) w') → Goes P main R D Stop (m + c) (G (b.at a (.inRegion ops (i :: rest) :: k)) cs) w)
    (hend : ∀ (done : Nat → Bool) (a : Act) (w : World), J done a w → (∀ j, j < ops.size → done j = true) → Goes P main R D Stop m0 (G (b.at a (.inRegion ops [] :: k)) cs) w) :
    ∀ (fuel t : Nat) (l : Array Bool) (a : Act) (w : World), l.size = ops.size → fuel + cntD l ops.size = ops.size → J (doneOf l) a w →
      Goes P main R D Stop (m0 + fuel * c) (G (b.at a (.inRegion ops (Region.linearise.go md ops fuel t l []) :: k)) cs) w := by
  intro fuel
  induction fuel with
  | zero =>
    intro t l a w hl hc hJ
    simp only [Region.linearise.go, List.reverse_nil, Nat.zero_mul, Nat.add_zero]
    exact hend _ a w hJ (cntD_all (by omega))
  | succ fuel ih =>
    intro t l a w hl hc hJ
    simp only [Region.linearise.go]
    generalize hrs : (List.range ops.size).filter (fun i => !l.getD i true && ((ops[i]?).map (·.after.all fun e => !Region.binds md e || l.getD e.on false)).getD false) = rs
    cases hi : rs[t % rs.length]? with
    | none =>
      -- none is ready: all are done
      have hnil : rs = [] := by
        cases rs with
        | nil => rfl
        | cons x xs =>
          have hlt : t % (x :: xs).length < (x :: xs).length := Nat.mod_lt _ (by simp)
          rw [List.getElem?_eq_getElem hlt] at hi; cases hi
      have hall : ∀ n j, j < n → j < ops.size → doneOf l j = true := by
        intro n
        induction n with
        | zero => intro j hj; omega
        | succ n ihn =>
          intro j hj hjs
          by_cases e : j < n
          · exact ihn j e hjs
          · obtain rfl : j = n := by omega
            refine Classical.byContradiction fun hno => ?_
            have hmem : j ∈ rs := by
              rw [← hrs, List.mem_filter]
              refine ⟨List.mem_range.2 hjs, ?_⟩
              obtain ⟨o, ho⟩ : ∃ o, ops[j]? = some o := ⟨_, Array.getElem?_eq_getElem hjs⟩
              rw [ho]
              have h1 : l.getD j true = false := by
                have h2 : doneOf l j = false := by simpa using hno
                unfold doneOf at h2
                simp only [Array.getD_eq_getD_getElem?] at h2 ⊢
                rw [Array.getElem?_eq_getElem (by omega)] at h2 ⊢
                simpa using h2
              rw [h1]
              simp only [Bool.not_false, Bool.true_and, Option.map_some, Option.getD_some]
              rw [Array.all_eq_true_iff_forall_mem]
              intro e he
              have hlt := hedge j o ho e he
              have := ihn e.on hlt (by omega)
              unfold doneOf at this
              rw [this]
              simp
            rw [hnil] at hmem
            cases hmem
      have : cntD l ops.size = ops.size := by
        have key : ∀ n, n ≤ ops.size → cntD l n = n := by
          intro n
          induction n with
          | zero => intro _; rfl
          | succ n ihn =>
            intro hn
            simp only [cntD, ihn (by omega), hall ops.size n (by omega) (by omega), if_true]
        exact key _ (Nat.le_refl _)
      omega
    | some i =>
      dsimp only
      have hmem : i ∈ rs := List.mem_of_getElem? hi
      rw [← hrs, List.mem_filter] at hmem
      obtain ⟨hr, hb⟩ := hmem
      have his : i < ops.size := List.mem_range.1 hr
      obtain ⟨o, ho⟩ : ∃ o, ops[i]? = some o := ⟨_, Array.getElem?_eq_getElem his⟩
      rw [ho] at hb
      simp only [Option.map_some, Option.getD_some, Bool.and_eq_true, Bool.not_eq_true'] at hb
      obtain ⟨hb1, hb2⟩ := hb
      have hnd : doneOf l i = false := by
        unfold doneOf
        simp only [Array.getD_eq_getD_getElem?] at hb1 ⊢
        rw [Array.getElem?_eq_getElem (by omega)] at hb1 ⊢
        simpa using hb1
      have hh : hangs o (doneOf l) := by
        intro e he hbd
        rw [Array.all_eq_true_iff_forall_mem] at hb2
        have := hb2 e he
        rw [hbd md] at this
        simpa [doneOf] using this
      rw [linearise_go_acc, List.reverse_singleton, List.singleton_append]
      have hcs := cntD_set (l := l) (by omega) hnd ops.size
      rw [if_pos his] at hcs
      have e1 : m0 + (fuel + 1) * c = (m0 + fuel * c) + c := by rw [Nat.succ_mul]; omega
      rw [e1]
      refine hstep _ a w i o hJ ho hnd hh _ _ (fun hall => ?_) fun a' w' hJ' => ih _ _ a' w' (by simpa using hl) (by omega) ?_
      · -- the others are done: none is left
        have hfull : ∀ n, n ≤ ops.size → cntD (l.setIfInBounds i true) n = n := by
          intro n
          induction n with
          | zero => intro _; rfl
          | succ n ihn =>
            intro hn
            simp only [cntD, ihn (by omega), doneOf_set (by omega : i < l.size)]
            by_cases e : n = i
            · simp [e]
            · rw [if_neg e, hall n (by omega) e]; simp
        have h0 : fuel = 0 := by have := hfull _ (Nat.le_refl _); omega
        subst h0
        rfl
      · have : (fun j => if j = i then true else doneOf l j) = doneOf (l.setIfInBounds i true) := by
          funext j; rw [doneOf_set (by omega)]
        rw [← this]
        exact hJ'

/-- ████ A region that draws its order. ████ -/
theorem g_draw (T : Terms R D) {J : (Nat → Bool) → Act → World → Prop} {c m0 : Nat} (hd : LetsDraw D) (hJR : ∀ d a w w', J d a w → R w w' → J d a w') (hRd : ∀ w : World, R w { w with drawn := w.drawn + 1 })
    (hedge : ∀ (i : Nat) (o : Oper), ops[i]? = some o → ∀ e ∈ o.after, e.on < i)
    (hstep : ∀ (done : Nat → Bool) (a : Act) (w : World) (i : Nat) (o : Oper), J done a w → ops[i]? = some o → done i = false → hangs o done → ∀ (rest : List Nat) (m : Nat), ((∀ j, j < ops.size → j ≠ i → done j = true) → rest = []) →
      (∀ a' w', J (fun j => if j = i then true else done j) a' w' → Goes P main R D Stop m (G (b.at a' (.inRegion ops rest :: k)) cs) w') → Goes P main R D Stop (m + c) (G (b.at a (.inRegion ops (i :: rest) :: k)) cs) w)
    (hend : ∀ (done : Nat → Bool) (a : Act) (w : World), J done a w → (∀ j, j < ops.size → done j = true) → Goes P main R D Stop m0 (G (b.at a (.inRegion ops [] :: k)) cs) w) {id : Nat} {a : Act} {w : World} (hJ : J (fun _ => false) a w) :
    Goes P main R D Stop (m0 + ops.size * c + 1) (G (b.at a (.code (.region id ops true) :: k)) cs) w := by
  refine Goes.step rfl fun w₁ h₁ => ?_
  rw [stepG_region_draw]
  refine ⟨hd _, ?_⟩
  have hJ1 := hJR _ _ _ _ (hJR _ _ _ _ hJ h₁) (hRd w₁)
  have h0 : ∀ n, cntD (Array.replicate ops.size false) n = 0 := by
    intro n
    induction n with
    | zero => rfl
    | succ n ih =>
      have : doneOf (Array.replicate ops.size false) n = false := by
        unfold doneOf
        simp only [Array.getD_eq_getD_getElem?, Array.getElem?_replicate]
        split <;> rfl
      simp only [cntD, ih, this]; rfl
  have hz : doneOf (Array.replicate ops.size false) = fun _ => false := by
    funext j
    unfold doneOf
    simp only [Array.getD_eq_getD_getElem?, Array.getElem?_replicate]
    split <;> rfl
  have key : ∀ md t, Goes P main R D Stop (m0 + ops.size * c) (G (b.at a (.inRegion ops (Region.linearise md ops t) :: k)) cs) { w₁ with drawn := w₁.drawn + 1 } := fun md t =>
    go_ind T (md := md) hJR hedge hstep hend ops.size t (Array.replicate ops.size false) a _ (by simp) (by rw [h0]; omega) (by rw [hz]; exact hJ1)
  unfold Region.schedule
  split
  · exact key _ _
  · exact key _ _
end
end Go.Ph

namespace Go.Ph
open Go Go.Conc Go.ConcN Go.RowKit Go.Proofs Go.Proofs.Ytgmjdkhegbdbjaa
open Go.ConcR (KK wgBlock WgAt stA smA rd wr mk Payload Aside2 DC0)
set_option linter.unusedVariables false
set_option linter.unusedSimpArgs false
set_option linter.unusedSectionVars false

noncomputable def body64 : Code := Try.f64.body.getD .skip
noncomputable def L64 : Code := match body64 with | .seq _ (.seq _ (.seq _ (.block _ (.loop c)))) => c | _ => .skip
noncomputable def R64 : Array Oper := match L64 with | .seq _ (.seq _ (.seq (.block _ (.seq _ (.region _ ops _))) _)) => ops | _ => #[]
noncomputable def R64id : Nat := match L64 with | .seq _ (.seq _ (.seq (.block _ (.seq _ (.region id _ _))) _)) => id | _ => 0
noncomputable def opOf : Nat → Op
  | 0 => .move (.tmp 2)
  | 1 => .load 45 (.tmp 3)
  | 2 => .move (.tmp 1)
  | 3 => .call { callee := .value (.func 92), args := #[.tmp 20], argTypes := #[3] }
  | 4 => .move (.tmp 6)
  | 5 => .move (.tmp 1)
  | 6 => .binOp .add 3 (.tmp 23) (.const (.int .i64 1)) 3
  | 7 => .binOp .shl 42 (.tmp 22) (.tmp 24) 3
  | 8 => .binOp .or 42 (.tmp 21) (.tmp 25) 42
  | 9 => .call { callee := .value (.func 91), args := #[.tmp 19, .tmp 26], argTypes := #[45, 42] }
  | _ => .send (.tmp 18) (.tmp 27)
def dstOf (i : Nat) : Option Tmp := if i < 10 then some (18 + i) else none
def needsOf : Nat → List Nat
  | 3 => [2] | 6 => [5] | 7 => [4, 6] | 8 => [3, 7] | 9 => [1, 8, 3] | 10 => [0, 9] | _ => []

theorem R64_size : R64.size = 11 := rfl
theorem R64_lt {i : Nat} {o : Oper} (ho : R64[i]? = some o) : i < 11 := (Array.getElem?_eq_some_iff.1 ho).1
theorem R64_facts {i : Nat} {o : Oper} (ho : R64[i]? = some o) : o.guard = none ∧ o.dst = dstOf i ∧ o.op = opOf i ∧ (∀ e ∈ o.after, e.on < i) ∧ (∀ done, hangs o done → ∀ e ∈ needsOf i, done e = true) := by
  have hi := R64_lt ho
  rcases (by omega : i = 0 ∨ i = 1 ∨ i = 2 ∨ i = 3 ∨ i = 4 ∨ i = 5 ∨ i = 6 ∨ i = 7 ∨ i = 8 ∨ i = 9 ∨ i = 10) with rfl | rfl | rfl | rfl | rfl | rfl | rfl | rfl | rfl | rfl | rfl
  all_goals
    obtain rfl := Option.some.inj (ho.symm.trans (by rfl))
    refine ⟨rfl, rfl, rfl, by simp [R64, L64, body64, Try.f64], fun done h => ?_⟩
    unfold hangs at h
    simp [R64, L64, body64, Try.f64, Region.binds, needsOf] at h ⊢
    try exact h
    try (simp [h])

def shV (f b : Nat) : Int := ((b * 2 ^ (f + 1) : Nat) : Int)
def zOf (f b : Nat) : Int := bits .or .i64 (pt f) (shV f b)
def valOf (xs : List Int) (c f b : Nat) : Nat → Value
  | 0 => .chan (some c) | 1 => relOf xs | 2 => .int .i64 f | 3 => .int .i64 (pt f) | 4 => .int .i64 b | 5 => .int .i64 f | 6 => .int .i64 ((f + 1 : Nat) : Int) | 7 => .int .i64 (shV f b) | 8 => .int .i64 (zOf f b) | _ => .int .i64 (imgA xs (zOf f b))

theorem run6 (f : Nat) (hf : f < 4) (a : Act) (o : Oper) (ho : o.op = opOf 6) (h : a.eval (.tmp 23) = .int .i64 f) (w : World) :
    (execOp a.eval o).run Try.prog w = .ok (.value (.int .i64 ((f + 1 : Nat) : Int))) w ∧ (execOp a.eval o).events Try.prog w #[] = #[] := by
  have hc : a.eval (.const (.int .i64 1)) = .int .i64 1 := rfl
  have e1 : IntKind.i64.wrap ((f : Int) + 1) = ((f + 1 : Nat) : Int) := by rw [IntKind.wrap_i64]; omega
  unfold execOp
  simp only [ho, opOf, h, hc]
  constructor
  · simp [go_sem, e1]
  · simp [go_sem]
theorem run8 (x y : Int) (a : Act) (o : Oper) (ho : o.op = opOf 8) (h : a.eval (.tmp 21) = .int .i64 x) (h2 : a.eval (.tmp 25) = .int .i64 y) (w : World) :
    (execOp a.eval o).run Try.prog w = .ok (.value (.int .i64 (bits .or .i64 x y))) w ∧ (execOp a.eval o).events Try.prog w #[] = #[] := by
  unfold execOp
  simp only [ho, opOf, h, h2]
  constructor
  · simp [go_sem]
  · simp [go_sem]
theorem run7 (f b : Nat) (hf : f < 4) (hb : b < 8) (a : Act) (o : Oper) (ho : o.op = opOf 7) (h : a.eval (.tmp 22) = .int .i64 b) (h2 : a.eval (.tmp 24) = .int .i64 ((f + 1 : Nat) : Int)) (w : World) :
    (execOp a.eval o).run Try.prog w = .ok (.value (.int .i64 (shV f b))) w ∧ (execOp a.eval o).events Try.prog w #[] = #[] := by
  unfold execOp
  simp only [ho, opOf, h, h2]
  constructor
  · simp [go_sem]
    unfold shV
    rw [IntKind.wrap_i64]
    rcases (by omega : f = 0 ∨ f = 1 ∨ f = 2 ∨ f = 3) with rfl | rfl | rfl | rfl <;> simp <;> omega
  · simp [go_sem]

section
variable [Payload] {ty : TypeId} {Wg : Nat} {cap : Nat → Prop} {F : World → Prop} {xs : List Int} {bx c f b : Nat} {lim : Int} {ds : List Deferred}

/-- Where the drawn region stands. -/
structure SJ (F : World → Prop) (xs : List Int) (bx c f b : Nat) (lim : Int) (ds : List Deferred) (done : Nat → Bool) (a : Act) (w : World) : Prop where
  hF : GK F xs bx w
  ds : a.defers = ds
  sz : a.tmps.size = 29
  s1 : a.eval (.tmp 1) = .int .i64 f
  s2 : a.eval (.tmp 2) = .chan (some c)
  s3 : a.eval (.tmp 3) = .pointer (some ⟨bx, 0, none⟩)
  s6 : a.eval (.tmp 6) = .int .i64 b
  s14 : a.eval (.tmp 14) = .int .i64 lim
  s15 : a.eval (.tmp 15) = .int .i64 b
  vals : ∀ j, j < 10 → done j = true → a.eval (.tmp (18 + j)) = valOf xs c f b j
  clo : ∀ j, done j = true → ∀ e ∈ needsOf j, done e = true
  last : done 10 = false

theorem eval_put {a : Act} {d t : Nat} {v : Value} (h : t ≠ d) : (a.put (some d) v).eval (.tmp t) = a.eval (.tmp t) := by
  simp only [Act.put, Act.eval, Array.getD_eq_getD_getElem?]
  rw [Array.getElem?_setIfInBounds_ne (fun e => h e.symm)]
theorem eval_put_same {a : Act} {d : Nat} {v : Value} (h : d < a.tmps.size) : (a.put (some d) v).eval (.tmp d) = v := by
  simp [Act.put, Act.eval, Array.getD_eq_getD_getElem?, h]

theorem SJ.put {done : Nat → Bool} {a : Act} {w w' : World} (h : SJ F xs bx c f b lim ds done a w) {j : Nat} (hj : j < 10) (hn : ∀ e ∈ needsOf j, done e = true) (hF : GK F xs bx w') :
    SJ F xs bx c f b lim ds (fun i => if i = j then true else done i) (a.put (dstOf j) (valOf xs c f b j)) w' := by
  have hd : dstOf j = some (18 + j) := by unfold dstOf; rw [if_pos hj]
  rw [hd]
  refine ⟨hF, h.ds, by simpa [Act.put] using h.sz, (eval_put (by omega)).trans h.s1, (eval_put (by omega)).trans h.s2, (eval_put (by omega)).trans h.s3, (eval_put (by omega)).trans h.s6, (eval_put (by omega)).trans h.s14, (eval_put (by omega)).trans h.s15, fun i hi hdn => ?_, fun i hdn e he => ?_, ?_⟩
  · by_cases e : i = j
    · subst e; exact eval_put_same (by rw [h.sz]; omega)
    · rw [if_neg e] at hdn
      exact (eval_put (by omega)).trans (h.vals i hi hdn)
  · by_cases e' : e = j
    · rw [if_pos e']
    · rw [if_neg e']
      by_cases e2 : i = j
      · subst e2; exact hn e he
      · rw [if_neg e2] at hdn
        exact h.clo i hdn e he
  · rw [if_neg (by omega)]; exact h.last
theorem SJ.rely (rl : ∀ {w w₁ : World}, F w → RK ty Wg relTy cap w w₁ → F w₁) {done : Nat → Bool} {a : Act} {w w' : World} (h : SJ F xs bx c f b lim ds done a w) (r : RK ty Wg relTy cap w w') : SJ F xs bx c f b lim ds done a w' :=
  { h with hF := h.hF.rely rl r }

/-- One operation that yields a value in whatever world that meets F. -/
theorem g_val {P : Program} {main : Bool} {R : World → World → Prop} {D : World → World → Array Event → Prop} {Stop : Goroutine → World → Prop} {m : Nat} {b : Frame} {a : Act} {k : List Item} {cs : List Frame} {w : World} {ops : Array Oper} {i : Nat} {rest : List Nat} {o : Oper} {v : Value}
    (ho : ops[i]? = some o) (hg : o.guard = none) (hk : b.kind ≠ .early)
    (h : ∀ w₁, R w w₁ → (execOp a.eval o).run P w₁ = .ok (.value v) w₁ ∧ D w₁ w₁ (listed P b.fn a o w₁) ∧ Goes P main R D Stop m (G (b.at (a.put o.dst v) (.inRegion ops rest :: k)) cs) w₁) :
    Goes P main R D Stop (m + 1) (G (b.at a (.inRegion ops (i :: rest) :: k)) cs) w := by
  refine Goes.step rfl fun w₁ h₁ => ?_
  obtain ⟨h1, h2, h3⟩ := h w₁ h₁
  rw [stepG_value ho (by unfold Region.wanted; rw [hg]) hk h1]
  exact ⟨h2, h3⟩
end
end Go.Ph

namespace Go.Ph
open Go Go.Conc Go.ConcN Go.RowKit Go.Conc.Lib Go.ConcR.Gen Go.ConcN.Gen Go.Proofs Go.Proofs.Ytgmjdkhegbdbjaa
open Go.ConcR (KK wgBlock WgAt stA smA rd wr mk Payload Aside2 DC0)
set_option linter.unusedVariables false
set_option linter.unusedSimpArgs false
set_option linter.unusedSectionVars false

section
variable [Payload] {ty : TypeId} {Wg : Nat} {cap : Nat → Prop} {F : World → Prop} {xs : List Int} {bx c f b : Nat} {lim : Int} {ds : List Deferred}

theorem run_mv (a : Act) (o : Oper) (x : Operand) (v : Value) (ho : o.op = .move x) (h : a.eval x = v) (w : World) :
    (execOp a.eval o).run Try.prog w = .ok (.value v) w ∧ (execOp a.eval o).events Try.prog w #[] = #[] := by
  unfold execOp
  simp only [ho, h]
  exact ⟨rfl, rfl⟩
theorem run_ldR (a : Act) (o : Oper) (x : Tmp) (bx : Nat) (xs : List Int) (ho : o.op = .load 45 (.tmp x)) (h : a.eval (.tmp x) = .pointer (some ⟨bx, 0, none⟩)) (w : World) (hr : RelAt w bx xs) :
    (execOp a.eval o).run Try.prog w = .ok (.value (relOf xs)) w ∧ ∀ e ∈ (execOp a.eval o).events Try.prog w #[], ∃ j : Nat, e = ⟨.cell ⟨bx, j, none⟩, false, false⟩ := by
  have h0 := hr.cell0
  have h1 := hr.cell1
  have h2 := hr.cell2
  have h3 := hr.cell3
  have h4 := hr.cell4
  unfold execOp
  simp only [ho, h]
  constructor
  · simp [go_sem, h0, h1, h2, h3, h4]
  · simp [go_sem, h0, h1, h2, h3, h4]

theorem served_at {b : Frame} {a : Act} {k : List Item} {cs : List Frame} {ops : Array Oper} {i : Nat} {rest : List Nat} {o : Oper} (ho : ops[i]? = some o) (v : Value) :
    Conc.served (G (b.at a (.inRegion ops (i :: rest) :: k)) cs) v = G (b.at (a.put o.dst v) (.inRegion ops rest :: k)) cs := by
  unfold Conc.served
  show ({ (G (b.at a (.inRegion ops (i :: rest) :: k)) cs) with frame := (b.at a (.inRegion ops (i :: rest) :: k)).finish v, status := .running, offers := none } : Goroutine) = _
  rw [Frame.finish_at, ho]
  rfl

theorem quiet_K {P : Program} {fn : FuncId} {a : Act} {o : Oper} {w : World} (he : (execOp a.eval o).events P w #[] = #[]) : DK relTy cap w w (listed P fn a o w) := by
  rw [listed_nil he]
  exact dk_look (by simp)

set_option maxHeartbeats 1000000 in
theorem drawSends (rl : ∀ {w w₁ : World}, F w → RK ty Wg relTy cap w w₁ → F w₁) (hA : ∀ {w : World} (o : Obj), F w → F (w.alloc o)) (h4 : xs.length ≤ 4) (hf : f < 4) (hb : b < 8) (z : _root_.Fin 16) (hz : zOf f b = (z.val : Int))
    {k : Kid} (hkc : k.c = c) (hcap : k.cap = cap) : ∃ m0, ∀ (bx : Nat) (vs : List Value) (kk : List Item) (cs : List Frame) (a : Act) (w : World), SJ F xs bx c f b lim ds (fun _ => false) a w →
    (∀ done a' w', SJ F xs bx c f b lim ds done a' w' → ∃ m, Goes Try.prog false (RK ty Wg relTy cap) (DK relTy cap) (SendK Try.prog ty Wg relTy k vs) m (G ((base 64).at a' (.inRegion R64 [] :: kk)) cs) w') →
    Goes Try.prog false (RK ty Wg relTy cap) (DK relTy cap) (SendK Try.prog ty Wg relTy k (.int .i64 (imgA xs (zOf f b)) :: vs)) m0 (G ((base 64).at a (.code (.region R64id R64 true) :: kk)) cs) w := by
  obtain ⟨k1, c1⟩ := onePoint_u (main := false) (ty := ty) (Wg := Wg) (cap := cap)
  obtain ⟨k2, c2⟩ := related_u (main := false) (ty := ty) (Wg := Wg) (cap := cap) h4 z
  have T : Terms (RK ty Wg relTy cap) (DK relTy cap) := termsK
  refine ⟨0 + R64.size * (k1 + k2 + 3) + 1, fun bx vs kk cs a w hJ hnext => g_draw (J := SJ F xs bx c f b lim ds) (c := k1 + k2 + 3) (m0 := 0) T (fun w => ⟨⟨rfl, rfl, rfl⟩, Nat.le_refl _, fun _ _ => rfl, by simp⟩) (fun d a w w' h r => h.rely rl r) (fun w => ⟨Nat.le_refl _, fun _ _ => rfl, id⟩)
    (fun i o ho => (R64_facts ho).2.2.2.1) ?_ ?_ hJ⟩
  · intro done a w i o hJ ho hdn hh rest m hrest hcont
    have hi := R64_lt ho
    obtain ⟨hg, hd, hop, _, hn⟩ := R64_facts ho
    have hn := hn done hh
    have hkn : (base 64).kind ≠ .early := base_kind _
    -- a plain operation
    have plain : ∀ v, v = valOf xs c f b i → i < 10 → (∀ w₁, GK F xs bx w₁ → (execOp a.eval o).run Try.prog w₁ = .ok (.value v) w₁ ∧ DK relTy cap w₁ w₁ (listed Try.prog (base 64).fn a o w₁)) →
        Goes Try.prog false (RK ty Wg relTy cap) (DK relTy cap) (SendK Try.prog ty Wg relTy k (.int .i64 (imgA xs (zOf f b)) :: vs)) (m + (k1 + k2 + 3)) (G ((base 64).at a (.inRegion R64 (i :: rest) :: kk)) cs) w := by
      rintro v rfl hi10 hrun
      refine Goes.mono (n := m + 1) (g_val (v := valOf xs c f b i) ho hg hkn fun w₁ r => ?_) (by omega)
      have hJ1 := hJ.rely rl r
      obtain ⟨r1, r2⟩ := hrun w₁ hJ1.hF
      refine ⟨r1, r2, ?_⟩
      rw [hd]
      exact hcont _ _ (hJ1.put hi10 hn hJ1.hF)
    rcases (by omega : i = 0 ∨ i = 1 ∨ i = 2 ∨ i = 3 ∨ i = 4 ∨ i = 5 ∨ i = 6 ∨ i = 7 ∨ i = 8 ∨ i = 9 ∨ i = 10) with rfl | rfl | rfl | rfl | rfl | rfl | rfl | rfl | rfl | rfl | rfl
    · exact plain _ rfl (by omega) fun w₁ _ => have h := run_mv a o _ _ hop hJ.s2 w₁; ⟨h.1, quiet_K h.2⟩
    · refine plain _ rfl (by omega) fun w₁ hF => ?_
      have h := run_ldR a o _ bx xs hop hJ.s3 w₁ hF.2
      refine ⟨h.1, dk_look fun e he => ?_⟩
      obtain ⟨j, rfl⟩ := h.2 e (mem_listed he)
      exact .inl ⟨_, rfl, hF.2.lt, .inr (relAt_ty hF.2)⟩
    · exact plain _ rfl (by omega) fun w₁ _ => have h := run_mv a o _ _ hop hJ.s1 w₁; ⟨h.1, quiet_K h.2⟩
    · have h2 := hJ.vals 2 (by omega) (hn 2 (by simp [needsOf]))
      refine Goes.mono (n := m + k1 + 3) (Goes.call T ho (by unfold Region.wanted; rw [hg]) hkn hop (nf := k1) (Post := fun v w' => v = .int .i64 (pt f) ∧ GK F xs bx w') ?_ ?_) (by omega)
      · have e : (#[Operand.tmp 20].map a.eval) = #[.int .i64 (f : Int)] := by simp [show a.eval (.tmp 20) = .int .i64 (f : Int) from h2]
        rw [e]
        exact c1 f hf _ (fun h r => h.rely rl r) _ hJ.hF
      · rintro v w' ⟨rfl, hF⟩
        rw [hd]
        exact hcont _ _ (hJ.put (j := 3) (by omega) hn hF)
    · exact plain _ rfl (by omega) fun w₁ _ => have h := run_mv a o _ _ hop hJ.s6 w₁; ⟨h.1, quiet_K h.2⟩
    · exact plain _ rfl (by omega) fun w₁ _ => have h := run_mv a o _ _ hop hJ.s1 w₁; ⟨h.1, quiet_K h.2⟩
    · have h5 := hJ.vals 5 (by omega) (hn 5 (by simp [needsOf]))
      exact plain _ rfl (by omega) fun w₁ _ => have h := run6 f hf a o hop h5 w₁; ⟨h.1, quiet_K h.2⟩
    · have h1 := hJ.vals 4 (by omega) (hn 4 (by simp [needsOf]))
      have h2 := hJ.vals 6 (by omega) (hn 6 (by simp [needsOf]))
      exact plain _ rfl (by omega) fun w₁ _ => have h := run7 f b hf hb a o hop h1 h2 w₁; ⟨h.1, quiet_K h.2⟩
    · have h1 := hJ.vals 3 (by omega) (hn 3 (by simp [needsOf]))
      have h2 := hJ.vals 7 (by omega) (hn 7 (by simp [needsOf]))
      exact plain _ rfl (by omega) fun w₁ _ => have h := run8 _ _ a o hop h1 h2 w₁; ⟨h.1, quiet_K h.2⟩
    · have h1 := hJ.vals 1 (by omega) (hn 1 (by simp [needsOf]))
      have h2 := hJ.vals 8 (by omega) (hn 8 (by simp [needsOf]))
      refine Goes.mono (n := m + k2 + 3) (Goes.call T ho (by unfold Region.wanted; rw [hg]) hkn hop (nf := k2) (Post := fun v w' => v = .int .i64 (imgA xs z.val) ∧ GK F xs bx w') ?_ ?_) (by omega)
      · have e : (#[Operand.tmp 19, Operand.tmp 26].map a.eval) = #[relOf xs, .int .i64 (z.val : Int)] := by
          simp [show a.eval (.tmp 19) = relOf xs from h1, show a.eval (.tmp 26) = .int .i64 (zOf f b) from h2, hz]
        rw [e]
        exact c2 (GK F xs bx) (fun h r => h.rely rl r) (fun o h => ⟨hA o h.1, h.2.alloc o⟩) _ hJ.hF
      · rintro v w' ⟨rfl, hF⟩
        rw [hd, ← hz]
        exact hcont _ _ (hJ.put (j := 9) (by omega) hn hF)
    · have h0 := hJ.vals 0 (by omega) (hn 0 (by simp [needsOf]))
      have d9 := hn 9 (by simp [needsOf])
      have h9 := hJ.vals 9 (by omega) d9
      have d1 := hJ.clo 9 d9 1 (by simp [needsOf])
      have d8 := hJ.clo 9 d9 8 (by simp [needsOf])
      have d3 := hJ.clo 9 d9 3 (by simp [needsOf])
      have d7 := hJ.clo 8 d8 7 (by simp [needsOf])
      have d2 := hJ.clo 3 d3 2 (by simp [needsOf])
      have d4 := hJ.clo 7 d7 4 (by simp [needsOf])
      have d6 := hJ.clo 7 d7 6 (by simp [needsOf])
      have d5 := hJ.clo 6 d6 5 (by simp [needsOf])
      have d0 := hn 0 (by simp [needsOf])
      have hr : rest = [] := hrest fun j hj hne => by
        have hj : j < 11 := hj
        rcases (by omega : j = 0 ∨ j = 1 ∨ j = 2 ∨ j = 3 ∨ j = 4 ∨ j = 5 ∨ j = 6 ∨ j = 7 ∨ j = 8 ∨ j = 9) with rfl | rfl | rfl | rfl | rfl | rfl | rfl | rfl | rfl | rfl <;> assumption
      subst hr
      refine Goes.stop fun w₁ r => ?_
      subst hkc
      refine ⟨rfl, G ((base 64).at a (.inRegion R64 (10 :: []) :: kk)) cs, .tuple #[], ?_, fun w₂ r₂ => ?_⟩
      · exact stepG_sendC ho (by unfold Region.wanted; rw [hg]) hkn hop h0 h9
      · rw [hcap] at r₂ ⊢
        rw [served_at ho, hd]
        exact hnext done a w₂ (hJ.rely rl (r.trans r₂))
  · intro done a w hJ hall
    have := hall 10 (by rw [R64_size]; omega)
    rw [hJ.last] at this
    cases this
end
end Go.Ph

namespace Go.Ph
open Go Go.Conc Go.ConcN Go.RowKit Go.Conc.Lib Go.ConcR.Gen Go.ConcN.Gen Go.Proofs Go.Proofs.Ytgmjdkhegbdbjaa
open Go.ConcR (KK wgBlock WgAt stA smA rd wr mk Payload Aside2 DC0)
set_option linter.unusedVariables false
set_option linter.unusedSimpArgs false
set_option linter.unusedSectionVars false

section
variable [Payload] {ty : TypeId} {Wg : Nat} {cap : Nat → Prop} {F : World → Prop} {xs : List Int} {bx c f b : Nat} {lim : Int} {ds : List Deferred}

theorem run_asg (a : Act) (o : Oper) (x : Operand) (v : Value) (ho : o.op = .assign x) (h : a.eval x = v) (w : World) :
    (execOp a.eval o).run Try.prog w = .ok (.value v) w ∧ (execOp a.eval o).events Try.prog w #[] = #[] := by
  unfold execOp
  simp only [ho, h]
  exact ⟨rfl, rfl⟩
theorem run_lt (a : Act) (o : Oper) (x y : Operand) (t t' : TypeId) (i j : Int) (tt : Bool) (hd : decide (i < j) = tt) (ho : o.op = .binOp .lss t x y t') (h : a.eval x = .int .i64 i) (h2 : a.eval y = .int .i64 j) (w : World) :
    (execOp a.eval o).run Try.prog w = .ok (.value (.bool tt)) w ∧ (execOp a.eval o).events Try.prog w #[] = #[] := by
  subst hd
  unfold execOp
  simp only [ho, h, h2]
  constructor
  · simp [go_sem]
  · simp [go_sem]
theorem run_add (a : Act) (o : Oper) (x y : Operand) (t t' : TypeId) (i j : Int) (ho : o.op = .binOp .add t x y t') (h : a.eval x = .int .i64 i) (h2 : a.eval y = .int .i64 j) (hr : -9223372036854775808 ≤ i + j ∧ i + j ≤ 9223372036854775807) (w : World) :
    (execOp a.eval o).run Try.prog w = .ok (.value (.int .i64 (i + j))) w ∧ (execOp a.eval o).events Try.prog w #[] = #[] := by
  have e1 : IntKind.i64.wrap (i + j) = i + j := by rw [IntKind.wrap_i64]; omega
  unfold execOp
  simp only [ho, h, h2]
  constructor
  · simp [go_sem, e1]
  · simp [go_sem]

/-- At the loop's head. -/
structure HJ (F : World → Prop) (xs : List Int) (bx c f b : Nat) (lim : Int) (ds : List Deferred) (a : Act) (w : World) : Prop where
  hF : GK F xs bx w
  ds : a.defers = ds
  sz : a.tmps.size = 29
  s1 : a.eval (.tmp 1) = .int .i64 f
  s2 : a.eval (.tmp 2) = .chan (some c)
  s3 : a.eval (.tmp 3) = .pointer (some ⟨bx, 0, none⟩)
  s14 : a.eval (.tmp 14) = .int .i64 lim
  s15 : a.eval (.tmp 15) = .int .i64 b
theorem HJ.rely (rl : ∀ {w w₁ : World}, F w → RK ty Wg relTy cap w w₁ → F w₁) {a : Act} {w w' : World} (h : HJ F xs bx c f b lim ds a w) (r : RK ty Wg relTy cap w w') : HJ F xs bx c f b lim ds a w' :=
  { h with hF := h.hF.rely rl r }
theorem HJ.put {a : Act} {w : World} (h : HJ F xs bx c f b lim ds a w) {d : Nat} (hd : d ≠ 1 ∧ d ≠ 2 ∧ d ≠ 3 ∧ d ≠ 14 ∧ d ≠ 15) (v : Value) : HJ F xs bx c f b lim ds (a.put (some d) v) w :=
  ⟨h.hF, h.ds, by simpa [Act.put] using h.sz, (eval_put (by omega)).trans h.s1, (eval_put (by omega)).trans h.s2, (eval_put (by omega)).trans h.s3, (eval_put (by omega)).trans h.s14, (eval_put (by omega)).trans h.s15⟩
theorem HJ.next {a : Act} {w : World} (h : HJ F xs bx c f b lim ds a w) : HJ F xs bx c f (b + 1) lim ds (a.put (some 15) (.int .i64 ((b : Int) + 1))) w :=
  ⟨h.hF, h.ds, by simpa [Act.put] using h.sz, (eval_put (by omega)).trans h.s1, (eval_put (by omega)).trans h.s2, (eval_put (by omega)).trans h.s3, (eval_put (by omega)).trans h.s14, eval_put_same (by rw [h.sz]; omega)⟩
theorem HJ.sj {a : Act} {w : World} (h : HJ F xs bx c f b lim ds a w) (h6 : a.eval (.tmp 6) = .int .i64 b) : SJ F xs bx c f b lim ds (fun _ => false) a w :=
  ⟨h.hF, h.ds, h.sz, h.s1, h.s2, h.s3, h6, h.s14, h.s15, fun _ _ h => (by cases h), fun _ h => (by cases h), rfl⟩
theorem SJ.hj {done : Nat → Bool} {a : Act} {w : World} (h : SJ F xs bx c f b lim ds done a w) : HJ F xs bx c f b lim ds a w := ⟨h.hF, h.ds, h.sz, h.s1, h.s2, h.s3, h.s14, h.s15⟩

theorem g_exit {P : Program} {main : Bool} {R : World → World → Prop} {D : World → World → Array Event → Prop} {Stop : Goroutine → World → Prop} {m : Nat} {b : Frame} {a : Act} {k k' : List Item} {cs : List Frame} {w : World} {id : Nat} (T : Terms R D) (he : exitTo id k = some k')
    (h : Goes P main R D Stop m (G (b.at a k') cs) w) : Goes P main R D Stop (m + 1) (G (b.at a (.code (.exit id) :: k)) cs) w := Goes.step rfl fun w₁ h₁ => by rw [stepG_exit he]; exact ⟨T.idle _, h.rely T.trans h₁⟩
theorem g_ends {P : Program} {main : Bool} {R : World → World → Prop} {D : World → World → Array Event → Prop} {Stop : Goroutine → World → Prop} {m : Nat} {b : Frame} {a : Act} {cs : List Frame} {w : World} (T : Terms R D)
    (h : Goes P main R D Stop m (G { b.at a [] with mode := .returning } cs) w) : Goes P main R D Stop (m + 1) (G (b.at a []) cs) w := Goes.step rfl fun w₁ h₁ => by rw [stepG_end]; exact ⟨T.idle _, h.rely T.trans h₁⟩

/-- what is sent from here on -/
def sentFrom (xs : List Int) (f : Nat) : Nat → Nat → List Value
  | _, 0 => []
  | b, r + 1 => .int .i64 (imgA xs (zOf f b)) :: sentFrom xs f (b + 1) r
theorem zOf_is : ∀ f : _root_.Fin 4, ∀ b : _root_.Fin 8, b.val * 2 ^ (f.val + 1) < 16 → ∃ z : _root_.Fin 16, zOf f.val b.val = (z.val : Int) := by decide +kernel

set_option maxHeartbeats 1000000 in
theorem sendsFrom (rl : ∀ {w w₁ : World}, F w → RK ty Wg relTy cap w w₁ → F w₁) (hA : ∀ {w : World} (o : Obj), F w → F (w.alloc o)) (h4 : xs.length ≤ 4) (hf : f < 4) (n : Nat) (hn : n * 2 ^ (f + 1) ≤ 16) {k : Kid} (hkc : k.c = c) (hcap : k.cap = cap) (cs : List Frame)
    (hend : ∀ bx a w, HJ F xs bx c f n n ds a w → SendK Try.prog ty Wg relTy k [] (G { (base 64).at a [] with mode := .returning } cs) w) :
    ∀ r b, b + r = n → ∃ m, ∀ bx a w, HJ F xs bx c f b n ds a w →
      Goes Try.prog false (RK ty Wg relTy cap) (DK relTy cap) (SendK Try.prog ty Wg relTy k (sentFrom xs f b r)) m (G ((base 64).at a [.code L64, .inLoop L64, .inBlock 0]) cs) w := by
  have T : Terms (RK ty Wg relTy cap) (DK relTy cap) := termsK
  have hkn : (base 64).kind ≠ .early := base_kind _
  have hn8 : n ≤ 8 := by
    have : 2 ≤ 2 ^ (f + 1) := by rw [Nat.pow_succ]; have := Nat.one_le_two_pow (n := f); omega
    have := Nat.mul_le_mul_left n this
    omega
  intro r
  induction r with
  | zero =>
    intro b hb
    obtain rfl : b = n := by omega
    refine ⟨8, fun bx a w h => ?_⟩
    · refine g_seq T ?_
      refine g_region T rfl ?_
      refine g_val (v := .bool false) rfl rfl hkn fun w₁ r₁ => ?_
      have h1 := h.rely rl r₁
      have hr := fun o t t' ho => run_lt a o _ _ t t' b b false (by simp) ho h1.s15 h1.s14 w₁
      refine ⟨(hr _ _ _ rfl).1, quiet_K (hr _ _ _ rfl).2, ?_⟩
      refine g_end T ?_
      refine g_seq T ?_
      refine g_false T (eval_put_same (by rw [h1.sz]; omega)) ?_
      refine g_exit T rfl ?_
      refine g_ends T ?_
      refine Goes.stop (n := 0) fun w₂ r₂ => ?_
      exact hend _ _ _ ((h1.put (by omega) _).rely rl r₂)
  | succ r ih =>
    intro b hb
    obtain ⟨mi, ih⟩ := ih (b + 1) (by omega)
    have hb8 : b < 8 := by omega
    obtain ⟨z, hz⟩ := zOf_is ⟨f, hf⟩ ⟨b, hb8⟩ (by
      have : (b + 1) * 2 ^ (f + 1) ≤ n * 2 ^ (f + 1) := Nat.mul_le_mul_right _ (by omega)
      rw [Nat.succ_mul] at this
      have := Nat.one_le_two_pow (n := f + 1)
      show b * 2 ^ (f + 1) < 16
      omega)
    obtain ⟨md, hd⟩ := drawSends (ty := ty) (Wg := Wg) (cap := cap) (F := F) (xs := xs) (c := c) (f := f) (b := b) (lim := n) (ds := ds) rl hA h4 hf hb8 z hz hkc hcap
    refine ⟨md + 14, fun bx a w h => ?_⟩
    · refine g_seq T ?_
      refine g_region T rfl ?_
      refine g_val (v := .bool true) rfl rfl hkn fun w₁ r₁ => ?_
      have h1 := h.rely rl r₁
      have hr := fun o t t' ho => run_lt a o _ _ t t' b n true (by simp; omega) ho h1.s15 h1.s14 w₁
      refine ⟨(hr _ _ _ rfl).1, quiet_K (hr _ _ _ rfl).2, ?_⟩
      refine g_end T ?_
      refine g_seq T ?_
      refine g_true T (eval_put_same (by rw [h1.sz]; omega)) ?_
      refine g_skip T ?_
      refine g_seq T ?_
      refine g_block T ?_
      refine g_seq T ?_
      refine g_region T rfl ?_
      have h2 := h1.put (d := 16) (by omega) (.bool true)
      clear h1 hr h r₁
      refine g_val (v := .int .i64 b) rfl rfl hkn fun w₂ r₂ => ?_
      have h3 := h2.rely rl r₂
      have hr := fun o ho => run_mv _ o _ _ ho h3.s15 w₂
      refine ⟨(hr _ rfl).1, quiet_K (hr _ rfl).2, ?_⟩
      have h4' := h3.put (d := 17) (by omega) (.int .i64 b)
      have e17 := eval_put_same (a := a.put (some 16) (.bool true)) (d := 17) (v := .int .i64 (b : Int)) (by rw [h3.sz]; omega)
      clear h2 h3 hr r₂
      refine g_val (v := .int .i64 b) rfl rfl hkn fun w₃ r₃ => ?_
      have h5 := h4'.rely rl r₃
      have hr := fun o ho => run_asg _ o _ _ ho e17 w₃
      refine ⟨(hr _ rfl).1, quiet_K (hr _ rfl).2, ?_⟩
      have h6 := h5.put (d := 6) (by omega) (.int .i64 b)
      have e6 := eval_put_same (a := (a.put (some 16) (.bool true)).put (some 17) (.int .i64 (b : Int))) (d := 6) (v := .int .i64 (b : Int)) (by rw [h5.sz]; omega)
      clear h4' h5 hr r₃ e17
      refine g_end T ?_
      refine hd _ _ _ cs _ w₃ (h6.sj e6) fun done a' w' hs => ?_
      have h7 := hs.hj
      refine ⟨mi + 7, ?_⟩
      · refine g_end T ?_
        refine g_inBlock T ?_
        refine g_region T rfl ?_
        refine g_val (v := .int .i64 ((b : Int) + 1)) rfl rfl hkn fun w₄ r₄ => ?_
        have h8 := h7.rely rl r₄
        have hr := fun o t t' ho => run_add a' o (.tmp 15) (.const (.int .i64 1)) t t' b 1 ho h8.s15 rfl (by omega) w₄
        refine ⟨(hr _ _ _ rfl).1, quiet_K (hr _ _ _ rfl).2, ?_⟩
        have h9 := h8.put (d := 28) (by omega) (.int .i64 ((b : Int) + 1))
        have e28 := eval_put_same (a := a') (d := 28) (v := .int .i64 ((b : Int) + 1)) (by rw [h8.sz]; omega)
        clear h8 hr r₄
        refine g_val (v := .int .i64 ((b : Int) + 1)) rfl rfl hkn fun w₅ r₅ => ?_
        have h10 := h9.rely rl r₅
        have hr := fun o ho => run_mv _ o _ _ ho e28 w₅
        refine ⟨(hr _ rfl).1, quiet_K (hr _ rfl).2, ?_⟩
        refine g_end T ?_
        refine g_inLoop T ?_
        exact ih _ _ _ h10.next
end
end Go.Ph

namespace Go.Ph
open Go Go.Conc Go.ConcN Go.RowKit Go.Conc.Lib Go.ConcR.Gen Go.ConcN.Gen
open Go.ConcR (KK wgBlock WgAt stA smA rd wr mk Payload Aside2 DC0)
set_option linter.unusedVariables false
set_option linter.unusedSimpArgs false
set_option linter.unusedSectionVars false
variable [Payload] {L : WgLink}



section
variable {P : Program} {ty : TypeId} {Wg C : Nat} {val : Value}

/-- Silent steps to one that says 'disable'. -/
def SilDis (P : Program) : Nat → Goroutine → World → Prop
  | 0, g, w => ∃ g', stepG P false g w = .go g' w #[mk .disable]
  | k + 1, g, w => ∃ g', stepG P false g w = .go g' w #[] ∧ SilDis P k g' w
def Mid (P : Program) (Wg : Nat) (g : Goroutine) (w : World) : Prop := g.status = .running ∧ ∃ g' k, stepG P false g w = .go g' w #[mk (.releaseMerge (stA Wg))] ∧ SilDis P k g' w

theorem sil_no {k n : Nat} {g : Goroutine} {w : World} (h : SilDis P k g w) : ¬ Goes P false (RW ty Wg C 1 0 0) (DWs Wg No No C 1 1) (AtR0 P ty Wg C 1 0 1 val) n g w := by
  induction k generalizing n g w with
  | zero =>
    obtain ⟨g', hs⟩ := h
    intro hG
    rcases Goes.cases hG with hstop | ⟨n', rfl, hstep⟩
    · obtain ⟨_, _, g2, h2, _⟩ := hstop w (RW.refl w)
      rw [hs] at h2
      simp [mk] at h2
    · obtain ⟨g2, w2, es, h2, hD, _⟩ := hstep w (RW.refl w)
      rw [hs] at h2
      simp only [GStep.go.injEq] at h2
      obtain ⟨_, _, rfl⟩ := h2
      exact (hD.2 (mk .disable) (by simp)).2.1 rfl
  | succ k ih =>
    obtain ⟨g', hs, hk⟩ := h
    intro hG
    rcases Goes.cases hG with hstop | ⟨n', rfl, hstep⟩
    · obtain ⟨_, _, g2, h2, _⟩ := hstop w (RW.refl w)
      rw [hs] at h2
      simp at h2
    · obtain ⟨g2, w2, es, h2, _, hG2⟩ := hstep w (RW.refl w)
      rw [hs] at h2
      simp only [GStep.go.injEq] at h2
      obtain ⟨rfl, rfl, _⟩ := h2
      exact ih hk hG2

theorem rel_walk {m n : Nat} {g : Goroutine} {w : World} (h : Goes P false (RW ty Wg C 1 0 0) DC0 (Mid P Wg) m g w) (hk : Goes P false (RW ty Wg C 1 0 0) (DWs Wg No No C 1 1) (AtR0 P ty Wg C 1 0 1 val) n g w) :
    Goes P false (RW ty Wg C 1 0 0) DC0 (AtR0 P ty Wg C 1 0 1 val) m g w := by
  have tr : ∀ a b c, RW ty Wg C 1 0 0 a b → RW ty Wg C 1 0 0 b c → RW ty Wg C 1 0 0 a c := fun _ _ _ h1 h2 => h1.trans h2
  induction m generalizing n g w with
  | zero =>
    intro w₁ r
    obtain ⟨hr, g', k, hs, hsil⟩ := h w₁ r
    rcases Goes.cases hk with hstop | ⟨n', rfl, hstep⟩
    · exact hstop w₁ r
    · obtain ⟨g2, w2, es, h2, _, hG2⟩ := hstep w₁ r
      rw [hs] at h2
      simp only [GStep.go.injEq] at h2
      obtain ⟨rfl, rfl, _⟩ := h2
      exact absurd hG2 (sil_no hsil)
  | succ m ih =>
    rcases h with h | ⟨hr, h⟩
    · refine .inl fun w₁ r => ?_
      obtain ⟨hr, g', k, hs, hsil⟩ := h w₁ r
      rcases Goes.cases hk with hstop | ⟨n', rfl, hstep⟩
      · exact hstop w₁ r
      · obtain ⟨g2, w2, es, h2, _, hG2⟩ := hstep w₁ r
        rw [hs] at h2
        simp only [GStep.go.injEq] at h2
        obtain ⟨rfl, rfl, _⟩ := h2
        exact absurd hG2 (sil_no hsil)
    · refine .inr ⟨hr, fun w₁ r => ?_⟩
      obtain ⟨g', w', es, hs, hD, hG⟩ := goes_elim (h w₁ r)
      obtain ⟨rfl, rfl⟩ := hD
      rw [hs]
      refine ⟨⟨rfl, rfl⟩, ?_⟩
      rcases Goes.cases hk with hstop | ⟨n', rfl, hstep⟩
      · obtain ⟨_, _, g2, h2, _⟩ := hstop w' r
        rw [hs] at h2
        simp at h2
      · obtain ⟨g2, w2, es, h2, _, hG2⟩ := hstep w' r
        rw [hs] at h2
        simp only [GStep.go.injEq] at h2
        obtain ⟨rfl, rfl, _⟩ := h2
        exact ih hG hG2
end

section
variable {P : Program} {Wg C : Nat} {val : Value}

set_option maxRecDepth 100000 in
theorem doneWalk (H : WgLib P L) {c : Frame} {cs : List Frame} {qt : Nat} (hcm : c.mode = .returning) (hT : QuitsD P qt 0 (G c cs)) :
    ∃ m, ∀ w, (WgLive L.tWg Wg w ∧ Has C 0 val w) → Goes P false (RW L.tWg Wg C 1 0 0) DC0 (AtR0 P L.tWg Wg C 1 0 1 val) m (G ((baseD L.done).at ⟨#[.pointer (some ⟨Wg, 0, none⟩), undef, undef, undef], []⟩ [.code (body_done L)]) (c :: cs)) w := by
  refine ⟨20, fun w hF => ?_⟩
  have hkit := doneN H (Own := No) (Rd := No) (Wg := Wg) (C := C) (n := 1) (Low := 0) (k := 1) (val := val) hcm hT w hF
  refine rel_walk ?_ hkit
  clear hkit
  have rl : ∀ {w w₁ : World}, (WgLive L.tWg Wg w ∧ Has C 0 val w) → RW L.tWg Wg C 1 0 0 w w₁ → WgLive L.tWg Wg w₁ ∧ Has C 0 val w₁ := fun h r => ⟨r.live h.1, r.cell.trans h.2⟩
  have dn : ∀ (w : World) (es : Array Event), (∀ e ∈ es, False) → DC0 w w es := fun w es h => d0_none w es h
  have T : Terms (RW L.tWg Wg C 1 0 0) DC0 := ⟨fun _ _ _ h1 h2 => h1.trans h2, fun w => dn w #[] (by simp)⟩
  lib_facts
  simp only [body_done, body_add, doneFn, addFn, Option.getD_some]
  repeat
    first
      | refine g_seq T ?_
      | refine g_end T ?_
      | refine g_skip T ?_
      | refine g_block T ?_
      | refine g_loop T ?_
      | refine g_inBlock T ?_
      | refine g_ret T ?_
      | refine g_region T rfl ?_
      | refine g_true T rfl ?_
      | refine g_false T rfl ?_
      | (refine g_no T rfl rfl ?_
         walk_nrm)
      | (refine Goes.step rfl (fun _ h₁ => ?_)
         replace hF := rl hF h₁
         clear h₁
         refine goes_oper_k rfl rfl (base_kind _) (fun K hK => ?_)
         go_simp
         refine hK _ _ ⟨?_, ?_⟩
         · refine dn _ _ (fun e he => ?_)
           have hm := mem_listed he
           simp [go_sem, *] at hm
         clear hK K
         try w_num)
      | (refine Goes.step rfl (fun _ h₁ => ?_)
         replace hF := rl hF h₁
         clear h₁
         refine goes_oper_k rfl rfl (baseD_kind _) (fun K hK => ?_)
         go_simp
         refine hK _ _ ⟨?_, ?_⟩
         · refine dn _ _ (fun e he => ?_)
           have hm := mem_listed he
           simp [go_sem, *] at hm
         clear hK K
         try w_num)
  refine Goes.step rfl (fun _ h₁ => ?_)
  replace hF := rl hF h₁
  clear h₁
  refine goes_call rfl rfl (baseD_kind _) rfl H.f_add (nm_add L) rfl ⟨dn _ _ (fun e he => by simp at he), ?_⟩
  walk_nrmf addFn
  repeat
    first
      | refine g_seq T ?_
      | refine g_end T ?_
      | refine g_skip T ?_
      | refine g_block T ?_
      | refine g_loop T ?_
      | refine g_inBlock T ?_
      | refine g_ret T ?_
      | refine g_region T rfl ?_
      | refine g_true T rfl ?_
      | refine g_false T rfl ?_
      | (refine g_no T rfl rfl ?_
         walk_nrm)
      | (refine Goes.step rfl (fun _ h₁ => ?_)
         replace hF := rl hF h₁
         clear h₁
         refine goes_oper_k rfl rfl (base_kind _) (fun K hK => ?_)
         go_simp
         refine hK _ _ ⟨?_, ?_⟩
         · refine dn _ _ (fun e he => ?_)
           have hm := mem_listed he
           simp [go_sem, *] at hm
         clear hK K
         try w_num)
      | (refine Goes.step rfl (fun _ h₁ => ?_)
         replace hF := rl hF h₁
         clear h₁
         refine goes_oper_k rfl rfl (baseD_kind _) (fun K hK => ?_)
         go_simp
         refine hK _ _ ⟨?_, ?_⟩
         · refine dn _ _ (fun e he => ?_)
           have hm := mem_listed he
           simp [go_sem, *] at hm
         clear hK K
         try w_num)
  refine Goes.step rfl (fun _ h₁ => ?_)
  replace hF := rl hF h₁
  clear h₁
  refine goes_oper_k rfl rfl (base_kind _) (fun K hK => ?_)
  have hcv := run_convert_to_unsafe (P := P) H.underlying_tWgP H.underlying_tUP H.room_tWg (WgLive.cell0 hF.1).choose_spec
  have hce := fun es => events_convert_to_unsafe (P := P) H.underlying_tWgP H.underlying_tUP H.room_tWg (WgLive.cell0 hF.1).choose_spec es
  go_simp
  refine hK _ _ ⟨?_, ?_⟩
  · refine dn _ _ (fun e he => ?_)
    have hm := mem_listed he
    simp [go_sem, *] at hm
  clear hK K hcv hce
  try w_num
  refine Goes.stop (fun w₁ h₁ => ?_)
  refine ⟨rfl, _, 3, stepG_markAt .releaseMerge (by simp) rfl rfl (base_kind _) rfl H.f_relMerge (x_relMerge_n L) (x_relMerge_b L) (x_relMerge_x L) (x_relMerge_f L) (by simp [Act.eval, stA]), ?_⟩
  refine ⟨_, stepG_region_end, _, stepG_seq, _, stepG_region, _, stepG_mark0 .disable (by simp) rfl rfl (base_kind _) rfl H.f_disable (x_disable_n L) (x_disable_b L) (x_disable_x L) (x_disable_f L)⟩
end
end Go.Ph

namespace Go.Proofs.Ytgmjdkhegbdbjaa
open Go
abbrev link : Go.Conc.Lib.WgLink := { add := 61, done := 63, wait := 65, relMerge := 78, disable := 79, enable := 80, inBubble := 81, associate := 82, fatal := 83, uOr := 84, uAdd := 85, raceRead := 86, uLoad := 87, uStore := 88, disassociate := 89, semrelease := 90, acquire := 93, isAssociated := 94, uCas := 95, raceWrite := 96, semacquire := 97, orU64 := 110, addU64 := 111, loadU64 := 112, storeU64 := 113, casU64 := 114, tWgP := 95, tUP := 97, tAssoc := 98, tWg := 80, tAU := 77, tU64 := 75, tUint := 102, tU32 := 78, tPU32 := 103, tPAU := 118, tPU64 := 120, tNoCopy := 72, tANoCopy := 73, tAlign64 := 74 }
theorem wgLib : Go.Conc.Lib.WgLib Try.prog link :=
  ⟨Try.func61, Try.func63, Try.func65, Try.func78, Try.func79, Try.func80, Try.func81, Try.func82, Try.func83, Try.func84, Try.func85, Try.func86, Try.func87, Try.func88, Try.func89, Try.func90, Try.func93, Try.func94, Try.func95, Try.func96, Try.func97, Try.func110, Try.func111, Try.func112, Try.func113, Try.func114, Try.underlying95, Try.runUnderlying95, Try.sizeOf95, Try.isAgg95, Try.zeroValue95, Try.underlying97, Try.runUnderlying97, Try.sizeOf97, Try.isAgg97, Try.zeroValue97, Try.underlying98, Try.runUnderlying98, Try.sizeOf98, Try.isAgg98, Try.zeroValue98, Try.underlying80, Try.runUnderlying80, Try.sizeOf80, Try.isAgg80, Try.zeroValue80, Try.underlying77, Try.runUnderlying77, Try.sizeOf77, Try.isAgg77, Try.zeroValue77, Try.underlying75, Try.runUnderlying75, Try.sizeOf75, Try.isAgg75, Try.zeroValue75, Try.underlying102, Try.runUnderlying102, Try.sizeOf102, Try.isAgg102, Try.zeroValue102, Try.underlying78, Try.runUnderlying78, Try.sizeOf78, Try.isAgg78, Try.zeroValue78, Try.underlying103, Try.runUnderlying103, Try.sizeOf103, Try.isAgg103, Try.zeroValue103, Try.underlying118, Try.runUnderlying118, Try.sizeOf118, Try.isAgg118, Try.zeroValue118, Try.underlying120, Try.runUnderlying120, Try.sizeOf120, Try.isAgg120, Try.zeroValue120, Try.underlying0, Try.runUnderlying0, Try.sizeOf0, Try.isAgg0, Try.zeroValue0, Try.underlying3, Try.runUnderlying3, Try.sizeOf3, Try.isAgg3, Try.zeroValue3, Try.underlying4, Try.runUnderlying4, Try.sizeOf4, Try.isAgg4, Try.zeroValue4, Try.underlying9, Try.runUnderlying9, Try.sizeOf9, Try.isAgg9, Try.zeroValue9, Try.underlying20, Try.runUnderlying20, Try.sizeOf20, Try.isAgg20, Try.zeroValue20, Try.underlying21, Try.runUnderlying21, Try.sizeOf21, Try.isAgg21, Try.zeroValue21, (by kernel_rfl), (by kernel_rfl)⟩
end Go.Proofs.Ytgmjdkhegbdbjaa

namespace Go.Ph
open Go Go.Conc Go.ConcN Go.RowKit Go.Conc.Lib Go.ConcR.Gen Go.ConcN.Gen Go.Proofs Go.Proofs.Ytgmjdkhegbdbjaa
open Go.ConcR (KK wgBlock WgAt stA smA rd wr mk Payload Aside2 DC0)
set_option linter.unusedVariables false
set_option linter.unusedSimpArgs false
set_option linter.unusedSectionVars false
set_option maxRecDepth 100000

noncomputable def body62 : Code := Try.f62.body.getD .skip
noncomputable def R62 : Array Oper := match body62 with | .seq _ (.region _ ops _) => ops | _ => #[]
noncomputable def bot : Frame := { (default : Frame) with fn := Try.prog.funcs.size, defers := [], mode := .panicking [goexitEntry] }
def done1 (Wg : Nat) : Deferred := dcall 63 #[.pointer (some ⟨Wg, 0, none⟩)]
/-- the literal's frame, at its call -/
noncomputable def fr62 (a : Act) : Frame := (baseD 62).at a [.inRegion R62 [3]]

section
variable [Payload] {Wg : Nat}

/-- the literal's own way out, behind Done: it only leaves -/
theorem quits62 (T : Array Value) : QuitsD Try.prog 2 0 (G { (baseD 62).at ⟨T, []⟩ [] with mode := .returning } [bot]) := by
  refine QuitsD.ctl (g' := G bot []) rfl (fun w => ?_) ?_
  · simp [G, stepG, unwind, doReturn, results, Frame.at, baseD, bot, Try.func62, Try.f62, seen, GStep.after, goexitEntry]
  refine QuitsD.ctl (g' := { G bot [] with status := .finished }) rfl (fun w => ?_) ⟨rfl, rfl⟩
  simp [G, stepG, unwind, bot, goexitEntry, Frame.catches]
  rfl

/-- what a worker knows -/
structure CW (Wg Br Bf Bm c f : Nat) (xs : List Int) (w : World) : Prop where
  live : WgLive link.tWg Wg w
  rel : RelAt w Br xs
  ltf : Bf < w.heap.size
  first : w.cell? ⟨Bf, 0, none⟩ = some (.int .i64 f)
  ltm : Bm < w.heap.size
  made : Has Bm 0 (.chan (some c)) w
def capOf (Br Bf Bm : Nat) (b : Nat) : Prop := b = Br ∨ b = Bf ∨ b = Bm
variable {Br Bf Bm c f : Nat} {xs : List Int}
theorem CW.rely {w w₁ : World} (h : CW Wg Br Bf Bm c f xs w) (r : RK link.tWg Wg relTy (capOf Br Bf Bm) w w₁) : CW Wg Br Bf Bm c f xs w₁ :=
  ⟨r.live h.live, (r.keep Br (.inl (.inl rfl))).trans h.rel, Nat.lt_of_lt_of_le h.ltf r.size, (World.cell?_of_block (r.keep Bf (.inl (.inr (.inl rfl))))).trans h.first, Nat.lt_of_lt_of_le h.ltm r.size, (World.cell?_of_block (r.keep Bm (.inl (.inr (.inr rfl))))).trans h.made⟩
theorem wgLive_lt {ty : TypeId} {w : World} (h : WgLive ty Wg w) : Wg < w.heap.size := by
  obtain ⟨_, _, h⟩ := h
  exact (Array.getElem?_eq_some_iff.1 (show w.heap[Wg]? = _ from h)).1
theorem CW.alloc {w : World} (h : CW Wg Br Bf Bm c f xs w) (o : Obj) : CW Wg Br Bf Bm c f xs (w.alloc o) := by
  have hs : w.heap.size ≤ (w.alloc o).heap.size := by rw [World.size_alloc]; exact Nat.le_succ _
  refine ⟨?_, h.rel.alloc o, Nat.lt_of_lt_of_le h.ltf hs, (World.cell?_alloc_lt _ _ _ h.ltf).trans h.first, Nat.lt_of_lt_of_le h.ltm hs, (World.cell?_alloc_lt _ _ _ h.ltm).trans h.made⟩
  have hl := wgLive_lt h.live
  obtain ⟨st, sm, hw⟩ := h.live
  exact ⟨st, sm, hw.of_block (Below.heap_alloc _ _ _ hl)⟩

theorem rw_terms {ty : TypeId} {C : Nat} : Terms (RW ty Wg C 1 0 0) DC0 := ⟨fun _ _ _ h1 h2 => h1.trans h2, fun w => d0_none w #[] (by simp)⟩
theorem kn_shut {w : World} {C s r : Nat} {tm : Bool} {v : Value} (hc : w.heap[c]? = some (.chan 0 #[] false s r tm)) (h : WgLive link.tWg Wg w ∧ Has C 0 v w) : WgLive link.tWg Wg (w.shut c s r tm) ∧ Has C 0 v (w.shut c s r tm) := by
  have hA : ∀ b, b ≠ c → (w.shut c s r tm).heap[b]? = w.heap[b]? := fun b e => by unfold World.shut; exact Array.getElem?_setIfInBounds_ne (fun x => e x.symm)
  obtain ⟨⟨st, sm, h1⟩, h2⟩ := h
  constructor
  · refine ⟨st, sm, h1.of_block (hA Wg fun e => ?_)⟩
    subst e
    rw [show w.heap[Wg]? = _ from h1] at hc; cases hc
  · refine (World.cell?_of_block (hA C fun e => ?_)).trans h2
    subst e
    unfold Has World.cell? at h2
    simp [hc] at h2

/-- Behind the last send: the close; then the way to Done's release. -/
theorem childEnd {a62 a : Act} {w : World} (hd62 : a62.defers = [done1 Wg]) {ats : Array TypeId} {ty : TypeId} {cns : Array Bool} (hd : a.defers = [dclose ats ty cns c]) (hF : CW Wg Br Bf Bm c f xs w) :
    SendK Try.prog link.tWg Wg relTy ⟨c, Bm, capOf Br Bf Bm⟩ [] (G { (base 64).at a [] with mode := .returning } [fr62 a62, bot]) w := by
  have T : Terms (RW link.tWg Wg Bm 1 0 0) DC0 := rw_terms
  refine ⟨rfl, rfl, fun s r tm hc => ?_⟩
  refine ⟨_, stepG_unwind_close hd hc (by rfl), .chan (some c), ?_⟩
  obtain ⟨m, hm⟩ := doneWalk (L := link) (Wg := Wg) (C := Bm) (val := .chan (some c)) wgLib (c := { (baseD 62).at ⟨(a62.put (some 7) (.tuple #[])).tmps, []⟩ [] with mode := .returning }) (cs := [bot]) rfl (quits62 _)
  have hK := kn_shut hc ⟨hF.live, hF.made⟩
  refine ⟨m + 4, ?_⟩
  refine Goes.step rfl fun w₁ r₁ => ?_
  refine goes_leave0 (b := base 64) rfl rfl Try.func64 rfl ⟨d0_none _ _ (by simp), ?_⟩
  refine g_end T ?_
  refine g_ends T ?_
  refine Goes.step rfl fun w₂ r₂ => ?_
  have hd' : (a62.put (some 7) (.tuple #[])).defers = done1 Wg :: [] := hd62
  unfold done1 at hd'
  rw [show ((R62[3]?).bind (·.dst)) = some 7 from rfl]
  rw [stepG_unwind_enter hd' wgLib.f_done (nm_done link) rfl]
  exact ⟨d0_none _ _ (by simp), hm _ (kn_rely (kn_rely hK r₁) r₂)⟩
end
end Go.Ph
