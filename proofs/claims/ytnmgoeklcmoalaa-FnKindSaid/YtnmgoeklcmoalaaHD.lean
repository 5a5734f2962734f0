/-
  A map from letters to function values that the program makes: how it is filled, what a look-up in it gives.
-/
import Derived.Test.YtnmgoeklcmoalaaHCb
import Derived.Test.YtnmgoeklcmoalaaDD
import Derived.Maps.OwnSet
namespace Go.Proofs.Ytnmgoeklcmoalaa
open Go.RowKit Go.Maps

/-- how an element that is a function value reads: as itself -/
def heldR (v : Value) : Option (DataW Value × List MemPlace) := some (.held v, [])
theorem u8_keyed : Keyed Try.prog 5 := int_keyed Try.underlying5
theorem u8_key (c : Int) (h0 : 0 ≤ c) (h1 : c < 256) : keyOf Try.prog 5 (.int .u8 c) = some (.int .u8 c) :=
  keyOf_int_mk Try.underlying5 (WalkArith.wf_u8 (by omega))

/-- the map of block b reads as D; what else was made meanwhile -/
structure MapW (w0 w : World) (b n : Nat) (D : DataW Value) (C : List (Nat × Value)) : Prop where
  own : w.ownsMap Try.prog 5 heldR b n D
  below : Below w0.heap.size w0 w
  base : w0.heap.size ≤ b
  held : ∀ q v, (q, v) ∈ C → q ≠ b ∧ w0.heap.size ≤ q ∧ q < w.heap.size ∧ w.cell? ⟨q, 0, none⟩ = some v

theorem ownsMap_below {H : Type} {P : Program} {k : TypeId} {R : Value → Option (DataW H × List MemPlace)} {w w' : World} {B b n : Nat} {D : DataW H} (h : w.ownsMap P k R b n D) (hb : Below B w w') (hlt : b < B) : w'.ownsMap P k R b n D := by
  obtain ⟨es, clock, he, r⟩ := h
  exact ⟨es, clock, (hb.block b hlt).trans he, r⟩
theorem MapW.made (w : World) : MapW w (w.alloc (.map #[] 0)) w.heap.size 0 (.map []) [] :=
  ⟨World.ownsMap_made _ _ _ _, below_one w _, Nat.le_refl _, fun _ _ h => absurd h (by simp)⟩
theorem MapW.below_step {w0 w w' : World} {b n : Nat} {D : DataW Value} {C : List (Nat × Value)} (h : MapW w0 w b n D C) (hb : Below w.heap.size w w') : MapW w0 w' b n D C :=
  ⟨ownsMap_below h.own hb h.own.lt, h.below.trans (hb.mono h.below.size), h.base, fun q v hq => by
    obtain ⟨a1, a2, a3, a4⟩ := h.held q v hq
    exact ⟨a1, a2, Nat.lt_of_lt_of_le a3 hb.size, (hb.cell (p := ⟨q, 0, none⟩) a3).trans a4⟩⟩
theorem MapW.more {w0 w : World} {b n : Nat} {D : DataW Value} {C : List (Nat × Value)} (h : MapW w0 w b n D C) (q : Nat) (v : Value) (h1 : q ≠ b) (h2 : w0.heap.size ≤ q) (h3 : q < w.heap.size) (h4 : w.cell? ⟨q, 0, none⟩ = some v) : MapW w0 w b n D ((q, v) :: C) :=
  ⟨h.own, h.below, h.base, fun r u hr => by
    rcases List.mem_cons.1 hr with e | hr
    · cases e; exact ⟨h1, h2, h3, h4⟩
    · exact h.held r u hr⟩
theorem cell_of_block {w w' : World} {b : Nat} (h : w'.heap[b]? = w.heap[b]?) (o : Nat) : w'.cell? ⟨b, o, none⟩ = w.cell? ⟨b, o, none⟩ := by
  unfold World.cell?
  rw [h]
theorem MapW.grown {w0 w w' : World} {b n n' : Nat} {D D' : DataW Value} {C : List (Nat × Value)} (h : MapW w0 w b n D C) (hg : w.grownBy w' (some b)) (ho : w'.ownsMap Try.prog 5 heldR b n' D') : MapW w0 w' b n' D' C :=
  ⟨ho, h.below.grown hg h.below.size (fun k hk => by cases hk; exact h.base), h.base, fun q v hq => by
    obtain ⟨a1, a2, a3, a4⟩ := h.held q v hq
    exact ⟨a1, a2, Nat.lt_of_lt_of_le a3 hg.size, (cell_of_block (hg.block q a3 (fun e => a1 (Option.some.inj e))) 0).trans a4⟩⟩

/-- an entry of a map literal, at the operation -/
theorem wpList_insert {w0 : World} (w : World) {ops : Array Oper} {rest : List Oper} {o : Oper} {a : Act} {Q : Exit → Act → World → Prop}
    (hg : o.guard = none) (m x v : Operand) (t e : TypeId) (hop : o.op = Op.insert t m x v) (ht : Try.prog.underlying t = some (.map 5 e))
    (b n : Nat) (D : DataW Value) (C : List (Nat × Value)) (hm : a.eval m = .map (some b)) (h : MapW w0 w b n D C) (hn : n < 100) (c : Int) (hx : a.eval x = .int .u8 c) (h0 : 0 ≤ c) (h1 : c < 256) (u : Value) (hv : a.eval v = u)
    (hK : ∀ w', MapW w0 w' b (n + 1) (D.put (.int .u8 c) (.held u)) C → wpList Try.prog ops Q rest (a.put o.dst undef) w') :
    wpList Try.prog ops Q (o :: rest) a w := by
  refine wpList_plain hg fun K' hK' => ?_
  obtain ⟨w', hrun, r1, r2⟩ := h.own.update u8_keyed ht (by unfold maxLen; omega) (u8_key c h0 h1) (show heldR u = some (.held u, []) from rfl)
  unfold Oper.wp
  simp [execOp, hop, hm, hx, hv, hrun, Result.andThen]
  exact hK' _ _ (hK w' (h.grown r2 r1))

/-- a map of letters: what stands at each one, and which ones it has -/
def FMap (T : TypeId) (w : World) (b : Nat) (lt : ByteArray) (F : Nat → Value) : Prop :=
  b < w.heap.size ∧ ∀ w', w'.heap[b]? = w.heap[b]? → ∀ c : Nat, c < 256 →
    Sem.run Try.prog (Instr.lookup T (.map (some b)) (.int .u8 (c : Int)) true) w' = .ok (.tuple #[F c, .bool (hasTo lt c lt.size)]) w' ∧
    Sem.run Try.prog (Instr.lookup T (.map (some b)) (.int .u8 (c : Int)) false) w' = .ok (F c) w'
theorem FMap.below {T : TypeId} {w w' : World} {B b : Nat} {lt : ByteArray} {F : Nat → Value} (h : FMap T w b lt F) (hb : Below B w w') (hlt : b < B) : FMap T w' b lt F :=
  ⟨Nat.lt_of_lt_of_le h.1 hb.size, fun w2 h2 => h.2 w2 (h2.trans (hb.block b hlt))⟩
def valOf (D : DataW Value) (c : Nat) : Value := match D.atKey (.int .u8 (c : Int)) (.held .nilFunc) with | .held v => v | _ => undef
theorem fmap_of {T e : TypeId} (ht : Try.prog.underlying T = some (.map 5 e)) (hz : ∀ w, (zeroValue e).run Try.prog w = .ok .nilFunc w) {w0 w : World} {b n : Nat} {D : DataW Value} {C : List (Nat × Value)} {lt : ByteArray} (h : MapW w0 w b n D C)
    (hl : ∀ c : Nat, c < 256 → Maps.has D (.int .u8 (c : Int)) = hasTo lt c lt.size) : FMap T w b lt (valOf D) := by
  refine ⟨h.own.lt, fun w' hw c hc => ?_⟩
  have ho : w'.ownsMap Try.prog 5 heldR b n D := by
    obtain ⟨es, clock, he, r⟩ := h.own
    exact ⟨es, clock, hw.trans he, r⟩
  have hk := u8_key (c : Int) (by omega) (by omega)
  constructor
  · obtain ⟨v, ps, hrun, hv⟩ := ho.look_ok u8_keyed ht (hz w') (show heldR .nilFunc = some (.held .nilFunc, []) from rfl) hk
    rw [hrun, hl c hc]
    have e1 : DataW.held v = D.atKey (.int .u8 (c : Int)) (.held .nilFunc) := congrArg Prod.fst (Option.some.inj hv)
    unfold valOf
    rw [← e1]
  · obtain ⟨v, ps, hrun, hv⟩ := ho.lookup u8_keyed ht (hz w') (show heldR .nilFunc = some (.held .nilFunc, []) from rfl) hk
    rw [hrun]
    have e1 : DataW.held v = D.atKey (.int .u8 (c : Int)) (.held .nilFunc) := congrArg Prod.fst (Option.some.inj hv)
    unfold valOf
    rw [← e1]
theorem isMap_put {D : DataW Value} (h : IsMap D) (a : Int) (d : DataW Value) : IsMap (D.put (.int .u8 a) d) := h.put _ _
theorem has_put {D : DataW Value} (h : IsMap D) (a c : Int) (d : DataW Value) : Maps.has (D.put (.int .u8 a) d) (.int .u8 c) = (decide (c = a) || Maps.has D (.int .u8 c)) := by
  by_cases e : c = a
  · subst e
    rw [has_put_same h (show WideAt.IsKeyLit (.int .u8 c) from trivial)]
    simp
  · rw [has_put_other (by intro h2; cases h2; exact e rfl)]
    simp [e]
theorem at_put {D : DataW Value} (h : IsMap D) (a c : Nat) (v : Value) : valOf (D.put (.int .u8 (a : Int)) (.held v)) c = if c = a then v else valOf D c := by
  unfold valOf
  by_cases e : c = a
  · subst e
    rw [atKey_put_same h (show WideAt.IsKeyLit (.int .u8 (c : Int)) from trivial), if_pos rfl]
  · rw [atKey_put_other (by intro h2; cases h2; exact e (by omega)), if_neg e]

/-! function values that ask something of a relation, and such that change one -/
def AsksV (w : World) (v : Value) (f : List Int → Bool) : Prop :=
  ∃ g caps, v = .func (.func g) #[] caps ∧ (∀ args w, Sem.run Try.prog (callFunc g args) w = .ok (.enter g args) w) ∧
    ∀ xs w', Rl xs.length xs → Below w.heap.size w w' → Calls Try.prog g (#[relOf xs] ++ caps) w' fun e w'' => e = .returned (.bool (f xs)) ∧ Below w'.heap.size w' w''
def TurnsV (w : World) (v : Value) (f : List Int → List Int) : Prop :=
  ∃ g caps, v = .func (.func g) #[] caps ∧ (∀ args w, Sem.run Try.prog (callFunc g args) w = .ok (.enter g args) w) ∧
    ∀ xs w', Rl xs.length xs → Below w.heap.size w w' → Calls Try.prog g (#[relOf xs] ++ caps) w' fun e w'' => e = .returned (relOf (f xs)) ∧ Below w'.heap.size w' w''
theorem AsksV.below {w w' : World} {v : Value} {f : List Int → Bool} (h : AsksV w v f) (hb : Below w.heap.size w w') : AsksV w' v f := by
  obtain ⟨g, caps, e, hc, hA⟩ := h
  exact ⟨g, caps, e, hc, fun xs w2 r hb2 => hA xs w2 r (hb.trans (hb2.mono hb.size))⟩
theorem TurnsV.below {w w' : World} {v : Value} {f : List Int → List Int} (h : TurnsV w v f) (hb : Below w.heap.size w w') : TurnsV w' v f := by
  obtain ⟨g, caps, e, hc, hA⟩ := h
  exact ⟨g, caps, e, hc, fun xs w2 r hb2 => hA xs w2 r (hb.trans (hb2.mono hb.size))⟩
end Go.Proofs.Ytnmgoeklcmoalaa
