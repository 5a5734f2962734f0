/-
  The program's tables of tests and of steps: what stands in them at each letter.
-/
import Derived.Test.YtnmgoeklcmoalaaHD
import Derived.Test.YtnmgoeklcmoalaaHCb
import Derived.Test.YtnmgoeklcmoalaaEN
namespace Go.Proofs.Ytnmgoeklcmoalaa
open Go.RowKit Go.Maps

/-- a map of letters, the last entry first -/
def putR : List (Nat × Value) → DataW Value
  | [] => .map []
  | (a, v) :: r => (putR r).put (.int .u8 (a : Int)) (.held v)
def findV : List (Nat × Value) → Nat → Value
  | [], _ => .nilFunc
  | (a, v) :: r, c => if c = a then v else findV r c
theorem putR_map : ∀ l, IsMap (putR l)
  | [] => isMap_empty
  | (_, _) :: r => isMap_put (putR_map r) _ _
theorem putR_at : ∀ l c, valOf (putR l) c = findV l c
  | [], _ => rfl
  | (a, v) :: r, c => by
    show valOf ((putR r).put (.int .u8 (a : Int)) (.held v)) c = if c = a then v else findV r c
    rw [at_put (putR_map r), putR_at r c]
theorem putR_has : ∀ (l : List (Nat × Value)) (c : Nat), Maps.has (putR l) (.int .u8 (c : Int)) = (l.map Prod.fst).any fun a => decide (c = a)
  | [], _ => rfl
  | (a, v) :: r, c => by
    show Maps.has ((putR r).put (.int .u8 (a : Int)) (.held v)) (.int .u8 (c : Int)) = (decide (c = a) || (r.map Prod.fst).any fun a => decide (c = a))
    rw [has_put (putR_map r), putR_has r c]
    congr 1
    by_cases e : c = a
    · subst e; simp
    · have : ¬ (c : Int) = (a : Int) := by omega
      simp [e, this]

/-! what the values ask -/
theorem asks_plain {w : World} (g : FuncId) (f : List Int → Bool) (hcf : ∀ args w, Sem.run Try.prog (callFunc g args) w = .ok (.enter g args) w)
    (h : ∀ xs, Rl xs.length xs → ∀ w, Calls Try.prog g #[relOf xs] w fun e w' => e = .returned (.bool (f xs)) ∧ Below w.heap.size w w') : AsksV w (.func (.func g) #[] #[]) f :=
  ⟨g, #[], rfl, hcf, fun xs w' r _ => h xs r w'⟩
theorem turns_plain {w : World} (g : FuncId) (f : List Int → List Int) (hcf : ∀ args w, Sem.run Try.prog (callFunc g args) w = .ok (.enter g args) w)
    (h : ∀ xs, Rl xs.length xs → ∀ w, Calls Try.prog g #[relOf xs] w fun e w' => e = .returned (relOf (f xs)) ∧ Below w.heap.size w w') : TurnsV w (.func (.func g) #[] #[]) f :=
  ⟨g, #[], rfl, hcf, fun xs w' r _ => h xs r w'⟩
theorem asks_like {w : World} {v : Value} {f f' : List Int → Bool} (h : AsksV w v f) (e : ∀ xs, Rl xs.length xs → f xs = f' xs) : AsksV w v f' := by
  obtain ⟨g, caps, hv, hc, hA⟩ := h
  exact ⟨g, caps, hv, hc, fun xs w' r hb => by rw [← e xs r]; exact hA xs w' r hb⟩
theorem Rl.self {n : Nat} {xs : List Int} (h : Rl n xs) : Rl xs.length xs := by rw [h.len]; exact h
theorem cf_onTurned1 (args : Array Value) (w : World) : Sem.run Try.prog (callFunc 136 args) w = .ok (.enter 136 args) w := by kernel_rfl
theorem asks_turned {w : World} (q : Nat) (g : FuncId) (f : List Int → Bool) (hcf : ∀ args w, Sem.run Try.prog (callFunc g args) w = .ok (.enter g args) w)
    (h : ∀ xs, Rl xs.length xs → ∀ w, Calls Try.prog g #[relOf xs] w fun e w' => e = .returned (.bool (f xs)) ∧ Below w.heap.size w w') (hq : q < w.heap.size) (hc : w.cell? ⟨q, 0, none⟩ = some (.func (.func g) #[] #[])) :
    AsksV w (.func (.func 136) #[] #[.pointer (some ⟨q, 0, none⟩)]) (fun xs => f (turnL xs)) :=
  ⟨_, _, rfl, cf_onTurned1, fun xs w' r hb => onTurned1_walk xs (turnL xs) (f (turnL xs)) g hcf q w' ((hb.cell (p := ⟨q, 0, none⟩) hq).trans hc) (Nat.lt_of_lt_of_le hq hb.size) (fun w => turnedR r w) (fun w => h (turnL xs) r.turn.self w)⟩
theorem cf_isReflexive (args : Array Value) (w : World) : Sem.run Try.prog (callFunc 122 args) w = .ok (.enter 122 args) w := by kernel_rfl
theorem cf_isIrreflexive (args : Array Value) (w : World) : Sem.run Try.prog (callFunc 123 args) w = .ok (.enter 123 args) w := by kernel_rfl
theorem cf_isSymmetric (args : Array Value) (w : World) : Sem.run Try.prog (callFunc 124 args) w = .ok (.enter 124 args) w := by kernel_rfl
theorem cf_isAntisymmetric (args : Array Value) (w : World) : Sem.run Try.prog (callFunc 125 args) w = .ok (.enter 125 args) w := by kernel_rfl
theorem cf_isTransitive (args : Array Value) (w : World) : Sem.run Try.prog (callFunc 126 args) w = .ok (.enter 126 args) w := by kernel_rfl
theorem cf_isConnected (args : Array Value) (w : World) : Sem.run Try.prog (callFunc 127 args) w = .ok (.enter 127 args) w := by kernel_rfl
theorem cf_hasOneAtMost (args : Array Value) (w : World) : Sem.run Try.prog (callFunc 128 args) w = .ok (.enter 128 args) w := by kernel_rfl
theorem cf_hasOneAtLeast (args : Array Value) (w : World) : Sem.run Try.prog (callFunc 129 args) w = .ok (.enter 129 args) w := by kernel_rfl

/-! the table of tests -/
def risat : ByteArray := ⟨#[114, 105, 115, 97, 116, 99, 102, 100, 106, 111]⟩
def fn0 (g : FuncId) : Value := .func (.func g) #[] #[]
def testL (q1 q2 : Nat) : List (Nat × Value) :=
  [(111, .func (.func 136) #[] #[.pointer (some ⟨q2, 0, none⟩)]), (106, .func (.func 136) #[] #[.pointer (some ⟨q1, 0, none⟩)]), (100, fn0 129), (102, fn0 128), (99, fn0 127), (116, fn0 126), (97, fn0 125), (115, fn0 124), (105, fn0 123), (114, fn0 122)]
theorem risat_has : ∀ c : Fin 256, ([111, 106, 100, 102, 99, 116, 97, 115, 105, 114].any fun a => decide (c.val = a)) = hasTo risat c.val risat.size := by decide +kernel
theorem risat_in {c : Nat} (h : hasTo risat c risat.size = true) : c = 114 ∨ c = 105 ∨ c = 115 ∨ c = 97 ∨ c = 116 ∨ c = 99 ∨ c = 102 ∨ c = 100 ∨ c = 106 ∨ c = 111 := by
  unfold hasTo at h
  rw [List.any_eq_true] at h
  obtain ⟨i, hi, e⟩ := h
  have hi : i < 10 := List.mem_range.1 hi
  have e : byt risat i = c := of_decide_eq_true e
  rcases (by omega : i = 0 ∨ i = 1 ∨ i = 2 ∨ i = 3 ∨ i = 4 ∨ i = 5 ∨ i = 6 ∨ i = 7 ∨ i = 8 ∨ i = 9) with rfl | rfl | rfl | rfl | rfl | rfl | rfl | rfl | rfl | rfl
  · exact .inl e.symm
  · exact .inr (.inl e.symm)
  · exact .inr (.inr (.inl e.symm))
  · exact .inr (.inr (.inr (.inl e.symm)))
  · exact .inr (.inr (.inr (.inr (.inl e.symm))))
  · exact .inr (.inr (.inr (.inr (.inr (.inl e.symm)))))
  · exact .inr (.inr (.inr (.inr (.inr (.inr (.inl e.symm))))))
  · exact .inr (.inr (.inr (.inr (.inr (.inr (.inr (.inl e.symm)))))))
  · exact .inr (.inr (.inr (.inr (.inr (.inr (.inr (.inr (.inl e.symm))))))))
  · exact .inr (.inr (.inr (.inr (.inr (.inr (.inr (.inr (.inr e.symm))))))))
/-- what the call of kindTests has made -/
def GaveTests (w : World) (e : Ending) (w' : World) : Prop :=
  ∃ b F, e = .returned (.map (some b)) ∧ w.heap.size ≤ b ∧ FMap 112 w' b risat F ∧ (∀ c, hasTo risat c risat.size = true → AsksV w' (F c) (kindB c)) ∧ Below w.heap.size w w'
theorem zero_test (w : World) : Sem.run Try.prog (zeroValue 111) w = .ok .nilFunc w := by kernel_rfl
theorem tests_fin {w w' : World} {b q1 q2 : Nat} {C : List (Nat × Value)} (h : MapW w w' b 10 (putR (testL q1 q2)) C) (h1 : (q1, fn0 128) ∈ C) (h2 : (q2, fn0 129) ∈ C) : GaveTests w (.returned (.map (some b))) w' := by
  refine ⟨b, _, rfl, h.base, fmap_of Try.underlying112 zero_test h (fun c hc => ?_), fun c hc => ?_, h.below⟩
  · rw [putR_has]
    exact risat_has ⟨c, hc⟩
  · rw [putR_at]
    obtain ⟨_, _, l1, c1⟩ := h.held _ _ h1
    obtain ⟨_, _, l2, c2⟩ := h.held _ _ h2
    rcases risat_in hc with rfl | rfl | rfl | rfl | rfl | rfl | rfl | rfl | rfl | rfl
    · exact asks_plain 122 kindR cf_isReflexive (fun xs r w => kR r w)
    · exact asks_plain 123 kindI cf_isIrreflexive (fun xs r w => kI r w)
    · exact asks_plain 124 kindS cf_isSymmetric (fun xs r w => kS r w)
    · exact asks_plain 125 kindA cf_isAntisymmetric (fun xs r w => kA r w)
    · exact asks_plain 126 kindT cf_isTransitive (fun xs r w => kT r w)
    · exact asks_plain 127 kindC cf_isConnected (fun xs r w => kC r w)
    · exact asks_plain 128 kindF cf_hasOneAtMost (fun xs r w => kF r w)
    · exact asks_plain 129 kindD cf_hasOneAtLeast (fun xs r w => kD r w)
    · exact asks_like (asks_turned q1 128 kindF cf_hasOneAtMost (fun xs r w => kF r w) l1 c1) (fun xs r => by rw [← isF r.turn]; exact isJ r)
    · exact asks_like (asks_turned q2 129 kindD cf_hasOneAtLeast (fun xs r w => kD r w) l2 c2) (fun xs r => by rw [← isD r.turn]; exact isO r)
theorem onTurned_map {w0 w : World} {b n : Nat} {D : DataW Value} {C : List (Nat × Value)} (g : FuncId) (h : MapW w0 w b n D C) :
    Calls Try.prog 130 #[.func (.func g) #[] #[]] w fun e w' => e = .returned (.func (.func 136) #[] #[.pointer (some ⟨w.heap.size, 0, none⟩)]) ∧ MapW w0 w' b n D ((w.heap.size, fn0 g) :: C) :=
  (onTurned_any g w).mono fun e w' ⟨he, hw⟩ => ⟨he, by
    subst hw
    have hb := below_one w (.cells #[.func (.func g) #[] #[]] 111)
    exact (h.below_step hb).more _ _ (by have := h.own.lt; omega) h.below.size (by simp) (by simp [fn0])⟩
set_option maxHeartbeats 4000000 in
theorem kindTests_any (w : World) : Calls Try.prog 104 #[] w (GaveTests w) := by
  have hmm := @run_makeMap Try.prog
  have h0 := MapW.made w
  go_enter Try.func104, Try.ntmps104
  go_wp2_with (first
    | (refine wpList_insert (w0 := w) _ rfl _ _ _ _ 111 rfl Try.underlying112 _ _ _ _ rfl (by assumption) (by omega) _ rfl (by omega) (by omega) _ rfl ?_; intro w1 hm1)
    | (go_at_call 130; refine (onTurned_map (w0 := w) _ (by assumption)).mono ?_; rintro e w2 ⟨rfl, hm2⟩))
  go_ret
  exact tests_fin (by assumption) (by simp) (by simp)
end Go.Proofs.Ytnmgoeklcmoalaa
