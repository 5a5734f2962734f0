/-
  Least and greatest relations of kinds: the program's KindLeast and KindMost.
-/
import Derived.Test.YtpcbmijencboiaaHS
namespace Go.Proofs.Ytpcbmijencboiaa
open Go.RowKit Go.Maps

theorem cf_least1 (args : Array Value) (w : World) : Sem.run Try.prog (callFunc 79 args) w = .ok (.enter 79 args) w := by kernel_rfl
theorem cf_least2 (args : Array Value) (w : World) : Sem.run Try.prog (callFunc 82 args) w = .ok (.enter 82 args) w := by kernel_rfl
theorem cf_least3 (args : Array Value) (w : World) : Sem.run Try.prog (callFunc 84 args) w = .ok (.enter 84 args) w := by kernel_rfl
theorem cf_between (args : Array Value) (w : World) : Sem.run Try.prog (callFunc 56 args) w = .ok (.enter 56 args) w := by kernel_rfl
theorem cf_inBoth (args : Array Value) (w : World) : Sem.run Try.prog (callFunc 57 args) w = .ok (.enter 57 args) w := by kernel_rfl
theorem zero_step (w : World) : Sem.run Try.prog (zeroValue 85) w = .ok .nilFunc w := by kernel_rfl

/-- what a table of steps gives -/
def GaveSteps (lt : ByteArray) (sf : Nat → List Int → List Int) (w : World) (e : Ending) (w' : World) : Prop :=
  ∃ b F, e = .returned (.map (some b)) ∧ FMap 64 w' b lt F ∧ (∀ c, hasTo lt c lt.size = true → TurnsV w' (F c) (sf c)) ∧ Below w.heap.size w w'
set_option maxHeartbeats 4000000 in
theorem least3R {xs : List Int} (h : Rl xs.length xs) (w : World) :
    Calls Try.prog 84 #[relOf xs] w fun e w' => e = .returned (relOf (reachL xs)) ∧ Below w.heap.size w w' := by
  have x1 := (RelAt.new w xs).alloc (.cells #[.int .i64 0, .int .i64 0, .int .i64 0, .int .i64 0, .int .i64 0] 43)
  have z1 := rel_zero (w.alloc (.cells #[.int .i64 xs.length, .int .i64 (rowAt xs 0), .int .i64 (rowAt xs 1), .int .i64 (rowAt xs 2), .int .i64 (rowAt xs 3)] 43))
  have B0 := below_two w (.cells #[.int .i64 xs.length, .int .i64 (rowAt xs 0), .int .i64 (rowAt xs 1), .int .i64 (rowAt xs 2), .int .i64 (rowAt xs 3)] 43) (.cells #[.int .i64 0, .int .i64 0, .int .i64 0, .int .i64 0, .int .i64 0] 43)
  rw [World.size_alloc] at z1
  have H := Lib.hid h
  clear h
  have p0 := x1.cell0
  have p1 := x1.cell1
  have p2 := x1.cell2
  have p3 := x1.cell3
  have p4 := x1.cell4
  go_enter Try.func84, Try.ntmps84
  go_wp2_with fail
  refine (powersOf_any H.out _).mono ?_
  rintro e w2 ⟨v, m, a, hr, rfl, ho, hb2⟩
  obtain ⟨g, cap, rfl, _, _⟩ := pow_form ho (by omega)
  have hm := new_le H.out m hr.new
  have hlt := hr.lt
  have hE := from_reach H.out hr
  have z2 := z1.below hb2 z1.lt
  have B2 := B0.trans (hb2.mono B0.size)
  have HE := Lib.hid hE
  clear x1 z1 p0 p1 p2 p3 p4 hb2 B0 hE hr
  go_wp2_with fail
  refine (from_any H.out hm g cap 1 (by omega) (by omega) _ (own_mono ho (Nat.zero_le _))).mono ?_
  rintro e w3 ⟨rfl, hb3⟩
  have z3 := z2.below hb3 z2.lt
  have B3 := B2.trans (hb3.mono B2.size)
  have q0 := z3.cell0
  have q1 := z3.cell1
  have q2 := z3.cell2
  have q3 := z3.cell3
  have q4 := z3.cell4
  have f0 := z3.free 0
  have f1 := z3.free 1
  have f2 := z3.free 2
  have f3 := z3.free 3
  have f4 := z3.free 4
  clear hb3 B2 z2 ho
  go_wp2
  have bb := fun (W : World) (i : Nat) (v : Value) (h : Below w.heap.size w W) => h.setCell (p := ⟨w.heap.size + 1, i, none⟩) (Nat.le_succ _) v
  exact bodyPost_ret (v := relOf (fromL xs 1 (m - 1))) (by simp [results, Try.results84, go_sem, q0, q1, q2, q3, q4]) rfl ⟨by rw [HE.out], bb _ _ _ (bb _ _ _ (bb _ _ _ (bb _ _ _ (bb _ _ _ B3))))⟩

def leastV : List (Nat × Value) := [(116, fn0 84), (115, fn0 82), (114, fn0 79)]
def mostV : List (Nat × Value) := [(115, fn0 57), (105, fn0 56)]
theorem rst_has : ∀ c : Fin 256, ([116, 115, 114].any fun a => decide (c.val = a)) = hasTo rst c.val rst.size := by decide +kernel
theorem isT_has : ∀ c : Fin 256, ([115, 105].any fun a => decide (c.val = a)) = hasTo isT c.val isT.size := by decide +kernel
theorem rst_in {c : Nat} (h : hasTo rst c rst.size = true) : c = 114 ∨ c = 115 ∨ c = 116 := by
  obtain ⟨i, hi, e⟩ := (hasTo_iff rst c rst.size).1 h
  have hi : i < 3 := hi
  rcases (by omega : i = 0 ∨ i = 1 ∨ i = 2) with rfl | rfl | rfl
  · exact .inl e.symm
  · exact .inr (.inl e.symm)
  · exact .inr (.inr e.symm)
theorem isT_in {c : Nat} (h : hasTo isT c isT.size = true) : c = 105 ∨ c = 115 := by
  obtain ⟨i, hi, e⟩ := (hasTo_iff isT c isT.size).1 h
  have hi : i < 2 := hi
  rcases (by omega : i = 0 ∨ i = 1) with rfl | rfl
  · exact .inl e.symm
  · exact .inr e.symm
theorem least_fin {w w' : World} {b : Nat} {C : List (Nat × Value)} (h : MapW w w' b 3 (putR leastV) C) : GaveSteps rst leastF w (.returned (.map (some b))) w' := by
  refine ⟨b, _, rfl, fmap_of Try.underlying64 zero_step h (fun c hc => ?_), fun c hc => ?_, h.below⟩
  · rw [putR_has]
    exact rst_has ⟨c, hc⟩
  · rw [putR_at]
    rcases rst_in hc with rfl | rfl | rfl
    · exact turns_plain 79 (fun xs => eitherL xs (sameL xs.length)) cf_least1 (fun xs r w => least1R r w)
    · exact turns_plain 82 (fun xs => eitherL xs (turnL xs)) cf_least2 (fun xs r w => least2R r w)
    · exact turns_plain 84 reachL cf_least3 (fun xs r w => least3R r w)
theorem most_fin {w w' : World} {b : Nat} {C : List (Nat × Value)} (h : MapW w w' b 2 (putR mostV) C) : GaveSteps isT mostF w (.returned (.map (some b))) w' := by
  refine ⟨b, _, rfl, fmap_of Try.underlying64 zero_step h (fun c hc => ?_), fun c hc => ?_, h.below⟩
  · rw [putR_has]
    exact isT_has ⟨c, hc⟩
  · rw [putR_at]
    rcases isT_in hc with rfl | rfl
    · exact turns_plain 56 offI cf_between (fun xs r w => offR r w)
    · exact turns_plain 57 twoW cf_inBoth (fun xs r w => twoR r w)
set_option maxHeartbeats 4000000 in
theorem leastSteps_any (w : World) : Calls Try.prog 48 #[] w (GaveSteps rst leastF w) := by
  have hmm := @run_makeMap Try.prog
  have h0 := MapW.made w
  go_enter Try.func48, Try.ntmps48
  go_wp2_with (refine wpList_insert (w0 := w) _ rfl _ _ _ _ 85 rfl Try.underlying64 _ _ _ _ rfl (by assumption) (by omega) _ rfl (by omega) (by omega) _ rfl ?_; intro w1 hm1)
  go_ret
  exact least_fin (by assumption)
set_option maxHeartbeats 4000000 in
theorem mostSteps_any (w : World) : Calls Try.prog 50 #[] w (GaveSteps isT mostF w) := by
  have hmm := @run_makeMap Try.prog
  have h0 := MapW.made w
  go_enter Try.func50, Try.ntmps50
  go_wp2_with (refine wpList_insert (w0 := w) _ rfl _ _ _ _ 85 rfl Try.underlying64 _ _ _ _ rfl (by assumption) (by omega) _ rfl (by omega) (by omega) _ rfl ?_; intro w1 hm1)
  go_ret
  exact most_fin (by assumption)
theorem turnsV_form {w : World} {v : Value} {f : List Int → List Int} (h : TurnsV w v f) : ∃ g caps, v = .func (.func g) #[] caps := by
  obtain ⟨g, caps, e, _⟩ := h
  exact ⟨g, caps, e⟩
set_option maxHeartbeats 4000000 in
theorem implKindLeast_any (ao : Option Addr) (ca : Nat) (xs : List Int) (st : ByteArray) (w : World) (hl : xs.length ≤ 1048576) (hl2 : st.size ≤ 1048576) (hx : Rd w ao xs) :
    Calls Try.prog 20 #[.slice ao xs.length ca, .string st] w (Gave w (ifR (leastB xs st) (leastL xs st)) (leastB xs st)) := by
  go_enter Try.func20, Try.ntmps20
  go_wp2_with fail
  refine (leastSteps_any w).mono ?_
  rintro e w1 ⟨b, F, rfl, hF, hA, hb1⟩
  have hx1 := hx.below hb1
  have hc : Calls Try.prog 47 #[.slice ao xs.length ca, .string st, .map (some b)] w1 (Gave w1 (ifR (leastB xs st) (leastL xs st)) (leastB xs st)) := by
    unfold leastB
    cases hp : relIn xs && textTo st rst st.size with
    | false => exact changed_no ao ca xs st rst b F w1 hl hl2 hx1 hF (fun c hc => turnsV_form (hA c hc)) hp
    | true =>
      rw [Bool.and_eq_true] at hp
      have R := Rl.of hp.1
      refine changed_yes ao ca st rst b F leastF (leastL xs st) (fun r => Rl xs.length r ∧ sub xs.length xs r ∧ sub xs.length r (leastL xs st)) (fun r => 16 - weight r) w1 hp.1 hl2 hp.2 hx1 hF hA
        ⟨R, sub.refl _, least_sub R st⟩ (fun r hr => hr.1) (fun r hr k hk => ?_) (fun r hr e => least_end R hr.1 st hp.2 hr.2.1 hr.2.2 e) (fun r hr hne => ?_) (by rw [(least_rl R st).len]; exact R.four)
      · obtain ⟨a, b, c⟩ := least_step R hr.1 st hp.2 hr.2.1 hr.2.2 k hk
        exact ⟨a, hr.2.1.trans b, c⟩
      · obtain ⟨a, b, _⟩ := least_step R hr.1 st hp.2 hr.2.1 hr.2.2 st.size (Nat.le_refl _)
        have h1 := weight_grow hr.1 a b (fun e => hne e.symm)
        have h2 := weight_le (roundTo (leastG st) r st.size)
        show 16 - weight (roundTo (leastG st) r st.size) < 16 - weight r
        omega
  have HC := Lib.hid hc
  clear hF hA hc hx hx1
  go_wp2_with fail
  refine HC.out.mono ?_
  rintro e w2 ⟨v, rfl, ho, hb2⟩
  go_wp2
  go_ret2
  exact ⟨v, rfl, own_mono ho hb1.size, hb1.trans (hb2.mono hb1.size)⟩
def mostB (xs : List Int) (st : ByteArray) : Bool := relIn xs && textTo st isT st.size
set_option maxHeartbeats 4000000 in
theorem implKindMost_any (ao : Option Addr) (ca : Nat) (xs : List Int) (st : ByteArray) (w : World) (hl : xs.length ≤ 1048576) (hl2 : st.size ≤ 1048576) (hx : Rd w ao xs) :
    Calls Try.prog 24 #[.slice ao xs.length ca, .string st] w (Gave w (ifR (mostB xs st) (mostL xs st)) (mostB xs st)) := by
  go_enter Try.func24, Try.ntmps24
  go_wp2_with fail
  refine (mostSteps_any w).mono ?_
  rintro e w1 ⟨b, F, rfl, hF, hA, hb1⟩
  have hx1 := hx.below hb1
  have hc : Calls Try.prog 47 #[.slice ao xs.length ca, .string st, .map (some b)] w1 (Gave w1 (ifR (mostB xs st) (mostL xs st)) (mostB xs st)) := by
    unfold mostB
    cases hp : relIn xs && textTo st isT st.size with
    | false => exact changed_no ao ca xs st isT b F w1 hl hl2 hx1 hF (fun c hc => turnsV_form (hA c hc)) hp
    | true =>
      rw [Bool.and_eq_true] at hp
      have R := Rl.of hp.1
      refine changed_yes ao ca st isT b F mostF (mostL xs st) (fun r => Rl xs.length r ∧ sub xs.length r xs ∧ sub xs.length (mostL xs st) r) weight w1 hp.1 hl2 hp.2 hx1 hF hA
        ⟨R, sub.refl _, most_sub R st⟩ (fun r hr => hr.1) (fun r hr k hk => ?_) (fun r hr e => most_end R hr.1 st hp.2 hr.2.1 hr.2.2 e) (fun r hr hne => ?_) (by rw [(most_rl R st).len]; exact R.four)
      · obtain ⟨a, b, c⟩ := most_step R hr.1 st hp.2 hr.2.1 hr.2.2 k hk
        exact ⟨a, b.trans hr.2.1, c⟩
      · obtain ⟨a, b, _⟩ := most_step R hr.1 st hp.2 hr.2.1 hr.2.2 st.size (Nat.le_refl _)
        exact weight_grow a hr.1 b hne
  have HC := Lib.hid hc
  clear hF hA hc hx hx1
  go_wp2_with fail
  refine HC.out.mono ?_
  rintro e w2 ⟨v, rfl, ho, hb2⟩
  go_wp2
  go_ret2
  exact ⟨v, rfl, own_mono ho hb1.size, hb1.trans (hb2.mono hb1.size)⟩
end Go.Proofs.Ytpcbmijencboiaa
